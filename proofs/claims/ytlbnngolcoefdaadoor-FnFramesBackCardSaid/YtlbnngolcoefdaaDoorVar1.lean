/- VarOf, the specification's and the program's: the bytes of a number. -/
import Derived.Test.YtlbnngolcoefdaaDoorProg
import Derived.Test.YtlbnngolcoefdaaDoorMem
namespace Go.Proofs.YtlbnngolcoefdaaDoor
open Go.RowKit
set_option maxRecDepth 100000

/-- The bytes of a number: seven bits each, at most f bytes ahead of the last one. -/
def varF : Nat → Nat → List Nat
  | 0, n => [n]
  | f + 1, n => if n < 128 then [n] else (n % 128 + 128) :: varF f (n / 128)
/-- What VarOf is to return. -/
def varV (n : Int) : List Nat := if 0 ≤ n ∧ n ≤ 4294967295 then varF 4 n.toNat else []
theorem varF_small (f x : Nat) (h : x < 128) : varF f x = [x] := by
  cases f with
  | zero => rfl
  | succ f => rw [varF, if_pos h]
theorem varF_len (f x : Nat) : (varF f x).length ≤ f + 1 := by
  induction f generalizing x with
  | zero => simp [varF]
  | succ f ih =>
    rw [varF]
    split
    · simp
    · have := ih (x / 128)
      simp only [List.length_cons]
      omega
theorem varV_len (n : Int) : (varV n).length ≤ 5 := by
  unfold varV
  split
  · exact varF_len 4 _
  · simp

theorem Tryd.infoU8 : (Tryd.prog.info? 5).map (fun i => (i.zero, i.size, i.bytes)) = some (some (.int .u8 0), 1, 1) := by kernel_rfl

/-- A new list of bytes is returned. -/
def NewBytes (w : World) (M : List Nat) (e : Ending) (w' : World) : Prop :=
  ∃ A c, e = .returned (.slice A M.length c) ∧ w'.ownsRow w.heap.size 5 1 (.slice A M.length c) M.length (M.map B8) ∧ Below w.heap.size w w'

theorem newBytes_own {w w' : World} {v : Value} {M : List Nat} {n : Nat} (h : w'.ownsRow w.heap.size 5 1 v n (M.map B8)) (hn : M.length = n) (hb : Below w.heap.size w w') : NewBytes w M (.returned v) w' := by
  subst hn
  obtain ⟨A, c, rfl⟩ := own_slice h
  exact ⟨A, c, rfl, h, hb⟩

set_option maxRecDepth 100000 in
set_option maxHeartbeats 400000 in
theorem implVar_bad (n : Int) (w : World) (h : n < 0 ∨ 4294967295 < n) :
    Calls Tryd.prog 73 #[.int .i64 n] w (NewBytes w []) := by
  by_cases h0 : n < 0
  · have d0 : decide (n < 0) = true := by simpa using h0
    go_enter Tryd.func73, Tryd.ntmps73
    go_wp2
    go_ret
    exact ⟨none, 0, rfl, World.ownsRow_nil _ _ _ _, Below.refl _ _⟩
  · have h1 : 4294967295 < n := by omega
    have d0 : decide (n < 0) = false := by simpa using h0
    have d1 : decide (4294967295 < n) = true := by simpa using h1
    go_enter Tryd.func73, Tryd.ntmps73
    go_wp2
    go_ret
    exact ⟨none, 0, rfl, World.ownsRow_nil _ _ _ _, Below.refl _ _⟩

set_option maxRecDepth 100000 in
set_option maxHeartbeats 400000 in
theorem implVar_ok (n : Nat) (w : World) (h : n ≤ 4294967295) :
    Calls Tryd.prog 73 #[.int .i64 n] w (NewBytes w (varF 4 n)) := by
  obtain ⟨i0, hi, hz0, hz1, hz2⟩ := info_parts Tryd.infoU8
  have d0 : decide ((n : Int) < 0) = false := by simp
  have d1 : decide (4294967295 < (n : Int)) = false := by simp; omega
  go_enter Tryd.func73, Tryd.ntmps73
  go_wp2
  clear d0 d1
  go_loopw [0, 3] (fun v s wr => ∃ (x f : Nat) (D : List Nat), v = .int .i64 x ∧ x ≤ n ∧ wr.ownsRow w.heap.size 5 1 s D.length (D.map B8) ∧ D.length ≤ 4 ∧ Hid (D ++ varF f x = varF 4 n ∧ x < 128 * 128 ^ f ∧ D.length + f = 4) ∧ Below w.heap.size w wr) (fun v _ _ => (intOf v).toNat)
  case atStart => exact ⟨n, 4, [], rfl, Nat.le_refl _, World.ownsRow_nil _ _ _ _, by simp, Lib.hid ⟨rfl, by omega, rfl⟩, Below.refl _ _⟩
  case round =>
    obtain ⟨x, f, D, rfl, hxn, hown, hD4, HI, hb⟩ := hrel
    have HN := Lib.hid hown
    have HB := Lib.hid hb
    clear hown hb
    by_cases hx : 128 ≤ x
    · go_wp2_with (at_builtin; refine wpList_append_own _ rfl _ _ 22 rfl w.heap.size 5 i0 (.int .u8 0) 1 1 Tryd.underlying22 hi hz0 hz1 hz2 rfl (by decide) _ _ _ rfl (HN.out.alloc _) ⟨wr.heap.size, 0, none⟩ 1 1 [_] rfl rfl (cell_one_new _ _ _) (ints_oneCell .u8 [_]) (by unfold maxLen; omega) (by omega) (by have := HB.out.size; simp; omega) ?_)
      intro v' w1 hown' hgrow _
      have HO := Lib.hid hown'
      have HG := Lib.hid hgrow
      clear hown' hgrow
      go_wp2
      go_roundw
      case rel =>
        obtain ⟨e1, e2, e3⟩ := HI.out
        obtain ⟨g, rfl⟩ : ∃ g, f = g + 1 := ⟨f - 1, by
          rcases Nat.eq_zero_or_pos f with h0 | h0
          · subst h0; simp at e2; omega
          · omega⟩
        rw [varF, if_neg (by omega)] at e1
        refine ⟨x / 128, g, D ++ [x % 128 + 128], by go_num, by omega, ?_, by simp; omega, Lib.hid ⟨by rw [List.append_assoc]; exact e1, ?_, by simp; omega⟩, ?_⟩
        · have ho := HO.out
          rw [List.map_append, List.length_append]
          have e : B8 (x % 128 + 128) = .int .u8 ((x : Int) % 128 + 128) := by simp [B8, Int.add_comm]
          simp only [List.map_cons, List.map_nil, e]
          exact ho
        · rw [Nat.pow_succ] at e2
          omega
        · exact HB.out.trans (((Below.refl _ _).alloc HB.out.size _).grown HG.out (by have := HB.out.size; simp; omega) (fun g hg => (HN.out.lt g hg).1))
      case measure => simp [intOf]; omega
    · go_wp2_with (at_builtin; refine wpList_append_own _ rfl _ _ 22 rfl w.heap.size 5 i0 (.int .u8 0) 1 1 Tryd.underlying22 hi hz0 hz1 hz2 rfl (by decide) _ _ _ rfl (HN.out.alloc _) ⟨wr.heap.size, 0, none⟩ 1 1 [_] rfl rfl (cell_one_new _ _ _) (ints_oneCell .u8 [_]) (by unfold maxLen; omega) (by omega) (by have := HB.out.size; simp; omega) ?_)
      intro v' w1 hown' hgrow _
      have HO := Lib.hid hown'
      have HG := Lib.hid hgrow
      clear hown' hgrow
      go_wp2
      go_ret
      obtain ⟨e1, e2, e3⟩ := HI.out
      rw [varF_small f x (by omega)] at e1
      rw [← e1]
      refine newBytes_own (n := D.length + 1) ?_ (by simp) ?_
      · have ho := HO.out
        rw [List.map_append]
        exact ho
      · exact HB.out.trans (((Below.refl _ _).alloc HB.out.size _).grown HG.out (by have := HB.out.size; simp; omega) (fun g hg => (HN.out.lt g hg).1))

theorem implVar_any (n : Int) (w : World) :
    Calls Tryd.prog 73 #[.int .i64 n] w (NewBytes w (varV n)) := by
  unfold varV
  by_cases h : 0 ≤ n ∧ n ≤ 4294967295
  · rw [if_pos h]
    obtain ⟨m, rfl⟩ := Int.eq_ofNat_of_zero_le h.1
    exact implVar_ok m w (by omega)
  · rw [if_neg h]
    exact implVar_bad n w (by omega)

set_option maxRecDepth 100000 in
set_option maxHeartbeats 400000 in
theorem specVar_bad (n : Int) (w : World) (h : n < 0 ∨ 4294967295 < n) :
    Calls Tryd.prog 106 #[.int .i64 n] w (NewBytes w []) := by
  by_cases h0 : n < 0
  · have d0 : decide (n < 0) = true := by simpa using h0
    go_enter Tryd.func106, Tryd.ntmps106
    go_wp2
    go_ret
    exact ⟨none, 0, rfl, World.ownsRow_nil _ _ _ _, Below.refl _ _⟩
  · have h1 : 4294967295 < n := by omega
    have d0 : decide (n < 0) = false := by simpa using h0
    have d1 : decide (4294967295 < n) = true := by simpa using h1
    go_enter Tryd.func106, Tryd.ntmps106
    go_wp2
    go_ret
    exact ⟨none, 0, rfl, World.ownsRow_nil _ _ _ _, Below.refl _ _⟩

set_option maxRecDepth 100000 in
set_option maxHeartbeats 400000 in
theorem specVar_ok (n : Nat) (w : World) (h : n ≤ 4294967295) :
    Calls Tryd.prog 106 #[.int .i64 n] w (NewBytes w (varF 4 n)) := by
  obtain ⟨i0, hi, hz0, hz1, hz2⟩ := info_parts Tryd.infoU8
  have d0 : decide ((n : Int) < 0) = false := by simp
  have d1 : decide (4294967295 < (n : Int)) = false := by simp; omega
  go_enter Tryd.func106, Tryd.ntmps106
  go_wp2
  clear d0 d1
  go_loopw [0, 3] (fun v s wr => ∃ (x f : Nat) (D : List Nat), v = .int .i64 x ∧ x ≤ n ∧ wr.ownsRow w.heap.size 5 1 s D.length (D.map B8) ∧ D.length ≤ 4 ∧ Hid (D ++ varF f x = varF 4 n ∧ x < 128 * 128 ^ f ∧ D.length + f = 4) ∧ Below w.heap.size w wr) (fun v _ _ => (intOf v).toNat)
  case atStart => exact ⟨n, 4, [], rfl, Nat.le_refl _, World.ownsRow_made w #[] 0 (Nat.le_refl _) (by unfold maxLen; omega) rfl, by simp, Lib.hid ⟨rfl, by omega, rfl⟩, (Below.refl _ _).alloc (Nat.le_refl _) _⟩
  case round =>
    obtain ⟨x, f, D, rfl, hxn, hown, hD4, HI, hb⟩ := hrel
    have HN := Lib.hid hown
    have HB := Lib.hid hb
    clear hown hb
    by_cases hx : 128 ≤ x
    · go_wp2_with (at_builtin; refine wpList_append_own _ rfl _ _ 22 rfl w.heap.size 5 i0 (.int .u8 0) 1 1 Tryd.underlying22 hi hz0 hz1 hz2 rfl (by decide) _ _ _ rfl (HN.out.alloc _) ⟨wr.heap.size, 0, none⟩ 1 1 [_] rfl rfl (cell_one_new _ _ _) (ints_oneCell .u8 [_]) (by unfold maxLen; omega) (by omega) (by have := HB.out.size; simp; omega) ?_)
      intro v' w1 hown' hgrow _
      have HO := Lib.hid hown'
      have HG := Lib.hid hgrow
      clear hown' hgrow
      go_wp2
      go_roundw
      case rel =>
        obtain ⟨e1, e2, e3⟩ := HI.out
        obtain ⟨g, rfl⟩ : ∃ g, f = g + 1 := ⟨f - 1, by
          rcases Nat.eq_zero_or_pos f with h0 | h0
          · subst h0; simp at e2; omega
          · omega⟩
        rw [varF, if_neg (by omega)] at e1
        refine ⟨x / 128, g, D ++ [x % 128 + 128], by go_num, by omega, ?_, by simp; omega, Lib.hid ⟨by rw [List.append_assoc]; exact e1, ?_, by simp; omega⟩, ?_⟩
        · have ho := HO.out
          rw [List.map_append, List.length_append]
          have e : B8 (x % 128 + 128) = .int .u8 (128 + (x : Int) % 128) := by simp [B8, Int.add_comm]
          simp only [List.map_cons, List.map_nil, e]
          exact ho
        · rw [Nat.pow_succ] at e2
          omega
        · exact HB.out.trans (((Below.refl _ _).alloc HB.out.size _).grown HG.out (by have := HB.out.size; simp; omega) (fun g hg => (HN.out.lt g hg).1))
      case measure => simp [intOf]; omega
    · go_wp2_with (at_builtin; refine wpList_append_own _ rfl _ _ 22 rfl w.heap.size 5 i0 (.int .u8 0) 1 1 Tryd.underlying22 hi hz0 hz1 hz2 rfl (by decide) _ _ _ rfl (HN.out.alloc _) ⟨wr.heap.size, 0, none⟩ 1 1 [_] rfl rfl (cell_one_new _ _ _) (ints_oneCell .u8 [_]) (by unfold maxLen; omega) (by omega) (by have := HB.out.size; simp; omega) ?_)
      intro v' w1 hown' hgrow _
      have HO := Lib.hid hown'
      have HG := Lib.hid hgrow
      clear hown' hgrow
      go_wp2
      go_ret
      obtain ⟨e1, e2, e3⟩ := HI.out
      rw [varF_small f x (by omega)] at e1
      rw [← e1]
      refine newBytes_own (n := D.length + 1) ?_ (by simp) ?_
      · have ho := HO.out
        rw [List.map_append]
        exact ho
      · exact HB.out.trans (((Below.refl _ _).alloc HB.out.size _).grown HG.out (by have := HB.out.size; simp; omega) (fun g hg => (HN.out.lt g hg).1))

theorem specVar_any (n : Int) (w : World) :
    Calls Tryd.prog 106 #[.int .i64 n] w (NewBytes w (varV n)) := by
  unfold varV
  by_cases h : 0 ≤ n ∧ n ≤ 4294967295
  · rw [if_pos h]
    obtain ⟨m, rfl⟩ := Int.eq_ofNat_of_zero_le h.1
    exact specVar_ok m w (by omega)
  · rw [if_neg h]
    exact specVar_bad n w (by omega)

end Go.Proofs.YtlbnngolcoefdaaDoor
