/- SparseHas of the program and of the specification (door seat). -/
import Derived.Test.YtlbnngolcoefdaaDoorSp20
import Derived.Test.YtlbnngolcoefdaaDoorSp17
namespace Go.Proofs.YtlbnngolcoefdaaDoor
open Go.RowKit
set_option maxRecDepth 100000

theorem split_first (x : Int) : ∀ B : List Int, (∀ y ∈ B, y < x) ∨ ∃ pre y rest, B = pre ++ y :: rest ∧ (∀ z ∈ pre, z < x) ∧ ¬ y < x
  | [] => .inl (by simp)
  | a :: B => by
    by_cases ha : a < x
    · rcases split_first x B with h | ⟨pre, y, rest, rfl, h1, h2⟩
      · refine .inl fun y hy => ?_
        rcases List.mem_cons.1 hy with rfl | h'
        · exact ha
        · exact h y h'
      · refine .inr ⟨a :: pre, y, rest, rfl, fun z hz => ?_, h2⟩
        rcases List.mem_cons.1 hz with rfl | h'
        · exact ha
        · exact h1 z h'
    · exact .inr ⟨[], a, B, rfl, by simp, ha⟩

/-- In a sorted list the number behind the smaller ones is x just where x is in it. -/
theorem has_cut {u x : Int} {B : List Int} (hs : srt u 0 B = true) : x ∈ B ↔ B[(B.filter fun z => decide (z < x)).length]? = some x := by
  refine ⟨fun hx => ?_, fun h => List.mem_of_getElem? h⟩
  rcases split_first x B with h | ⟨pre, y, rest, rfl, h1, h2⟩
  · exact absurd (h x hx) (by omega)
  · have hf := filter_cut (B := pre ++ y :: rest) (pre := pre) (y := y) hs ⟨rest, by simp⟩ h1 h2
    rw [hf]
    have hy : (pre ++ y :: rest)[pre.length]? = some y := by simp
    rw [hy]
    rcases List.mem_append.1 hx with h | h
    · exact absurd (h1 x h) (by omega)
    · obtain ⟨j, hj⟩ := List.mem_iff_getElem?.1 h
      have h3 : (pre ++ y :: rest)[pre.length + j]? = some x := by
        rw [List.getElem?_append_right (by omega), Nat.add_sub_cancel_left]
        exact hj
      have := srt_mono hs pre.length (pre.length + j) y x (by omega) hy h3
      rw [show y = x by omega]

/-- What SparseHas is to return. -/
def shV (V N P M K : Int) (Ws : List Nat) (H : Int) (Vs : List Nat) (x : Int) : Bool := decide (x ∈ slV V N P M K Ws H Vs)

theorem shV_no {V N P M K : Int} {Ws : List Nat} {H : Int} {Vs : List Nat} (x : Int) (h : okS V N P M K Ws H Vs = false) : srV V N P M K Ws H Vs x = -1 ∧ shV V N P M K Ws H Vs x = false := by
  constructor
  · unfold srV; rw [h]; rfl
  · have : slV V N P M K Ws H Vs = [] := by unfold slV; rw [h]; rfl
    unfold shV
    rw [this]
    simp

theorem shV_yes {V N P M K : Int} {Ws : List Nat} {H : Int} {Vs : List Nat} (x : Int) (h : okS V N P M K Ws H Vs = true) :
    ∃ k : Nat, srV V N P M K Ws H Vs x = k ∧ k ≤ 5000 ∧ ((k : Int) < N → (shV V N P M K Ws H Vs x = decide (satV V N P M K Ws H Vs k = x))) ∧ (N ≤ (k : Int) → shV V N P M K Ws H Vs x = false) := by
  obtain ⟨hlen, h0, h5⟩ := okS_count h
  have hs : srt V 0 (slV V N P M K Ws H Vs) = true := by
    obtain ⟨_, _, _, _, _, _, _, _, _, hs, _⟩ := okS_parts h
    unfold slV
    rw [if_pos h]
    exact hs
  have hr : srV V N P M K Ws H Vs x = (((slV V N P M K Ws H Vs).filter fun y => decide (y < x)).length : Int) := by unfold srV slV; rw [if_pos h, if_pos h]
  have hc := has_cut (x := x) hs
  have hle := List.length_filter_le (fun y => decide (y < x)) (slV V N P M K Ws H Vs)
  unfold satV shV
  generalize slV V N P M K Ws H Vs = B at *
  generalize (B.filter fun y => decide (y < x)).length = k at *
  refine ⟨k, hr, by omega, fun hk => ?_, fun hk => ?_⟩
  · rw [if_pos ⟨by omega, by omega⟩, Int.toNat_natCast]
    have hk' : k < B.length := by omega
    rw [List.getElem?_eq_getElem hk'] at hc ⊢
    rw [Option.getD_some]
    simp only [decide_eq_decide]
    rw [hc, Option.some_inj]
  · simp only [decide_eq_false_iff_not]
    rw [hc, List.getElem?_eq_none (by omega)]
    simp

set_option maxHeartbeats 1600000 in
theorem implSparseHas_any (V N P M K H : Int) (A A' : Option Addr) (c c' : Nat) (Ws Vs : List Nat) (x : Int) (w : World) (hL : Lies w U A Ws) (hL' : Lies w U A' Vs) (hw : ∀ x ∈ Ws, x < 2 ^ 64) (hw' : ∀ x ∈ Vs, x < 2 ^ 64) (hN : N ≤ 9223372036854775807) (hlc : Vs.length ≤ c' ∧ c' ≤ 9223372036854775807) (hT : Tab w) :
    Calls Tryd.prog 19 #[SP V N P M K (.slice A Ws.length c) H (.slice A' Vs.length c'), .int .i64 x] w fun e w' => e = .returned (.bool (shV V N P M K Ws H Vs x)) ∧ Below w.heap.size w w' := by
  have HL := Lib.hid hL
  have HL' := Lib.hid hL'
  have HW := Lib.hid hw
  have HW' := Lib.hid hw'
  have HTb := Lib.hid hT
  clear hL hL' hw hw' hT
  go_enter Tryd.func19, Tryd.ntmps19
  go_wp2_with fail
  have sc := (Scene.start w).box 33 (SPC V N P M K (.slice A Ws.length c) H (.slice A' Vs.length c'))
  generalize w.alloc (Obj.cells (SPC V N P M K (.slice A Ws.length c) H (.slice A' Vs.length c')) 33) = w1 at *
  refine (implSparseRank_any V N P M K H A A' c c' Ws Vs x _ (sc.liesOld HL.out) (sc.liesOld HL'.out) HW.out HW'.out hN hlc).mono ?_
  rintro e w2 ⟨rfl, hb⟩
  replace sc := sc.step hb
  clear hb
  obtain ⟨⟨p0, p1, p2, p3, p4, p5, p6, p7⟩, _, hbl⟩ := box_eight (sc.getBox 0 rfl)
  cases hok : okS V N P M K Ws H Vs
  · obtain ⟨e1, e2⟩ := shV_no x hok
    have HV := Lib.hid e2
    rw [e1]
    have HB := Lib.hid sc.below
    clear sc hok e1 e2
    go_wp2
    go_ret
    exact ⟨ret_bool HV.out.symm, HB.out⟩
  · obtain ⟨k, e1, hk5, e2, e3⟩ := shV_yes x hok
    rw [e1]
    by_cases h1 : (k : Int) < N
    · have t1 : decide ((k : Int) < N) = true := by simpa using h1
      have HV := Lib.hid (e2 h1)
      clear hok e1 e2 e3
      have CAt := Lib.hid fun (W : World) (h1 : Lies W U A Ws) (h2 : Lies W U A' Vs) (h3 : Tab W) => implSparseAt_any V N P M K H A A' c c' Ws Vs k W h1 h2 HW.out HW'.out hN hlc (by omega) h3
      generalize satV V N P M K Ws H Vs k = z at *
      by_cases hz : z = x
      · subst hz
        rw [decide_eq_true rfl] at HV
        go_wp2_with fail
        clear p0 p1 p2 p3 p4 p5 p6 p7 hbl t1
        refine (CAt.out _ (sc.liesOld HL.out) (sc.liesOld HL'.out) (HTb.out.below sc.below)).mono ?_
        rintro e w5 ⟨rfl, hb5⟩
        replace sc := sc.step hb5
        clear hb5
        have HB := Lib.hid sc.below
        clear sc
        go_wp2
        go_ret
        exact ⟨ret_bool (by rw [HV.out]), HB.out⟩
      · rw [decide_eq_false hz] at HV
        have tz : (z == x) = false := by simpa using hz
        go_wp2_with fail
        clear p0 p1 p2 p3 p4 p5 p6 p7 hbl t1
        refine (CAt.out _ (sc.liesOld HL.out) (sc.liesOld HL'.out) (HTb.out.below sc.below)).mono ?_
        rintro e w5 ⟨rfl, hb5⟩
        replace sc := sc.step hb5
        clear hb5
        have HB := Lib.hid sc.below
        clear sc
        go_wp2
        go_ret
        exact ⟨ret_bool (by rw [HV.out]), HB.out⟩
    · have t1 : decide ((k : Int) < N) = false := by simpa using h1
      have HV := Lib.hid (e3 (by omega))
      have HB := Lib.hid sc.below
      clear sc hok e1 e2 e3
      go_wp2
      go_ret
      exact ⟨ret_bool HV.out.symm, HB.out⟩

theorem mem_take_step {B : List Int} {x y : Int} {k : Nat} (h : B[k]? = some y) (hn : x ∉ B.take k) (hy : ¬ y = x) : x ∉ B.take (k + 1) := by
  rw [List.take_add_one, h, Option.toList_some, List.mem_append, List.mem_singleton]
  rintro (h1 | h1)
  · exact hn h1
  · exact hy h1.symm

set_option maxHeartbeats 800000 in
theorem specSparseHas_any (V N P M K H : Int) (A A' : Option Addr) (c c' : Nat) (Ws Vs : List Nat) (x : Int) (w : World) (hL : Lies w U A Ws) (hL' : Lies w U A' Vs) (hw : ∀ x ∈ Ws, x < 2 ^ 64) (hw' : ∀ x ∈ Vs, x < 2 ^ 64) :
    Calls Tryd.prog 34 #[SP V N P M K (.slice A Ws.length c) H (.slice A' Vs.length c'), .int .i64 x] w fun e w' => e = .returned (.bool (shV V N P M K Ws H Vs x)) ∧ Below w.heap.size w w' := by
  have HL := Lib.hid hL
  have HL' := Lib.hid hL'
  have HW := Lib.hid hw
  have HW' := Lib.hid hw'
  have HV : Hid (shV V N P M K Ws H Vs x = decide (x ∈ slV V N P M K Ws H Vs)) := Lib.hid rfl
  have hBl := slV_len V N P M K Ws H Vs
  clear hL hL' hw hw'
  go_enter Tryd.func34, Tryd.ntmps34
  go_wp2_with fail
  have sc := (Scene.start w).box 33 (SPC V N P M K (.slice A Ws.length c) H (.slice A' Vs.length c'))
  generalize w.alloc (Obj.cells (SPC V N P M K (.slice A Ws.length c) H (.slice A' Vs.length c')) 33) = w1 at *
  refine (specSparseList_any V N P M K H A A' c c' Ws Vs _ (sc.liesOld HL.out) (sc.liesOld HL'.out) HW.out HW'.out).mono ?_
  rintro e w3 ⟨Al, cl, rfl, ho, hb3⟩
  have HLi := Lib.hid (Lies.of_own ho)
  have HB := Lib.hid (below_then sc.below hb3)
  clear sc ho hb3
  generalize slV V N P M K Ws H Vs = B at *
  go_wp2
  go_loop [6] (fun i => ∃ k : Nat, k ≤ B.length ∧ i = .int .i64 k ∧ Hid (x ∉ B.take k)) (fun i => B.length - (intOf i).toNat)
  case atStart => exact ⟨0, Nat.zero_le _, rfl, Lib.hid (by simp)⟩
  case round =>
    obtain ⟨k, hk, rfl, hno⟩ := hrel
    by_cases hlt : k < B.length
    · obtain ⟨b, o, y, hA, hbl, hy, hc⟩ := HLi.out.at_ hlt
      subst hA
      by_cases hyx : y = x
      · have HY := Lib.hid (List.mem_of_getElem? hy)
        subst hyx
        clear hy
        go_wp2
        go_ret
        exact ⟨ret_bool (by rw [HV.out, decide_eq_true HY.out]), HB.out⟩
      · have HS := Lib.hid (mem_take_step hy hno.out hyx)
        have ty : (y == x) = false := by simpa using hyx
        clear hy hno
        go_wp2
        go_round
        case rel => exact ⟨k + 1, by omega, by go_num, HS⟩
        case measure => simp [intOf]; omega
    · obtain rfl : k = B.length := by omega
      rw [List.take_of_length_le (Nat.le_refl _)] at hno
      go_wp2
      go_ret
      exact ⟨ret_bool (by rw [HV.out, decide_eq_false hno.out]), HB.out⟩

end Go.Proofs.YtlbnngolcoefdaaDoor
