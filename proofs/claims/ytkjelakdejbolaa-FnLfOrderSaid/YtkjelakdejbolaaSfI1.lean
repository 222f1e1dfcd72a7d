/- The ranks by one byte, and the order of the suffixes as a function value. -/
import Derived.Test.YtkjelakdejbolaaSfMath
import Derived.Test.YtkjelakdejbolaaShelfSort
import Derived.Test.YtkjelakdejbolaaNewI
import Derived.Test.YtkjelakdejbolaaSlCut
import Derived.Test.YtkjelakdejbolaaSf2
import Derived.BigQuiet
namespace Go.Proofs.Ytkjelakdejbolaa
open Go.RowKit
set_option maxRecDepth 100000

/-- A list of m numbers that is filled from the left. -/
def fillK (R : Nat → Int) (m k : Nat) : List Int := (List.range m).map fun i => if i < k then R i else 0
theorem fillK_len (R : Nat → Int) (m k : Nat) : (fillK R m k).length = m := by simp [fillK]
theorem fillK_zero (R : Nat → Int) (m : Nat) : fillK R m 0 = List.replicate m 0 := by simp [fillK, List.map_const']
theorem fillK_all (R : Nat → Int) (m : Nat) : fillK R m m = (List.range m).map R := by
  unfold fillK
  refine List.map_congr_left fun i hi => ?_
  rw [if_pos (List.mem_range.1 hi)]
theorem fillK_get (R : Nat → Int) (m k i : Nat) (h : i < m) : (fillK R m k)[i]? = some (if i < k then R i else 0) := by
  unfold fillK
  rw [List.getElem?_map, List.getElem?_range h]
  rfl
theorem fillK_succ (R : Nat → Int) (m k : Nat) (h : k < m) : (fillK R m k).set k (R k) = fillK R m (k + 1) := by
  refine List.ext_getElem? fun j => ?_
  by_cases hj : j < m
  · have e2 := fillK_get R m (k + 1) j hj
    rw [e2, List.getElem?_set]
    by_cases e : k = j
    · subst e
      rw [if_pos rfl, if_pos (by rw [fillK_len]; exact hj), if_pos (by omega)]
    · rw [if_neg e, fillK_get R m k j hj]
      by_cases h1 : j < k
      · rw [if_pos h1, if_pos (by omega)]
      · rw [if_neg h1, if_neg (by omega)]
  · rw [List.getElem?_eq_none (by rw [List.length_set, fillK_len]; omega), List.getElem?_eq_none (by rw [fillK_len]; omega)]
theorem fillK_setV (R : Nat → Int) (m k : Nat) (h : k < m) : ((fillK R m k).map I).set k (I (R k)) = (fillK R m (k + 1)).map I := by
  rw [← fillK_succ R m k h, List.map_set]
theorem fillK_getV (R : Nat → Int) (m k i : Nat) (h : i < m) : ∃ z, ((fillK R m k).map I)[i]? = some (I z) := by
  rw [List.getElem?_map, fillK_get R m k i h]
  exact ⟨_, rfl⟩

/-- The ranks by one byte. -/
def rk1 (L : List Nat) : List Int := (List.range (L.length + 1)).map (rkB L)
theorem rk1_last (L : List Nat) : fillK (rkB L) (L.length + 1) L.length = rk1 L := by
  unfold fillK rk1
  refine List.map_congr_left fun i hi => ?_
  by_cases h : i < L.length
  · rw [if_pos h]
  · have := List.mem_range.1 hi
    obtain rfl : i = L.length := by omega
    rw [if_neg h]
    unfold rkB
    simp
theorem rk1_len (L : List Nat) : (rk1 L).length = L.length + 1 := by simp [rk1]
theorem rk1_ranks (L : List Nat) : Ranks L 1 (fun i => (rk1 L).getD i 0) := by
  intro i j hi hj
  have e : ∀ i, i ≤ L.length → (rk1 L).getD i 0 = rkB L i := fun i hi => by
    unfold rk1
    rw [List.getD_eq_getElem?_getD, List.getElem?_map, List.getElem?_range (by omega)]
    rfl
  simp only [e i hi, e j hj]
  exact rkB_ranks L i j hi hj

set_option maxHeartbeats 800000 in
theorem byteRanks_any (A : Option Addr) (n c : Nat) (L : List Nat) (w : World) (hL : Lies w B8 A L) (hb8 : ∀ x ∈ L, x < 2 ^ 8) (Hn : Hid (L.length = n)) (hn : n ≤ 300) :
    Calls Try.prog 55 #[.slice A n c] w fun e w' => e = .returned (.slice (some ⟨w.heap.size, 0, none⟩) (n + 1) (n + 1)) ∧ w'.ownsRow w.heap.size 3 1 (.slice (some ⟨w.heap.size, 0, none⟩) (n + 1) (n + 1)) (n + 1) ((rk1 L).map I) ∧ Below w.heap.size w w' := by
  have HL := Lib.hid hL
  have HB8 := Lib.hid hb8
  clear hL hb8
  obtain ⟨m, hm⟩ : ∃ m, n + 1 = m := ⟨_, rfl⟩
  have hm2 : (n : Int) + 1 = (m : Int) := by omega
  have hmk := fun W => run_make_row' (P := Try.prog) 25 3 (.int .i64 0) 8 Try.underlying25 Try.infoInt rfl .i64 .i64 m (by omega) (by omega) W
  rw [hm]
  go_enter Try.func55, Try.ntmps55
  go_wp2
  go_loopw [12] (fun i wr => ∃ k : Nat, k ≤ n ∧ i = .int .i64 k ∧ wr.ownsRow w.heap.size 3 1 (.slice (some ⟨w.heap.size, 0, none⟩) m m) m ((fillK (rkB L) m k).map I) ∧ Below w.heap.size w wr) (fun i _ => n - (intOf i).toNat)
  case atStart =>
    refine ⟨0, Nat.zero_le _, rfl, ?_, (Below.refl _ _).alloc (Nat.le_refl _) _⟩
    have e : (fillK (rkB L) m 0).map I = List.replicate m (I 0) := by rw [fillK_zero]; simp
    rw [e, ← toList_madeCells_one]
    exact World.ownsRow_lit w _ _ (Nat.le_refl _) (by unfold maxLen; omega) (by simp [size_madeCells])
  case round =>
    obtain ⟨k, hk, rfl, hown, hb⟩ := hrel
    clear hmk
    by_cases hlt : k < n
    · obtain ⟨b, o, x, hA, hbl, hx, hc⟩ := HL.out.at_ (i := k) (by rw [Hn.out]; exact hlt)
      subst hA
      have hc' : wr.cell? ⟨b, o + k, none⟩ = some (.int .u8 x) := (hb.cell (p := ⟨b, o + k, none⟩) hbl).trans hc
      have hx8 : x < 256 := HB8.out x (List.mem_of_getElem? hx)
      obtain ⟨z, hz⟩ := fillK_getV (rkB L) m k k (by omega)
      have hd : wr.cell? ⟨w.heap.size, k, none⟩ = some (I z) := (hown.cellAt k (by omega)).trans hz
      have hf := hown.frozenAt k
      have hR : rkB L k = (x : Int) + 1 := by unfold rkB; rw [hx]
      have HS : Hid ((wr.setCell ⟨w.heap.size, k, none⟩ (.int .i64 ((x : Int) + 1))).ownsRow w.heap.size 3 1 (.slice (some ⟨w.heap.size, 0, none⟩) m m) m ((fillK (rkB L) m (k + 1)).map I)) := Lib.hid (by
        have h1 := (hown.stored k (.int .i64 ((x : Int) + 1))).1
        have h2 := fillK_setV (rkB L) m k (by omega)
        rw [hR] at h2
        rw [h2] at h1
        exact h1)
      have HB := Lib.hid (hb.setCell (p := ⟨w.heap.size, k, none⟩) (Nat.le_refl _) (.int .i64 ((x : Int) + 1)))
      have hw1 : IntKind.i64.wrap (x : Int) = (x : Int) := IntWalk.i64_in _ (by omega)
      clear hx hc hown hb hz hR
      go_wp2
      go_roundw
      case rel => exact ⟨k + 1, by omega, by go_num, HS.out, HB.out⟩
      case measure => simp [intOf]; omega
    · obtain rfl : k = n := by omega
      have e : fillK (rkB L) m k = rk1 L := by rw [← hm, ← Hn.out]; exact rk1_last L
      rw [e] at hown
      have HO := Lib.hid hown
      have HB := Lib.hid hb
      clear hown hb
      go_wp2
      go_ret
      exact ⟨rfl, HO.out, HB.out⟩

/-- The boxes of the order: the ranks, the length compared, the number of the empty suffix. -/
structure OrdAt (W : World) (b0 b1 b2 : Nat) (AR : Option Addr) (cR n s : Nat) (Q : List Int) : Prop where
  l : Q.length = n + 1
  c0 : W.cell? ⟨b0, 0, none⟩ = some (.slice AR (n + 1) cR)
  c1 : W.cell? ⟨b1, 0, none⟩ = some (I (s : Int))
  c2 : W.cell? ⟨b2, 0, none⟩ = some (I (n : Int))
  row : Lies W I AR Q

/-- Its bound values. -/
abbrev ordB (b0 b1 b2 : Nat) : Array Value := #[.pointer (some ⟨b0, 0, none⟩), .pointer (some ⟨b1, 0, none⟩), .pointer (some ⟨b2, 0, none⟩)]

set_option maxHeartbeats 800000 in
theorem doubled_any (AR : Option Addr) (cR n s : Nat) (Q : List Int) (w : World) (hQ : Lies w I AR Q) (hl : Q.length = n + 1) (hn : n ≤ 300) :
    Calls Try.prog 56 #[.slice AR (n + 1) cR, .int .i64 s] w fun e w' => (∃ b0 b1 b2, e = .returned (.func (.func 61) #[] (ordB b0 b1 b2)) ∧ OrdAt w' b0 b1 b2 AR cR n s Q ∧ (w.heap.size ≤ b0 ∧ b0 < w'.heap.size) ∧ (w.heap.size ≤ b1 ∧ b1 < w'.heap.size) ∧ (w.heap.size ≤ b2 ∧ b2 < w'.heap.size)) ∧ Below w.heap.size w w' := by
  have HQ := Lib.hid hQ
  have Hl := Lib.hid hl
  clear hQ hl
  obtain ⟨m, hm⟩ : ∃ m, n + 1 = m := ⟨_, rfl⟩
  have hm2 : IntKind.i64.wrap ((m : Int) - 1) = (n : Int) := by rw [IntWalk.i64_in _ (by omega)]; omega
  have hm3 : (m : Int) - 1 = (n : Int) := by omega
  rw [hm]
  go_enter Try.func56, Try.ntmps56
  go_wp2
  go_ret
  have x0 := ((Box.made w 25 #[.slice AR m cR]).alloc (.cells #[I (s : Int)] 3)).alloc (.cells #[I (n : Int)] 3)
  have x1 := (Box.made (w.alloc (.cells #[.slice AR m cR] 25)) 3 #[I (s : Int)]).alloc (.cells #[I (n : Int)] 3)
  have x2 := Box.made ((w.alloc (.cells #[.slice AR m cR] 25)).alloc (.cells #[I (s : Int)] 3)) 3 #[I (n : Int)]
  have hb : Below w.heap.size w (((w.alloc (.cells #[.slice AR m cR] 25)).alloc (.cells #[I (s : Int)] 3)).alloc (.cells #[I (n : Int)] 3)) := (((Below.refl _ _).alloc (Nat.le_refl _) _).alloc (by simp) _).alloc (by simp; omega) _
  have l0 := x0.lt
  have l1 := x1.lt
  have l2 := x2.lt
  have s1 : (w.alloc (.cells #[.slice AR m cR] 25)).heap.size = w.heap.size + 1 := by simp
  have s2 : ((w.alloc (.cells #[.slice AR m cR] 25)).alloc (.cells #[I (s : Int)] 3)).heap.size = w.heap.size + 1 + 1 := by simp
  rw [s1] at x1 l1
  rw [s2] at x2 l2
  refine ⟨⟨_, _, _, rfl, ⟨Hl.out, by rw [hm]; exact x0.cell 0, x1.cell 0, x2.cell 0, HQ.out.below hb⟩, ⟨Nat.le_refl _, l0⟩, ⟨by omega, l1⟩, by omega, l2⟩, hb⟩

end Go.Proofs.Ytkjelakdejbolaa
