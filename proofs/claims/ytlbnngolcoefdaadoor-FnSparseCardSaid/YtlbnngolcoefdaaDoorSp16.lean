import Derived.Test.YtlbnngolcoefdaaDoorSp14
import Derived.Test.YtlbnngolcoefdaaDoorSp11
/- SparseOk: both. -/
namespace Go.Proofs.YtlbnngolcoefdaaDoor
open Go.RowKit
set_option maxRecDepth 100000

theorem specSparseOk_any (V N P M K H : Int) (A A' : Option Addr) (c c' : Nat) (Ws Vs : List Nat) (w : World) (hL : Lies w U A Ws) (hL' : Lies w U A' Vs) (hw : ∀ x ∈ Ws, x < 2 ^ 64) (hw' : ∀ x ∈ Vs, x < 2 ^ 64) :
    Calls Tryd.prog 115 #[SP V N P M K (.slice A Ws.length c) H (.slice A' Vs.length c')] w fun e w' => e = .returned (.bool (okS V N P M K Ws H Vs)) ∧ Below w.heap.size w w' := by
  rw [← okT_eq hw hw']
  cases hp : okP P M K Ws
  · exact specSparseOk_bad V N P M K H A A' c c' Ws Vs w hL hL' hw hw' (.inl hp)
  · cases hb : okB H Vs
    · exact specSparseOk_bad V N P M K H A A' c c' Ws Vs w hL hL' hw hw' (.inr (.inl hb))
    · by_cases h20 : 20 < P
      · exact specSparseOk_bad V N P M K H A A' c c' Ws Vs w hL hL' hw hw' (.inr (.inr h20))
      · obtain ⟨wd, _, _, rfl, _, _, _, _⟩ := okP_nat hp
        obtain ⟨h, rfl, h5, _, _⟩ := okB_nat hb
        exact specSparseOk_good V N wd h M K A A' c c' Ws Vs w hL hL' hw hw' hp hb h5 (by omega)

theorem implSparseOk_any (V N P M K H : Int) (A A' : Option Addr) (c c' : Nat) (Ws Vs : List Nat) (w : World) (hL : Lies w U A Ws) (hL' : Lies w U A' Vs) (hw : ∀ x ∈ Ws, x < 2 ^ 64) (hw' : ∀ x ∈ Vs, x < 2 ^ 64) (hN : N ≤ 9223372036854775807) (hlc : Vs.length ≤ c' ∧ c' ≤ 9223372036854775807) :
    Calls Tryd.prog 16 #[SP V N P M K (.slice A Ws.length c) H (.slice A' Vs.length c')] w fun e w' => e = .returned (.bool (okS V N P M K Ws H Vs)) ∧ Below w.heap.size w w' := by
  cases hf : (decide (0 ≤ N) && spFits N.toNat V)
  · exact implSparseOk_bad V N P M K H A A' c c' Ws Vs w hL hL' hw hw' hN (.inl hf)
  · cases hp : okP P M K Ws
    · exact implSparseOk_bad V N P M K H A A' c c' Ws Vs w hL hL' hw hw' hN (.inr (.inl hp))
    · cases hb : okB H Vs
      · exact implSparseOk_bad V N P M K H A A' c c' Ws Vs w hL hL' hw hw' hN (.inr (.inr hb))
      · have e : okS V N P M K Ws H Vs = ((decide (M = N) && decide (P = (lowV N.toNat V.toNat : Int))) && ((decide (H = (hiV N.toNat V.toNat : Int)) && decide ((cnt Vs 1 H.toNat : Int) = N)) && srt V 0 (splV P M K Ws H Vs))) := by
          unfold okS
          rw [hf, hp, hb, Bool.true_and, Bool.true_and, Bool.true_and]
        rw [e]
        rw [Bool.and_eq_true, decide_eq_true_iff] at hf
        obtain ⟨hN0, hf⟩ := hf
        obtain ⟨n, rfl⟩ := Int.eq_ofNat_of_zero_le hN0
        rw [Int.toNat_natCast] at hf ⊢
        obtain ⟨v, rfl, hv, _, _, hn5⟩ := spFits_nat hf
        obtain ⟨h, rfl, h5, _, _⟩ := okB_nat hb
        rw [Int.toNat_natCast, Int.toNat_natCast]
        exact implSparseOk_good v n h P M K A A' c c' Ws Vs w hL hL' hw hw' hlc.1 hlc.2 hf hv hn5 hp hb h5

end Go.Proofs.YtlbnngolcoefdaaDoor

/- SparseList and SparseRank: the specification's; SparseRank of the program. -/
namespace Go.Proofs.YtlbnngolcoefdaaDoor
open Go.RowKit Go.Shelf
set_option maxRecDepth 100000

theorem okS_parts {V N P M K : Int} {Ws : List Nat} {H : Int} {Vs : List Nat} (h : okS V N P M K Ws H Vs = true) :
    ∃ wd hn : Nat, P = wd ∧ H = hn ∧ wd ≤ 20 ∧ hn ≤ 5000 ∧ okP P M K Ws = true ∧ okB H Vs = true ∧ (cnt Vs 1 hn : Int) = M ∧ srt V 0 (splV P M K Ws H Vs) = true ∧ (splV P M K Ws H Vs).length ≤ 5000 := by
  unfold okS at h
  simp only [Bool.and_eq_true, decide_eq_true_iff] at h
  obtain ⟨⟨hN, hf⟩, hp, hb, ⟨hM, hP⟩, ⟨hH, hc⟩, hs⟩ := h
  obtain ⟨n, rfl⟩ := Int.eq_ofNat_of_zero_le hN
  rw [Int.toNat_natCast] at hf hP hH
  obtain ⟨v, rfl, hv, _, hhi, _⟩ := spFits_nat hf
  rw [Int.toNat_natCast] at hP hH
  refine ⟨lowV n v, hiV n v, hP, hH, lowV_le n v hv, hhi, hp, hb, ?_, hs, ?_⟩
  · rw [hH, Int.toNat_natCast] at hc
    omega
  · unfold splV
    rw [spl_len]
    have := plV_len5 hp
    omega

/-- What SparseList and SparseRank are to return. -/
def slV (V N P M K : Int) (Ws : List Nat) (H : Int) (Vs : List Nat) : List Int := if okS V N P M K Ws H Vs = true then splV P M K Ws H Vs else []
def srV (V N P M K : Int) (Ws : List Nat) (H : Int) (Vs : List Nat) (x : Int) : Int := if okS V N P M K Ws H Vs = true then (((splV P M K Ws H Vs).filter fun y => decide (y < x)).length : Int) else -1
theorem slV_len (V N P M K : Int) (Ws : List Nat) (H : Int) (Vs : List Nat) : (slV V N P M K Ws H Vs).length ≤ 5000 := by
  unfold slV
  split
  · rename_i h
    obtain ⟨_, _, _, _, _, _, _, _, _, _, h5⟩ := okS_parts h
    exact h5
  · simp

set_option maxHeartbeats 800000 in
theorem specSparseList_any (V N P M K H : Int) (A A' : Option Addr) (c c' : Nat) (Ws Vs : List Nat) (w : World) (hL : Lies w U A Ws) (hL' : Lies w U A' Vs) (hw : ∀ x ∈ Ws, x < 2 ^ 64) (hw' : ∀ x ∈ Vs, x < 2 ^ 64) :
    Calls Tryd.prog 80 #[SP V N P M K (.slice A Ws.length c) H (.slice A' Vs.length c')] w (NewI w (slV V N P M K Ws H Vs)) := by
  have HL := Lib.hid hL
  have HL' := Lib.hid hL'
  have HW := Lib.hid hw
  have HW' := Lib.hid hw'
  clear hL hL' hw hw'
  go_enter Tryd.func80, Tryd.ntmps80
  go_wp2_with fail
  have sc := (Scene.start w).box 33 (SPC V N P M K (.slice A Ws.length c) H (.slice A' Vs.length c'))
  generalize w.alloc (Obj.cells (SPC V N P M K (.slice A Ws.length c) H (.slice A' Vs.length c')) 33) = w1 at *
  refine (specSparseOk_any V N P M K H A A' c c' Ws Vs _ (sc.liesOld HL.out) (sc.liesOld HL'.out) HW.out HW'.out).mono ?_
  rintro e w2 ⟨rfl, hb⟩
  replace sc := sc.step hb
  clear hb
  obtain ⟨⟨p0, p1, p2, p3, p4, p5, p6, p7⟩, _, hbl⟩ := box_eight (sc.getBox 0 rfl)
  cases hok : okS V N P M K Ws H Vs
  · have HB := Lib.hid sc.below
    have HV : Hid (slV V N P M K Ws H Vs = []) := Lib.hid (by unfold slV; rw [hok]; rfl)
    clear sc
    go_wp2
    go_ret
    rw [HV.out]
    exact ⟨none, 0, rfl, World.ownsRow_nil _ _ _ _, HB.out⟩
  · have HV : Hid (slV V N P M K Ws H Vs = splV P M K Ws H Vs) := Lib.hid (by unfold slV; rw [hok]; rfl)
    obtain ⟨wd, hn, rfl, rfl, h20, h5, hp, hb, _⟩ := okS_parts hok
    go_wp2_with fail
    clear p0 p1 p2 p3 p4 p5 p6 p7 hbl
    refine (l03List_any V N wd hn M K A A' c c' Ws Vs _ (sc.liesOld HL.out) (sc.liesOld HL'.out) HW.out HW'.out hp hb h5 h20).mono ?_
    rintro e w3 ⟨Al, cl, rfl, ho, hb3⟩
    have HO := Lib.hid (own_mono ho sc.below.size)
    have HB := Lib.hid (below_then sc.below hb3)
    clear sc ho hb3 hok hp hb
    generalize splV (wd : Int) M K Ws (hn : Int) Vs = B at *
    go_wp2
    go_ret
    rw [HV.out]
    exact ⟨Al, cl, rfl, HO.out, HB.out⟩

theorem filter_step (B : List Int) (x : Int) (k : Nat) (y : Int) (h : B[k]? = some y) : ((B.take (k + 1)).filter fun z => decide (z < x)).length = ((B.take k).filter fun z => decide (z < x)).length + if y < x then 1 else 0 := by
  rw [List.take_add_one, h, Option.toList_some, List.filter_append, List.length_append]
  by_cases hy : y < x <;> simp [hy]

end Go.Proofs.YtlbnngolcoefdaaDoor
