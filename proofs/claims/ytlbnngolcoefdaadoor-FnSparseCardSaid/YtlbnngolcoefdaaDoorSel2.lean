import Derived.Test.YtlbnngolcoefdaaDoorSp14
import Derived.Test.YtlbnngolcoefdaaDoorSp11
import Derived.Test.YtlbnngolcoefdaaDoorPackBk1
import Derived.Test.YtlbnngolcoefdaaDoorLaws5
import Derived.Test.YtlbnngolcoefdaaDoorSp4
import Derived.Test.YtlbnngolcoefdaaDoorBitMath2
import Derived.Test.YtlbnngolcoefdaaDoorDraw1
/- SparseOk: both. -/
namespace Go.Proofs.YtlbnngolcoefdaaDoor
open Go.RowKit
set_option maxRecDepth 100000

theorem specSparseOk_any (V N P M K H : Int) (A A' : Option Addr) (c c' : Nat) (Ws Vs : List Nat) (w : World) (hL : Lies w U A Ws) (hL' : Lies w U A' Vs) (hw : ∀ x ∈ Ws, x < 2 ^ 64) (hw' : ∀ x ∈ Vs, x < 2 ^ 64) :
    Calls Tryd.prog 115 #[SP V N P M K (.slice A Ws.length c) H (.slice A' Vs.length c')] w fun e w' => e = .returned (.bool (okS V N P M K Ws H Vs)) ∧ Below w.heap.size w w' := by
  rw [← okT_eq hw hw']
  cases hp : okP P M K Ws
  · exact specSparseOk_bad V N P M K H A A' c c' Ws Vs w hL hL' hw hw' (.inl hp)
  · cases hb : okB H Vs
    · exact specSparseOk_bad V N P M K H A A' c c' Ws Vs w hL hL' hw hw' (.inr (.inl hb))
    · by_cases h20 : 20 < P
      · exact specSparseOk_bad V N P M K H A A' c c' Ws Vs w hL hL' hw hw' (.inr (.inr h20))
      · obtain ⟨wd, _, _, rfl, _, _, _, _⟩ := okP_nat hp
        obtain ⟨h, rfl, h5, _, _⟩ := okB_nat hb
        exact specSparseOk_good V N wd h M K A A' c c' Ws Vs w hL hL' hw hw' hp hb h5 (by omega)

theorem implSparseOk_any (V N P M K H : Int) (A A' : Option Addr) (c c' : Nat) (Ws Vs : List Nat) (w : World) (hL : Lies w U A Ws) (hL' : Lies w U A' Vs) (hw : ∀ x ∈ Ws, x < 2 ^ 64) (hw' : ∀ x ∈ Vs, x < 2 ^ 64) (hN : N ≤ 9223372036854775807) (hlc : Vs.length ≤ c' ∧ c' ≤ 9223372036854775807) :
    Calls Tryd.prog 16 #[SP V N P M K (.slice A Ws.length c) H (.slice A' Vs.length c')] w fun e w' => e = .returned (.bool (okS V N P M K Ws H Vs)) ∧ Below w.heap.size w w' := by
  cases hf : (decide (0 ≤ N) && spFits N.toNat V)
  · exact implSparseOk_bad V N P M K H A A' c c' Ws Vs w hL hL' hw hw' hN (.inl hf)
  · cases hp : okP P M K Ws
    · exact implSparseOk_bad V N P M K H A A' c c' Ws Vs w hL hL' hw hw' hN (.inr (.inl hp))
    · cases hb : okB H Vs
      · exact implSparseOk_bad V N P M K H A A' c c' Ws Vs w hL hL' hw hw' hN (.inr (.inr hb))
      · have e : okS V N P M K Ws H Vs = ((decide (M = N) && decide (P = (lowV N.toNat V.toNat : Int))) && ((decide (H = (hiV N.toNat V.toNat : Int)) && decide ((cnt Vs 1 H.toNat : Int) = N)) && srt V 0 (splV P M K Ws H Vs))) := by
          unfold okS
          rw [hf, hp, hb, Bool.true_and, Bool.true_and, Bool.true_and]
        rw [e]
        rw [Bool.and_eq_true, decide_eq_true_iff] at hf
        obtain ⟨hN0, hf⟩ := hf
        obtain ⟨n, rfl⟩ := Int.eq_ofNat_of_zero_le hN0
        rw [Int.toNat_natCast] at hf ⊢
        obtain ⟨v, rfl, hv, _, _, hn5⟩ := spFits_nat hf
        obtain ⟨h, rfl, h5, _, _⟩ := okB_nat hb
        rw [Int.toNat_natCast, Int.toNat_natCast]
        exact implSparseOk_good v n h P M K A A' c c' Ws Vs w hL hL' hw hw' hlc.1 hlc.2 hf hv hn5 hp hb h5

end Go.Proofs.YtlbnngolcoefdaaDoor

/- SparseList and SparseRank: the specification's; SparseRank of the program. -/
namespace Go.Proofs.YtlbnngolcoefdaaDoor
open Go.RowKit Go.Shelf
set_option maxRecDepth 100000

theorem okS_parts {V N P M K : Int} {Ws : List Nat} {H : Int} {Vs : List Nat} (h : okS V N P M K Ws H Vs = true) :
    ∃ wd hn : Nat, P = wd ∧ H = hn ∧ wd ≤ 20 ∧ hn ≤ 5000 ∧ okP P M K Ws = true ∧ okB H Vs = true ∧ (cnt Vs 1 hn : Int) = M ∧ srt V 0 (splV P M K Ws H Vs) = true ∧ (splV P M K Ws H Vs).length ≤ 5000 := by
  unfold okS at h
  simp only [Bool.and_eq_true, decide_eq_true_iff] at h
  obtain ⟨⟨hN, hf⟩, hp, hb, ⟨hM, hP⟩, ⟨hH, hc⟩, hs⟩ := h
  obtain ⟨n, rfl⟩ := Int.eq_ofNat_of_zero_le hN
  rw [Int.toNat_natCast] at hf hP hH
  obtain ⟨v, rfl, hv, _, hhi, _⟩ := spFits_nat hf
  rw [Int.toNat_natCast] at hP hH
  refine ⟨lowV n v, hiV n v, hP, hH, lowV_le n v hv, hhi, hp, hb, ?_, hs, ?_⟩
  · rw [hH, Int.toNat_natCast] at hc
    omega
  · unfold splV
    rw [spl_len]
    have := plV_len5 hp
    omega

/-- What SparseList and SparseRank are to return. -/
def slV (V N P M K : Int) (Ws : List Nat) (H : Int) (Vs : List Nat) : List Int := if okS V N P M K Ws H Vs = true then splV P M K Ws H Vs else []
def srV (V N P M K : Int) (Ws : List Nat) (H : Int) (Vs : List Nat) (x : Int) : Int := if okS V N P M K Ws H Vs = true then (((splV P M K Ws H Vs).filter fun y => decide (y < x)).length : Int) else -1
theorem slV_len (V N P M K : Int) (Ws : List Nat) (H : Int) (Vs : List Nat) : (slV V N P M K Ws H Vs).length ≤ 5000 := by
  unfold slV
  split
  · rename_i h
    obtain ⟨_, _, _, _, _, _, _, _, _, _, h5⟩ := okS_parts h
    exact h5
  · simp

set_option maxHeartbeats 800000 in
theorem specSparseList_any (V N P M K H : Int) (A A' : Option Addr) (c c' : Nat) (Ws Vs : List Nat) (w : World) (hL : Lies w U A Ws) (hL' : Lies w U A' Vs) (hw : ∀ x ∈ Ws, x < 2 ^ 64) (hw' : ∀ x ∈ Vs, x < 2 ^ 64) :
    Calls Tryd.prog 80 #[SP V N P M K (.slice A Ws.length c) H (.slice A' Vs.length c')] w (NewI w (slV V N P M K Ws H Vs)) := by
  have HL := Lib.hid hL
  have HL' := Lib.hid hL'
  have HW := Lib.hid hw
  have HW' := Lib.hid hw'
  clear hL hL' hw hw'
  go_enter Tryd.func80, Tryd.ntmps80
  go_wp2_with fail
  have sc := (Scene.start w).box 33 (SPC V N P M K (.slice A Ws.length c) H (.slice A' Vs.length c'))
  generalize w.alloc (Obj.cells (SPC V N P M K (.slice A Ws.length c) H (.slice A' Vs.length c')) 33) = w1 at *
  refine (specSparseOk_any V N P M K H A A' c c' Ws Vs _ (sc.liesOld HL.out) (sc.liesOld HL'.out) HW.out HW'.out).mono ?_
  rintro e w2 ⟨rfl, hb⟩
  replace sc := sc.step hb
  clear hb
  obtain ⟨⟨p0, p1, p2, p3, p4, p5, p6, p7⟩, _, hbl⟩ := box_eight (sc.getBox 0 rfl)
  cases hok : okS V N P M K Ws H Vs
  · have HB := Lib.hid sc.below
    have HV : Hid (slV V N P M K Ws H Vs = []) := Lib.hid (by unfold slV; rw [hok]; rfl)
    clear sc
    go_wp2
    go_ret
    rw [HV.out]
    exact ⟨none, 0, rfl, World.ownsRow_nil _ _ _ _, HB.out⟩
  · have HV : Hid (slV V N P M K Ws H Vs = splV P M K Ws H Vs) := Lib.hid (by unfold slV; rw [hok]; rfl)
    obtain ⟨wd, hn, rfl, rfl, h20, h5, hp, hb, _⟩ := okS_parts hok
    go_wp2_with fail
    clear p0 p1 p2 p3 p4 p5 p6 p7 hbl
    refine (l03List_any V N wd hn M K A A' c c' Ws Vs _ (sc.liesOld HL.out) (sc.liesOld HL'.out) HW.out HW'.out hp hb h5 h20).mono ?_
    rintro e w3 ⟨Al, cl, rfl, ho, hb3⟩
    have HO := Lib.hid (own_mono ho sc.below.size)
    have HB := Lib.hid (below_then sc.below hb3)
    clear sc ho hb3 hok hp hb
    generalize splV (wd : Int) M K Ws (hn : Int) Vs = B at *
    go_wp2
    go_ret
    rw [HV.out]
    exact ⟨Al, cl, rfl, HO.out, HB.out⟩

theorem filter_step (B : List Int) (x : Int) (k : Nat) (y : Int) (h : B[k]? = some y) : ((B.take (k + 1)).filter fun z => decide (z < x)).length = ((B.take k).filter fun z => decide (z < x)).length + if y < x then 1 else 0 := by
  rw [List.take_add_one, h, Option.toList_some, List.filter_append, List.length_append]
  by_cases hy : y < x <;> simp [hy]

end Go.Proofs.YtlbnngolcoefdaaDoor

/- SparseAt: the specification's. -/
namespace Go.Proofs.YtlbnngolcoefdaaDoor
open Go.RowKit
set_option maxRecDepth 100000

/-- What SparseAt is to return. -/
def satV (V N P M K : Int) (Ws : List Nat) (H : Int) (Vs : List Nat) (k : Int) : Int := if 0 ≤ k ∧ k < ((slV V N P M K Ws H Vs).length : Int) then ((slV V N P M K Ws H Vs)[k.toNat]?).getD 0 else -1

set_option maxHeartbeats 800000 in
theorem specSparseAt_any (V N P M K H : Int) (A A' : Option Addr) (c c' : Nat) (Ws Vs : List Nat) (k : Int) (w : World) (hL : Lies w U A Ws) (hL' : Lies w U A' Vs) (hw : ∀ x ∈ Ws, x < 2 ^ 64) (hw' : ∀ x ∈ Vs, x < 2 ^ 64) :
    Calls Tryd.prog 31 #[SP V N P M K (.slice A Ws.length c) H (.slice A' Vs.length c'), .int .i64 k] w fun e w' => e = .returned (.int .i64 (satV V N P M K Ws H Vs k)) ∧ Below w.heap.size w w' := by
  have HL := Lib.hid hL
  have HL' := Lib.hid hL'
  have HW := Lib.hid hw
  have HW' := Lib.hid hw'
  have HV : Hid (satV V N P M K Ws H Vs k = if 0 ≤ k ∧ k < ((slV V N P M K Ws H Vs).length : Int) then ((slV V N P M K Ws H Vs)[k.toNat]?).getD 0 else -1) := Lib.hid rfl
  have hBl := slV_len V N P M K Ws H Vs
  clear hL hL' hw hw'
  go_enter Tryd.func31, Tryd.ntmps31
  go_wp2_with fail
  have sc := (Scene.start w).box 33 (SPC V N P M K (.slice A Ws.length c) H (.slice A' Vs.length c'))
  generalize w.alloc (Obj.cells (SPC V N P M K (.slice A Ws.length c) H (.slice A' Vs.length c')) 33) = w1 at *
  refine (specSparseList_any V N P M K H A A' c c' Ws Vs _ (sc.liesOld HL.out) (sc.liesOld HL'.out) HW.out HW'.out).mono ?_
  rintro e w3 ⟨Al, cl, rfl, ho, hb3⟩
  have HLi := Lib.hid (Lies.of_own ho)
  have HB := Lib.hid (below_then sc.below hb3)
  clear sc ho hb3
  generalize slV V N P M K Ws H Vs = B at *
  by_cases h0 : k < 0
  · have t0 : decide (k < 0) = true := by simpa using h0
    rw [if_neg (by omega)] at HV
    go_wp2
    go_ret
    exact ⟨ret_int HV.out.symm, HB.out⟩
  · have t0 : decide (k < 0) = false := by simpa using h0
    obtain ⟨j, rfl⟩ := Int.eq_ofNat_of_zero_le (show 0 ≤ k by omega)
    by_cases h1 : j < B.length
    · obtain ⟨b, o, y, hA, hbl, hy, hc⟩ := HLi.out.at_ h1
      subst hA
      rw [if_pos (by omega), Int.toNat_natCast, hy, Option.getD_some] at HV
      have t1 : decide ((B.length : Int) ≤ (j : Int)) = false := by simp; omega
      have t1n : decide (B.length ≤ j) = false := by simp; omega
      clear hy
      go_wp2
      go_ret
      exact ⟨ret_int HV.out.symm, HB.out⟩
    · have t1 : decide ((B.length : Int) ≤ (j : Int)) = true := by simp; omega
      have t1n : decide (B.length ≤ j) = true := by simp; omega
      rw [if_neg (by omega)] at HV
      go_wp2
      go_ret
      exact ⟨ret_int HV.out.symm, HB.out⟩

end Go.Proofs.YtlbnngolcoefdaaDoor

/- The specification's Select. -/
namespace Go.Proofs.YtlbnngolcoefdaaDoor
open Go.RowKit
set_option maxRecDepth 100000

theorem list_new2 (n : Nat) (A : Option Addr) (c : Nat) (L : List Nat) (w : World) (hL : Lies w U A L) (hl : L.length = (n + 63) / 64) (hn : n ≤ 5000) (hw : ∀ x ∈ L, x < 2 ^ 64) :
    Calls Tryd.prog 135 #[.agg #[.int .i64 n, .slice A L.length c]] w fun e w' => ∃ A' c', e = .returned (.slice A' n c') ∧ w'.ownsRow w.heap.size 3 1 (.slice A' n c') n ((bitsOf n L).map I) ∧ Below w.heap.size w w' :=
  (list_any n A c L w hL (by omega) hn (by omega) hw).mono fun e w' h => by
    obtain ⟨v, he, ho, hb⟩ := h
    obtain ⟨A', c', rfl⟩ := own_slice ho
    exact ⟨A', c', he, ho, hb⟩

/-- The answer of Select as a number. -/
def selI (L : List Nat) (b : Int) (n k : Nat) : Int := match selN L b n k with | some i => (i : Int) | none => -1
theorem selI_some (L : List Nat) (b : Int) (n k i : Nat) (hi : i < n) (hb : (bitN L i : Int) = b) (hc : cnt L b i = k) : selI L b n k = i := by unfold selI; rw [selN_some L b n k i hi hb hc]
theorem selI_none (L : List Nat) (b : Int) (n k : Nat) (h : cnt L b n ≤ k) : selI L b n k = -1 := by unfold selI; rw [selN_none L b n k h]

end Go.Proofs.YtlbnngolcoefdaaDoor

/- The program's TrailingZeros64, where the table of math/bits lies as its text lays it. -/
namespace Go.Proofs.YtlbnngolcoefdaaDoor
open Go.RowKit
set_option maxRecDepth 100000

/-- The place of 2^i in the table. -/
def deb (i : Nat) : Nat := 2 ^ i * 285870213051353865 % 2 ^ 64 / 2 ^ 58
theorem deb_lt (i : Nat) : deb i < 64 := by
  unfold deb
  have := Nat.mod_lt (2 ^ i * 285870213051353865) (show 0 < 2 ^ 64 by decide)
  omega
/-- The table lies in the first block. -/
def Tab (w : World) : Prop := 1 < w.heap.size ∧ ∀ i, i < 64 → w.cell? ⟨1, deb i, none⟩ = some (.int .u8 i)
theorem Tab.below {w w' : World} (h : Tab w) (hb : Below w.heap.size w w') : Tab w' :=
  ⟨Nat.lt_of_lt_of_le h.1 hb.size, fun i hi => (hb.cell (p := ⟨1, deb i, none⟩) h.1).trans (h.2 i hi)⟩

set_option maxHeartbeats 400000 in
theorem trailing_any (x i q : Nat) (w : World) (hx : x < 2 ^ 64) (he : x = 2 ^ (i + 1) * q + 2 ^ i) (hi : i < 64) (hT : Tab w) :
    Calls Tryd.prog 139 #[U x] w fun e w' => e = .returned (.int .i64 i) ∧ w = w' := by
  have hp := Nat.two_pow_pos i
  have h0 : 0 < x := by omega
  have t0 : ((x : Int) == 0) = false := by rw [beq_eq_false_iff_ne]; omega
  obtain ⟨y, hy⟩ : ∃ y, 2 ^ 64 - x = y := ⟨_, rfl⟩
  have e1 : IntKind.u64.wrap (-(x : Int)) = (y : Int) := by rw [IntKind.wrap_u64]; omega
  have e2 : bits .and .u64 (x : Int) (y : Int) = ((2 ^ i : Nat) : Int) := by
    rw [u64_and_nat x y hx (by omega), ← hy, he, and_neg 64 i q hi (by rw [← he]; exact hx)]
  obtain ⟨p, hpp⟩ : ∃ p, 2 ^ i = p := ⟨_, rfl⟩
  rw [hpp] at e2
  obtain ⟨m, hm⟩ : ∃ m, p * 285870213051353865 % 2 ^ 64 = m := ⟨_, rfl⟩
  have e3 : IntKind.u64.wrap ((p : Int) * 285870213051353865) = (m : Int) := by rw [IntKind.wrap_u64]; omega
  obtain ⟨d, hd⟩ : ∃ d, deb i = d := ⟨_, rfl⟩
  have e4 : (m : Int) / 288230376151711744 = (d : Int) := by
    have : m / 2 ^ 58 = d := by rw [← hm, ← hpp]; exact hd
    omega
  have hd64 : (d : Int) < 64 := by have := deb_lt i; omega
  have hc := hT.2 i hi
  rw [hd] at hc
  clear he hp hy hpp hm hd hT
  go_enter Tryd.func139, Tryd.ntmps139
  go_wp2
  go_ret
  exact ⟨rfl, rfl⟩

end Go.Proofs.YtlbnngolcoefdaaDoor
