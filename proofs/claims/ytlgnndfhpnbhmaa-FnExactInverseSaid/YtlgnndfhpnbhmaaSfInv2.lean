/- Inverse of the specification. -/
import Derived.Test.YtlgnndfhpnbhmaaSfInv1
import Derived.Test.YtlgnndfhpnbhmaaAppI
namespace Go.Proofs.Ytlgnndfhpnbhmaa
open Go.RowKit
set_option maxRecDepth 100000

/-- The first k places. -/
def ivK (L : List Int) (k : Nat) : List Int := (List.range k).map fun x : Nat => (L.idxOf (x : Int) : Int)
theorem ivK_len (L : List Int) (k : Nat) : (ivK L k).length = k := by simp [ivK]
theorem ivK_succ (L : List Int) (k : Nat) : ivK L k ++ [(L.idxOf (k : Int) : Int)] = ivK L (k + 1) := by
  unfold ivK
  rw [List.range_succ, List.map_append]
  rfl
theorem ivK_all {L : List Int} (h : invOk L = true) : ivK L L.length = invV L := by
  unfold ivK invV
  rw [if_pos h]
theorem inv_lacks {L : List Int} (h : invOk L = false) (hl : L.length ≤ 301) : ∃ x : Nat, x < L.length ∧ (x : Int) ∉ L := by
  refine Classical.byContradiction fun hc => ?_
  have : invOk L = true := (invOk_iff L).2 ⟨hl, fun x hx => Classical.byContradiction fun hm => hc ⟨x, hx, hm⟩⟩
  rw [h] at this
  cases this

/-- What the inner loop has found. -/
def atV (L : List Int) (x i : Nat) : Int := if L.idxOf (x : Int) < i then (L.idxOf (x : Int) : Int) else -1
theorem atV_hit {L : List Int} {x i : Nat} (hn : L.Nodup) (h : L[i]? = some (x : Int)) : atV L x (i + 1) = (i : Int) := by
  unfold atV
  rw [idxOf_at hn h, if_pos (by omega)]
theorem atV_miss {L : List Int} {x i : Nat} {y : Int} (h : L[i]? = some y) (hne : y ≠ (x : Int)) (hx : (x : Int) ∈ L) : atV L x (i + 1) = atV L x i := by
  unfold atV
  by_cases h1 : L.idxOf (x : Int) < i
  · rw [if_pos h1, if_pos (by omega)]
  · rw [if_neg h1]
    by_cases h2 : L.idxOf (x : Int) = i
    · exfalso
      have hl := List.idxOf_lt_length_iff.2 hx
      have := List.getElem_idxOf hl
      have h3 := List.getElem?_eq_getElem hl
      rw [this, h2, h] at h3
      exact hne (Option.some.inj h3)
    · rw [if_neg (by omega)]
theorem atV_end {L : List Int} {x : Nat} (hx : (x : Int) ∈ L) : atV L x L.length = (L.idxOf (x : Int) : Int) := by
  unfold atV
  rw [if_pos (List.idxOf_lt_length_iff.2 hx)]

set_option maxHeartbeats 1600000 in
theorem specInverse_yes (A : Option Addr) (n c : Nat) (L : List Int) (w : World) (hL : Lies w I A L) (Hn : Hid (L.length = n)) (h3 : n ≤ 301) (HOK : Hid (invOk L = true)) :
    Calls Try.prog 36 #[.slice A n c] w (InvEnd w L) := by
  have HL := Lib.hid hL
  clear hL
  have hf : decide ((301 : Int) < (n : Int)) = false := by simp; omega
  have HN := Lib.hid (invOk_pig HOK.out).1
  have HM := Lib.hid ((invOk_iff L).1 HOK.out).2
  have hO0 : (w.alloc (Obj.cells #[] 3)).ownsRow w.heap.size 3 1 (.slice (some ⟨w.heap.size, 0, none⟩) 0 0) (ivK L 0).length ((ivK L 0).map I) := World.ownsRow_lit w _ _ (Nat.le_refl _) (show 0 ≤ maxLen by decide) rfl
  have HO0 := Lib.hid hO0
  have HB0 : Hid (Below w.heap.size w (w.alloc (Obj.cells #[] 3))) := Lib.hid ((Below.refl _ _).alloc (Nat.le_refl _) _)
  clear hO0
  go_enter Try.func36, Try.ntmps36
  go_wp2_with fail
  generalize w.alloc (Obj.cells #[] 3) = w0 at *
  go_loopw [4, 5] (fun v i wr => ∃ k : Nat, k ≤ n ∧ i = .int .i64 k ∧ Hid (wr.ownsRow w.heap.size 3 1 v (ivK L k).length ((ivK L k).map I)) ∧ Hid (Below w.heap.size w wr)) (fun _ i _ => n - (intOf i).toNat)
  case atStart => exact ⟨0, Nat.zero_le _, rfl, HO0, HB0⟩
  case round =>
    obtain ⟨k, hk, rfl, HO, HB⟩ := hrel
    clear HO0 HB0
    by_cases hlt : k < n
    · have HK := Lib.hid (HM.out k (by rw [Hn.out]; exact hlt))
      go_wp2
      go_loop [6, 7] (fun a i => ∃ j : Nat, j ≤ n ∧ i = .int .i64 j ∧ a = .int .i64 (atV L k j)) (fun _ i => n - (intOf i).toNat)
      case atStart => exact ⟨0, Nat.zero_le _, rfl, by unfold atV; rw [if_neg (by omega)]⟩
      case round =>
        obtain ⟨j, hj, rfl, rfl⟩ := hrel
        by_cases hjn : j < n
        · obtain ⟨b, o, x, hA, hbl, hx, hc0⟩ := HL.out.at_ (i := j) (by rw [Hn.out]; exact hjn)
          subst hA
          have hc : wr.cell? ⟨b, o + j, none⟩ = some (I x) := (HB.out.cell (p := ⟨b, o + j, none⟩) hbl).trans hc0
          clear hc0
          by_cases hxk : x = (k : Int)
          · subst hxk
            have HA := Lib.hid (atV_hit HN.out hx)
            clear hx
            go_wp2
            go_round
            case rel => exact ⟨j + 1, by omega, by go_num, by rw [HA.out]⟩
            case measure => simp [intOf]; omega
          · have HA := Lib.hid (atV_miss hx hxk HK.out)
            have hne : (x == (k : Int)) = false := by rw [beq_eq_false_iff_ne]; exact hxk
            clear hx
            go_wp2
            go_round
            case rel => exact ⟨j + 1, by omega, by go_num, by rw [HA.out]⟩
            case measure => simp [intOf]; omega
        · obtain rfl : j = n := by omega
          have HE : Hid (atV L k j = (L.idxOf (k : Int) : Int)) := Lib.hid (by rw [← Hn.out]; exact atV_end HK.out)
          rw [HE.out]
          have HS := Lib.hid (ivK_succ L k)
          have hol := ivK_len L k
          have hsz := HB.out.size
          generalize L.idxOf (k : Int) = p at *
          have hp : decide ((p : Int) < 0) = false := by simp
          go_wp2_with (at_builtin; refine wpList_pushI rfl _ _ rfl w.heap.size _ _ _ rfl HO.out (p : Int) rfl hsz (by omega) _ HS.out ?_)
          intro A4 c4 w4 ho4 hg4
          have HO4 := Lib.hid ho4
          have HB4 := Lib.hid (HB.out.trans (grown_below HO.out hg4 (Nat.le_refl _) hsz))
          clear ho4 hg4
          go_wp2
          go_roundw
          case rel => exact ⟨k + 1, by omega, by go_num, HO4, HB4⟩
          case measure => simp [intOf]; omega
    · obtain rfl : k = n := by omega
      have HV : Hid (ivK L k = invV L) := Lib.hid (by rw [← Hn.out]; exact ivK_all HOK.out)
      rw [HV.out] at HO
      go_wp2
      go_ret2
      obtain ⟨A5, c5, rfl⟩ := own_slice HO.out
      exact invEnd_yes HOK.out HO.out HB.out

set_option maxHeartbeats 1600000 in
theorem specInverse_no (A : Option Addr) (n c : Nat) (L : List Int) (w : World) (hL : Lies w I A L) (Hn : Hid (L.length = n)) (h3 : n ≤ 301) (HNo : Hid (invOk L = false)) :
    Calls Try.prog 36 #[.slice A n c] w (InvEnd w L) := by
  have HL := Lib.hid hL
  clear hL
  have hf : decide ((301 : Int) < (n : Int)) = false := by simp; omega
  obtain ⟨x0, hx0, hno⟩ := inv_lacks HNo.out (by rw [Hn.out]; exact h3)
  rw [Hn.out] at hx0
  have HX0 := Lib.hid hno
  clear hno
  have hO0 : (w.alloc (Obj.cells #[] 3)).ownsRow w.heap.size 3 1 (.slice (some ⟨w.heap.size, 0, none⟩) 0 0) ([] : List Int).length (([] : List Int).map I) := World.ownsRow_lit w _ _ (Nat.le_refl _) (show 0 ≤ maxLen by decide) rfl
  have HO0 := Lib.hid hO0
  have HB0 : Hid (Below w.heap.size w (w.alloc (Obj.cells #[] 3))) := Lib.hid ((Below.refl _ _).alloc (Nat.le_refl _) _)
  clear hO0
  go_enter Try.func36, Try.ntmps36
  go_wp2_with fail
  generalize w.alloc (Obj.cells #[] 3) = w0 at *
  go_loopw [4, 5] (fun v i wr => ∃ (k : Nat) (D : List Int), k ≤ x0 ∧ D.length = k ∧ i = .int .i64 k ∧ Hid (wr.ownsRow w.heap.size 3 1 v D.length (D.map I)) ∧ Hid (Below w.heap.size w wr)) (fun _ i _ => n - (intOf i).toNat)
  case atStart => exact ⟨0, [], Nat.zero_le _, rfl, rfl, HO0, HB0⟩
  case round =>
    obtain ⟨k, D, hk, hD, rfl, HO, HB⟩ := hrel
    clear HO0 HB0
    have hlt : k < n := by omega
    go_wp2
    go_loop [6, 7] (fun a i => ∃ (j : Nat) (q : Int), j ≤ n ∧ i = .int .i64 j ∧ a = .int .i64 q ∧ -1 ≤ q ∧ q ≤ 301 ∧ (k = x0 → q = -1)) (fun _ i => n - (intOf i).toNat)
    case atStart => exact ⟨0, -1, Nat.zero_le _, rfl, rfl, by omega, by omega, fun _ => rfl⟩
    case round =>
      obtain ⟨j, q, hj, rfl, rfl, hq1, hq2, hq3⟩ := hrel
      by_cases hjn : j < n
      · obtain ⟨b, o, x, hA, hbl, hx, hc0⟩ := HL.out.at_ (i := j) (by rw [Hn.out]; exact hjn)
        subst hA
        have hc : wr.cell? ⟨b, o + j, none⟩ = some (I x) := (HB.out.cell (p := ⟨b, o + j, none⟩) hbl).trans hc0
        clear hc0
        by_cases hxk : x = (k : Int)
        · subst hxk
          have hkx : k ≠ x0 := fun e => HX0.out (e ▸ List.mem_of_getElem? hx)
          clear hx
          go_wp2
          go_round
          case rel => exact ⟨j + 1, j, by omega, by go_num, rfl, by omega, by omega, fun e => absurd e hkx⟩
          case measure => simp [intOf]; omega
        · have hne : (x == (k : Int)) = false := by rw [beq_eq_false_iff_ne]; exact hxk
          clear hx
          go_wp2
          go_round
          case rel => exact ⟨j + 1, q, by omega, by go_num, rfl, hq1, hq2, hq3⟩
          case measure => simp [intOf]; omega
      · by_cases hneg : q < 0
        · have hd : decide (q < 0) = true := by simpa using hneg
          go_wp2
          go_ret2
          exact invEnd_no HNo.out HB.out
        · have hd : decide (q < 0) = false := by simpa using hneg
          have hkx : k ≠ x0 := fun e => by have := hq3 e; omega
          have hsz := HB.out.size
          obtain ⟨E, hE⟩ : ∃ E, D ++ [q] = E := ⟨_, rfl⟩
          have hEl : E.length = k + 1 := by rw [← hE]; simp [hD]
          have HE := Lib.hid hE
          clear hE hq3
          go_wp2_with (at_builtin; refine wpList_pushI rfl _ _ rfl w.heap.size _ _ _ rfl HO.out q rfl hsz (by omega) _ HE.out ?_)
          intro A4 c4 w4 ho4 hg4
          have HO4 := Lib.hid ho4
          have HB4 := Lib.hid (HB.out.trans (grown_below HO.out hg4 (Nat.le_refl _) hsz))
          clear ho4 hg4
          go_wp2
          go_roundw
          case rel => exact ⟨k + 1, E, by omega, hEl, by go_num, by rw [hEl]; exact HO4, HB4⟩
          case measure => simp [intOf]; omega

theorem specInverse_any (A : Option Addr) (c : Nat) (L : List Int) (w : World) (hL : Lies w I A L) (hbig : L.length ≤ 17592186044416) :
    Calls Try.prog 36 #[.slice A L.length c] w (InvEnd w L) := by
  by_cases h3 : L.length ≤ 301
  · cases h : invOk L
    · exact specInverse_no A L.length c L w hL (Lib.hid rfl) h3 (Lib.hid h)
    · exact specInverse_yes A L.length c L w hL (Lib.hid rfl) h3 (Lib.hid h)
  · obtain ⟨n, hn⟩ : ∃ n, L.length = n := ⟨_, rfl⟩
    have hf : decide ((301 : Int) < (n : Int)) = true := by simp; omega
    have HE : Hid (invOk L = false) := Lib.hid (by
      cases h : invOk L
      · rfl
      · exact absurd ((invOk_iff L).1 h).1 (by omega))
    rw [hn] at h3 hbig ⊢
    clear hn hL
    go_enter Try.func36, Try.ntmps36
    go_wp2
    go_ret2
    exact invEnd_no HE.out (Below.refl _ _)

end Go.Proofs.Ytlgnndfhpnbhmaa
