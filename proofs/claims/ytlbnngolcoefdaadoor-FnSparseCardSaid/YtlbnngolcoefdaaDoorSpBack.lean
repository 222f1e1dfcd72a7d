import Derived.Test.YtlbnngolcoefdaaDoorSp20
import Derived.Test.YtlbnngolcoefdaaDoorSp17
/- SparseHas of the program and of the specification (door seat). -/
namespace Go.Proofs.YtlbnngolcoefdaaDoor
open Go.RowKit
set_option maxRecDepth 100000

theorem split_first (x : Int) : ∀ B : List Int, (∀ y ∈ B, y < x) ∨ ∃ pre y rest, B = pre ++ y :: rest ∧ (∀ z ∈ pre, z < x) ∧ ¬ y < x
  | [] => .inl (by simp)
  | a :: B => by
    by_cases ha : a < x
    · rcases split_first x B with h | ⟨pre, y, rest, rfl, h1, h2⟩
      · refine .inl fun y hy => ?_
        rcases List.mem_cons.1 hy with rfl | h'
        · exact ha
        · exact h y h'
      · refine .inr ⟨a :: pre, y, rest, rfl, fun z hz => ?_, h2⟩
        rcases List.mem_cons.1 hz with rfl | h'
        · exact ha
        · exact h1 z h'
    · exact .inr ⟨[], a, B, rfl, by simp, ha⟩

/-- In a sorted list the number behind the smaller ones is x just where x is in it. -/
theorem has_cut {u x : Int} {B : List Int} (hs : srt u 0 B = true) : x ∈ B ↔ B[(B.filter fun z => decide (z < x)).length]? = some x := by
  refine ⟨fun hx => ?_, fun h => List.mem_of_getElem? h⟩
  rcases split_first x B with h | ⟨pre, y, rest, rfl, h1, h2⟩
  · exact absurd (h x hx) (by omega)
  · have hf := filter_cut (B := pre ++ y :: rest) (pre := pre) (y := y) hs ⟨rest, by simp⟩ h1 h2
    rw [hf]
    have hy : (pre ++ y :: rest)[pre.length]? = some y := by simp
    rw [hy]
    rcases List.mem_append.1 hx with h | h
    · exact absurd (h1 x h) (by omega)
    · obtain ⟨j, hj⟩ := List.mem_iff_getElem?.1 h
      have h3 : (pre ++ y :: rest)[pre.length + j]? = some x := by
        rw [List.getElem?_append_right (by omega), Nat.add_sub_cancel_left]
        exact hj
      have := srt_mono hs pre.length (pre.length + j) y x (by omega) hy h3
      rw [show y = x by omega]

/-- What SparseHas is to return. -/
def shV (V N P M K : Int) (Ws : List Nat) (H : Int) (Vs : List Nat) (x : Int) : Bool := decide (x ∈ slV V N P M K Ws H Vs)

theorem shV_no {V N P M K : Int} {Ws : List Nat} {H : Int} {Vs : List Nat} (x : Int) (h : okS V N P M K Ws H Vs = false) : srV V N P M K Ws H Vs x = -1 ∧ shV V N P M K Ws H Vs x = false := by
  constructor
  · unfold srV; rw [h]; rfl
  · have : slV V N P M K Ws H Vs = [] := by unfold slV; rw [h]; rfl
    unfold shV
    rw [this]
    simp

theorem shV_yes {V N P M K : Int} {Ws : List Nat} {H : Int} {Vs : List Nat} (x : Int) (h : okS V N P M K Ws H Vs = true) :
    ∃ k : Nat, srV V N P M K Ws H Vs x = k ∧ k ≤ 5000 ∧ ((k : Int) < N → (shV V N P M K Ws H Vs x = decide (satV V N P M K Ws H Vs k = x))) ∧ (N ≤ (k : Int) → shV V N P M K Ws H Vs x = false) := by
  obtain ⟨hlen, h0, h5⟩ := okS_count h
  have hs : srt V 0 (slV V N P M K Ws H Vs) = true := by
    obtain ⟨_, _, _, _, _, _, _, _, _, hs, _⟩ := okS_parts h
    unfold slV
    rw [if_pos h]
    exact hs
  have hr : srV V N P M K Ws H Vs x = (((slV V N P M K Ws H Vs).filter fun y => decide (y < x)).length : Int) := by unfold srV slV; rw [if_pos h, if_pos h]
  have hc := has_cut (x := x) hs
  have hle := List.length_filter_le (fun y => decide (y < x)) (slV V N P M K Ws H Vs)
  unfold satV shV
  generalize slV V N P M K Ws H Vs = B at *
  generalize (B.filter fun y => decide (y < x)).length = k at *
  refine ⟨k, hr, by omega, fun hk => ?_, fun hk => ?_⟩
  · rw [if_pos ⟨by omega, by omega⟩, Int.toNat_natCast]
    have hk' : k < B.length := by omega
    rw [List.getElem?_eq_getElem hk'] at hc ⊢
    rw [Option.getD_some]
    simp only [decide_eq_decide]
    rw [hc, Option.some_inj]
  · simp only [decide_eq_false_iff_not]
    rw [hc, List.getElem?_eq_none (by omega)]
    simp

set_option maxHeartbeats 1600000 in
theorem implSparseHas_any (V N P M K H : Int) (A A' : Option Addr) (c c' : Nat) (Ws Vs : List Nat) (x : Int) (w : World) (hL : Lies w U A Ws) (hL' : Lies w U A' Vs) (hw : ∀ x ∈ Ws, x < 2 ^ 64) (hw' : ∀ x ∈ Vs, x < 2 ^ 64) (hN : N ≤ 9223372036854775807) (hlc : Vs.length ≤ c' ∧ c' ≤ 9223372036854775807) (hT : Tab w) :
    Calls Tryd.prog 19 #[SP V N P M K (.slice A Ws.length c) H (.slice A' Vs.length c'), .int .i64 x] w fun e w' => e = .returned (.bool (shV V N P M K Ws H Vs x)) ∧ Below w.heap.size w w' := by
  have HL := Lib.hid hL
  have HL' := Lib.hid hL'
  have HW := Lib.hid hw
  have HW' := Lib.hid hw'
  have HTb := Lib.hid hT
  clear hL hL' hw hw' hT
  go_enter Tryd.func19, Tryd.ntmps19
  go_wp2_with fail
  have sc := (Scene.start w).box 33 (SPC V N P M K (.slice A Ws.length c) H (.slice A' Vs.length c'))
  generalize w.alloc (Obj.cells (SPC V N P M K (.slice A Ws.length c) H (.slice A' Vs.length c')) 33) = w1 at *
  refine (implSparseRank_any V N P M K H A A' c c' Ws Vs x _ (sc.liesOld HL.out) (sc.liesOld HL'.out) HW.out HW'.out hN hlc).mono ?_
  rintro e w2 ⟨rfl, hb⟩
  replace sc := sc.step hb
  clear hb
  obtain ⟨⟨p0, p1, p2, p3, p4, p5, p6, p7⟩, _, hbl⟩ := box_eight (sc.getBox 0 rfl)
  cases hok : okS V N P M K Ws H Vs
  · obtain ⟨e1, e2⟩ := shV_no x hok
    have HV := Lib.hid e2
    rw [e1]
    have HB := Lib.hid sc.below
    clear sc hok e1 e2
    go_wp2
    go_ret
    exact ⟨ret_bool HV.out.symm, HB.out⟩
  · obtain ⟨k, e1, hk5, e2, e3⟩ := shV_yes x hok
    rw [e1]
    by_cases h1 : (k : Int) < N
    · have t1 : decide ((k : Int) < N) = true := by simpa using h1
      have HV := Lib.hid (e2 h1)
      clear hok e1 e2 e3
      have CAt := Lib.hid fun (W : World) (h1 : Lies W U A Ws) (h2 : Lies W U A' Vs) (h3 : Tab W) => implSparseAt_any V N P M K H A A' c c' Ws Vs k W h1 h2 HW.out HW'.out hN hlc (by omega) h3
      generalize satV V N P M K Ws H Vs k = z at *
      by_cases hz : z = x
      · subst hz
        rw [decide_eq_true rfl] at HV
        go_wp2_with fail
        clear p0 p1 p2 p3 p4 p5 p6 p7 hbl t1
        refine (CAt.out _ (sc.liesOld HL.out) (sc.liesOld HL'.out) (HTb.out.below sc.below)).mono ?_
        rintro e w5 ⟨rfl, hb5⟩
        replace sc := sc.step hb5
        clear hb5
        have HB := Lib.hid sc.below
        clear sc
        go_wp2
        go_ret
        exact ⟨ret_bool (by rw [HV.out]), HB.out⟩
      · rw [decide_eq_false hz] at HV
        have tz : (z == x) = false := by simpa using hz
        go_wp2_with fail
        clear p0 p1 p2 p3 p4 p5 p6 p7 hbl t1
        refine (CAt.out _ (sc.liesOld HL.out) (sc.liesOld HL'.out) (HTb.out.below sc.below)).mono ?_
        rintro e w5 ⟨rfl, hb5⟩
        replace sc := sc.step hb5
        clear hb5
        have HB := Lib.hid sc.below
        clear sc
        go_wp2
        go_ret
        exact ⟨ret_bool (by rw [HV.out]), HB.out⟩
    · have t1 : decide ((k : Int) < N) = false := by simpa using h1
      have HV := Lib.hid (e3 (by omega))
      have HB := Lib.hid sc.below
      clear sc hok e1 e2 e3
      go_wp2
      go_ret
      exact ⟨ret_bool HV.out.symm, HB.out⟩

theorem mem_take_step {B : List Int} {x y : Int} {k : Nat} (h : B[k]? = some y) (hn : x ∉ B.take k) (hy : ¬ y = x) : x ∉ B.take (k + 1) := by
  rw [List.take_add_one, h, Option.toList_some, List.mem_append, List.mem_singleton]
  rintro (h1 | h1)
  · exact hn h1
  · exact hy h1.symm

set_option maxHeartbeats 800000 in
theorem specSparseHas_any (V N P M K H : Int) (A A' : Option Addr) (c c' : Nat) (Ws Vs : List Nat) (x : Int) (w : World) (hL : Lies w U A Ws) (hL' : Lies w U A' Vs) (hw : ∀ x ∈ Ws, x < 2 ^ 64) (hw' : ∀ x ∈ Vs, x < 2 ^ 64) :
    Calls Tryd.prog 34 #[SP V N P M K (.slice A Ws.length c) H (.slice A' Vs.length c'), .int .i64 x] w fun e w' => e = .returned (.bool (shV V N P M K Ws H Vs x)) ∧ Below w.heap.size w w' := by
  have HL := Lib.hid hL
  have HL' := Lib.hid hL'
  have HW := Lib.hid hw
  have HW' := Lib.hid hw'
  have HV : Hid (shV V N P M K Ws H Vs x = decide (x ∈ slV V N P M K Ws H Vs)) := Lib.hid rfl
  have hBl := slV_len V N P M K Ws H Vs
  clear hL hL' hw hw'
  go_enter Tryd.func34, Tryd.ntmps34
  go_wp2_with fail
  have sc := (Scene.start w).box 33 (SPC V N P M K (.slice A Ws.length c) H (.slice A' Vs.length c'))
  generalize w.alloc (Obj.cells (SPC V N P M K (.slice A Ws.length c) H (.slice A' Vs.length c')) 33) = w1 at *
  refine (specSparseList_any V N P M K H A A' c c' Ws Vs _ (sc.liesOld HL.out) (sc.liesOld HL'.out) HW.out HW'.out).mono ?_
  rintro e w3 ⟨Al, cl, rfl, ho, hb3⟩
  have HLi := Lib.hid (Lies.of_own ho)
  have HB := Lib.hid (below_then sc.below hb3)
  clear sc ho hb3
  generalize slV V N P M K Ws H Vs = B at *
  go_wp2
  go_loop [6] (fun i => ∃ k : Nat, k ≤ B.length ∧ i = .int .i64 k ∧ Hid (x ∉ B.take k)) (fun i => B.length - (intOf i).toNat)
  case atStart => exact ⟨0, Nat.zero_le _, rfl, Lib.hid (by simp)⟩
  case round =>
    obtain ⟨k, hk, rfl, hno⟩ := hrel
    by_cases hlt : k < B.length
    · obtain ⟨b, o, y, hA, hbl, hy, hc⟩ := HLi.out.at_ hlt
      subst hA
      by_cases hyx : y = x
      · have HY := Lib.hid (List.mem_of_getElem? hy)
        subst hyx
        clear hy
        go_wp2
        go_ret
        exact ⟨ret_bool (by rw [HV.out, decide_eq_true HY.out]), HB.out⟩
      · have HS := Lib.hid (mem_take_step hy hno.out hyx)
        have ty : (y == x) = false := by simpa using hyx
        clear hy hno
        go_wp2
        go_round
        case rel => exact ⟨k + 1, by omega, by go_num, HS⟩
        case measure => simp [intOf]; omega
    · obtain rfl : k = B.length := by omega
      rw [List.take_of_length_le (Nat.le_refl _)] at hno
      go_wp2
      go_ret
      exact ⟨ret_bool (by rw [HV.out, decide_eq_false hno.out]), HB.out⟩

end Go.Proofs.YtlbnngolcoefdaaDoor

/- What SparseOf returns is valid, and its numbers are those of the list; where a number stands first in a sorted list. -/
namespace Go.Proofs.YtlbnngolcoefdaaDoor

theorem qt_back {B : List Int} {i : Nat} {x : Int} (wd : Nat) (h : B[i]? = some x) (h0 : 0 ≤ x) : (qt B wd i : Int) * 2 ^ wd + x % 2 ^ wd = x := by
  obtain ⟨y, rfl⟩ := Int.eq_ofNat_of_zero_le h0
  rw [qt_at h, div_int, Int.toNat_natCast]
  exact_mod_cast Nat.div_add_mod' y (2 ^ wd)

/-- The list that the bits and the remainders give. -/
theorem spl_back {B : List Int} {u wd m : Nat} {Vs : List Nat} (hs : srt u 0 B = true) (hB : bitsOf m Vs = hb B wd B.length m) (hm : ∀ i, i < B.length → i + qt B wd i < m) : spl wd (rems wd B) Vs m = B := by
  have key : ∀ k, k ≤ m → cnt Vs 1 k ≤ B.length ∧ (∀ i, i < cnt Vs 1 k → i + qt B wd i < k) ∧ (∀ i, cnt Vs 1 k ≤ i → i < B.length → k ≤ i + qt B wd i) ∧ spl wd (rems wd B) Vs k = B.take (cnt Vs 1 k) := by
    intro k
    induction k with
    | zero =>
      intro _
      have e : cnt Vs 1 0 = 0 := rfl
      rw [e]
      exact ⟨Nat.zero_le _, fun i hi => absurd hi (Nat.not_lt_zero i), fun _ _ _ => Nat.zero_le _, rfl⟩
    | succ k ih =>
      intro hk
      obtain ⟨h1, h2, h3, h4⟩ := ih (by omega)
      have hbit : (bitsOf m Vs)[k]? = some (bitN Vs k : Int) := bitsOf_get _ _ _ (by omega)
      rw [hB] at hbit
      unfold hb at hbit
      rw [List.getElem?_map, List.getElem?_range (by omega), Option.map_some] at hbit
      have hbit := Option.some.inj hbit
      by_cases hany : (List.range B.length).any (fun i => decide (i + qt B wd i = k)) = true
      · rw [if_pos hany] at hbit
        have hb1 : bitN Vs k = 1 := by omega
        obtain ⟨i, hi, e⟩ := List.any_eq_true.1 hany
        rw [List.mem_range] at hi
        have e := of_decide_eq_true e
        have hci : cnt Vs 1 k ≤ i := by
          rcases Nat.lt_or_ge i (cnt Vs 1 k) with hlt | hge
          · have := h2 i hlt; omega
          · exact hge
        have hcl : cnt Vs 1 k < B.length := by omega
        have hq := qt_mono hs rfl wd (cnt Vs 1 k) i hci hi
        have h3c := h3 (cnt Vs 1 k) (Nat.le_refl _) hcl
        have hx : B[cnt Vs 1 k]? = some (B[cnt Vs 1 k]'hcl) := List.getElem?_eq_getElem hcl
        have hlow : (rems wd B)[cnt Vs 1 k]? = some ((B[cnt Vs 1 k]'hcl) % 2 ^ wd) := by
          unfold rems
          rw [List.getElem?_map, hx]
          rfl
        have hz : cnt Vs 0 k = qt B wd (cnt Vs 1 k) := by
          have := cnt_sum Vs k
          omega
        rw [cnt_one, if_pos hb1, spl_push wd _ Vs k _ hb1 hlow, h4, hz, qt_back wd hx (srt_get hs _ _ hx).1]
        refine ⟨by omega, ?_, ?_, ?_⟩
        · intro j hj
          rcases Nat.lt_or_ge j (cnt Vs 1 k) with hlt | hge
          · have := h2 j hlt; omega
          · have : j = cnt Vs 1 k := by omega
            subst this
            omega
        · intro j hj hjl
          have := qt_mono hs rfl wd (cnt Vs 1 k) j (by omega) hjl
          omega
        · rw [List.take_add_one, hx]
          rfl
      · rw [if_neg hany] at hbit
        have hb1 : ¬ bitN Vs k = 1 := by omega
        rw [cnt_one, if_neg hb1, Nat.add_zero, spl_no wd _ Vs k hb1, h4]
        refine ⟨h1, fun i hi => by have := h2 i hi; omega, fun i hi hil => ?_, rfl⟩
        have := h3 i hi hil
        have : ¬ i + qt B wd i = k := fun e => hany (List.any_eq_true.2 ⟨i, List.mem_range.2 hil, decide_eq_true e⟩)
        omega
  obtain ⟨h1, _, h3, h4⟩ := key m (Nat.le_refl _)
  have : cnt Vs 1 m = B.length := by
    rcases Nat.lt_or_ge (cnt Vs 1 m) B.length with hlt | hge
    · have := h3 _ (Nat.le_refl _) hlt
      have := hm _ hlt
      omega
    · omega
  rw [h4, this, List.take_length]

theorem sp_back {B : List Int} {u : Int} (hok : spOk B u = true) : okS (spU B u) (spN B u) (spP B u) (spM B u) (spK B u) (spW B u) (spH B u) (spV B u) = true ∧ splV (spP B u) (spM B u) (spK B u) (spW B u) (spH B u) (spV B u) = B := by
  have h0 := hok
  unfold spOk at h0
  rw [Bool.and_eq_true] at h0
  obtain ⟨hf, hs⟩ := h0
  obtain ⟨v, rfl, hv, hfit, hhi, hn5⟩ := spFits_nat hf
  have hpo : poOk (rems (lowV B.length v) B) (lowV B.length v) = true := by rw [rems_ok]; exact hfit
  obtain ⟨p1, p2, _⟩ := pack_back _ _ hpo
  have hhb := hb_ok B (lowV B.length v) B.length (hiV B.length v) hhi
  have hbits := hb_bits B (lowV B.length v) B.length (hiV B.length v)
  have hbw := bits_words _ hbits
  rw [hb_len] at hbw
  have how := ok_words (hiV B.length v) _ hbits (hb_len _ _ _ _) hhi
  have eU : spU B v = (v : Int) := if_pos hok
  have eP : spP B v = (lowV B.length v : Int) := by
    unfold spP spWd
    rw [if_pos hok, Int.toNat_natCast]
    exact if_pos hpo
  have eP0 : spP B v = poP (rems (lowV B.length v) B) (lowV B.length v) := by
    unfold spP spWd
    rw [if_pos hok, Int.toNat_natCast]
  have eM : spM B v = poN (rems (lowV B.length v) B) (lowV B.length v) := by
    unfold spM spWd
    rw [if_pos hok, Int.toNat_natCast]
  have eK : spK B v = poM (rems (lowV B.length v) B) (lowV B.length v) := by
    unfold spK spWd
    rw [if_pos hok, Int.toNat_natCast]
  have eW : spW B v = poW (rems (lowV B.length v) B) (lowV B.length v) := by
    unfold spW spWd
    rw [if_pos hok, Int.toNat_natCast]
  have eH : spH B v = (hiV B.length v : Int) := by
    unfold spH spHl spWd resN
    rw [if_pos hok, Int.toNat_natCast, if_pos hhb, hb_len]
  have eV : spV B v = wordsOf (hb B (lowV B.length v) B.length (hiV B.length v)) := by
    unfold spV spHl spWd resW
    rw [if_pos hok, Int.toNat_natCast, if_pos hhb]
  have hspl : splV (spP B v) (spM B v) (spK B v) (spW B v) (spH B v) (spV B v) = B := by
    unfold splV
    have hpl : plV (spP B v) (spM B v) (spK B v) (spW B v) = rems (lowV B.length v) B := by rw [eP0, eM, eK, eW]; exact p2
    rw [hpl, eP, eH, eV, Int.toNat_natCast, Int.toNat_natCast]
    refine spl_back hs hbw fun i hi => ?_
    have := qt_le hs rfl (lowV B.length v) i hi
    unfold hiV
    omega
  refine ⟨okT_okS ?_, hspl⟩
  unfold okT
  rw [hspl, eU]
  simp only [Bool.and_eq_true, decide_eq_true_iff]
  have hl20 := lowV_le B.length v hv
  refine ⟨?_, ?_, ?_, hok, trivial, trivial, trivial, ⟨trivial, trivial⟩, trivial, trivial⟩
  · rw [eP0, eM, eK, eW]; exact p1
  · rw [eH, eV]; exact how
  · rw [eP]; omega

theorem sp_first {u x : Int} {B : List Int} (hs : srt u 0 B = true) {k : Nat} (hx : B[k]? = some x) : (B.filter fun y => decide (y < x)).length ≤ k ∧ B[(B.filter fun y => decide (y < x)).length]? = some x := by
  have hm : x ∈ B := List.mem_of_getElem? hx
  refine ⟨?_, (has_cut hs).1 hm⟩
  rcases split_first x B with hall | ⟨pre, y, rest, rfl, h1, h2⟩
  · exact absurd (hall x hm) (by omega)
  · rw [filter_cut (u := u) hs ⟨rest, by simp⟩ h1 h2]
    rcases Nat.lt_or_ge k pre.length with hlt | hge
    · rw [List.getElem?_append_left hlt] at hx
      exact absurd (h1 x (List.mem_of_getElem? hx)) (by omega)
    · exact hge

theorem spW_lt (B : List Int) (u : Int) : ∀ x ∈ spW B u, x < 2 ^ 64 := by
  unfold spW poW
  intro x hx
  split at hx
  · split at hx
    · unfold digits at hx
      obtain ⟨j, _, rfl⟩ := List.mem_map.1 hx
      exact Nat.mod_lt _ (Nat.two_pow_pos 64)
    · cases hx
  · cases hx
theorem spV_lt (B : List Int) (u : Int) : ∀ x ∈ spV B u, x < 2 ^ 64 := by
  unfold spV resW
  intro x hx
  split at hx
  · split at hx
    · exact wordsOf_lt _ (hb_bits _ _ _ _) x hx
    · cases hx
  · cases hx

/-- All that the law FnSparse asks. -/
theorem sparse_law {B : List Int} {u : Int} (hok : spOk B u = true) : ∃ (V N P M K : Int) (Ws : List Nat) (H : Int) (Vs : List Nat), spU B u = V ∧ spN B u = N ∧ spP B u = P ∧ spM B u = M ∧ spK B u = K ∧ spW B u = Ws ∧ spH B u = H ∧ spV B u = Vs ∧
    (∀ x ∈ Ws, x < 2 ^ 64) ∧ (∀ x ∈ Vs, x < 2 ^ 64) ∧ okS V N P M K Ws H Vs = true ∧ slV V N P M K Ws H Vs = B ∧ srV V N P M K Ws H Vs u = (B.length : Int) ∧ B.length ≤ 5000 ∧ N ≤ 5000 ∧
    ∀ (k : Nat) (x : Int), B[k]? = some x → ∃ r : Nat, srV V N P M K Ws H Vs x = r ∧ r ≤ k ∧ B[r]? = some x ∧ satV V N P M K Ws H Vs k = x ∧ shV V N P M K Ws H Vs x = true := by
  obtain ⟨h1, h2⟩ := sp_back hok
  have hsl : slV (spU B u) (spN B u) (spP B u) (spM B u) (spK B u) (spW B u) (spH B u) (spV B u) = B := by
    unfold slV
    rw [if_pos h1, h2]
  have h0 := hok
  unfold spOk at h0
  rw [Bool.and_eq_true] at h0
  obtain ⟨hf, hs⟩ := h0
  obtain ⟨v, _, _, _, _, hn5⟩ := spFits_nat hf
  have hc := okS_count h1
  refine ⟨_, _, _, _, _, _, _, _, rfl, rfl, rfl, rfl, rfl, rfl, rfl, rfl, spW_lt _ _, spV_lt _ _, h1, hsl, ?_, hn5, hc.2.2, ?_⟩
  · unfold srV
    rw [if_pos h1, h2, filter_all]
    intro y hy
    obtain ⟨i, hi⟩ := List.mem_iff_getElem?.1 hy
    exact (srt_get hs i y hi).2
  · intro k x hx
    obtain ⟨q1, q2⟩ := sp_first hs hx
    refine ⟨_, ?_, q1, q2, ?_, ?_⟩
    · unfold srV
      rw [if_pos h1, h2]
    · unfold satV
      have hk := (List.getElem?_eq_some_iff.1 hx).1
      rw [hsl, if_pos ⟨by omega, by omega⟩, Int.toNat_natCast, hx]
      rfl
    · unfold shV
      rw [hsl]
      exact decide_eq_true (List.mem_of_getElem? hx)

end Go.Proofs.YtlbnngolcoefdaaDoor
