/- The symbols in the order of their codes. -/
import Derived.Test.YtoehgcakfblblaaSt4
import Derived.Test.YtoehgcakfblblaaHf4
import Derived.Test.YtoehgcakfblblaaAppI
namespace Go.Proofs.Ytoehgcakfblblaa
open Go.RowKit Go.Sort Go.Shelf Go.Lib
set_option maxRecDepth 100000

/-- The symbols below k that have a code. -/
def symL (L : List Int) (k : Nat) : List Nat := (List.range k).filter fun j => decide (0 < gl L j)
theorem symL_yes {L : List Int} {k : Nat} (h : 0 < gl L k) : (symL L k).map Int.ofNat ++ [(k : Int)] = (symL L (k + 1)).map Int.ofNat := by
  unfold symL
  rw [List.range_succ, List.filter_append, List.map_append]
  simp [h]
theorem symL_no {L : List Int} {k : Nat} (h : ¬ 0 < gl L k) : (symL L k).map Int.ofNat = (symL L (k + 1)).map Int.ofNat := by
  unfold symL
  rw [List.range_succ, List.filter_append]
  simp [h]
theorem symL_len (L : List Int) (k : Nat) : ((symL L k).map Int.ofNat).length ≤ k := by
  rw [List.length_map]
  exact Nat.le_trans (List.length_filter_le _ _) (by simp)
theorem symL_mem {L : List Int} {k x : Nat} : x ∈ symL L k ↔ x < k ∧ 0 < gl L x := by simp [symL]
theorem symL_nodup (L : List Int) (k : Nat) : (symL L k).Nodup := List.Pairwise.filter _ List.nodup_range
theorem symL_sorted (L : List Int) (k : Nat) : (symL L k).Pairwise (· < ·) := List.Pairwise.filter _ List.pairwise_lt_range
theorem hsum_none (L : List Int) (h : ∀ j, j < L.length → ¬ 0 < gl L j) : hsum L = 0 := by
  rw [hsum_rs]
  exact rs_zero fun j hj => hw_zero (h j hj)
theorem hcnt_none (L : List Int) (h : ∀ j, j < L.length → ¬ 0 < gl L j) : hcnt L = 0 := by
  induction L with
  | nil => rfl
  | cons l L ih =>
    have h0 := h 0 (by simp)
    rw [hcnt, ih fun j hj => by have := h (j + 1) (by simpa using hj); rwa [gl_cons] at this]
    have : gl (l :: L) 0 = l := rfl
    rw [this] at h0
    rw [if_neg h0]
theorem symL_some {L : List Int} (ok : okH L = true) : symL L L.length ≠ [] := by
  intro e
  have h : ∀ j, j < L.length → ¬ 0 < gl L j := fun j hj h0 => by
    have : j ∈ symL L L.length := symL_mem.mpr ⟨hj, h0⟩
    rw [e] at this
    cases this
  have h1 := hsum_none L h
  have h2 := hcnt_none L h
  simp only [okH, Bool.and_eq_true, Bool.or_eq_true, decide_eq_true_eq] at ok
  omega

/-- The symbols in the order of their codes. -/
def CodeOrd (L : List Int) (s : List Nat) : Prop := s.Perm (symL L L.length) ∧ ∀ (p q x y : Nat), p < q → s[p]? = some x → s[q]? = some y → gl L x < gl L y ∨ (gl L x = gl L y ∧ x < y)

/-! ### The order, called -/
def cfH (L : List Int) (m : Nat) (i j : Fin (m + 1)) : Int := Lib.compareInt (gl L i.val) (gl L j.val)
def ltH (L : List Int) (m : Nat) (i j : Fin (m + 1)) : Bool := decide (gl L i.val < gl L j.val ∨ (gl L i.val = gl L j.val ∧ i.val < j.val))
theorem cmp_neg (x y : Int) : decide (Lib.compareInt x y < 0) = decide (x < y) := by
  unfold Lib.compareInt
  split
  · rename_i h; simp; omega
  · split
    · rename_i h h2; simp; omega
    · rename_i h h2; simp; omega
theorem keyH (L : List Int) (m : Nat) : KeyO (cfH L m) (ltH L m) (fun i : Fin (m + 1) => i.val) where
  swo := {
    irrefl := fun x => by unfold ltH; simp
    trans := fun x y z h1 h2 => by
      unfold ltH at *
      simp only [decide_eq_true_eq] at *
      omega
    ntrans := fun x y z h1 h2 => by
      unfold ltH at *
      simp only [decide_eq_false_iff_not] at *
      omega }
  agree := fun x y h => by
    unfold ltOf cfH ltH
    rw [cmp_neg]
    have h' : x.val < y.val := h
    have e : (gl L y.val < gl L x.val ∨ gl L y.val = gl L x.val ∧ y.val < x.val) ↔ gl L y.val < gl L x.val := by omega
    exact decide_eq_decide.mpr e.symm

set_option maxHeartbeats 1600000 in
theorem ordH (b0 : Nat) (A : Option Addr) (n c : Nat) (L : List Int) (i j : Nat) (W : World) (Hn : Hid (L.length = n)) (hx : W.cell? ⟨b0, 0, none⟩ = some (.slice A n c)) (hL : Lies W I A L) (hi : i < n) (hj : j < n) :
    Calls Try.prog 120 #[.int .i64 i, .int .i64 j, .pointer (some ⟨b0, 0, none⟩)] W fun e w' => e = .returned (.int .i64 (Lib.compareInt (gl L i) (gl L j))) ∧ ∃ q, w' = W.drewN q := by
  obtain ⟨b, o, x, hA, hbl, hxi, hci⟩ := hL.at_ (i := i) (by rw [Hn.out]; exact hi)
  obtain ⟨b', o', y, hA', _, hyj, hcj⟩ := hL.at_ (i := j) (by rw [Hn.out]; exact hj)
  subst hA
  cases hA'
  rw [gl_eq hxi, gl_eq hyj]
  have HC := Lib.hid fun (x y : Int) (W' : World) => Try.cmp_Compare_int x y W'
  have i0 : (i : Int) < (n : Int) := by omega
  have j0 : (j : Int) < (n : Int) := by omega
  clear hL hxi hyj
  go_enter Try.func120, Try.ntmps120
  go_wp2
  go_quiet ((go_at_call 117; exact Calls.quiet_of_same (HC.out _ _ _)))
  go_wp2
  go_ret
  exact ⟨rfl, _, rfl⟩

section
variable {α : Type} [Inhabited α] (enc : α → Value) (w : World) (g m : Nat) (d : Array α) (os : Array Obj)
theorem sortH_block (b : Nat) (hb : b < w.heap.size) (hne : b ≠ g) : (sortWorld enc w g 0 m d os).heap[b]? = w.heap[b]? := by
  show ((w.heap.modify g (onCells (putCells enc 0 d))) ++ os)[b]? = _
  rw [Array.getElem?_append_left (by simpa using hb), Array.getElem?_modify, if_neg (fun e => hne e.symm)]
theorem sortH_row {cs : Array Value} {t : TypeId} {fz : Nat × Nat} (h : w.heap[g]? = some (.cells cs t fz)) : (sortWorld enc w g 0 m d os).heap[g]? = some (.cells (putCells enc 0 d cs) t fz) := by
  have hg : g < w.heap.size := (Array.getElem?_eq_some_iff.1 h).1
  show ((w.heap.modify g (onCells (putCells enc 0 d))) ++ os)[g]? = _
  rw [Array.getElem?_append_left (by simpa using hg), Array.getElem?_modify, if_pos rfl, h]
  rfl
theorem putH_take {cs : Array Value} (hs : d.size ≤ cs.size) : (putCells enc 0 d cs).toList.take d.size = d.toList.map enc := by
  apply List.ext_getElem?
  intro k
  by_cases hk : k < d.size
  · rw [List.getElem?_take_of_lt hk, Array.getElem?_toList, List.getElem?_map, Array.getElem?_toList, Array.getElem?_eq_getElem hk]
    unfold putCells
    rw [Array.getElem?_mapIdx, Array.getElem?_eq_getElem (by omega)]
    simp only [Option.map_some]
    rw [if_pos ⟨Nat.zero_le _, by omega⟩, Nat.sub_zero, getElem!_pos d k hk]
  · rw [List.getElem?_eq_none (by simp; omega), List.getElem?_eq_none (by simp; omega)]
theorem sortH_grown : w.grownBy (sortWorld enc w g 0 m d os) (some g) := by
  refine ⟨rfl, rfl, rfl, ?_, fun k hk hne => sortH_block enc w g m d os k hk fun e => hne (by rw [e])⟩
  show w.heap.size ≤ ((w.heap.modify g (onCells (putCells enc 0 d))) ++ os).size
  simp
end

theorem finH_val {m : Nat} {M : List Nat} (h : ∀ x ∈ M, x < m + 1) : ((M.map (Fin.ofNat (m + 1))).toArray).toList.map Fin.val = M := by
  rw [List.toList_toArray, List.map_map]
  conv => rhs; rw [← List.map_id M]
  refine List.map_congr_left fun x hx => ?_
  have := h x hx
  simp
  omega
theorem finH_enc {m : Nat} (d : Array (Fin (m + 1))) : d.toList.map (encS m) = ((d.toList.map Fin.val).map Int.ofNat).map I := by
  rw [List.map_map, List.map_map]
  rfl

set_option maxHeartbeats 1600000 in
theorem sortH_any (b0 g n c base cap : Nat) (A : Option Addr) (L : List Int) (w : World) (Hn : Hid (L.length = n)) (hn : n ≤ 300) (hx : w.cell? ⟨b0, 0, none⟩ = some (.slice A n c)) (hb0 : b0 < w.heap.size) (hne : b0 ≠ g) (hL : Lies w I A L) (hA : ∀ b o, A = some ⟨b, o, none⟩ → b ≠ g) (hok : symL L n ≠ [])
    (ho : w.ownsRow base 3 1 (.slice (some ⟨g, 0, none⟩) ((symL L n).map Int.ofNat).length cap) ((symL L n).map Int.ofNat).length (((symL L n).map Int.ofNat).map I)) :
    Calls Try.prog 119 #[.slice (some ⟨g, 0, none⟩) ((symL L n).map Int.ofNat).length cap, .func (.func 120) #[] #[.pointer (some ⟨b0, 0, none⟩)]] w fun e w' => e = .returned (.tuple #[]) ∧ ∃ s : List Nat, CodeOrd L s ∧ (s.map Int.ofNat).length = ((symL L n).map Int.ofNat).length ∧
      w'.ownsRow base 3 1 (.slice (some ⟨g, 0, none⟩) (s.map Int.ofNat).length cap) (s.map Int.ofNat).length ((s.map Int.ofNat).map I) ∧ w.grownBy w' (some g) := by
  obtain ⟨m, hm⟩ : ∃ m, n = m + 1 := ⟨n - 1, by
    have : n ≠ 0 := fun e => hok (by rw [e]; rfl)
    omega⟩
  have hMx : ∀ x ∈ symL L n, x < m + 1 := fun x h => by have := (symL_mem.mp h).1; omega
  obtain ⟨d, hd⟩ : ∃ d : Array (Fin (m + 1)), ((symL L n).map (Fin.ofNat (m + 1))).toArray = d := ⟨_, rfl⟩
  have hdv : d.toList.map Fin.val = symL L n := by rw [← hd]; exact finH_val hMx
  have hds : d.size = ((symL L n).map Int.ofNat).length := by
    have := congrArg List.length hdv
    simpa using this
  have hrow : ∃ cur, w.heap[g]? = some (.cells cur 3 (0, 0)) ∧ cur.size = cap ∧ base ≤ g ∧ ((symL L n).map Int.ofNat).length ≤ cap ∧ cap ≤ maxLen := by
    rcases ho.2 with ⟨h, _⟩ | ⟨g', cap', cur, hv, hb, hg, h1, h2, hsz, _⟩
    · cases h
    · cases hv
      exact ⟨cur, hg, by omega, hb, h1, h2⟩
  obtain ⟨cur, hgc, hcs, hbg, hnc, hcm⟩ := hrow
  have hgl : g < w.heap.size := (Array.getElem?_eq_some_iff.1 hgc).1
  have hH : Holds (encS m) w g 0 d := fun j hj => by
    rw [Nat.zero_add]
    refine ⟨?_, ho.frozenAt j⟩
    rw [ho.cellAt j (by omega), ← hdv, getElem!_pos d j hj]
    simp [hj, encS]
  have eg : ∀ args w, (callFunc 120 args).run Try.prog w = .ok (.enter 120 args) w := enters_of Try.func120 (by kernel_rfl) rfl
  have hcmp : CmpReads Try.prog 120 #[.pointer (some ⟨b0, 0, none⟩)] (encS m) (cfH L m) g 0 d.size w := fun q os dk hdk x y => by
    have hg := sortH_grown (encS m) w g q dk os
    have h1 : (sortWorld (encS m) w g 0 q dk os).cell? ⟨b0, 0, none⟩ = some (.slice A n c) := by
      have hb := hg.block b0 hb0 (fun e => hne (Option.some.inj e))
      unfold World.cell? at hx ⊢
      simp only at hx ⊢
      rw [hb]
      exact hx
    have h2 : Lies (sortWorld (encS m) w g 0 q dk os) I A L := fun i z hz => by
      obtain ⟨b, o, e1, e2, e3⟩ := hL i z hz
      refine ⟨b, o, e1, Nat.lt_of_lt_of_le e2 hg.size, ?_⟩
      have hb := hg.block b e2 (fun e => hA b o e1 (Option.some.inj e))
      unfold World.cell? at e3 ⊢
      simp only at e3 ⊢
      rw [hb]
      exact e3
    exact ordH b0 A n c L x.val y.val _ Hn h1 h2 (by omega) (by omega)
  have R : Row1 (encS m) w g 0 d := ⟨encS_cell m, hH, hgl⟩
  have hasc : ∀ p q, p < q → q < d.size → (d[p]!).val < (d[q]!).val := fun p q hpq hq => by
    have h := symL_sorted L n
    rw [← hdv] at h
    rw [getElem!_pos d p (by omega), getElem!_pos d q hq]
    have := List.pairwise_iff_getElem.mp h p q (by simp; omega) (by simp; omega) hpq
    simpa using this
  have hlen : d.size ≤ 300 := by rw [hds]; exact Nat.le_trans (symL_len L n) hn
  have hst := stable_any (keyH L m) R hcmp.lays eg cap d w rfl (SW.start hH) hlen hasc
  rw [hds] at hst
  have HST := Lib.hid hst
  have fin : Hid (∀ w', SymPost (ltH L m) w g 0 0 ((symL L n).map Int.ofNat).length d (.returned (.tuple #[])) w' → ∃ s : List Nat, CodeOrd L s ∧ (s.map Int.ofNat).length = ((symL L n).map Int.ofNat).length ∧
      w'.ownsRow base 3 1 (.slice (some ⟨g, 0, none⟩) (s.map Int.ofNat).length cap) (s.map Int.ofNat).length ((s.map Int.ofNat).map I) ∧ w.grownBy w' (some g)) := Lib.hid fun w' ⟨_, d', ⟨q, os, hw⟩, hp, hso⟩ => by
    have hd's : d'.size = d.size := hp.1
    have hpm : (d'.toList.map Fin.val).Perm (symL L n) := by
      have h2 := hp.2.2
      rw [← hds] at h2
      have e1 : d'.extract 0 d.size = d' := by rw [← hd's]; exact Array.extract_size
      have e2 : d.extract 0 d.size = d := Array.extract_size
      rw [e1, e2] at h2
      rw [← hdv]
      exact h2.map _
    have hl : ((d'.toList.map Fin.val).map Int.ofNat).length = ((symL L n).map Int.ofNat).length := by
      have h := hpm.length_eq
      simp only [List.length_map] at h ⊢
      exact h
    refine ⟨d'.toList.map Fin.val, ⟨by rw [Hn.out]; exact hpm, fun p r x y hpr hx hy => ?_⟩, hl, ?_, ?_⟩
    · obtain ⟨hr, ey⟩ := List.getElem?_eq_some_iff.mp hy
      obtain ⟨hp', ex⟩ := List.getElem?_eq_some_iff.mp hx
      have hnd : (d'.toList.map Fin.val).Nodup := hpm.nodup_iff.mpr (symL_nodup L n)
      have hne' : x ≠ y := fun e => by
        rw [← e] at ey
        have := (List.getElem_inj hnd).mp (ex.trans ey.symm)
        omega
      have hr2 : r < d'.size := by simpa using hr
      have hs2 := hso p r (Nat.zero_le _) hpr (by rw [← hds]; omega)
      rw [getElem!_pos d' p (by omega), getElem!_pos d' r hr2] at hs2
      have ex2 : (d'[p]'(by omega)).val = x := by rw [← ex]; simp
      have ey2 : (d'[r]'hr2).val = y := by rw [← ey]; simp
      unfold ltH at hs2
      rw [ex2, ey2] at hs2
      simp only [decide_eq_false_iff_not] at hs2
      omega
    · have hr := sortH_row (encS m) w g q d' os hgc
      rw [← hw] at hr
      refine ⟨by simp, .inr ⟨g, cap, _, rfl, hbg, hr, by rw [hl]; exact hnc, hcm, ?_, ?_⟩⟩
      · unfold putCells
        simp [hcs]
      · rw [Nat.mul_one, hl, ← hds, ← hd's, putH_take (encS m) d' (by rw [hd's, hds]; omega), finH_enc]
    · rw [hw]
      exact sortH_grown (encS m) w g q d' os
  clear hst hasc R hcmp eg hH hgc hdv hd hMx hok ho hL hA
  generalize ((symL L n).map Int.ofNat).length = N at *
  go_enter Try.func119, Try.ntmps119
  go_wp2_with fail
  refine HST.out.mono ?_
  intro e w' hp
  obtain rfl := hp.1
  have HF := Lib.hid (fin.out w' hp)
  clear hp HST fin
  go_wp2
  go_end0
  exact ⟨rfl, HF.out⟩

end Go.Proofs.Ytoehgcakfblblaa
