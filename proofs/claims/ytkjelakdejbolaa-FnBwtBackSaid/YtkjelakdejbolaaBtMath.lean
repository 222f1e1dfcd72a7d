/- Which lists are the symbols of a text, and of which one. Nothing of the program stands here. -/
import Derived.Test.YtkjelakdejbolaaBwtMath
namespace Go.Proofs.Ytkjelakdejbolaa
open Go.RowKit

/-- The walk meets the end last, and only then. -/
def btOk (L : List Int) : Bool := symOk L && decide (0 < L.length) && (List.range (L.length - 1)).all (fun i => decide (syN L i ≠ 0)) && decide (syN L (L.length - 1) = 0)
def btV (L : List Int) : List Nat := if btOk L = true then backT L (L.length - 1) else []
theorem btOk_iff {L : List Int} {m : Nat} (hn : L.length = m + 1) : btOk L = true ↔ symOk L = true ∧ (∀ i < m, syN L i ≠ 0) ∧ syN L m = 0 := by
  unfold btOk
  rw [hn, Nat.add_sub_cancel]
  simp
  exact ⟨fun h => ⟨h.1.1, h.1.2, h.2⟩, fun h => ⟨⟨h.1, h.2.1⟩, h.2.2⟩⟩
theorem btOk_sym {L : List Int} (h : btOk L = true) : symOk L = true := by
  unfold btOk at h
  simp at h
  exact h.1.1.1
theorem btOk_pos {L : List Int} (h : btOk L = true) : 0 < L.length := by
  unfold btOk at h
  simp at h
  exact h.1.1.2
theorem btV_len (L : List Int) : (btV L).length ≤ 300 := by
  unfold btV
  split
  · rename_i h
    rw [backT_len]
    have := symOk_len (btOk_sym h)
    omega
  · simp
theorem btV_yes {L : List Int} {m : Nat} (hn : L.length = m + 1) (h : btOk L = true) : btV L = backT L m := by
  unfold btV
  rw [if_pos h, hn, Nat.add_sub_cancel]
theorem btV_no {L : List Int} (h : btOk L = false) : btV L = [] := by
  unfold btV
  rw [h]
  rfl
theorem syN_in {L : List Int} (h : symOk L = true) (hp : 0 < L.length) (i : Nat) : 0 ≤ syN L i ∧ syN L i ≤ 256 := by
  have hl := lfIt_lt hp i
  unfold syN
  rw [getD_int (List.getElem?_eq_getElem hl)]
  exact symOk_at h (List.getElem?_eq_getElem hl)
theorem backT_8 {L : List Int} (h : symOk L = true) (hp : 0 < L.length) : ∀ i, ∀ x ∈ backT L i, x < 2 ^ 8
  | 0, x, hx => by simp [backT] at hx
  | i + 1, x, hx => by
    rw [backT] at hx
    rcases List.mem_cons.1 hx with rfl | hx
    · have := syN_in h hp i
      omega
    · exact backT_8 h hp i x hx
/-- A walk stopped at an end, or when it has made all its steps: its text has these symbols where the walk is right, and only there. -/
theorem bt_stop {L : List Int} {m j : Nat} (hok : symOk L = true) (hn : L.length = m + 1) (hj : j ≤ m) (hs : ∀ i < j, syN L i ≠ 0) (hstop : j = m ∨ syN L j = 0) : bwtL (backT L j) = L ↔ btOk L = true := by
  constructor
  · intro e
    have hl := congrArg List.length e
    rw [bwtL_len, backT_len] at hl
    obtain rfl : j = m := by omega
    refine (btOk_iff hn).2 ⟨hok, hs, ?_⟩
    have h := walk_end (backT L j)
    rw [backT_len] at h
    rw [← e]
    exact h
  · intro h
    obtain ⟨_, h1, h2⟩ := (btOk_iff hn).1 h
    have e : j = m := by
      rcases hstop with e | e
      · exact e
      · refine Classical.byContradiction fun hne => h1 j (by omega) e
    subst e
    exact back_bwt hn (fun x hx => (((symOk_iff L).1 hok).2 x hx).1) hs h2
theorem bt_end {L : List Int} {m j : Nat} (hn : L.length = m + 1) (h : btOk L = true) (hj : j ≤ m) (hstop : j = m ∨ syN L j = 0) : j = m := by
  obtain ⟨_, h1, _⟩ := (btOk_iff hn).1 h
  rcases hstop with e | e
  · exact e
  · refine Classical.byContradiction fun hne => h1 j (by omega) e

/-- A text is given back. -/
theorem bt_text {T : List Nat} (h8 : ∀ x ∈ T, x < 2 ^ 8) (h3 : T.length ≤ 300) : btOk (bwtL T) = true ∧ btV (bwtL T) = T := by
  have hok : btOk (bwtL T) = true := (btOk_iff (bwtL_len T)).2 ⟨bwtL_ok h8 h3, fun i hi => by have := walk_some T hi; omega, walk_end T⟩
  exact ⟨hok, by rw [btV_yes (bwtL_len T) hok, back_text]⟩

/-- The text's array when j of its m bytes have been filled from behind. -/
def tK (L : List Int) (m j : Nat) : List Nat := List.replicate (m - j) 0 ++ backT L j
theorem tK_zero (L : List Int) (m : Nat) : tK L m 0 = List.replicate m 0 := by simp [tK, backT]
theorem tK_all (L : List Int) (m : Nat) : tK L m m = backT L m := by simp [tK]
theorem tK_len (L : List Int) {m j : Nat} (h : j ≤ m) : (tK L m j).length = m := by simp [tK, backT_len]; omega
theorem tK_succ (L : List Int) {m j p : Nat} (h : p + 1 + j = m) : (tK L m j).set p (syN L j - 1).toNat = tK L m (j + 1) := by
  unfold tK
  rw [show m - j = p + 1 by omega, show m - (j + 1) = p by omega, List.replicate_succ', List.append_assoc, List.set_append_right _ _ (by simp), List.length_replicate, Nat.sub_self]
  rfl

end Go.Proofs.Ytkjelakdejbolaa
