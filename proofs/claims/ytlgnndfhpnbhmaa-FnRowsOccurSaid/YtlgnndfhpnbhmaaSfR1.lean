/- RowsOf: how many suffixes are less than a word, and how many begin with it; the program's function values. -/
import Derived.Test.YtlgnndfhpnbhmaaSfI4
import Derived.Test.YtlgnndfhpnbhmaaSfS2
import Derived.Test.YtlgnndfhpnbhmaaSf5
namespace Go.Proofs.Ytlgnndfhpnbhmaa
open Go.RowKit
set_option maxRecDepth 100000

/-- Where the rows of a word begin. -/
def loN (L P : List Nat) : Nat := (List.range (L.length + 1)).countP fun i => decide (lcmp (L.drop i) P < 0)
def loR (L P : List Nat) : Int := if L.length ≤ 300 then (loN L P : Int) else 0
def hiR (L P : List Nat) : Int := if L.length ≤ 300 then (loN L P : Int) + ((occK L P (L.length + 1)).length : Nat) else 0
theorem loN_le (L P : List Nat) : loN L P ≤ L.length + 1 := Nat.le_trans List.countP_le_length (by simp)

/-- How row k compares with the word. -/
def sideV (L P : List Nat) (k : Nat) : Int := lcmp ((L.drop ((sfx L).getD k 0)).take P.length) P

theorem rows_list (L : List Nat) : (List.range (L.length + 1)).map (fun k => (sfx L).getD k 0) = sfx L := by
  refine List.ext_getElem (by simp [sfx_len]) fun i h1 h2 => ?_
  rw [List.getElem_map, List.getElem_range, getD_at h2]
theorem count_rows (L : List Nat) (f : Nat → Bool) : (List.range (L.length + 1)).countP (fun k => f ((sfx L).getD k 0)) = (List.range (L.length + 1)).countP f := by
  have h : (List.range (L.length + 1)).countP (fun k => f ((sfx L).getD k 0)) = ((List.range (L.length + 1)).map (fun k => (sfx L).getD k 0)).countP f := by rw [List.countP_map]; rfl
  rw [h, rows_list]
  exact (sfx_is L).1.countP_eq f
theorem count_lo (L P : List Nat) : (List.range (L.length + 1)).countP (fun k => !decide (0 ≤ sideV L P k)) = loN L P := by
  have h := count_rows L (fun i => decide (lcmp (L.drop i) P < 0))
  unfold loN
  rw [← h]
  refine List.countP_congr fun k _ => ?_
  have := lcmp_word_lt (L.drop ((sfx L).getD k 0)) P
  unfold sideV
  simp only [Bool.not_eq_true', decide_eq_false_iff_not, decide_eq_true_iff]
  omega
theorem count_or (l : List Nat) (f g : Nat → Bool) (h : ∀ x ∈ l, ¬ (f x = true ∧ g x = true)) : l.countP (fun x => f x || g x) = l.countP f + l.countP g := by
  induction l with
  | nil => rfl
  | cons a l ih =>
    have ih2 := ih fun x hx => h x (by simp [hx])
    have ha := h a (by simp)
    simp only [List.countP_cons, ih2]
    cases hf : f a <;> cases hg : g a <;> simp_all <;> omega
theorem occK_count (L P : List Nat) : (occK L P (L.length + 1)).length = (List.range (L.length + 1)).countP fun i => decide ((L.drop i).take P.length = P) := by
  unfold occK
  rw [List.length_map, List.countP_eq_length_filter]
theorem count_hi (L P : List Nat) : (List.range (L.length + 1)).countP (fun k => !decide (0 < sideV L P k)) = loN L P + (occK L P (L.length + 1)).length := by
  rw [occK_count, ← count_rows L (fun i => decide ((L.drop i).take P.length = P)), ← count_lo L P, ← count_or]
  · refine List.countP_congr fun k _ => ?_
    have h1 := lcmp_word_eq (L.drop ((sfx L).getD k 0)) P
    unfold sideV
    simp only [Bool.not_eq_true', decide_eq_false_iff_not, Bool.or_eq_true, decide_eq_true_iff]
    rw [← h1]
    omega
  · intro k _ ⟨h1, h2⟩
    unfold sideV at h1
    simp only [Bool.not_eq_true', decide_eq_false_iff_not, decide_eq_true_iff] at h1 h2
    rw [← lcmp_word_eq] at h2
    omega

theorem side_mono {L P : List Nat} {a b : Nat} (hab : a ≤ b) (hb : b < L.length + 1) : ∃ x y, lcmp x y ≤ 0 ∧ sideV L P a = lcmp (x.take P.length) P ∧ sideV L P b = lcmp (y.take P.length) P := by
  refine ⟨L.drop ((sfx L).getD a 0), L.drop ((sfx L).getD b 0), ?_, rfl, rfl⟩
  by_cases e : a = b
  · subst e
    rw [lcmp_self]; omega
  · have h1 : a < (sfx L).length := by rw [sfx_len]; omega
    have h2 : b < (sfx L).length := by rw [sfx_len]; omega
    have := List.pairwise_iff_getElem.1 (sfx_is L).2 a b h1 h2 (by omega)
    rw [getD_at h1, getD_at h2]
    omega
theorem side_ge {L P : List Nat} {a b : Nat} (hab : a ≤ b) (hb : b < L.length + 1) (h : decide (0 ≤ sideV L P a) = true) : decide (0 ≤ sideV L P b) = true := by
  obtain ⟨x, y, hxy, e1, e2⟩ := side_mono (P := P) hab hb
  rw [e1] at h
  rw [e2]
  simp only [decide_eq_true_iff] at *
  refine Classical.byContradiction fun hc => ?_
  have := lcmp_le_lt (lcmp_take_le P.length hxy) (show lcmp (y.take P.length) P < 0 by omega)
  omega
theorem side_gt {L P : List Nat} {a b : Nat} (hab : a ≤ b) (hb : b < L.length + 1) (h : decide (0 < sideV L P a) = true) : decide (0 < sideV L P b) = true := by
  obtain ⟨x, y, hxy, e1, e2⟩ := side_mono (P := P) hab hb
  rw [e1] at h
  rw [e2]
  simp only [decide_eq_true_iff] at *
  refine Classical.byContradiction fun hc => ?_
  have := lcmp_le_trans (lcmp_take_le P.length hxy) (show lcmp (y.take P.length) P ≤ 0 by omega)
  omega

set_option maxHeartbeats 800000 in
theorem compareStart_any (A B : Option Addr) (c d : Nat) (L P : List Nat) (w : World) (hL : Lies w B8 A L) (hP : Lies w B8 B P) (hA : Tidy A c) (hB : Tidy B d) (hl : ∀ x ∈ L, x < 2 ^ 8) (hp : ∀ x ∈ P, x < 2 ^ 8) (hc : L.length ≤ c) (hn : L.length ≤ 17592186044416) (hm : P.length ≤ 17592186044416) :
    Calls Try.prog 52 #[.slice A L.length c, .slice B P.length d] w fun e w' => e = .returned (.int .i64 (lcmp (L.take P.length) P)) ∧ w' = w := by
  obtain ⟨m, hm⟩ : ∃ m, min L.length P.length = m := ⟨_, rfl⟩
  obtain ⟨A1, hs1, hL1, hA1⟩ := slice_take Try.elemBytes Try.sizeByte A L.length c L m w (Lib.hid rfl) hL hA (by omega) hc
  have e : L.take m = L.take P.length := by
    rcases Nat.le_total L.length P.length with h | h
    · rw [List.take_of_length_le (by omega), List.take_of_length_le h]
    · rw [show m = P.length by omega]
  rw [e] at hL1 hs1
  have HC := Lib.hid (bytesCompare A1 B c d (L.take P.length) P w hL1 hP hA1 hB (fun x hx => hl x (List.mem_of_mem_take hx)) hp)
  have hm5 : min (L.length : Int) (P.length : Int) = (m : Int) := by omega
  have hm6 : (if (P.length : Int) < (L.length : Int) then (P.length : Int) else (L.length : Int)) = (m : Int) := by split <;> omega
  clear hL hP hA hB hl hp hL1 hA1 e hm
  generalize L.take P.length = D at *
  generalize lcmp D P = r at *
  go_enter Try.func52, Try.ntmps52
  go_wp2_with fail
  refine HC.out.mono ?_
  rintro e w1 ⟨rfl, rfl⟩
  go_wp2
  go_ret
  exact ⟨rfl, rfl⟩

end Go.Proofs.Ytlgnndfhpnbhmaa
