/- Bytes told to be equal, or to begin a list: the library's and the specification's. -/
import Derived.Test.YtlgnndfhpnbhmaaSlCut
import Derived.Test.YtlgnndfhpnbhmaaSf1
import Derived.BigQuiet
namespace Go.Proofs.Ytlgnndfhpnbhmaa
open Go.RowKit
set_option maxRecDepth 100000

theorem Tidy.shape {A : Option Addr} {c : Nat} (h : Tidy A c) : A = none ∨ ∃ b o, A = some ⟨b, o, none⟩ := h.elim (fun h => .inl h.1) .inr
theorem bstr_list {L M : List Nat} (hl : ∀ x ∈ L, x < 2 ^ 8) (hm : ∀ x ∈ M, x < 2 ^ 8) : ((bstr L).toList == (bstr M).toList) = decide (L = M) := by
  by_cases h : L = M
  · subst h
    simp
  · rw [decide_eq_false h, beq_eq_false_iff_ne]
    intro e
    rw [ByteArray.toList_eq, ByteArray.toList_eq] at e
    exact h (bstr_inj hl hm (ByteArray.ext (Array.toList_inj.mp e)))

set_option maxHeartbeats 400000 in
theorem bEqual (A B : Option Addr) (c d : Nat) (L M : List Nat) (w : World) (hL : Lies w B8 A L) (hM : Lies w B8 B M) (hA : Tidy A c) (hB : Tidy B d) (hl : ∀ x ∈ L, x < 2 ^ 8) (hm : ∀ x ∈ M, x < 2 ^ 8) :
    Calls Try.prog 68 #[.slice A L.length c, .slice B M.length d] w fun e w' => e = .returned (.bool (decide (L = M))) ∧ w' = w := by
  have c1 := conv_any (P := Try.prog) w 22 5 9 Try.underlying22 Try.underlying5 Try.underlying9 A c L hA.shape hL
  have c2 := conv_any (P := Try.prog) w 22 5 9 Try.underlying22 Try.underlying5 Try.underlying9 B d M hB.shape hM
  have n1 := bstr_list hl hm
  clear hL hM hl hm hA hB
  generalize bstr M = S at *
  generalize bstr L = T at *
  generalize decide (L = M) = r at *
  go_enter Try.func68, Try.ntmps68
  go_wp2
  go_ret
  exact ⟨rfl, rfl⟩

set_option maxHeartbeats 400000 in
theorem bPrefix (A B : Option Addr) (c d : Nat) (L M : List Nat) (w : World) (hL : Lies w B8 A L) (hM : Lies w B8 B M) (hA : Tidy A c) (hB : Tidy B d) (hl : ∀ x ∈ L, x < 2 ^ 8) (hm : ∀ x ∈ M, x < 2 ^ 8) (hc : L.length ≤ c) :
    Calls Try.prog 56 #[.slice A L.length c, .slice B M.length d] w fun e w' => e = .returned (.bool (decide (L.take M.length = M))) ∧ w' = w := by
  by_cases h : M.length ≤ L.length
  · have t1 : decide ((M.length : Int) ≤ (L.length : Int)) = true := by simp; omega
    have t2 : decide (M.length ≤ L.length) = true := by simp; omega
    obtain ⟨A1, hs1, hL1, hA1⟩ := slice_take Try.elemBytes Try.sizeByte A L.length c L M.length w (Lib.hid rfl) hL hA h hc
    have HC := Lib.hid (bEqual A1 B c d (L.take M.length) M w hL1 hM hA1 hB (fun x hx => hl x (List.mem_of_mem_take hx)) hm)
    generalize decide (L.take M.length = M) = r at *
    generalize L.take M.length = K at *
    clear hL hM hl hm hL1 hA1 hA hB
    go_enter Try.func56, Try.ntmps56
    go_wp2_with fail
    refine HC.out.mono ?_
    rintro e w1 ⟨rfl, rfl⟩
    go_wp2
    go_ret
    exact ⟨rfl, rfl⟩
  · have t1 : decide ((M.length : Int) ≤ (L.length : Int)) = false := by simp; omega
    have t2 : decide (M.length ≤ L.length) = false := by simp; omega
    have HE : Hid (decide (L.take M.length = M) = false) := Lib.hid (decide_eq_false fun e => by
      have := congrArg List.length e
      rw [List.length_take] at this
      omega)
    clear hL hM hl hm
    go_enter Try.func56, Try.ntmps56
    go_wp2
    go_ret
    exact ⟨ret_bool HE.out.symm, rfl⟩

set_option maxHeartbeats 800000 in
theorem specBegins (A B : Option Addr) (c d : Nat) (L M : List Nat) (w : World) (hL : Lies w B8 A L) (hM : Lies w B8 B M) (hA : Tidy A c) (hB : Tidy B d) (hl : ∀ x ∈ L, x < 2 ^ 8) (hm : ∀ x ∈ M, x < 2 ^ 8) (hc : L.length ≤ c) :
    Calls Try.prog 58 #[.slice A L.length c, .slice B M.length d] w fun e w' => e = .returned (.bool (decide (L.take M.length = M))) ∧ Drawn w w' := by
  by_cases h : M.length ≤ L.length
  · have t1 : decide ((M.length : Int) ≤ (L.length : Int)) = true := by simp; omega
    have t2 : decide (M.length ≤ L.length) = true := by simp; omega
    obtain ⟨A1, hs1, hL1, hA1⟩ := slice_take Try.elemBytes Try.sizeByte A L.length c L M.length w (Lib.hid rfl) hL hA h hc
    have c1 := fun q => conv_any (P := Try.prog) (w.drewN q) 22 5 9 Try.underlying22 Try.underlying5 Try.underlying9 A1 c (L.take M.length) hA1.shape hL1
    have c2 := fun q => conv_any (P := Try.prog) (w.drewN q) 22 5 9 Try.underlying22 Try.underlying5 Try.underlying9 B d M hB.shape hM
    have n1 := bstr_list (L := L.take M.length) (fun x hx => hl x (List.mem_of_mem_take hx)) hm
    generalize decide (L.take M.length = M) = r at *
    generalize L.take M.length = K at *
    generalize bstr M = S at *
    generalize bstr K = T at *
    clear hL hM hl hm hL1 hA1 hA hB
    go_enter Try.func58, Try.ntmps58
    go_wp2
    go_quiet (fail)
    go_wp2
    go_ret
    exact ⟨rfl, _, rfl⟩
  · have t1 : decide ((M.length : Int) ≤ (L.length : Int)) = false := by simp; omega
    have t2 : decide (M.length ≤ L.length) = false := by simp; omega
    have HE : Hid (decide (L.take M.length = M) = false) := Lib.hid (decide_eq_false fun e => by
      have := congrArg List.length e
      rw [List.length_take] at this
      omega)
    clear hL hM hl hm
    go_enter Try.func58, Try.ntmps58
    go_wp2
    go_quiet (fail)
    go_wp2
    go_ret
    exact ⟨ret_bool HE.out.symm, _, rfl⟩

end Go.Proofs.Ytlgnndfhpnbhmaa
