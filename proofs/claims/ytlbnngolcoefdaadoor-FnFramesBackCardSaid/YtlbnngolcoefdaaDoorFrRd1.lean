/- The head of a frame and its checksum, as the program reads them. -/
import Derived.Test.YtlbnngolcoefdaaDoorErrIs
import Derived.Test.YtlbnngolcoefdaaDoorRdMath
import Derived.Test.YtlbnngolcoefdaaDoorFr2
import Derived.Test.YtlbnngolcoefdaaDoorCrc1
namespace Go.Proofs.YtlbnngolcoefdaaDoor
open Go.RowKit
set_option maxRecDepth 100000

/-- The sentinel: what global 0 holds. -/
def NoFrame (w : World) (b : Addr) : Prop := w.cell? ⟨0, 0, none⟩ = some (.iface 167 (.pointer (some b))) ∧ 0 < w.heap.size
abbrev EN (b : Addr) : Value := .iface 167 (.pointer (some b))
theorem NoFrame.below {w w' : World} {b : Addr} (h : NoFrame w b) (hb : Below w.heap.size w w') : NoFrame w' b := ⟨(hb.cell (p := ⟨0, 0, none⟩) h.2).trans h.1, Nat.lt_of_lt_of_le h.2 hb.size⟩

set_option maxHeartbeats 400000 in
theorem bytesEqual (A B : Option Addr) (c d : Nat) (L M : List Nat) (w : World) (hL : Lies w B8 A L) (hM : Lies w B8 B M) (hA : Tidy A c) (hB : Tidy B d) (hl : ∀ x ∈ L, x < 2 ^ 8) (hm : ∀ x ∈ M, x < 2 ^ 8) :
    Calls Tryd.prog 141 #[.slice A L.length c, .slice B M.length d] w fun e w' => e = .returned (.bool (decide (L = M))) ∧ w' = w := by
  have tA : A = none ∨ ∃ b o, A = some ⟨b, o, none⟩ := hA.elim (fun h => .inl h.1) .inr
  have tB : B = none ∨ ∃ b o, B = some ⟨b, o, none⟩ := hB.elim (fun h => .inl h.1) .inr
  have c1 := conv_any (P := Tryd.prog) w 22 5 9 Tryd.underlying22 Tryd.underlying5 Tryd.underlying9 A c L tA hL
  have c2 := conv_any (P := Tryd.prog) w 22 5 9 Tryd.underlying22 Tryd.underlying5 Tryd.underlying9 B d M tB hM
  by_cases h : L = M
  · have HE : Hid (decide (L = M) = true) := Lib.hid (decide_eq_true h)
    have e : bstr L = bstr M := by rw [h]
    rw [e] at c1
    clear h e hL hM hl hm
    generalize bstr M = S at *
    have n1 : (S.toList == S.toList) = true := by simp
    go_enter Tryd.func141, Tryd.ntmps141
    go_wp2
    go_ret
    exact ⟨ret_bool HE.out.symm, rfl⟩
  · have HE : Hid (decide (L = M) = false) := Lib.hid (decide_eq_false h)
    have hne : bstr L ≠ bstr M := fun e => h (bstr_inj hl hm e)
    clear h hL hM hl hm
    generalize bstr M = S at *
    generalize bstr L = T at *
    have n1 : (T.toList == S.toList) = false := by
      rw [beq_eq_false_iff_ne]
      intro h
      rw [ByteArray.toList_eq, ByteArray.toList_eq] at h
      exact hne (ByteArray.ext (Array.toList_inj.mp h))
    clear hne
    go_enter Tryd.func141, Tryd.ntmps141
    go_wp2
    go_ret
    exact ⟨ret_bool HE.out.symm, rfl⟩

theorem Tidy.cut {A : Option Addr} {c : Nat} (h : Tidy A c) : ∀ d, (d = 0 ∨ 0 < c) → Tidy A d := by
  intro d hd
  rcases h with ⟨rfl, rfl⟩ | h
  · exact .inl ⟨rfl, by omega⟩
  · exact .inr h

set_option maxHeartbeats 400000 in
/-- bytes.HasPrefix where what is looked at lies behind an address. -/
theorem bytesPrefix (b o : Nat) (B : Option Addr) (c d : Nat) (L M : List Nat) (w : World) (hL : Lies w B8 (some ⟨b, o, none⟩) L) (hM : Lies w B8 B M) (hB : Tidy B d) (hl : ∀ x ∈ L, x < 2 ^ 8) (hm : ∀ x ∈ M, x < 2 ^ 8) (hc : L.length ≤ c) (hcm : c ≤ 9223372036854775807) :
    Calls Tryd.prog 130 #[.slice (some ⟨b, o, none⟩) L.length c, .slice B M.length d] w fun e w' => e = .returned (.bool (decide (L.take M.length = M))) ∧ w' = w := by
  by_cases h : M.length ≤ L.length
  · have t1 : decide ((M.length : Int) ≤ (L.length : Int)) = true := by simp; omega
    have t2 : decide (M.length ≤ L.length) = true := by simp; omega
    have e1 : (L.take M.length).length = M.length := by rw [List.length_take]; omega
    have HC := Lib.hid (bytesEqual (some ⟨b, o, none⟩) B c d (L.take M.length) M w (hL.front _) hM (.inr ⟨_, _, rfl⟩) hB (fun x hx => hl x (List.mem_of_mem_take hx)) hm)
    rw [e1] at HC
    generalize decide (L.take M.length = M) = r at *
    clear hL hM hl hm e1
    go_enter Tryd.func130, Tryd.ntmps130
    go_wp2_with fail
    refine HC.out.mono ?_
    rintro e w1 ⟨rfl, rfl⟩
    go_wp2
    go_ret
    exact ⟨rfl, rfl⟩
  · have t1 : decide ((M.length : Int) ≤ (L.length : Int)) = false := by simp; omega
    have t2 : decide (M.length ≤ L.length) = false := by simp; omega
    have HE : Hid (decide (L.take M.length = M) = false) := Lib.hid (decide_eq_false fun e => by
      have := congrArg List.length e
      rw [List.length_take] at this
      omega)
    clear hL hM hl hm
    go_enter Tryd.func130, Tryd.ntmps130
    go_wp2
    go_ret
    exact ⟨ret_bool HE.out.symm, rfl⟩

/-- How readHead ends. -/
def HdEnd (D : List Nat) (a : Int) (b : Addr) (e : Ending) : Prop :=
  e = .returned (match hdV D a with | none => .tuple #[.int .i64 0, .int .i64 0, EN b] | some (s, t) => .tuple #[.int .i64 s, .int .i64 t, .nilIface])
theorem hd_none {D : List Nat} {a : Int} {b : Addr} (h : hdV D a = none) : HdEnd D a b (.returned (.tuple #[.int .i64 0, .int .i64 0, EN b])) := by
  unfold HdEnd
  rw [h]
theorem hd_some {D : List Nat} {a : Int} {b : Addr} {s t : Nat} (h : hdV D a = some (s, t)) : HdEnd D a b (.returned (.tuple #[.int .i64 s, .int .i64 t, .nilIface])) := by
  unfold HdEnd
  rw [h]

set_option maxHeartbeats 800000 in
theorem implHead_out (A : Option Addr) (n c : Nat) (a : Int) (b : Addr) (w : World) (hG : NoFrame w b) (h : a < 0 ∨ (n : Int) ≤ a) :
    Calls Tryd.prog 110 #[.slice A n c, .int .i64 a] w fun e w' => e = .returned (.tuple #[.int .i64 0, .int .i64 0, EN b]) ∧ Below w.heap.size w w' := by
  have g0 := hG.1
  by_cases h0 : a < 0
  · have d0 : decide (a < 0) = true := by simpa using h0
    go_enter Tryd.func110, Tryd.ntmps110
    go_wp2
    go_region
    all_goals go_wp2
    all_goals go_ret3
    all_goals exact ⟨rfl, by go_grown⟩
  · have d0 : decide (a < 0) = false := by simpa using h0
    have h1 : (n : Int) ≤ a := by omega
    have d1 : decide ((n : Int) ≤ a) = true := by simpa using h1
    go_enter Tryd.func110, Tryd.ntmps110
    go_wp2
    go_region
    all_goals go_wp2
    all_goals go_ret3
    all_goals exact ⟨rfl, by go_grown⟩

end Go.Proofs.YtlbnngolcoefdaaDoor
