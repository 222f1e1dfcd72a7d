/- Drawn words, and the draw of RowsOf. -/
import Derived.Test.YtlgnndfhpnbhmaaSfD3
namespace Go.Proofs.Ytlgnndfhpnbhmaa
open Go.RowKit
set_option maxRecDepth 100000

set_option maxHeartbeats 4000000 in
theorem pattern_any (g : Nat) (A : Option Addr) (c : Nat) (D : List Nat) (K b0 : Nat) (At : Option Addr) (ct : Nat) (T : List Nat) (w : World) (h : Cur w g A c D K) (hK : K ≤ 4611686018427370000) (ho : w.ownsRow b0 5 1 (.slice At T.length ct) T.length (T.map B8)) (hb0 : g < b0) (hT : T.length ≤ 301) (hT8 : ∀ x ∈ T, x < 2 ^ 8) :
    Calls Try.prog 50 #[.pointer (some ⟨g, 0, none⟩), .slice At T.length ct] w (DrewT w g A c D (K + 300) 300) := by
  have hgl := h.lt
  have HD0 := Lib.hid h.lies
  have HO0 := Lib.hid ho
  have HT8 := Lib.hid hT8
  have HC0 := Lib.hid h
  clear h ho hT8
  go_enter Try.func50, Try.ntmps50
  rcases Nat.eq_zero_or_pos T.length with h0 | h0
  · have d1 : decide ((0 : Int) < (T.length : Int)) = false := decide_eq_false (by omega)
    have d1b : decide (0 < T.length) = false := decide_eq_false (by omega)
    go_wp2_with fail
    refine (textOf_any g A c D K 4 w HC0.out (by omega) (by omega) (by omega)).mono ?_
    rintro e w2 ⟨A', c', P, rfl, hP, hP8, ho, hc2, hg2⟩
    have HF : Hid (DrewT w g A c D (K + 300) 300 (.returned (.slice A' P.length c')) w2) := Lib.hid ⟨A', c', P, rfl, by omega, hP8, ho, hc2.more (by omega), hg2⟩
    clear hP8 ho hc2 hg2
    go_wp2
    go_ret
    exact HF.out
  · have d1 : decide ((0 : Int) < (T.length : Int)) = true := decide_eq_true (by omega)
    have d1b : decide (0 < T.length) = true := decide_eq_true (by omega)
    go_wp2_with fail
    refine (onceN_any g A c D K 4 w HC0.out (by omega) (by omega)).mono ?_
    rintro e w1 ⟨b, rfl, hc1, hg1⟩
    have HO1 := Lib.hid (own_pastG HO0.out hg1 hb0)
    have HC1 := Lib.hid hc1
    have HG1 := Lib.hid hg1
    clear hc1 hg1 HO0 HC0
    cases b
    · obtain ⟨mm, hmm, hmi, hm1, hmT⟩ : ∃ mm : Nat, min (256 : Int) (T.length : Int) = (mm : Int) ∧ (if (T.length : Int) < 256 then (T.length : Int) else 256) = (mm : Int) ∧ 1 ≤ mm ∧ mm ≤ T.length := ⟨min 256 T.length, by omega, by split <;> omega, by omega, by omega⟩
      go_wp2_with fail
      refine (pick_any g A c D (K + 1) (mm : Int) w1 HC1.out (by omega) (by omega)).mono ?_
      rintro e w2 ⟨i, rfl, hi, hi0, hc2, hg2⟩
      have hiT : i < T.length := by
        by_cases h2 : 2 ≤ mm
        · have := hi (by omega)
          omega
        · have := hi0 (by omega)
          omega
      have HO2 := Lib.hid (own_pastG HO1.out hg2 hb0)
      have HC2 := Lib.hid hc2
      have HG2 := Lib.hid (HG1.out.trans hg2)
      clear hi hi0 hc2 hg2 HO1 HC1 HG1 hmm hmi hm1 hmT
      have hsz2 := HG2.out.size
      have hR3 : (w2.alloc (.cells #[] 5)).ownsRow w2.heap.size 5 1 (.slice (some ⟨w2.heap.size, 0, none⟩) 0 0) ([] : List Nat).length (([] : List Nat).map B8) := World.ownsRow_lit w2 #[] 0 (Nat.le_refl _) (show 0 ≤ maxLen by decide) rfl
      have HR3 := Lib.hid hR3
      have HC3 := Lib.hid (cur_alloc HC2.out (.cells #[] 5))
      have HO3 : Hid ((w2.alloc (.cells #[] 5)).ownsRow b0 5 1 (.slice At T.length ct) T.length (T.map B8)) := Lib.hid (HO2.out.alloc _)
      have HG3 := Lib.hid (HG2.out.trans (World.grownBy_alloc w2 (.cells #[] 5) (some g)))
      clear hR3
      go_wp2_with fail
      refine (pick_any g A c D (K + 1 + 1) 6 _ HC3.out (by omega) (by omega)).mono ?_
      rintro e w4 ⟨u, rfl, hu, _, hc4, hg4⟩
      have hu6 : u < 6 := by have := hu (by omega); omega
      have HR4 := Lib.hid (own_pastG HR3.out hg4 (by omega))
      have HO4 := Lib.hid (own_pastG HO3.out hg4 hb0)
      have HC4 := Lib.hid hc4
      have HG4 := Lib.hid (HG3.out.trans hg4)
      have hsz4 : w2.heap.size ≤ w4.heap.size := by
        have := hg4.size
        simp at this
        omega
      clear hu hc4 hg4 HR3 HO3 HC3 HG3 HO2 HC2 HG2
      obtain ⟨j, hj, hj2, hij, hjT, hj6⟩ : ∃ j : Nat, min (T.length : Int) ((i : Int) + (u : Int)) = (j : Int) ∧ (if (i : Int) + (u : Int) < (T.length : Int) then (i : Int) + (u : Int) else (T.length : Int)) = (j : Int) ∧ i ≤ j ∧ j ≤ T.length ∧ j ≤ i + 5 := ⟨min T.length (i + u), by omega, by split <;> omega, by omega, by omega, by omega⟩
      obtain ⟨gb, cb, hvb, _, _⟩ := HO4.out.form (by omega)
      injection hvb with e1 e2 e3
      subst e1 e3
      clear e2
      have hcap := (row_cap HO4.out).1
      obtain ⟨o', hsl, hLp⟩ := slice_mid Try.elemBytes Try.sizeByte gb 0 T.length ct T i j w4 (Lib.hid rfl) (Lies.of_own HO4.out) hij hjT hcap
      obtain ⟨M, hM⟩ : ∃ M, (T.drop i).take (j - i) = M := ⟨_, rfl⟩
      rw [hM] at hsl hLp
      have hMl : M.length ≤ 5 := by rw [← hM, List.length_take]; omega
      have HM8 : Hid (∀ x ∈ M, x < 2 ^ 8) := Lib.hid (by rw [← hM]; exact fun x hx => HT8.out x (List.mem_of_mem_drop (List.mem_of_mem_take hx)))
      have HLp := Lib.hid hLp
      clear hM hLp
      go_wp2_with (at_builtin; refine wpList_append_bytes _ rfl _ _ rfl w2.heap.size _ [] rfl HR4.out (some ⟨gb, o', none⟩) (ct - i) M rfl HLp.out (.inr ⟨_, _, rfl⟩) M rfl (by simp; omega) hsz4 ?_)
      intro A5 c5 w5 ho5 hg5
      have hrow5 : ∀ j, Value.ownBlock (.slice (some ⟨w2.heap.size, 0, none⟩) 0 0) = some j → w.heap.size ≤ j := fun j hj => by
        have := Option.some.inj hj
        simp at this
        omega
      have hsz5 : w2.heap.size ≤ w5.heap.size := by
        have := hg5.size
        omega
      have HR5 := Lib.hid ho5
      have HC5 := Lib.hid (HC4.out.push HD0.out hgl hg5 (fun j hj => hrow5 j hj))
      have HG5 := Lib.hid (grown_pastG HG4.out hg5 (fun j hj => hrow5 j hj))
      clear ho5 hg5 hrow5 hsl HLp HR4 HO4 HC4 HG4
      go_wp2_with fail
      refine (onceN_any g A c D (K + 1 + 1 + 1) 6 w5 HC5.out (by omega) (by omega)).mono ?_
      rintro e w6 ⟨b2, rfl, hc6, hg6⟩
      have HR6 := Lib.hid (own_pastG HR5.out hg6 (by omega))
      have HC6 := Lib.hid hc6
      have HG6 := Lib.hid (HG5.out.trans hg6)
      have hsz6 : w2.heap.size ≤ w6.heap.size := by
        have := hg6.size
        omega
      clear hc6 hg6 HR5 HC5 HG5 hsz5
      cases b2
      · have HF : Hid (DrewT w g A c D (K + 300) 300 (.returned (.slice A5 M.length c5)) w6) := Lib.hid ⟨A5, c5, M, rfl, by omega, HM8.out, own_mono HR6.out hsz2, HC6.out.more (by omega), HG6.out⟩
        clear HR6 HC6 HG6
        go_wp2
        go_ret
        exact HF.out
      · obtain ⟨E, hE⟩ : ∃ E, M ++ [98] = E := ⟨_, rfl⟩
        have HE := Lib.hid hE
        have HEl : Hid (E.length = M.length + 1) := Lib.hid (by rw [← hE]; simp)
        have HE8 : Hid (∀ x ∈ E, x < 2 ^ 8) := Lib.hid (by
          rw [← hE]
          intro x hx
          rcases List.mem_append.1 hx with hx | hx
          · exact HM8.out x hx
          · simp at hx
            omega)
        clear hE
        go_wp2_with (at_builtin; refine wpList_pushB rfl _ _ rfl w2.heap.size _ _ _ rfl HR6.out 98 rfl hsz6 (by omega) E HE.out ?_)
        intro A7 c7 w7 ho7 hg7
        have hrow7 : ∀ j, some j = Value.ownBlock _ → w.heap.size ≤ j := fun j hj => Nat.le_trans hsz2 (HR6.out.lt j hj.symm).1
        have HC7 := Lib.hid (HC6.out.push HD0.out hgl hg7 (fun j hj => hrow7 j hj.symm))
        have HG7 := Lib.hid (grown_pastG HG6.out hg7 (fun j hj => hrow7 j hj.symm))
        have HF : Hid (DrewT w g A c D (K + 300) 300 (.returned (.slice A7 E.length c7)) w7) := Lib.hid ⟨A7, c7, E, rfl, by have := HEl.out; omega, HE8.out, own_mono ho7 hsz2, HC7.out.more (by omega), HG7.out⟩
        clear ho7 hg7 hrow7 HR6 HC6 HG6 HC7 HG7
        go_wp2
        go_ret
        exact HF.out
    · go_wp2_with fail
      refine (textOf_any g A c D (K + 1) 4 w1 HC1.out (by omega) (by omega) (by omega)).mono ?_
      rintro e w2 ⟨A', c', P, rfl, hP, hP8, ho, hc2, hg2⟩
      have HF : Hid (DrewT w g A c D (K + 300) 300 (.returned (.slice A' P.length c')) w2) := Lib.hid ⟨A', c', P, rfl, by omega, hP8, own_mono ho HG1.out.size, hc2.more (by omega), HG1.out.trans hg2⟩
      clear hP8 ho hc2 hg2
      go_wp2
      go_ret
      exact HF.out

/-- A text and a word were drawn. -/
def NewTP (w : World) (e : Ending) (w' : World) : Prop :=
  ∃ (At : Option Addr) (ct : Nat) (T : List Nat) (Ap : Option Addr) (cp : Nat) (P : List Nat), e = .returned (.tuple #[.slice At T.length ct, .slice Ap P.length cp]) ∧ T.length ≤ 301 ∧ P.length ≤ 300 ∧ (∀ x ∈ T, x < 2 ^ 8) ∧ (∀ x ∈ P, x < 2 ^ 8) ∧
    w'.ownsRow w.heap.size 5 1 (.slice At T.length ct) T.length (T.map B8) ∧ w'.ownsRow w.heap.size 5 1 (.slice Ap P.length cp) P.length (P.map B8) ∧ Below w.heap.size w w'

set_option maxHeartbeats 800000 in
theorem drawRowsOf_any (A : Option Addr) (c : Nat) (D : List Nat) (w : World) (hD : Lies w B8 A D) (hw : ∀ x ∈ D, x < 2 ^ 8) (hl : D.length ≤ 1048576) :
    Calls Try.prog 24 #[.slice A D.length c] w (NewTP w) := by
  go_enter Try.func24, Try.ntmps24
  go_wp2_with fail
  refine (open_any A c D w hD hw hl).mono ?_
  rintro e w1 ⟨rfl, hc1, hb1⟩
  have HC1 := Lib.hid hc1
  have HB1 := Lib.hid hb1
  have hg1 := hc1.lt
  clear hc1 hb1 hD hw
  go_wp2_with fail
  refine (text_any w.heap.size A c D 0 w1 HC1.out (by omega)).mono ?_
  rintro e w2 ⟨At, ct, T, rfl, hT, hT8, ho, hc2, hg2⟩
  have HO2 := Lib.hid ho
  have HC2 := Lib.hid hc2
  have HT8 := Lib.hid hT8
  have HB2 := Lib.hid (grown_belowG HB1.out hg2)
  clear hT8 ho hc2 hg2
  go_wp2_with fail
  refine (pattern_any w.heap.size A c D (0 + 300) w1.heap.size At ct T w2 HC2.out (by omega) HO2.out hg1 hT HT8.out).mono ?_
  rintro e w3 ⟨Ap, cp, P, rfl, hP, hP8, ho, hc3, hg3⟩
  have HF : Hid (NewTP w (.returned (.tuple #[.slice At T.length ct, .slice Ap P.length cp])) w3) := Lib.hid ⟨At, ct, T, Ap, cp, P, rfl, hT, hP, HT8.out, hP8, own_mono (own_pastG HO2.out hg3 hg1) HB1.out.size, own_mono ho HB2.out.size, grown_belowG HB2.out hg3⟩
  clear hP8 ho hc3 hg3 HO2 HC2 HT8 HB2
  go_wp2
  go_ret2
  exact HF.out

end Go.Proofs.Ytlgnndfhpnbhmaa
