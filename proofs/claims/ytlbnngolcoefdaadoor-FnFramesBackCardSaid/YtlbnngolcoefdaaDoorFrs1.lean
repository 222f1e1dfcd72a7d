/- FramesOf of the program and of the specification, over a list of frames that lies in memory. -/
import Derived.Test.YtlbnngolcoefdaaDoorFrsMath
import Derived.Test.YtlbnngolcoefdaaDoorFr3
namespace Go.Proofs.YtlbnngolcoefdaaDoor
open Go.RowKit
set_option maxRecDepth 100000

/-- A frame as it lies: its kind, and where its bytes are. -/
structure FrA where
  K : Int
  A : Option Addr
  c : Nat
  L : List Nat
def FrA.val (p : FrA) : Int × List Nat := (p.K, p.L)
/-- A list of frames lies at A. -/
def LiesF (w : World) (A : Option Addr) (P : List FrA) : Prop :=
  ∀ (j : Nat) (p : FrA), P[j]? = some p → (∃ b o, A = some ⟨b, o, none⟩ ∧ b < w.heap.size ∧ w.cell? ⟨b, o + j * 2, none⟩ = some (.int .i64 p.K) ∧ w.cell? ⟨b, o + j * 2 + 1, none⟩ = some (.slice p.A p.L.length p.c)) ∧
    Lies w B8 p.A p.L ∧ Tidy p.A p.c ∧ ∀ x ∈ p.L, x < 2 ^ 8

theorem LiesF.below {w w' : World} {A : Option Addr} {P : List FrA} (h : LiesF w A P) (hb : Below w.heap.size w w') : LiesF w' A P := by
  intro j p hp
  obtain ⟨⟨b, o, h1, h2, h3, h4⟩, h5, h6, h7⟩ := h j p hp
  exact ⟨⟨b, o, h1, Nat.lt_of_lt_of_le h2 hb.size, (hb.cell (p := ⟨b, o + j * 2, none⟩) h2).trans h3, (hb.cell (p := ⟨b, o + j * 2 + 1, none⟩) h2).trans h4⟩, h5.below hb, h6, h7⟩

theorem foF_at {P : List FrA} {j : Nat} {p : FrA} {out : List Nat} (h : P[j]? = some p) :
    foF out ((P.drop j).map FrA.val) = if okF p.K p.L.length = true ∧ (out ++ frV p.K p.L).length ≤ 8000 then foF (out ++ frV p.K p.L) ((P.drop (j + 1)).map FrA.val) else none := by
  obtain ⟨hj, rfl⟩ := List.getElem?_eq_some_iff.1 h
  rw [List.drop_eq_getElem_cons hj, List.map_cons, foF]
  rfl

/-- What FramesOf returns. -/
def OfRes (w : World) (r : Option (List Nat)) (e : Ending) (w' : World) : Prop :=
  ∃ A c, e = .returned (.tuple #[.slice A (r.getD []).length c, .bool r.isSome]) ∧ w'.ownsRow w.heap.size 5 1 (.slice A (r.getD []).length c) (r.getD []).length ((r.getD []).map B8) ∧ Below w.heap.size w w'

theorem ofRes_none (w w' : World) (h : Below w.heap.size w w') : OfRes w none (.returned (.tuple #[.slice none 0 0, .bool false])) w' :=
  ⟨none, 0, rfl, World.ownsRow_nil _ _ _ _, h⟩

theorem frV_nil {K : Int} {L : List Nat} : frV K L = [] ↔ okF K L.length = false := by
  unfold frV
  split
  · rename_i h
    rw [h]
    simp only [Bool.true_eq_false, iff_false]
    intro e
    have := congrArg List.length e
    rw [frB_len] at this
    simp at this
  · rename_i h
    simp only [true_iff]
    simpa using h

set_option maxHeartbeats 1600000 in
theorem specFramesOf_any (A : Option Addr) (c : Nat) (P : List FrA) (w : World) (hL : LiesF w A P) (hP : P.length ≤ 1073741824) :
    Calls Tryd.prog 21 #[.slice A P.length c] w (OfRes w (foF [] (P.map FrA.val))) := by
  have HL := Lib.hid hL
  clear hL
  go_enter Tryd.func21, Tryd.ntmps21
  go_wp2
  go_loopw [4, 5] (fun s i wr => ∃ (k : Nat) (D : List Nat) (B : Option Addr) (d : Nat), k ≤ P.length ∧ i = .int .i64 k ∧ s = .slice B D.length d ∧ wr.ownsRow w.heap.size 5 1 (.slice B D.length d) D.length (D.map B8) ∧ D.length ≤ 8000 ∧ Below w.heap.size w wr ∧ Hid (foF [] (P.map FrA.val) = foF D ((P.drop k).map FrA.val))) (fun _ i _ => P.length - (intOf i).toNat)
  case atStart => exact ⟨0, [], _, _, Nat.zero_le _, rfl, rfl, World.ownsRow_lit w _ _ (Nat.le_refl _) (show 0 ≤ maxLen by decide) rfl, by simp, (Below.refl _ _).alloc (Nat.le_refl _) _, Lib.hid rfl⟩
  case round =>
    obtain ⟨k, D, B, d, hk, rfl, rfl, ho, hD, hb, hF⟩ := hrel
    have HO := Lib.hid ho
    have HB := Lib.hid hb
    clear ho hb
    by_cases hlt : k < P.length
    · obtain ⟨p, hp⟩ : ∃ p, P[k]? = some p := ⟨P[k], List.getElem?_eq_getElem hlt⟩
      obtain ⟨⟨b, o, rfl, hbl, hc0, hc1⟩, hpl, hpt, hpb⟩ := (HL.out.below HB.out) k p hp
      have hF2 := hF.out
      rw [foF_at hp] at hF2
      have HF2 := Lib.hid hF2
      have HPl := Lib.hid hpl
      have HPt := Lib.hid hpt
      have HPb := Lib.hid hpb
      have tl : decide ((k : Int) < (P.length : Int)) = true := by simp; omega
      clear hp hpl hpt hpb hF2 hF
      go_wp2_with fail
      refine (specFrameOf_any p.K p.A p.c p.L wr HPl.out HPt.out HPb.out).mono ?_
      rintro e w1 ⟨B1, c1, rfl, ho1, hb1⟩
      have hQl := frV_len p.K p.L
      have hQn := @frV_nil p.K p.L
      have HO2 := Lib.hid (own_below HO.out hb1 (Nat.le_refl _))
      have HB2 := Lib.hid (below_then HB.out hb1)
      have HQ := Lib.hid ho1
      obtain ⟨E, hE⟩ : ∃ E, D ++ frV p.K p.L = E := ⟨_, rfl⟩
      have hEl : E.length = D.length + (frV p.K p.L).length := by rw [← hE, List.length_append]
      rw [hE] at HF2
      have HE := Lib.hid hE
      have HEl := Lib.hid hEl
      clear ho1 hb1 HO HB hc0 hc1 hE hEl
      have e1 : IntKind.i64.wrap (8000 - (D.length : Int)) = 8000 - (D.length : Int) := IntWalk.i64_in _ (by omega)
      cases hok : okF p.K p.L.length with
      | false =>
        have hz : (frV p.K p.L).length = 0 := by rw [hQn.2 hok]; rfl
        have t1 : (((frV p.K p.L).length : Int) == 0) = true := by rw [beq_iff_eq]; omega
        have HN : Hid (foF [] (P.map FrA.val) = none) := Lib.hid (by rw [HF2.out, if_neg (fun h => by rw [hok] at h; exact absurd h.1 (by simp))])
        clear HF2 hQn
        generalize frV p.K p.L = Q at *
        rw [hz]
        clear hz t1
        go_wp2
        go_ret2
        rw [HN.out]
        exact ofRes_none w _ HB2.out
      | true =>
        have hz : (frV p.K p.L).length ≠ 0 := fun h => by
          have := hQn.1 (List.length_eq_zero_iff.1 h)
          rw [hok] at this
          cases this
        have t1 : (((frV p.K p.L).length : Int) == 0) = false := by rw [beq_eq_false_iff_ne]; omega
        clear hQn
        by_cases hfit : E.length ≤ 8000
        · have hfit2 : D.length + (frV p.K p.L).length ≤ 8000 := by rw [← HEl.out]; exact hfit
          have t2 : decide (8000 - (D.length : Int) < ((frV p.K p.L).length : Int)) = false := by simp; omega
          have HN : Hid (foF [] (P.map FrA.val) = foF E ((P.drop (k + 1)).map FrA.val)) := Lib.hid (by rw [HF2.out, if_pos ⟨hok, hfit⟩])
          clear HF2 hok
          generalize frV p.K p.L = Q at *
          go_wp2_with (at_builtin; refine wpList_append_bytes _ rfl _ _ rfl w.heap.size _ D rfl HO2.out B1 c1 Q rfl (Lies.of_own HQ.out) (own_tidy HQ.out) E HE.out (by omega) HB2.out.size ?_)
          intro A4 c4 w4 ho4 hg4
          have HB4 := Lib.hid (HB2.out.trans (grown_below HO2.out hg4 (Nat.le_refl _) HB2.out.size))
          have HO4 := Lib.hid ho4
          clear ho4 hg4
          go_wp2
          go_roundw
          case rel => exact ⟨k + 1, E, A4, c4, by omega, by go_num, rfl, HO4.out, hfit, HB4.out, HN⟩
          case measure => simp [intOf]; omega
        · have hfit2 : ¬ D.length + (frV p.K p.L).length ≤ 8000 := by rw [← HEl.out]; exact hfit
          have t2 : decide (8000 - (D.length : Int) < ((frV p.K p.L).length : Int)) = true := by simp; omega
          have HN : Hid (foF [] (P.map FrA.val) = none) := Lib.hid (by rw [HF2.out, if_neg (fun h => hfit h.2)])
          clear HF2 hok
          generalize frV p.K p.L = Q at *
          go_wp2
          go_ret2
          rw [HN.out]
          exact ofRes_none w _ HB2.out
    · have hk2 : k = P.length := by omega
      subst hk2
      have HN : Hid (foF [] (P.map FrA.val) = some D) := Lib.hid (by rw [hF.out, List.drop_length]; rfl)
      clear hF
      go_wp2
      go_ret2
      rw [HN.out]
      exact ⟨B, d, rfl, HO.out, HB.out⟩

end Go.Proofs.YtlbnngolcoefdaaDoor
