/- FramesOf of the program, over a list of frames that lies in memory. -/
import Derived.Test.YtlbnngolcoefdaaDoorFrs1
namespace Go.Proofs.YtlbnngolcoefdaaDoor
open Go.RowKit
set_option maxRecDepth 100000

set_option maxHeartbeats 1600000 in
theorem implFramesOf_any (A : Option Addr) (c : Nat) (P : List FrA) (w : World) (hL : LiesF w A P) (hP : P.length ≤ 1073741824) :
    Calls Tryd.prog 22 #[.slice A P.length c] w (OfRes w (foF [] (P.map FrA.val))) := by
  have HL := Lib.hid hL
  clear hL
  go_enter Tryd.func22, Tryd.ntmps22
  go_wp2
  go_loopw [4, 9] (fun s i wr => ∃ (k : Nat) (D : List Nat) (B : Option Addr) (d : Nat), k ≤ P.length ∧ i = .int .i64 k ∧ s = .slice B D.length d ∧ wr.ownsRow w.heap.size 5 1 (.slice B D.length d) D.length (D.map B8) ∧ D.length ≤ 8000 ∧ Below w.heap.size w wr ∧ Hid (foF [] (P.map FrA.val) = foF D ((P.drop k).map FrA.val))) (fun _ i _ => P.length - (intOf i).toNat)
  case atStart => exact ⟨0, [], none, 0, Nat.zero_le _, rfl, rfl, World.ownsRow_nil _ _ _ _, by simp, Below.refl _ _, Lib.hid rfl⟩
  case round =>
    obtain ⟨k, D, B, d, hk, rfl, rfl, ho, hD, hb, hF⟩ := hrel
    have HO := Lib.hid ho
    have HB := Lib.hid hb
    clear ho hb
    by_cases hlt : k < P.length
    · obtain ⟨p, hp⟩ : ∃ p, P[k]? = some p := ⟨P[k], List.getElem?_eq_getElem hlt⟩
      obtain ⟨⟨b, o, rfl, hbl, hc0, hc1⟩, hpl, hpt, hpb⟩ := (HL.out.below HB.out) k p hp
      have hF2 := hF.out
      rw [foF_at hp] at hF2
      have HF2 := Lib.hid hF2
      have HPl := Lib.hid hpl
      have HPt := Lib.hid hpt
      have HPb := Lib.hid hpb
      have tl : decide ((k : Int) < (P.length : Int)) = true := by simp; omega
      clear hp hpl hpt hpb hF2 hF
      go_wp2_with fail
      have sx := Box.made wr 49 #[.int .i64 p.K, .slice p.A p.L.length p.c]
      have hb0 : Below wr.heap.size wr (wr.alloc (Obj.cells #[.int .i64 p.K, .slice p.A p.L.length p.c] 49)) := (Below.refl _ _).alloc (Nat.le_refl _) _
      clear hc0 hc1
      generalize wr.alloc (Obj.cells #[.int .i64 p.K, .slice p.A p.L.length p.c] 49) = w0 at *
      generalize wr.heap.size = s0 at sx ⊢
      refine (implFrameOk_any p.K p.A p.c p.L.length w0).mono ?_
      rintro e w1 ⟨rfl, hb1⟩
      have sx1 := sx.below hb1 sx.lt
      obtain ⟨g0, g1, g2⟩ : w1.cell? ⟨s0, 0, none⟩ = some (.int .i64 p.K) ∧ w1.cell? ⟨s0, 1, none⟩ = some (.slice p.A p.L.length p.c) ∧ s0 < w1.heap.size := ⟨sx1.cell 0, sx1.cell 1, sx1.lt⟩
      have HB01 := Lib.hid (below_then hb0 hb1)
      have HB1 := Lib.hid (below_then HB.out HB01.out)
      have HO1 := Lib.hid (own_below HO.out HB01.out (Nat.le_refl _))
      clear hb0 hb1 sx sx1
      cases hok : okF p.K p.L.length with
      | false =>
        have HN : Hid (foF [] (P.map FrA.val) = none) := Lib.hid (by rw [HF2.out, if_neg (fun h => by rw [hok] at h; exact absurd h.1 (by simp))])
        clear HF2 hok
        go_wp2
        go_ret2
        rw [HN.out]
        exact ofRes_none w _ HB1.out
      | true =>
        go_wp2_with fail
        refine (implFrameOf_any p.K p.A p.c p.L w1 (HPl.out.below HB01.out) HPt.out HPb.out).mono ?_
        rintro e w2 ⟨B1, c1, rfl, ho1, hb2⟩
        have hQl := frV_len p.K p.L
        have HO2 := Lib.hid (own_below HO1.out hb2 (Nat.le_refl _))
        have HB2 := Lib.hid (below_then HB1.out hb2)
        have HQ := Lib.hid ho1
        obtain ⟨E, hE⟩ : ∃ E, D ++ frV p.K p.L = E := ⟨_, rfl⟩
        have hEl : E.length = D.length + (frV p.K p.L).length := by rw [← hE, List.length_append]
        rw [hE] at HF2
        have HE := Lib.hid hE
        have HEl := Lib.hid hEl
        clear ho1 hb2 HO HB HO1 HB1 hE hEl g0 g1 g2
        generalize frV p.K p.L = Q at *
        go_wp2_with (at_builtin; refine wpList_append_bytes _ rfl _ _ rfl w.heap.size _ D rfl HO2.out B1 c1 Q rfl (Lies.of_own HQ.out) (own_tidy HQ.out) E HE.out (by omega) HB2.out.size ?_)
        intro A4 c4 w4 ho4 hg4
        have HB4 := Lib.hid (HB2.out.trans (grown_below HO2.out hg4 (Nat.le_refl _) HB2.out.size))
        have HO4 := Lib.hid ho4
        clear ho4 hg4
        by_cases hfit : E.length ≤ 8000
        · have t2 : decide ((8000 : Int) < (E.length : Int)) = false := by simp; omega
          have t2n : decide (8000 < E.length) = false := by simp; omega
          have HN : Hid (foF [] (P.map FrA.val) = foF E ((P.drop (k + 1)).map FrA.val)) := Lib.hid (by rw [HF2.out, if_pos ⟨hok, hfit⟩])
          clear HF2 hok
          go_wp2
          go_roundw
          case rel => exact ⟨k + 1, E, A4, c4, by omega, by go_num, rfl, HO4.out, hfit, HB4.out, HN⟩
          case measure => simp [intOf]; omega
        · have t2 : decide ((8000 : Int) < (E.length : Int)) = true := by simp; omega
          have t2n : decide (8000 < E.length) = true := by simp; omega
          have HN : Hid (foF [] (P.map FrA.val) = none) := Lib.hid (by rw [HF2.out, if_neg (fun h => hfit h.2)])
          clear HF2 hok
          go_wp2
          go_ret2
          rw [HN.out]
          exact ofRes_none w _ HB4.out
    · have hk2 : k = P.length := by omega
      subst hk2
      have HN : Hid (foF [] (P.map FrA.val) = some D) := Lib.hid (by rw [hF.out, List.drop_length]; rfl)
      clear hF
      go_wp2
      go_ret2
      rw [HN.out]
      exact ⟨B, d, rfl, HO.out, HB.out⟩

end Go.Proofs.YtlbnngolcoefdaaDoor
