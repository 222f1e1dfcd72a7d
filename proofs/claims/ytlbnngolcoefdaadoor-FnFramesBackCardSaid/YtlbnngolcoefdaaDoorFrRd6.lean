/- FrameRead of the specification where a head stands; both, whole. -/
import Derived.Test.YtlbnngolcoefdaaDoorFrRd5
import Derived.Deep.RegionLaw
namespace Go.Proofs.YtlbnngolcoefdaaDoor
open Go.RowKit
set_option maxRecDepth 100000

theorem grown_box {X w' : World} {row : Option Nat} {g : Nat} {t : TypeId} {cs : Array Value} (hg : X.grownBy w' row) (hx : Box X g t cs) (hne : some g ≠ row) : Box w' g t cs := (hg.block g hx.lt hne).trans hx
theorem own_block (g : Nat) : (Value.slice (some ⟨g, 0, none⟩) 0 0).ownBlock = some g := rfl

/-- Bytes stay where a frame's cells are written. -/
theorem own_put {W : World} {base n : Nat} {v : Value} {xs : List Value} {g : Nat} {cs : Array Value} (ho : W.ownsRow base 5 1 v n xs) (hx : Box W g 49 cs) (i : Nat) (u : Value) : (W.setCell ⟨g, i, none⟩ u).ownsRow base 5 1 v n xs := by
  obtain ⟨h1, h2⟩ := ho
  refine ⟨h1, ?_⟩
  rcases h2 with h2 | ⟨k, cap, cur, hv, hk, hh, r⟩
  · exact .inl h2
  · have hne : k ≠ g := by
      rintro rfl
      unfold Box at hx
      rw [hx] at hh
      injection hh with hh
      injection hh with _ e _
      cases e
    exact .inr ⟨k, cap, cur, hv, hk, (Below.heap_setCell W ⟨g, i, none⟩ u k hne).trans hh, r⟩
/-- A frame lies at g, its bytes are new. -/
def FrI (w1 : World) (k : Nat) (B : List Nat) (g : Nat) (A : Option Addr) (c : Nat) (W : World) : Prop :=
  Box W g 49 #[.int .i64 k, .slice A B.length c] ∧ W.ownsRow w1.heap.size 5 1 (.slice A B.length c) B.length (B.map B8) ∧ Below w1.heap.size w1 W
theorem fri_put {w1 W : World} {k : Nat} {B : List Nat} {g : Nat} {A : Option Addr} {c : Nat} {x y : Value} (hx : Box W g 49 #[x, y]) (ho : W.ownsRow w1.heap.size 5 1 (.slice A B.length c) B.length (B.map B8)) (hb : Below w1.heap.size w1 W) (hg : w1.heap.size ≤ g) :
    FrI w1 k B g A c ((W.setCell ⟨g, 0, none⟩ (.int .i64 k)).setCell ⟨g, 1, none⟩ (.slice A B.length c)) :=
  ⟨(hx.put 0 _).put 1 _, own_put (own_put ho hx 0 _) (hx.put 0 _) 1 _, (hb.setCell (p := ⟨g, 0, none⟩) hg _).setCell (p := ⟨g, 1, none⟩) hg _⟩
theorem fri_new {w1 W : World} {k : Nat} {B : List Nat} {A : Option Addr} {c : Nat} (ho : W.ownsRow w1.heap.size 5 1 (.slice A B.length c) B.length (B.map B8)) (hb : Below w1.heap.size w1 W) :
    FrI w1 k B W.heap.size A c (W.alloc (Obj.cells #[.int .i64 k, .slice A B.length c] 49)) :=
  ⟨Box.made _ _ _, ho.alloc _, hb.alloc hb.size _⟩
theorem cutF {Q : Prop} {I : Nat → Option Addr → Nat → World → Prop} {R : Nat → Nat → Option Addr → Nat → World → Prop} (main : (∀ g h A c W, I g A c W → R g h A c W) → Q) (rest : ∀ g h A c W, I g A c W → R g h A c W) : Q := main rest

set_option maxHeartbeats 3200000 in
theorem specRd_some (p o n c : Nat) (D : List Nat) (a s t : Nat) (w : World) (hD : Lies w B8 (some ⟨p, o, none⟩) D) (Hn : Hid (D.length = n)) (hw : ∀ x ∈ D, x < 2 ^ 8) (hnc : n ≤ c) (hcm : c ≤ 9223372036854775807) (hn : n ≤ 17592186044416) (hh : hdV D a = some (s, t)) :
    Calls Tryd.prog 35 #[.slice (some ⟨p, o, none⟩) n c, .int .i64 a] w (RdRes D a w) := by
  obtain ⟨m, j, k, hs, ht, hm, htn, hj1, hj5, ha90, hk, hk8, hrd, hdr⟩ := hdV_some hw hh
  rw [Hn.out] at htn
  have HS := Lib.hid (rdV_some hw hh hk)
  have HP := Lib.hid (rdV_spec hw hh hk)
  obtain ⟨B, hB⟩ : ∃ B, (D.drop s).take (t - s) = B := ⟨_, rfl⟩
  have hBl : B.length = t - s := by rw [← hB, List.length_take, List.length_drop, Hn.out]; omega
  have hBL : Lies w B8 (some ⟨p, o + s, none⟩) B := by rw [← hB]; exact hD.piece s (t - s)
  have HBw : Hid (∀ x ∈ B, x < 2 ^ 8) := Lib.hid fun x hx => by rw [← hB] at hx; exact hw x (List.mem_of_mem_drop (List.mem_of_mem_take hx))
  obtain ⟨o', hsl, hBL'⟩ := slice_piece p o n c s t B w hBl hBL (by omega) (by omega) hcm
  have HBL := Lib.hid hBL'
  have hvr : vrV D ((a : Int) + 2) = ((m : Int), (s : Int), true) := by
    unfold vrV
    rw [if_pos ⟨by omega, by rw [Hn.out]; omega⟩, show ((a : Int) + 2).toNat = a + 2 by omega, hrd, hs]
    simp only [Prod.mk.injEq, true_and, and_true]
    omega
  have HV := Lib.hid hvr
  have HR := Lib.hid fun W (h : Below w.heap.size w W) => specVarRd_any (some ⟨p, o, none⟩) c D ((a : Int) + 2) W (hD.below h) hw (by rw [Hn.out]; exact hnc) hcm (by rw [Hn.out]; exact hn)
  rw [Hn.out] at HR
  obtain ⟨p', q', e1, hpl, hkc⟩ := hD (a + 1) k hk
  injection e1 with e1
  injection e1 with e1 e3
  subst e1 e3
  obtain ⟨p', q', e1, _, h90⟩ := hD a 90 ha90
  injection e1 with e1
  injection e1 with e1 e3
  subst e1 e3
  have HK : Hid (∀ W, Below w.heap.size w W → W.cell? ⟨p, o + (a + 1), none⟩ = some (B8 k)) := Lib.hid fun W h => (h.cell (p := ⟨p, o + (a + 1), none⟩) hpl).trans hkc
  have HW := Lib.hid hw
  have HD := Lib.hid hD
  rw [hB] at HS HP
  have hBl2 : B.length ≤ 8000 := by omega
  have i1 : a + 3 ≤ s := by omega
  have i2 : s ≤ t := by omega
  have i3 : t ≤ s + 8000 := by omega
  have i4 : s + m = t := by omega
  have i4i : (s : Int) + (m : Int) = (t : Int) := by omega
  have i5 : m ≤ n - s := by omega
  clear hs ht hBl hj1 hj5 hh hB hBL hBL' hk hrd hdr ha90 hvr hD hw
  have d0 : decide ((a : Int) < 0) = false := by simp
  have d1 : decide ((n : Int) - 2 < (a : Int)) = false := by simp; omega
  have e2 : IntKind.i64.wrap ((n : Int) - 2) = (n : Int) - 2 := IntWalk.i64_in _ (by omega)
  have e3 : IntKind.i64.wrap ((a : Int) + 2) = (a : Int) + 2 := IntWalk.i64_in _ (by omega)
  have e1 : IntKind.i64.wrap ((a : Int) + 1) = (a : Int) + 1 := IntWalk.i64_in _ (by omega)
  have han : (a : Int) < (n : Int) := by omega
  have hann : a < n := by omega
  have ha1 : (a : Int) + 1 < (n : Int) := by omega
  have ha1n : a + 1 < n := by omega
  have t1 : decide ((8000 : Int) < (m : Int)) = false := by simp; omega
  have t1n : decide (8000 < m) = false := by simp; omega
  have e4 : IntKind.i64.wrap ((n : Int) - (s : Int)) = (n : Int) - (s : Int) := IntWalk.i64_in _ (by omega)
  have t2 : decide ((n : Int) - (s : Int) < (m : Int)) = false := by simp; omega
  have hc0 : (w.alloc (.cells #[.int .i64 0, .slice none 0 0] 49)).cell? ⟨p, o + a, none⟩ = some (B8 90) := (((Below.refl w.heap.size w).alloc (Nat.le_refl _) _).cell (p := ⟨p, o + a, none⟩) hpl).trans h90
  go_enter Tryd.func35, Tryd.ntmps35
  go_wp2_with fail
  clear hc0 h90 hkc
  have sx := Box.made w 49 #[.int .i64 0, .slice none 0 0]
  have hb0 : Below w.heap.size w (w.alloc (Obj.cells #[.int .i64 0, .slice none 0 0] 49)) := (Below.refl _ _).alloc (Nat.le_refl _) _
  generalize w.alloc (Obj.cells #[.int .i64 0, .slice none 0 0] 49) = w0 at *
  refine (HR.out _ hb0).mono ?_
  rintro e w1 ⟨hv, hb1⟩
  unfold VrEnd at hv
  rw [HV.out] at hv
  subst hv
  have sx1 := sx.below hb1 sx.lt
  have hl1 := sx1.lt
  have HB1 := Lib.hid (below_then hb0 hb1)
  have HX1 := Lib.hid sx1
  have k1 := HK.out w1 HB1.out
  clear hb1 hb0 HR sx sx1 HV
  have hpl1 : p < w1.heap.size := Nat.lt_of_lt_of_le hpl HB1.out.size
  have hnz : ¬ p = w1.heap.size := by omega
  have hnz2 : ¬ p = w1.heap.size + 1 := by omega
  have e5 : IntKind.i64.wrap ((s : Int) + (m : Int)) = (t : Int) := by rw [i4i]; exact IntWalk.i64_in _ (by omega)
  have e6 : IntKind.i64.wrap (t : Int) = (t : Int) := IntWalk.i64_in _ (by omega)
  have e7 : (0 : Int) ≤ (a : Int) + 1 := by omega
  go_wp2_with fail
  have HM : Hid (([] : List Nat).length + B.length ≤ 1073741824) := Lib.hid (by simp; omega)
  have ba : Below w1.heap.size w1 (w1.alloc (Obj.cells #[] 5)).drew := ((Below.refl _ _).alloc (Nat.le_refl _) _).drew
  have oa : (w1.alloc (Obj.cells #[] 5)).drew.ownsRow w1.heap.size 5 1 (.slice (some ⟨w1.heap.size, 0, none⟩) 0 0) ([] : List Nat).length (([] : List Nat).map B8) := own_drew (World.ownsRow_lit w1 _ _ (Nat.le_refl _) (show 0 ≤ maxLen by decide) rfl)
  have bb : Below w1.heap.size w1 ((w1.alloc (Obj.cells #[] 5)).alloc (Obj.cells #[.int .i64 0, .slice none 0 0] 49)).drew := (((Below.refl _ _).alloc (Nat.le_refl _) _).alloc (by simp) _).drew
  have ob : ((w1.alloc (Obj.cells #[] 5)).alloc (Obj.cells #[.int .i64 0, .slice none 0 0] 49)).drew.ownsRow w1.heap.size 5 1 (.slice (some ⟨w1.heap.size, 0, none⟩) 0 0) ([] : List Nat).length (([] : List Nat).map B8) := own_drew ((World.ownsRow_lit w1 _ _ (Nat.le_refl _) (show 0 ≤ maxLen by decide) rfl).alloc _)
  have bc : Below w1.heap.size w1 ((w1.alloc (Obj.cells #[.int .i64 0, .slice none 0 0] 49)).alloc (Obj.cells #[] 5)).drew := (((Below.refl _ _).alloc (Nat.le_refl _) _).alloc (by simp) _).drew
  have oc : ((w1.alloc (Obj.cells #[.int .i64 0, .slice none 0 0] 49)).alloc (Obj.cells #[] 5)).drew.ownsRow w1.heap.size 5 1 (.slice (some ⟨w1.heap.size + 1, 0, none⟩) 0 0) ([] : List Nat).length (([] : List Nat).map B8) := by
    have e : (w1.alloc (Obj.cells #[.int .i64 0, .slice none 0 0] 49)).heap.size = w1.heap.size + 1 := by simp
    rw [← e]
    exact own_drew (World.ownsRow_lit (w1.alloc (Obj.cells #[.int .i64 0, .slice none 0 0] 49)) _ _ (by simp) (show 0 ≤ maxLen by decide) rfl)
  have FB2 : Hid (Box ((w1.alloc (Obj.cells #[] 5)).alloc (Obj.cells #[.int .i64 0, .slice none 0 0] 49)).drew (w1.heap.size + 1) 49 #[.int .i64 0, .slice none 0 0]) := Lib.hid (by
    have e : (w1.alloc (Obj.cells #[] 5)).heap.size = w1.heap.size + 1 := by simp
    rw [← e]
    exact Box.made _ _ _)
  have FB3 : Hid (Box ((w1.alloc (Obj.cells #[.int .i64 0, .slice none 0 0] 49)).alloc (Obj.cells #[] 5)).drew w1.heap.size 49 #[.int .i64 0, .slice none 0 0]) := Lib.hid ((Box.made w1 _ _).alloc _)
  have BA := Lib.hid ba
  have OA := Lib.hid oa
  have BBB := Lib.hid bb
  have OB := Lib.hid ob
  have BC := Lib.hid bc
  have OC := Lib.hid oc
  clear ba oa bb ob bc oc
  have ek : IntKind.i64.wrap (k : Int) = (k : Int) := IntWalk.i64_in _ (by omega)
  apply cutF (I := FrI w1 k B)
  case main =>
    intro key
    have HKey := Lib.hid key
    clear key
    go_region_law
      (first
        | (refine step_append_bytes (w1.alloc (Obj.cells #[] 5)).drew (by rfl) (.tmp 58) (.tmp 64) (by rfl) w1.heap.size (.slice (some ⟨w1.heap.size, 0, none⟩) 0 0) [] (by rfl) (OA.out) (some ⟨p, o', none⟩) (c - s) B (by rfl) (HBL.out.below (below_then HB1.out BA.out)) (.inr ⟨_, _, rfl⟩) B rfl HM.out (BA.out).size ?_; intro A4 c4 w4 ho4 hg4; have HB4 := Lib.hid ((BA.out).trans (grown_below (OA.out) hg4 (Nat.le_refl _) (BA.out).size)); have HG4 := Lib.hid hg4; have HO4 := Lib.hid ho4; have k4 := HK.out w4 (below_then HB1.out HB4.out); have hpl4 := Nat.lt_of_lt_of_le hpl1 HB4.out.size; have hnz4 : ¬ p = w4.heap.size := (by omega); clear ho4 hg4)
        | (refine step_append_bytes ((w1.alloc (Obj.cells #[] 5)).alloc (Obj.cells #[.int .i64 0, .slice none 0 0] 49)).drew (by rfl) (.tmp 58) (.tmp 64) (by rfl) w1.heap.size (.slice (some ⟨w1.heap.size, 0, none⟩) 0 0) [] (by rfl) (OB.out) (some ⟨p, o', none⟩) (c - s) B (by rfl) (HBL.out.below (below_then HB1.out BBB.out)) (.inr ⟨_, _, rfl⟩) B rfl HM.out (BBB.out).size ?_; intro A4 c4 w4 ho4 hg4; have HB4 := Lib.hid ((BBB.out).trans (grown_below (OB.out) hg4 (Nat.le_refl _) (BBB.out).size)); have HG4 := Lib.hid hg4; have HO4 := Lib.hid ho4; have k4 := HK.out w4 (below_then HB1.out HB4.out); have hpl4 := Nat.lt_of_lt_of_le hpl1 HB4.out.size; have hnz4 : ¬ p = w4.heap.size := (by omega); have hx4 : Box w4 (w1.heap.size + 1) 49 #[.int .i64 0, .slice none 0 0] := grown_box hg4 (FB2.out) (by rw [own_block]; simp); have f40 := hx4.cell 0; have f41 := hx4.cell 1; have f4z := hx4.frozen 0; have f4y := hx4.frozen 1; have f4l := hx4.lt; simp only [List.getElem?_toArray, List.getElem?_cons_zero, List.getElem?_cons_succ] at f40 f41; have HX4 := Lib.hid hx4; clear hx4; clear ho4 hg4)
        | (refine step_append_bytes ((w1.alloc (Obj.cells #[.int .i64 0, .slice none 0 0] 49)).alloc (Obj.cells #[] 5)).drew (by rfl) (.tmp 58) (.tmp 64) (by rfl) w1.heap.size (.slice (some ⟨w1.heap.size + 1, 0, none⟩) 0 0) [] (by rfl) (OC.out) (some ⟨p, o', none⟩) (c - s) B (by rfl) (HBL.out.below (below_then HB1.out BC.out)) (.inr ⟨_, _, rfl⟩) B rfl HM.out (BC.out).size ?_; intro A4 c4 w4 ho4 hg4; have HB4 := Lib.hid ((BC.out).trans (grown_below (OC.out) hg4 (Nat.le_refl _) (BC.out).size)); have HG4 := Lib.hid hg4; have HO4 := Lib.hid ho4; have k4 := HK.out w4 (below_then HB1.out HB4.out); have hpl4 := Nat.lt_of_lt_of_le hpl1 HB4.out.size; have hnz4 : ¬ p = w4.heap.size := (by omega); have hx4 : Box w4 w1.heap.size 49 #[.int .i64 0, .slice none 0 0] := grown_box hg4 (FB3.out) (by rw [own_block]; simp); have f40 := hx4.cell 0; have f41 := hx4.cell 1; have f4z := hx4.frozen 0; have f4y := hx4.frozen 1; have f4l := hx4.lt; simp only [List.getElem?_toArray, List.getElem?_cons_zero, List.getElem?_cons_succ] at f40 f41; have HX4 := Lib.hid hx4; clear hx4; clear ho4 hg4))
    all_goals first
      | (have HI := Lib.hid (fri_new (k := k) HO4.out HB4.out)
         generalize w4.alloc (Obj.cells #[.int .i64 (k : Int), .slice A4 B.length c4] 49) = W9 at HI ⊢
         generalize w4.heap.size = g9 at HI ⊢
         generalize w1.heap.size = h9
         exact HKey.out g9 h9 A4 c4 W9 HI.out)
      | (have HI := Lib.hid (fri_put (k := k) (g := w1.heap.size + 1) HX4.out HO4.out HB4.out (by omega))
         generalize (w4.setCell ⟨w1.heap.size + 1, 0, none⟩ (.int .i64 (k : Int))).setCell ⟨w1.heap.size + 1, 1, none⟩ (.slice A4 B.length c4) = W9 at HI ⊢
         generalize w1.heap.size + 1 = g9 at HI ⊢
         generalize w1.heap.size = h9
         exact HKey.out g9 h9 A4 c4 W9 HI.out)
      | (have HI := Lib.hid (fri_put (k := k) (g := w1.heap.size) HX4.out HO4.out HB4.out (Nat.le_refl _))
         generalize (w4.setCell ⟨w1.heap.size, 0, none⟩ (.int .i64 (k : Int))).setCell ⟨w1.heap.size, 1, none⟩ (.slice A4 B.length c4) = W9 at HI ⊢
         generalize w1.heap.size + 1 = h9
         generalize w1.heap.size = g9 at HI ⊢
         exact HKey.out g9 h9 A4 c4 W9 HI.out)
      | (refine Hid.out ?_; trace_state; sorry)
  case rest =>
    intro g h A4 c4 w5 hI
    show Exit.then _ _ _ _ _
    obtain ⟨hx5, ho5, hb5⟩ := hI
    have f0 := hx5.cell 0
    have f1 := hx5.cell 1
    have f2 := hx5.lt
    simp only [List.getElem?_toArray, List.getElem?_cons_zero, List.getElem?_cons_succ] at f0 f1
    have HX5 := Lib.hid hx5
    have HO5 := Lib.hid ho5
    have HB5 := Lib.hid hb5
    have HX15 : Hid (Box w5 w.heap.size 49 #[.int .i64 0, .slice none 0 0]) := Lib.hid (HX1.out.below hb5 HX1.out.lt)
    clear hx5 ho5 hb5 hsl HK BA OA BBB OB BC OC FB2 FB3 k1
    go_wp2_with fail
    refine (specFrameOf_any (k : Int) A4 c4 B w5 (Lies.of_own HO5.out) (own_tidy HO5.out) HBw.out).mono ?_
    rintro e w6 ⟨Ad, cd, rfl, ho6, hb6⟩
    have hfv : frV (k : Int) B = frB k B := by
      unfold frV
      rw [if_pos (show okF (k : Int) B.length = true from decide_eq_true (by omega)), Int.toNat_natCast]
    rw [hfv] at ho6 ⊢
    obtain ⟨l, hl⟩ : ∃ l, t + 4 - a = l := ⟨_, rfl⟩
    rw [hl] at HS HP
    have i6 : a + l = t + 4 := by omega
    have hQw : ∀ x ∈ frB k B, x < 2 ^ 8 := frB_byte hk8 HBw.out (varV_byte _)
    have hQl : (frB k B).length = l := HP.out.1
    have HB6 : Hid (Below w.heap.size w w6) := Lib.hid (below_then (below_then HB1.out HB5.out) hb6)
    have HX6 := HX15.out.below hb6 HX15.out.lt
    have hx6 := HX5.out.below hb6 HX5.out.lt
    have HO6 := Lib.hid (own_below HO5.out hb6 (Nat.le_refl _))
    have hcv : ∀ q, (convert 22 9 (.slice Ad (frB k B).length cd)).run Tryd.prog (w6.drewN q) = .ok (.string (bstr (frB k B))) (w6.drewN q) := fun q => conv_any (P := Tryd.prog) (w6.drewN q) 22 5 9 Tryd.underlying22 Tryd.underlying5 Tryd.underlying9 Ad cd _ (own_addr ho6) ((Lies.of_own ho6).drewN q)
    rw [hQl] at hcv
    have f3 := hx6.cell 0
    have f4 := hx6.cell 1
    have f5 := hx6.lt
    have x3 := HX6.cell 0
    have x4 := HX6.cell 1
    have x5 := HX6.lt
    have z3 := HX6.frozen 0
    have z4 := HX6.frozen 1
    simp only [List.getElem?_toArray, List.getElem?_cons_zero, List.getElem?_cons_succ] at f3 f4 x3 x4
    have hwl : (w6.drew).heap.size = w6.heap.size := rfl
    have hQe : (D.drop a).take l = frB k B ↔ (D.drop t).take 4 = four (crcL ((D.drop a).take (t - a))) := HP.out.2
    have HQ6 := Lib.hid ho6
    have HXX := Lib.hid HX6
    clear hb6 HP f0 f1 f2 hl ho6 hx6 HX6 hfv
    rw [hQl]
    have e8 : IntKind.i64.wrap ((a : Int) + (l : Int)) = (a : Int) + (l : Int) := IntWalk.i64_in _ (by omega)
    by_cases hfit : a + l ≤ n
    · have t5 : decide ((n : Int) < (a : Int) + (l : Int)) = false := by simp; omega
      obtain ⟨G, hG⟩ : ∃ G, (D.drop a).take l = G := ⟨_, rfl⟩
      have hGl : G.length = a + l - a := by rw [← hG, List.length_take, List.length_drop, Hn.out]; omega
      have hGL : Lies w6 B8 (some ⟨p, o + a, none⟩) G := by rw [← hG]; exact (HD.out.below HB6.out).piece a l
      have hGw : ∀ x ∈ G, x < 2 ^ 8 := fun x hx => by rw [← hG] at hx; exact HW.out x (List.mem_of_mem_drop (List.mem_of_mem_take hx))
      obtain ⟨o2, hs2, hGL2⟩ := slice_piece p o n c a (a + l) G w6 hGl hGL (by omega) (by omega) hcm
      have hcg : ∀ q, (convert 22 9 (.slice (some ⟨p, o2, none⟩) G.length (c - a))).run Tryd.prog (w6.drewN q) = .ok (.string (bstr G)) (w6.drewN q) := fun q => conv_any (P := Tryd.prog) (w6.drewN q) 22 5 9 Tryd.underlying22 Tryd.underlying5 Tryd.underlying9 _ _ _ (.inr ⟨_, _, rfl⟩) (hGL2.drewN q)
      rw [show ((a + l : Nat) : Int) = (a : Int) + (l : Int) by omega] at hs2
      rw [show G.length = l by omega] at hs2 hcg
      rw [hG] at hQe
      by_cases hq : G = frB k B
      · have HR : Hid (rdV D a = some (k, B, l)) := Lib.hid (by rw [HS.out, if_pos (hQe.1 hq)])
        rw [hq] at hcg
        clear HS hQe hq hG hGl hGL hGw hGL2 hQw
        generalize bstr (frB k B) = S1 at *
        have n1 : (S1.toList == S1.toList) = true := by simp
        go_wp2_with fail
        go_quiet (fail)
        have HB7 : Hid (Below w.heap.size w (w6.drewN nq)) := Lib.hid (below_dN HB6.out nq)
        have HX7 : Hid (Box (w6.drewN nq) w.heap.size 49 #[.int .i64 0, .slice none 0 0]) := HXX
        have HO7 : Hid ((w6.drewN nq).ownsRow w1.heap.size 5 1 (.slice A4 B.length c4) B.length (B.map B8)) := HO6
        replace x3 : (w6.drewN nq).cell? ⟨w.heap.size, 0, none⟩ = _ := x3
        replace x4 : (w6.drewN nq).cell? ⟨w.heap.size, 1, none⟩ = _ := x4
        replace z3 : (w6.drewN nq).frozen? ⟨w.heap.size, 0, none⟩ = false := z3
        replace z4 : (w6.drewN nq).frozen? ⟨w.heap.size, 1, none⟩ = false := z4
        replace x5 : w.heap.size < (w6.drewN nq).heap.size := x5
        replace f3 : (w6.drewN nq).cell? ⟨g, 0, none⟩ = _ := f3
        replace f4 : (w6.drewN nq).cell? ⟨g, 1, none⟩ = _ := f4
        replace f5 : g < (w6.drewN nq).heap.size := f5
        clear hcv hcg hwl hs2
        generalize w6.drewN nq = w7 at *
        go_wp2
        refine bodyPost_ret (v := .tuple #[.agg #[.int .i64 k, .slice A4 B.length c4], .int .i64 ((a : Int) + (l : Int)), .bool true]) (by simp [results, Tryd.results35, go_sem, x3, x4]) rfl ?_
        exact rd_res_some HR.out (own_mono (own_put (own_put HO7.out HX7.out 0 _) (HX7.out.put 0 _) 1 _) HB1.out.size) ((HB7.out.setCell (p := ⟨w.heap.size, 0, none⟩) (Nat.le_refl _) _).setCell (p := ⟨w.heap.size, 1, none⟩) (Nat.le_refl _) _)
      · have HR : Hid (rdV D a = none) := Lib.hid (by rw [HS.out, if_neg (fun h => hq (hQe.2 h))])
        have hne : bstr G ≠ bstr (frB k B) := fun e => hq (bstr_inj hGw hQw e)
        clear HS hQe hq hG hGl hGL hGw hGL2 hQw
        generalize bstr (frB k B) = S1 at *
        generalize bstr G = S2 at *
        have n1 : (S2.toList == S1.toList) = false := by
          rw [beq_eq_false_iff_ne]
          intro h
          rw [ByteArray.toList_eq, ByteArray.toList_eq] at h
          exact hne (ByteArray.ext (Array.toList_inj.mp h))
        clear hne
        go_wp2_with fail
        go_quiet (fail)
        clear hcg hs2
        have HB7 : Hid (Below w.heap.size w (w6.drewN nq)) := Lib.hid (below_dN HB6.out nq)
        replace x3 : (w6.drewN nq).cell? ⟨w.heap.size, 0, none⟩ = _ := x3
        replace x4 : (w6.drewN nq).cell? ⟨w.heap.size, 1, none⟩ = _ := x4
        replace z3 : (w6.drewN nq).frozen? ⟨w.heap.size, 0, none⟩ = false := z3
        replace z4 : (w6.drewN nq).frozen? ⟨w.heap.size, 1, none⟩ = false := z4
        replace x5 : w.heap.size < (w6.drewN nq).heap.size := x5
        clear hcv f3 f4 f5 hwl
        generalize w6.drewN nq = w7 at *
        go_wp2
        refine bodyPost_ret (v := .tuple #[.agg #[.int .i64 0, .slice none 0 0], .int .i64 0, .bool false]) (by simp [results, Tryd.results35, go_sem, x3, x4]) rfl ?_
        exact rd_res_none HR.out ((HB7.out.setCell (p := ⟨w.heap.size, 0, none⟩) (Nat.le_refl _) _).setCell (p := ⟨w.heap.size, 1, none⟩) (Nat.le_refl _) _)
    · have t5 : decide ((n : Int) < (a : Int) + (l : Int)) = true := by simp; omega
      have HR : Hid (rdV D a = none) := Lib.hid (by
        rw [HS.out, if_neg]
        intro h
        have := congrArg List.length h
        rw [four_len, List.length_take, List.length_drop, Hn.out] at this
        omega)
      clear HS hQe hQw
      go_wp2_with fail
      go_quiet (fail)
      have HB7 : Hid (Below w.heap.size w (w6.drewN nq)) := Lib.hid (below_dN HB6.out nq)
      replace x3 : (w6.drewN nq).cell? ⟨w.heap.size, 0, none⟩ = _ := x3
      replace x4 : (w6.drewN nq).cell? ⟨w.heap.size, 1, none⟩ = _ := x4
      replace z3 : (w6.drewN nq).frozen? ⟨w.heap.size, 0, none⟩ = false := z3
      replace z4 : (w6.drewN nq).frozen? ⟨w.heap.size, 1, none⟩ = false := z4
      replace x5 : w.heap.size < (w6.drewN nq).heap.size := x5
      clear hcv f3 f4 f5 hwl
      generalize w6.drewN nq = w7 at *
      go_wp2
      refine bodyPost_ret (v := .tuple #[.agg #[.int .i64 0, .slice none 0 0], .int .i64 0, .bool false]) (by simp [results, Tryd.results35, go_sem, x3, x4]) rfl ?_
      exact rd_res_none HR.out ((HB7.out.setCell (p := ⟨w.heap.size, 0, none⟩) (Nat.le_refl _) _).setCell (p := ⟨w.heap.size, 1, none⟩) (Nat.le_refl _) _)

theorem specFrameRead_any (A : Option Addr) (c : Nat) (D : List Nat) (a : Int) (w : World) (hD : Lies w B8 A D) (hw : ∀ x ∈ D, x < 2 ^ 8) (hnc : D.length ≤ c) (hcm : c ≤ 9223372036854775807) (hn : D.length ≤ 17592186044416) (ha : a ≤ 9223372036854775807) :
    Calls Tryd.prog 35 #[.slice A D.length c, .int .i64 a] w (RdRes D a w) := by
  by_cases h : 0 ≤ a ∧ a + 2 ≤ D.length
  · obtain ⟨m, rfl⟩ := Int.eq_ofNat_of_zero_le h.1
    obtain ⟨p, o, _, rfl, _, _, _⟩ := hD.at_ (i := m) (by omega)
    cases hh : hdV D m with
    | none => exact specRd_none p o D.length c D m w hD (Lib.hid rfl) hw (by omega) hnc hcm hn hh
    | some q => exact specRd_some p o D.length c D m q.1 q.2 w hD (Lib.hid rfl) hw hnc hcm hn hh
  · refine specRd_out A D.length c D a w (by omega) hn ha (rdV_none ?_)
    unfold hdV
    rw [if_neg]
    omega

end Go.Proofs.YtlbnngolcoefdaaDoor
