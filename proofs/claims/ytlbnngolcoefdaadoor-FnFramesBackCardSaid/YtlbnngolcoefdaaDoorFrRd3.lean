/- decodeFrame and FrameRead of the program. -/
import Derived.Test.YtlbnngolcoefdaaDoorFrRd2
import Derived.Deep.RegionWith
import Derived.Deep.RegionHeld3
namespace Go.Proofs.YtlbnngolcoefdaaDoor
open Go.RowKit
set_option maxRecDepth 100000

/-- What FrameRead returns. -/
def RdRes (D : List Nat) (a : Int) (w : World) (e : Ending) (w' : World) : Prop :=
  match rdV D a with
  | none => e = .returned (.tuple #[.agg #[.int .i64 0, .slice none 0 0], .int .i64 0, .bool false]) ∧ Below w.heap.size w w'
  | some (k, B, l) => ∃ A c, e = .returned (.tuple #[.agg #[.int .i64 k, .slice A B.length c], .int .i64 (a + (l : Int)), .bool true]) ∧ w'.ownsRow w.heap.size 5 1 (.slice A B.length c) B.length (B.map B8) ∧ Below w.heap.size w w'
theorem rd_res_none {D : List Nat} {a : Int} {w w' : World} (h : rdV D a = none) (hb : Below w.heap.size w w') : RdRes D a w (.returned (.tuple #[.agg #[.int .i64 0, .slice none 0 0], .int .i64 0, .bool false])) w' := by
  unfold RdRes
  rw [h]
  exact ⟨rfl, hb⟩
theorem rd_res_some {D : List Nat} {a : Int} {w w' : World} {k l : Nat} {B : List Nat} (h : rdV D a = some (k, B, l)) {A : Option Addr} {c : Nat} (ho : w'.ownsRow w.heap.size 5 1 (.slice A B.length c) B.length (B.map B8)) (hb : Below w.heap.size w w') :
    RdRes D a w (.returned (.tuple #[.agg #[.int .i64 k, .slice A B.length c], .int .i64 (a + (l : Int)), .bool true])) w' := by
  unfold RdRes
  rw [h]
  exact ⟨A, c, rfl, ho, hb⟩

/-- What decodeFrame returns. -/
def DcRes (D : List Nat) (a : Int) (b : Addr) (w : World) (e : Ending) (w' : World) : Prop :=
  match rdV D a with
  | none => (∃ s, e = .returned (.tuple #[.agg #[.int .i64 0, .slice none 0 0], .int .i64 0, .iface 132 (.agg #[.string s, EN b])])) ∧ Below w.heap.size w w'
  | some (k, B, l) => ∃ A c, e = .returned (.tuple #[.agg #[.int .i64 k, .slice A B.length c], .int .i64 (a + (l : Int)), .nilIface]) ∧ w'.ownsRow w.heap.size 5 1 (.slice A B.length c) B.length (B.map B8) ∧ Below w.heap.size w w'
theorem dc_none {D : List Nat} {a : Int} {b : Addr} {w w' : World} {s : ByteArray} (h : rdV D a = none) (hb : Below w.heap.size w w') : DcRes D a b w (.returned (.tuple #[.agg #[.int .i64 0, .slice none 0 0], .int .i64 0, .iface 132 (.agg #[.string s, EN b])])) w' := by
  unfold DcRes
  rw [h]
  exact ⟨⟨s, rfl⟩, hb⟩
theorem dc_some {D : List Nat} {a : Int} {b : Addr} {w w' : World} {k l : Nat} {B : List Nat} (h : rdV D a = some (k, B, l)) {A : Option Addr} {c : Nat} (ho : w'.ownsRow w.heap.size 5 1 (.slice A B.length c) B.length (B.map B8)) (hb : Below w.heap.size w w') :
    DcRes D a b w (.returned (.tuple #[.agg #[.int .i64 k, .slice A B.length c], .int .i64 (a + (l : Int)), .nilIface])) w' := by
  unfold DcRes
  rw [h]
  exact ⟨A, c, rfl, ho, hb⟩

set_option maxHeartbeats 1600000 in
theorem implDecode_none (A : Option Addr) (c : Nat) (D : List Nat) (a : Int) (b : Addr) (w : World) (hG : NoFrame w b) (hD : Lies w B8 A D) (hw : ∀ x ∈ D, x < 2 ^ 8) (hnc : D.length ≤ c) (hcm : c ≤ 9223372036854775807) (hn : D.length ≤ 17592186044416) (hh : hdV D a = none) :
    Calls Tryd.prog 76 #[.slice A D.length c, .int .i64 a] w (DcRes D a b w) := by
  have HR := Lib.hid fun W (h : Below w.heap.size w W) => implHead_any A c D a b W (hG.below h) (hD.below h) hw hnc hcm hn
  have HN := Lib.hid (rdV_none hh)
  have HH := Lib.hid hh
  clear hG hD hw hh
  have hneq : ∀ W : World, (binOp .neq 99 (EN b) .nilIface).run Tryd.prog W = .ok (.bool true) W := fun W => by kernel_rfl
  go_enter Tryd.func76, Tryd.ntmps76
  go_wp2_with fail
  have sx := Box.made w 49 #[.int .i64 0, .slice none 0 0]
  refine (HR.out _ (by go_grown)).mono ?_
  rintro e w1 ⟨he, hb1⟩
  unfold HdEnd at he
  rw [HH.out] at he
  subst he
  have sx1 := sx.below hb1 sx.lt
  have z0 := sx1.frozen 0
  have z1 := sx1.frozen 1
  have y0 := sx1.cell 0
  have y1 := sx1.cell 1
  have HB : Hid (Below w.heap.size w w1) := Lib.hid (below_then ((Below.refl _ _).alloc (Nat.le_refl _) _) hb1)
  have hl1 := sx1.lt
  clear hb1 HR HH sx sx1
  simp only [List.getElem?_toArray, List.getElem?_cons_zero, List.getElem?_cons_succ] at y0 y1
  go_wp2
  refine bodyPost_ret (v := .tuple #[.agg #[.int .i64 0, .slice none 0 0], .int .i64 0, .iface 132 (.agg #[.string ⟨#[104, 101, 97, 100]⟩, EN b])]) (by simp [results, Tryd.results76, go_sem, y0, y1]) rfl ?_
  exact dc_none HN.out ((HB.out.setCell (p := ⟨w.heap.size, 0, none⟩) (Nat.le_refl _) _).setCell (p := ⟨w.heap.size, 1, none⟩) (Nat.le_refl _) _)

/-- A piece of a slice, whatever its room. -/
theorem slice_piece (p o n c s t : Nat) (B : List Nat) (w : World) (hB : B.length = t - s) (hL : Lies w B8 (some ⟨p, o + s, none⟩) B) (h1 : s ≤ t) (h2 : t ≤ c) (hcm : c ≤ 9223372036854775807) :
    ∃ o', (∀ W : World, (Instr.slice 22 (.slice (some ⟨p, o, none⟩) n c) (some (.int .i64 (s : Int))) (some (.int .i64 (t : Int))) none).run Tryd.prog W = .ok (.slice (some ⟨p, o', none⟩) B.length (c - s)) W) ∧ Lies w B8 (some ⟨p, o', none⟩) B := by
  have hz : ∀ W : World, (sizeOf (Tryd.prog.elem 22)).run Tryd.prog W = .ok 1 W := fun W => by kernel_rfl
  by_cases hct : c = s
  · refine ⟨o, fun W => ?_, ?_⟩
    · rw [run_slice_lh (P := Tryd.prog) W 22 (some ⟨p, o, none⟩) n c Tryd.underlying22 .i64 .i64 (s : Int) (t : Int) (by omega) (by omega) (by omega), Int.toNat_natCast, Int.toNat_natCast, hz]
      simp [Result.andThen, sliced, Addr.add, hct, hB]
    · have : B = [] := List.length_eq_zero_iff.1 (by omega)
      rw [this]
      exact Lies.nil_
  · refine ⟨o + s, fun W => ?_, hL⟩
    rw [run_slice_lh (P := Tryd.prog) W 22 (some ⟨p, o, none⟩) n c Tryd.underlying22 .i64 .i64 (s : Int) (t : Int) (by omega) (by omega) (by omega), Int.toNat_natCast, Int.toNat_natCast, hz]
    simp [Result.andThen, sliced, Addr.add, hct, hB]

set_option maxHeartbeats 1600000 in
theorem implDecode_some (p o n c : Nat) (D : List Nat) (a s t : Nat) (b : Addr) (w : World) (hG : NoFrame w b) (hD : Lies w B8 (some ⟨p, o, none⟩) D) (Hn : Hid (D.length = n)) (hw : ∀ x ∈ D, x < 2 ^ 8) (hnc : n ≤ c) (hcm : c ≤ 9223372036854775807) (hn : n ≤ 17592186044416) (hh : hdV D a = some (s, t)) :
    Calls Tryd.prog 76 #[.slice (some ⟨p, o, none⟩) n c, .int .i64 a] w (DcRes D a b w) := by
  obtain ⟨m, j, k, hs, ht, hm, htn, hj1, hj5, ha90, hk, hk8, hrd, hdr⟩ := hdV_some hw hh
  rw [Hn.out] at htn
  have HS := Lib.hid (rdV_some hw hh hk)
  have HR := Lib.hid fun W (h : Below w.heap.size w W) => implHead_any (some ⟨p, o, none⟩) c D a b W (hG.below h) (hD.below h) hw (by rw [Hn.out]; exact hnc) hcm (by rw [Hn.out]; exact hn)
  rw [Hn.out] at HR
  have HU := Lib.hid fun W (h : Below w.heap.size w W) => implSum_any p o n c D a t b W (hG.below h) (hD.below h) Hn hw (by omega) htn (by omega) hnc hcm hn
  obtain ⟨B, hB⟩ : ∃ B, (D.drop s).take (t - s) = B := ⟨_, rfl⟩
  have hBl : B.length = t - s := by rw [← hB, List.length_take, List.length_drop, Hn.out]; omega
  have hBL : Lies w B8 (some ⟨p, o + s, none⟩) B := by rw [← hB]; exact hD.piece s (t - s)
  obtain ⟨o', hsl, hBL'⟩ := slice_piece p o n c s t B w hBl hBL (by omega) (by omega) hcm
  obtain ⟨p', q', e1, e2, hkc⟩ := hD (a + 1) k hk
  injection e1 with e1
  injection e1 with e1 e3
  subst e1 e3
  have HK : Hid (∀ W, Below w.heap.size w W → W.cell? ⟨p, o + (a + 1), none⟩ = some (B8 k)) := Lib.hid fun W h => (h.cell (p := ⟨p, o + (a + 1), none⟩) e2).trans hkc
  have HBL := Lib.hid hBL'
  have HH := Lib.hid hh
  rw [hB] at HS
  have hBl2 : B.length ≤ 8000 := by omega
  have i1 : a + 3 ≤ s := by omega
  have i2 : s ≤ t := by omega
  have i3 : t ≤ s + 8000 := by omega
  clear hs ht hBl hj1 hj5 hm
  clear hG hD hw hh hB hBL hBL' hkc hk hrd hdr ha90 e2
  have hneq : ∀ W : World, (binOp .neq 99 (EN b) .nilIface).run Tryd.prog W = .ok (.bool true) W := fun W => by kernel_rfl
  have hneq2 : ∀ W : World, (binOp .neq 99 .nilIface .nilIface).run Tryd.prog W = .ok (.bool false) W := fun W => by kernel_rfl
  go_enter Tryd.func76, Tryd.ntmps76
  go_wp2_with fail
  have sx := Box.made w 49 #[.int .i64 0, .slice none 0 0]
  have hb0 : Below w.heap.size w (w.alloc (Obj.cells #[.int .i64 0, .slice none 0 0] 49)) := (Below.refl _ _).alloc (Nat.le_refl _) _
  generalize w.alloc (Obj.cells #[.int .i64 0, .slice none 0 0] 49) = w0 at *
  refine (HR.out _ hb0).mono ?_
  rintro e w1 ⟨he, hb1⟩
  unfold HdEnd at he
  rw [HH.out] at he
  subst he
  have HX : Hid (Box w1 w.heap.size 49 #[.int .i64 0, .slice none 0 0]) := Lib.hid (sx.below hb1 sx.lt)
  have HB : Hid (Below w.heap.size w w1) := Lib.hid (below_then hb0 hb1)
  clear hb0 hb1 HR HH sx
  go_wp2_with fail
  refine (HU.out _ HB.out).mono ?_
  rintro e w2 ⟨he, hb2⟩
  have sx2 := HX.out.below hb2 HX.out.lt
  have HX2 := Lib.hid sx2
  have HB2 : Hid (Below w.heap.size w w2) := Lib.hid (below_then HB.out hb2)
  clear hb2 HU HX HB
  unfold SumEnd at he
  by_cases hq : (D.drop t).take 4 = four (crcL ((D.drop a).take (t - a)))
  · rw [if_pos hq] at HS he
    subst he
    clear hq
    clear sx2
    go_wp2_with (at_builtin; refine wpList_append_bytes _ rfl _ _ rfl w2.heap.size _ [] rfl (World.ownsRow_nil _ _ _ _) (some ⟨p, o', none⟩) (c - s) B rfl (HBL.out.below HB2.out) (.inr ⟨_, _, rfl⟩) B rfl (by simp; omega) (Nat.le_refl _) ?_)
    intro A5 c5 w5 ho5 hg5
    have hb5 : Below w2.heap.size w2 w5 := grown_below (World.ownsRow_nil w2 w2.heap.size 5 1) hg5 (Nat.le_refl _) (Nat.le_refl _)
    have sx5 := HX2.out.below hb5 HX2.out.lt
    have HB5 : Hid (Below w.heap.size w w5) := Lib.hid (below_then HB2.out hb5)
    have z0 := sx5.frozen 0
    have z1 := sx5.frozen 1
    have y0 := sx5.cell 0
    have y1 := sx5.cell 1
    simp only [List.getElem?_toArray, List.getElem?_cons_zero, List.getElem?_cons_succ] at y0 y1
    have hl5 := sx5.lt
    have hkc := HK.out w5 HB5.out
    have HO5 := Lib.hid (own_mono ho5 HB2.out.size)
    have HO6 := Lib.hid ho5
    have HX2l := HX2.out.lt
    have e1 : IntKind.i64.wrap ((a : Int) + 1) = (a : Int) + 1 := IntWalk.i64_in _ (by omega)
    have ha1 : (a : Int) + 1 < (n : Int) := by omega
    have ha1n : a + 1 < n := by omega
    clear ho5 hg5 hb5 sx5 hsl HK HBL
    go_wp2
    refine bodyPost_ret (v := .tuple #[.agg #[.int .i64 k, .slice A5 B.length c5], .int .i64 ((t : Int) + 4), .nilIface]) (by simp [results, Tryd.results76, go_sem, y0, y1]) rfl ?_
    have := dc_some (w := w) (w' := (w5.setCell ⟨w.heap.size, 0, none⟩ (.int .i64 k)).setCell ⟨w.heap.size, 1, none⟩ (.slice A5 B.length c5)) (b := b) HS.out (A := A5) (c := c5)
      (own_mono (ownsRow_setCell_below (ownsRow_setCell_below HO6.out (a := ⟨w.heap.size, 0, none⟩) HX2l _) (a := ⟨w.heap.size, 1, none⟩) HX2l _) HB2.out.size)
      ((HB5.out.setCell (p := ⟨w.heap.size, 0, none⟩) (Nat.le_refl _) _).setCell (p := ⟨w.heap.size, 1, none⟩) (Nat.le_refl _) _)
    rwa [show (a : Int) + ((t + 4 - a : Nat) : Int) = (t : Int) + 4 by omega] at this
  · rw [if_neg hq] at HS he
    subst he
    clear hq
    have z0 := sx2.frozen 0
    have z1 := sx2.frozen 1
    have y0 := sx2.cell 0
    have y1 := sx2.cell 1
    simp only [List.getElem?_toArray, List.getElem?_cons_zero, List.getElem?_cons_succ] at y0 y1
    have hl2 := sx2.lt
    clear sx2
    go_wp2
    refine bodyPost_ret (v := .tuple #[.agg #[.int .i64 0, .slice none 0 0], .int .i64 0, .iface 132 (.agg #[.string ⟨#[99, 104, 101, 99, 107, 115, 117, 109]⟩, EN b])]) (by simp [results, Tryd.results76, go_sem, y0, y1]) rfl ?_
    exact dc_none HS.out ((HB2.out.setCell (p := ⟨w.heap.size, 0, none⟩) (Nat.le_refl _) _).setCell (p := ⟨w.heap.size, 1, none⟩) (Nat.le_refl _) _)

theorem implDecode_any (A : Option Addr) (c : Nat) (D : List Nat) (a : Int) (b : Addr) (w : World) (hG : NoFrame w b) (hD : Lies w B8 A D) (hw : ∀ x ∈ D, x < 2 ^ 8) (hnc : D.length ≤ c) (hcm : c ≤ 9223372036854775807) (hn : D.length ≤ 17592186044416) :
    Calls Tryd.prog 76 #[.slice A D.length c, .int .i64 a] w (DcRes D a b w) := by
  cases h : hdV D a with
  | none => exact implDecode_none A c D a b w hG hD hw hnc hcm hn h
  | some q =>
    obtain ⟨s, t⟩ := q
    have h0 : 0 ≤ a ∧ a < D.length := by
      by_cases h0 : 0 ≤ a ∧ a < D.length
      · exact h0
      · rw [hdV_out h0] at h
        cases h
    obtain ⟨m, rfl⟩ := Int.eq_ofNat_of_zero_le h0.1
    obtain ⟨p, o, _, rfl, _, _, _⟩ := hD.at_ (i := m) (by omega)
    exact implDecode_some p o D.length c D m s t b w hG hD (Lib.hid rfl) hw hnc hcm hn h

end Go.Proofs.YtlbnngolcoefdaaDoor
