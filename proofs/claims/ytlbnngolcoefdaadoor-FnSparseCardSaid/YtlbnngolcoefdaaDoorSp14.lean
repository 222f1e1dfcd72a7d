/- The specification's SparseOk. -/
import Derived.Test.YtlbnngolcoefdaaDoorSp13
import Derived.Test.YtlbnngolcoefdaaDoorSpBoth
namespace Go.Proofs.YtlbnngolcoefdaaDoor
open Go.RowKit
set_option maxRecDepth 100000

/-- Eight cells of a box are written. -/
abbrev put8 (W : World) (g : Nat) (a0 a1 a2 a3 a4 a5 a6 a7 : Value) : World :=
  (((((((W.setCell ⟨g, 0, none⟩ a0).setCell ⟨g, 1, none⟩ a1).setCell ⟨g, 2, none⟩ a2).setCell ⟨g, 3, none⟩ a3).setCell ⟨g, 4, none⟩ a4).setCell ⟨g, 5, none⟩ a5).setCell ⟨g, 6, none⟩ a6).setCell ⟨g, 7, none⟩ a7
theorem put8_box {W : World} {g : Nat} {t : TypeId} (h : Box W g t SPZ) (a0 a1 a2 a3 a4 a5 a6 a7 : Value) : Box (put8 W g a0 a1 a2 a3 a4 a5 a6 a7) g t #[a0, a1, a2, a3, a4, a5, a6, a7] := by
  have h1 : Box (W.setCell ⟨g, 0, none⟩ a0) g t #[a0, .int .i64 0, .int .i64 0, .int .i64 0, .int .i64 0, .slice none 0 0, .int .i64 0, .slice none 0 0] := Box.put (cs := #[.int .i64 0, .int .i64 0, .int .i64 0, .int .i64 0, .int .i64 0, .slice none 0 0, .int .i64 0, .slice none 0 0]) h 0 a0
  have h2 : Box ((W.setCell ⟨g, 0, none⟩ a0).setCell ⟨g, 1, none⟩ a1) g t #[a0, a1, .int .i64 0, .int .i64 0, .int .i64 0, .slice none 0 0, .int .i64 0, .slice none 0 0] := Box.put (cs := #[a0, .int .i64 0, .int .i64 0, .int .i64 0, .int .i64 0, .slice none 0 0, .int .i64 0, .slice none 0 0]) h1 1 a1
  have h3 : Box (((W.setCell ⟨g, 0, none⟩ a0).setCell ⟨g, 1, none⟩ a1).setCell ⟨g, 2, none⟩ a2) g t #[a0, a1, a2, .int .i64 0, .int .i64 0, .slice none 0 0, .int .i64 0, .slice none 0 0] := Box.put (cs := #[a0, a1, .int .i64 0, .int .i64 0, .int .i64 0, .slice none 0 0, .int .i64 0, .slice none 0 0]) h2 2 a2
  have h4 : Box ((((W.setCell ⟨g, 0, none⟩ a0).setCell ⟨g, 1, none⟩ a1).setCell ⟨g, 2, none⟩ a2).setCell ⟨g, 3, none⟩ a3) g t #[a0, a1, a2, a3, .int .i64 0, .slice none 0 0, .int .i64 0, .slice none 0 0] := Box.put (cs := #[a0, a1, a2, .int .i64 0, .int .i64 0, .slice none 0 0, .int .i64 0, .slice none 0 0]) h3 3 a3
  have h5 : Box (((((W.setCell ⟨g, 0, none⟩ a0).setCell ⟨g, 1, none⟩ a1).setCell ⟨g, 2, none⟩ a2).setCell ⟨g, 3, none⟩ a3).setCell ⟨g, 4, none⟩ a4) g t #[a0, a1, a2, a3, a4, .slice none 0 0, .int .i64 0, .slice none 0 0] := Box.put (cs := #[a0, a1, a2, a3, .int .i64 0, .slice none 0 0, .int .i64 0, .slice none 0 0]) h4 4 a4
  have h6 : Box ((((((W.setCell ⟨g, 0, none⟩ a0).setCell ⟨g, 1, none⟩ a1).setCell ⟨g, 2, none⟩ a2).setCell ⟨g, 3, none⟩ a3).setCell ⟨g, 4, none⟩ a4).setCell ⟨g, 5, none⟩ a5) g t #[a0, a1, a2, a3, a4, a5, .int .i64 0, .slice none 0 0] := Box.put (cs := #[a0, a1, a2, a3, a4, .slice none 0 0, .int .i64 0, .slice none 0 0]) h5 5 a5
  have h7 : Box (((((((W.setCell ⟨g, 0, none⟩ a0).setCell ⟨g, 1, none⟩ a1).setCell ⟨g, 2, none⟩ a2).setCell ⟨g, 3, none⟩ a3).setCell ⟨g, 4, none⟩ a4).setCell ⟨g, 5, none⟩ a5).setCell ⟨g, 6, none⟩ a6) g t #[a0, a1, a2, a3, a4, a5, a6, .slice none 0 0] := Box.put (cs := #[a0, a1, a2, a3, a4, a5, .int .i64 0, .slice none 0 0]) h6 6 a6
  have h8 : Box ((((((((W.setCell ⟨g, 0, none⟩ a0).setCell ⟨g, 1, none⟩ a1).setCell ⟨g, 2, none⟩ a2).setCell ⟨g, 3, none⟩ a3).setCell ⟨g, 4, none⟩ a4).setCell ⟨g, 5, none⟩ a5).setCell ⟨g, 6, none⟩ a6).setCell ⟨g, 7, none⟩ a7) g t #[a0, a1, a2, a3, a4, a5, a6, a7] := Box.put (cs := #[a0, a1, a2, a3, a4, a5, a6, .slice none 0 0]) h7 7 a7
  exact h8
theorem put8_off {W : World} {g k : Nat} {t : TypeId} {cs : Array Value} (h : Box W k t cs) (hk : k ≠ g) (a0 a1 a2 a3 a4 a5 a6 a7 : Value) : Box (put8 W g a0 a1 a2 a3 a4 a5 a6 a7) k t cs :=
  (((((((h.off hk a0).off hk a1).off hk a2).off hk a3).off hk a4).off hk a5).off hk a6).off hk a7
theorem put8_grown (W : World) (g : Nat) (a0 a1 a2 a3 a4 a5 a6 a7 : Value) : W.grownBy (put8 W g a0 a1 a2 a3 a4 a5 a6 a7) (some g) :=
  (((((((grown_set W g 0 a0).trans (grown_set _ g 1 a1)).trans (grown_set _ g 2 a2)).trans (grown_set _ g 3 a3)).trans (grown_set _ g 4 a4)).trans (grown_set _ g 5 a5)).trans (grown_set _ g 6 a6)).trans (grown_set _ g 7 a7)

/-- What the rest of SparseOk finds. -/
def OkAt (w : World) (cs ts : Array Value) (Ls Ks : List Nat) (g : Nat) (a b : Option Addr) (W : World) : Prop :=
  Box W g 33 ts ∧ Box W w.heap.size 33 cs ∧ Lies W U a Ls ∧ Lies W U b Ks ∧ Below w.heap.size w W

theorem okAt_new {w X W : World} {cs : Array Value} {V N P M K H : Int} {A A' : Option Addr} {c c' : Nat} {Ws Vs : List Nat} (hb : Box X w.heap.size 33 cs) (hw : Below w.heap.size w X) (ht : TwoRows X W (.slice A Ws.length c) Ws (.slice A' Vs.length c') Vs) :
    OkAt w cs (SPC V N P M K (.slice A Ws.length c) H (.slice A' Vs.length c')) Ws Vs W.heap.size A A' (W.alloc (Obj.cells (SPC V N P M K (.slice A Ws.length c) H (.slice A' Vs.length c')) 33)) := by
  obtain ⟨mid, h1, h2, ho1, hk, ho2, hbl⟩ := ht
  refine ⟨Box.made _ _ _, (hb.below hbl hb.lt).alloc _, Lies.of_own (ho1.alloc _), Lies.of_own (ho2.alloc _), ?_⟩
  have h := below_then hw hbl
  exact h.alloc h.size _

theorem okAt_put {w X W : World} {cs : Array Value} {V N P M K H : Int} {A A' : Option Addr} {c c' g : Nat} {Ws Vs : List Nat} (hb : Box X w.heap.size 33 cs) (hw : Below w.heap.size w X) (hg : Box X g 33 SPZ) (hne : w.heap.size < g) (ht : TwoRows X W (.slice A Ws.length c) Ws (.slice A' Vs.length c') Vs) :
    OkAt w cs (SPC V N P M K (.slice A Ws.length c) H (.slice A' Vs.length c')) Ws Vs g A A' (put8 W g (.int .i64 V) (.int .i64 N) (.int .i64 P) (.int .i64 M) (.int .i64 K) (.slice A Ws.length c) (.int .i64 H) (.slice A' Vs.length c')) := by
  obtain ⟨mid, h1, h2, ho1, hk, ho2, hbl⟩ := ht
  have hgl := hg.lt
  have hgr := put8_grown W g (.int .i64 V) (.int .i64 N) (.int .i64 P) (.int .i64 M) (.int .i64 K) (.slice A Ws.length c) (.int .i64 H) (.slice A' Vs.length c')
  have h := below_then hw hbl
  exact ⟨put8_box (hg.below hbl hgl) _ _ _ _ _ _ _ _, put8_off (hb.below hbl hb.lt) (by omega) _ _ _ _ _ _ _ _, Lies.of_own (own_pastS ho1 hgr hgl), Lies.of_own (own_pastS ho2 hgr (by omega)), h.grown hgr h.size (fun j e => by cases e; omega)⟩

theorem cutS {Q : Prop} {I : Nat → Option Addr → Nat → Option Addr → Nat → World → Prop} {R : Nat → Option Addr → Nat → Option Addr → Nat → Option Addr → Nat → World → Prop} (main : (∀ g a c b d x y W, I g a c b d W → R g a c b d x y W) → Q) (rest : ∀ g a c b d x y W, I g a c b d W → R g a c b d x y W) : Q := main rest

set_option maxHeartbeats 3200000 in
theorem specSparseOk_bad (V N P M K H : Int) (A A' : Option Addr) (c c' : Nat) (Ws Vs : List Nat) (w : World) (hL : Lies w U A Ws) (hL' : Lies w U A' Vs) (hw : ∀ x ∈ Ws, x < 2 ^ 64) (hw' : ∀ x ∈ Vs, x < 2 ^ 64) (hbad : okP P M K Ws = false ∨ okB H Vs = false ∨ 20 < P) :
    Calls Tryd.prog 115 #[SP V N P M K (.slice A Ws.length c) H (.slice A' Vs.length c')] w fun e w' => e = .returned (.bool (okT V N P M K Ws H Vs)) ∧ Below w.heap.size w w' := by
  have hno : okT V N P M K Ws H Vs = false := by
    unfold okT
    rcases hbad with h | h | h
    · rw [h, Bool.false_and]
    · rw [h, Bool.false_and, Bool.and_false]
    · rw [decide_eq_false (by omega), Bool.false_and, Bool.and_false, Bool.and_false]
  rw [hno]
  have HL := Lib.hid hL
  have HL' := Lib.hid hL'
  have HW := Lib.hid hw
  have HW' := Lib.hid hw'
  clear hL hL' hw hw' hno
  go_enter Tryd.func115, Tryd.ntmps115
  go_wp2_with fail
  have sc := (Scene.start w).box 33 (SPC V N P M K (.slice A Ws.length c) H (.slice A' Vs.length c'))
  generalize w.alloc (Obj.cells (SPC V N P M K (.slice A Ws.length c) H (.slice A' Vs.length c')) 33) = w1 at *
  refine (specPackOk_any P M K A c Ws _ (sc.liesOld HL.out) HW.out).mono ?_
  rintro e w2 ⟨rfl, hb⟩
  replace sc := sc.step hb
  clear hb
  obtain ⟨⟨p0, p1, p2, p3, p4, p5, p6, p7⟩, _, hbl⟩ := box_eight (sc.getBox 0 rfl)
  cases hp : okP P M K Ws
  · have HB := Lib.hid sc.below
    clear sc hbad
    go_wp2
    go_ret
    exact ⟨rfl, HB.out⟩
  · rw [hp] at hbad
    go_wp2_with fail
    clear p0 p1 p2 p3 p4 p5 p6 p7 hbl
    refine (specOk_any H A' c' Vs _ (sc.liesOld HL'.out) HW'.out).mono ?_
    rintro e w3 ⟨rfl, hb⟩
    replace sc := sc.step hb
    clear hb
    obtain ⟨⟨p0, p1, p2, p3, p4, p5, p6, p7⟩, _, hbl⟩ := box_eight (sc.getBox 0 rfl)
    cases hb : okB H Vs
    · have HB := Lib.hid sc.below
      clear sc hbad
      go_wp2
      go_ret
      exact ⟨rfl, HB.out⟩
    · rw [hb] at hbad
      have h20 : 20 < P := by simpa using hbad
      have t20 : decide (20 < P) = true := by simpa using h20
      have HB := Lib.hid sc.below
      clear sc hbad
      go_wp2
      go_ret
      exact ⟨rfl, HB.out⟩

set_option maxHeartbeats 3200000 in
theorem specSparseOk_good (V N : Int) (wd H : Nat) (M K : Int) (A A' : Option Addr) (c c' : Nat) (Ws Vs : List Nat) (w : World) (hL : Lies w U A Ws) (hL' : Lies w U A' Vs) (hw : ∀ x ∈ Ws, x < 2 ^ 64) (hw' : ∀ x ∈ Vs, x < 2 ^ 64)
    (hp : okP wd M K Ws = true) (hb : okB H Vs = true) (hH : H ≤ 5000) (hwd : wd ≤ 20) :
    Calls Tryd.prog 115 #[SP V N wd M K (.slice A Ws.length c) H (.slice A' Vs.length c')] w fun e w' => e = .returned (.bool (okT V N wd M K Ws H Vs)) ∧ Below w.heap.size w w' := by
  have HT : Hid (okT V N wd M K Ws H Vs = (spOk (splV wd M K Ws H Vs) V && (decide (spN (splV wd M K Ws H Vs) V = N) && (decide (spP (splV wd M K Ws H Vs) V = wd) && (decide (spM (splV wd M K Ws H Vs) V = M) &&
    (decide (spK (splV wd M K Ws H Vs) V = K ∧ spW (splV wd M K Ws H Vs) V = Ws) && decide (spH (splV wd M K Ws H Vs) V = H ∧ spV (splV wd M K Ws H Vs) V = Vs))))))) := Lib.hid (by unfold okT; rw [hp, hb, decide_eq_true (by omega), Bool.true_and, Bool.true_and, Bool.true_and])
  have HL := Lib.hid hL
  have HL' := Lib.hid hL'
  have HW := Lib.hid hw
  have HW' := Lib.hid hw'
  have CL : Hid (∀ X : World, Lies X U A Ws → Lies X U A' Vs → Calls Tryd.prog 116 #[SP V N wd M K (.slice A Ws.length c) H (.slice A' Vs.length c')] X (NewI X (splV wd M K Ws H Vs))) := Lib.hid fun X h1 h2 => l03List_any V N wd H M K A A' c c' Ws Vs X h1 h2 hw hw' hp hb hH hwd
  have hBl : (splV wd M K Ws H Vs).length ≤ 5000 := by
    unfold splV
    rw [spl_len]
    have := plV_len5 hp
    omega
  have CS : Hid (∀ (a : Option Addr) (d : Nat) (X : World), Lies X I a (splV wd M K Ws H Vs) → Calls Tryd.prog 12 #[.slice a (splV wd M K Ws H Vs).length d, .int .i64 V] X (SparseRes (splV wd M K Ws H Vs) V X)) := Lib.hid fun a d X h => specSparse_any a d _ V X h (by omega)
  unfold SparseRes at CS
  have hwl := spW_len (splV wd M K Ws H Vs) V
  have hvl := spV_len (splV wd M K Ws H Vs) V
  generalize spU (splV wd M K Ws H Vs) V = TV at *
  generalize spN (splV wd M K Ws H Vs) V = TN at *
  generalize spP (splV wd M K Ws H Vs) V = TP at *
  generalize spM (splV wd M K Ws H Vs) V = TM at *
  generalize spK (splV wd M K Ws H Vs) V = TK at *
  generalize spW (splV wd M K Ws H Vs) V = TW at *
  generalize spH (splV wd M K Ws H Vs) V = TH at *
  generalize spV (splV wd M K Ws H Vs) V = TVs at *
  generalize spOk (splV wd M K Ws H Vs) V = ok at *
  generalize splV wd M K Ws H Vs = B at *
  clear hL hL' hw hw'
  go_enter Tryd.func115, Tryd.ntmps115
  go_wp2_with fail
  have sc := (Scene.start w).box 33 (SPC V N wd M K (.slice A Ws.length c) H (.slice A' Vs.length c'))
  generalize w.alloc (Obj.cells (SPC V N wd M K (.slice A Ws.length c) H (.slice A' Vs.length c')) 33) = w1 at *
  refine (specPackOk_any wd M K A c Ws _ (sc.liesOld HL.out) HW.out).mono ?_
  rintro e w2 ⟨rfl, hb2⟩
  rw [hp]
  replace sc := sc.step hb2
  clear hb2 hp
  obtain ⟨⟨p0, p1, p2, p3, p4, p5, p6, p7⟩, _, hbl⟩ := box_eight (sc.getBox 0 rfl)
  go_wp2_with fail
  clear p0 p1 p2 p3 p4 p5 p6 p7 hbl
  refine (specOk_any H A' c' Vs _ (sc.liesOld HL'.out) HW'.out).mono ?_
  rintro e w3 ⟨rfl, hb3⟩
  rw [hb]
  replace sc := sc.step hb3
  clear hb3 hb
  obtain ⟨⟨p0, p1, p2, p3, p4, p5, p6, p7⟩, _, hbl⟩ := box_eight (sc.getBox 0 rfl)
  have t20 : decide ((20 : Int) < (wd : Int)) = false := by simp; omega
  go_wp2_with fail
  clear t20
  apply cutS (I := fun g a cc b dd W => OkAt w (SPC V N wd M K (.slice A Ws.length c) H (.slice A' Vs.length c')) (SPC TV TN TP TM TK (.slice a TW.length cc) TH (.slice b TVs.length dd)) TW TVs g a b W)
  case main =>
    intro key
    have HKey := Lib.hid key
    clear key
    go_region_held3 (fun w' => w'.cell? ⟨w.heap.size, 0, none⟩ = some (.int .i64 V) ∧ w'.cell? ⟨w.heap.size, 1, none⟩ = some (.int .i64 N) ∧ w'.cell? ⟨w.heap.size, 2, none⟩ = some (.int .i64 wd) ∧ w'.cell? ⟨w.heap.size, 3, none⟩ = some (.int .i64 M) ∧ w'.cell? ⟨w.heap.size, 4, none⟩ = some (.int .i64 K) ∧ w'.cell? ⟨w.heap.size, 5, none⟩ = some (.slice A Ws.length c) ∧ w'.cell? ⟨w.heap.size, 6, none⟩ = some (.int .i64 H) ∧ w'.cell? ⟨w.heap.size, 7, none⟩ = some (.slice A' Vs.length c')) (first | (with_reducible exact ks.out _ _ _ _ _ _ _ _) | (go_keep; done) | (refine ⟨?_, ?_, ?_, ?_, ?_, ?_, ?_, ?_⟩ <;> assumption) | (refine ⟨?_, ?_, ?_, ?_, ?_, ?_, ?_, ?_⟩ <;> (refine keep2 ?_ ?_ ?_; assumption; omega; omega))) (first | (go_at_call 116; (with_reducible refine Calls.mono (CL.out _ ?_ ?_) ?_); exact sc.drew.liesOld HL.out; exact sc.drew.liesOld HL'.out; rintro e w6 ⟨Al, cl, rfl, ho, hb6⟩; replace sc := sc.drew.row hb6 ho; clear ho hb6; obtain ⟨⟨q0, q1, q2, q3, q4, q5, q6, q7⟩, _, ql⟩ := box_eight ((show Box w6 w.heap.size 33 (SPC V N wd M K (.slice A Ws.length c) H (.slice A' Vs.length c')) by first | exact sc.getBox 1 rfl | exact sc.getBox 2 rfl))) | (go_at_call 116; replace sc := (sc.box 33 SPZ); (with_reducible refine Calls.mono (CL.out _ ?_ ?_) ?_); exact sc.drew.liesOld HL.out; exact sc.drew.liesOld HL'.out; rintro e w6 ⟨Al, cl, rfl, ho, hb6⟩; replace sc := sc.drew.row hb6 ho; clear ho hb6; obtain ⟨⟨q0, q1, q2, q3, q4, q5, q6, q7⟩, _, ql⟩ := box_eight ((show Box w6 w.heap.size 33 (SPC V N wd M K (.slice A Ws.length c) H (.slice A' Vs.length c')) by first | exact sc.getBox 1 rfl | exact sc.getBox 2 rfl))) | (go_at_call 12; (with_reducible refine Calls.mono (CS.out _ _ _ ?_) ?_); exact sc.lies 0 rfl; rintro e w7 ⟨AW, cW, AV, cV, rfl, tr⟩; have hb7 := tr.choose_spec.2.2.2.2.2; obtain ⟨⟨r0, r1, r2, r3, r4, r5, r6, r7⟩, _, rl⟩ := box_eight (((show Box w6 w.heap.size 33 (SPC V N wd M K (.slice A Ws.length c) H (.slice A' Vs.length c')) by first | exact sc.getBox 1 rfl | exact sc.getBox 2 rfl)).below hb7 ((show Box w6 w.heap.size 33 (SPC V N wd M K (.slice A Ws.length c) H (.slice A' Vs.length c')) by first | exact sc.getBox 1 rfl | exact sc.getBox 2 rfl)).lt); have hsz7 := hb7.size; try (obtain ⟨⟨g0, g1, g2, g3, g4, g5, g6, g7⟩, ⟨gz0, gz1, gz2, gz3, gz4, gz5, gz6, gz7⟩, gl⟩ := box_eight ((show Box w6 w3.heap.size 33 SPZ from sc.getBox 1 rfl).below hb7 (show Box w6 w3.heap.size 33 SPZ from sc.getBox 1 rfl).lt); have ks := Lib.hid fun a0 a1 a2 a3 a4 a5 a6 a7 => (box_eight (put8_off (g := w3.heap.size) ((show Box w6 w.heap.size 33 (SPC V N wd M K (.slice A Ws.length c) H (.slice A' Vs.length c')) from sc.getBox 2 rfl).below hb7 (show Box w6 w.heap.size 33 (SPC V N wd M K (.slice A Ws.length c) H (.slice A' Vs.length c')) from sc.getBox 2 rfl).lt) (by omega) a0 a1 a2 a3 a4 a5 a6 a7)).1); clear hb7) | (go_at_call 12; replace sc := sc.box 33 SPZ; (with_reducible refine Calls.mono (CS.out _ _ _ ?_) ?_); exact sc.lies 1 rfl; rintro e w7 ⟨AW, cW, AV, cV, rfl, tr⟩; have hb7 := tr.choose_spec.2.2.2.2.2; obtain ⟨⟨r0, r1, r2, r3, r4, r5, r6, r7⟩, _, rl⟩ := box_eight ((sc.getBox 2 rfl).below hb7 (sc.getBox 2 rfl).lt); have hsz7 := hb7.size; obtain ⟨⟨g0, g1, g2, g3, g4, g5, g6, g7⟩, ⟨gz0, gz1, gz2, gz3, gz4, gz5, gz6, gz7⟩, gl⟩ := box_eight ((sc.getBox 0 rfl).below hb7 (sc.getBox 0 rfl).lt); have ks := Lib.hid fun a0 a1 a2 a3 a4 a5 a6 a7 => (box_eight (put8_off (g := w6.heap.size) ((sc.getBox 2 rfl).below hb7 (sc.getBox 2 rfl).lt) (by omega) a0 a1 a2 a3 a4 a5 a6 a7)).1; clear hb7))
    · have hI := okAt_new (V := TV) (N := TN) (P := TP) (M := TM) (K := TK) (H := TH) (sc.getBox 1 rfl) sc.below tr
      generalize w7.alloc (Obj.cells (SPC TV TN TP TM TK (.slice AW TW.length cW) TH (.slice AV TVs.length cV)) 33) = W9 at hI ⊢
      generalize w7.heap.size = g9 at hI ⊢
      with_reducible exact HKey.out g9 AW cW AV cV Al cl W9 hI
    · have hI := okAt_put (V := TV) (N := TN) (P := TP) (M := TM) (K := TK) (H := TH) (sc.getBox 2 rfl) sc.below (sc.getBox 0 rfl) ql tr
      unfold put8 at hI
      generalize ((((((((w7.setCell ⟨w6.heap.size, 0, none⟩ (.int .i64 TV)).setCell ⟨w6.heap.size, 1, none⟩ (.int .i64 TN)).setCell ⟨w6.heap.size, 2, none⟩ (.int .i64 TP)).setCell ⟨w6.heap.size, 3, none⟩ (.int .i64 TM)).setCell ⟨w6.heap.size, 4, none⟩ (.int .i64 TK)).setCell ⟨w6.heap.size, 5, none⟩ (.slice AW TW.length cW)).setCell ⟨w6.heap.size, 6, none⟩ (.int .i64 TH)).setCell ⟨w6.heap.size, 7, none⟩ (.slice AV TVs.length cV)) = W9 at hI ⊢
      generalize w6.heap.size = g9 at hI ⊢
      with_reducible exact HKey.out g9 AW cW AV cV Al cl W9 hI
    · have hI := okAt_put (V := TV) (N := TN) (P := TP) (M := TM) (K := TK) (H := TH) (sc.getBox 2 rfl) sc.below (sc.getBox 1 rfl) hbl tr
      unfold put8 at hI
      generalize ((((((((w7.setCell ⟨w3.heap.size, 0, none⟩ (.int .i64 TV)).setCell ⟨w3.heap.size, 1, none⟩ (.int .i64 TN)).setCell ⟨w3.heap.size, 2, none⟩ (.int .i64 TP)).setCell ⟨w3.heap.size, 3, none⟩ (.int .i64 TM)).setCell ⟨w3.heap.size, 4, none⟩ (.int .i64 TK)).setCell ⟨w3.heap.size, 5, none⟩ (.slice AW TW.length cW)).setCell ⟨w3.heap.size, 6, none⟩ (.int .i64 TH)).setCell ⟨w3.heap.size, 7, none⟩ (.slice AV TVs.length cV)) = W9 at hI ⊢
      generalize w3.heap.size = g9 at hI ⊢
      with_reducible exact HKey.out g9 AW cW AV cV Al cl W9 hI
  case rest =>
    intro g AW cW AV cV Al cl W hI
    show Exit.then _ _ _ _ _
    clear p0 p1 p2 p3 p4 p5 p6 p7 hbl sc CL CS
    obtain ⟨hg, hs, hlw, hlv, hbw⟩ := hI
    obtain ⟨⟨u0, u1, u2, u3, u4, u5, u6, u7⟩, _, hgl⟩ := box_eight hg
    obtain ⟨⟨v0, v1, v2, v3, v4, v5, v6, v7⟩, _, hsl⟩ := box_eight hs
    have HB := Lib.hid hbw
    have HLW := Lib.hid hlw
    have HLV := Lib.hid hlv
    have HG := Lib.hid hg
    have HS := Lib.hid hs
    clear hbw hlw hlv hg hs
    cases ok
    · rw [Bool.false_and] at HT
      go_wp2
      go_ret
      exact ⟨ret_bool HT.out.symm, HB.out⟩
    · rw [Bool.true_and] at HT
      by_cases h1 : TN = N
      · rw [decide_eq_true h1, Bool.true_and] at HT
        have t1 : (TN == N) = true := by simpa using h1
        by_cases h2 : TP = (wd : Int)
        · rw [decide_eq_true h2, Bool.true_and] at HT
          have t2 : (TP == (wd : Int)) = true := by simpa using h2
          by_cases h3 : TM = M
          · rw [decide_eq_true h3, Bool.true_and] at HT
            have t3 : (TM == M) = true := by simpa using h3
            clear h1 h2 h3
            go_wp2_with fail
            refine (l03Same_any TK K AW A cW c TW Ws _ HLW.out (HL.out.below HB.out) (by omega)).mono ?_
            rintro e w8 ⟨rfl, hb8⟩
            have HB8 := Lib.hid (below_then HB.out hb8)
            obtain ⟨⟨x0, x1, x2, x3, x4, x5, x6, x7⟩, _, xl⟩ := box_eight (HG.out.below hb8 HG.out.lt)
            obtain ⟨⟨y0, y1, y2, y3, y4, y5, y6, y7⟩, _, yl⟩ := box_eight (HS.out.below hb8 HS.out.lt)
            have HLV8 := Lib.hid (HLV.out.below hb8)
            clear hb8 u0 u1 u2 u3 u4 u5 u6 u7 v0 v1 v2 v3 v4 v5 v6 v7 hgl hsl t1 t2 t3
            generalize decide (TK = K ∧ TW = Ws) = hq at *
            cases hq
            · rw [Bool.false_and] at HT
              go_wp2
              go_ret
              exact ⟨ret_bool HT.out.symm, HB8.out⟩
            · rw [Bool.true_and] at HT
              go_wp2_with fail
              refine (l03Same_any TH H AV A' cV c' TVs Vs _ HLV8.out (HL'.out.below HB8.out) (by omega)).mono ?_
              rintro e w9 ⟨rfl, hb9⟩
              have HB9 := Lib.hid (below_then HB8.out hb9)
              clear hb9 x0 x1 x2 x3 x4 x5 x6 x7 y0 y1 y2 y3 y4 y5 y6 y7 xl yl
              generalize decide (TH = (H : Int) ∧ TVs = Vs) = q at *
              cases q
              all_goals (
                go_wp2
                go_ret
                exact ⟨ret_bool HT.out.symm, HB9.out⟩)
          · rw [decide_eq_false h3, Bool.false_and] at HT
            have t3 : (TM == M) = false := by simpa using h3
            go_wp2
            go_ret
            exact ⟨ret_bool HT.out.symm, HB.out⟩
        · rw [decide_eq_false h2, Bool.false_and] at HT
          have t2 : (TP == (wd : Int)) = false := by simpa using h2
          go_wp2
          go_ret
          exact ⟨ret_bool HT.out.symm, HB.out⟩
      · rw [decide_eq_false h1, Bool.false_and] at HT
        have t1 : (TN == N) = false := by simpa using h1
        go_wp2
        go_ret
        exact ⟨ret_bool HT.out.symm, HB.out⟩

end Go.Proofs.YtlbnngolcoefdaaDoor
