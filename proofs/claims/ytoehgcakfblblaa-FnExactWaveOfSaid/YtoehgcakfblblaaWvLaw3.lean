/- A wave that WaveOf has returned, whatever it is: compared, marked, and held against its marks. -/
import Derived.Test.YtoehgcakfblblaaLv9
import Derived.Test.YtoehgcakfblblaaLvHeld
import Derived.Test.YtoehgcakfblblaaWvLaw2
import Derived.Test.YtoehgcakfblblaaWvOf3
namespace Go.Proofs.Ytoehgcakfblblaa
open Go.RowKit
set_option maxRecDepth 100000

/-- A marked wave of a call's own. -/
def WvM (w : World) (lo hi : Nat) (l : Nat) (Q : List LvV) (v : Value) : Prop :=
  ∃ (N : Int) (ZA : Option Addr) (zc g d : Nat) (cs : Array Value), v = .agg #[.int .i64 N, .slice ZA l zc, .slice (some ⟨g, 0, none⟩) Q.length d] ∧
    w.ownsRow lo 3 1 (.slice ZA l zc) l ((List.range l).map fun (j : Nat) => I ((1 : Int) + j)) ∧ (∀ k, (Value.slice ZA l zc).ownBlock = some k → k < hi) ∧ LvIn w lo hi g cs (mkL (1 + l) Q)
theorem WvM.below {w w' : World} {lo hi l : Nat} {Q : List LvV} {v : Value} (h : WvM w lo hi l Q v) {B : Nat} (hb : Below B w w') (hB : hi ≤ B) : WvM w' lo hi l Q v := by
  obtain ⟨N, ZA, zc, g, d, cs, h1, h2, h3, h4⟩ := h
  exact ⟨N, ZA, zc, g, d, cs, h1, own_turn4 h2 fun k hk => hb.block k (Nat.lt_of_lt_of_le (h3 k hk) hB), h3, h4.below hb hB⟩

set_option maxHeartbeats 1600000 in
theorem markWave_strong (lo hi : Nat) (N : Int) (Z : List Int) (V : List (Int × List Nat)) (v : Value) (w : World) (h : WvO w lo hi N Z V v) (hhi : hi ≤ w.heap.size) (ht : Z.length + totV2 V ≤ 1048000) (hlo : lo ≤ w.heap.size) :
    Calls Try.prog 26 #[v, .int .i64 1] w fun e w' => ∃ Q : List LvV, totW Q = totV2 V ∧ e = .returned (.int .i64 ((1 + Z.length + totV2 V : Nat) : Int)) ∧ WvM w' lo hi Z.length Q v ∧ InsideW lo hi w w' := by
  obtain ⟨ZA, zc, g, d, cs, Q, rfl, ⟨ho, hk⟩, hin, hm⟩ := h
  have hql : Q.length = V.length := by simpa using congrArg List.length hm
  have hq := totW_val hm
  have HQl := Lib.hid hql
  have HQ := Lib.hid hq
  rw [← hql]
  rw [← hq] at ht
  have HO := Lib.hid ho
  have HK := Lib.hid hk
  have HI := Lib.hid hin
  clear hm ho hk hin hql
  obtain ⟨l, hl⟩ : ∃ l, Z.length = l := ⟨_, rfl⟩
  rw [hl] at HO HK ht ⊢
  clear hl
  have HX := Lib.hid (Box.made w 27 #[.int .i64 N, .slice ZA l zc, .slice (some ⟨g, 0, none⟩) Q.length d])
  have HIn1 : Hid (InsideW lo hi w (w.alloc (.cells #[.int .i64 N, .slice ZA l zc, .slice (some ⟨g, 0, none⟩) Q.length d] 27))) := Lib.hid ⟨rfl, rfl, rfl, by rw [World.size_alloc]; omega, fun k hk _ => Below.heap_alloc w _ k hk⟩
  have HO1 : Hid ((w.alloc (.cells #[.int .i64 N, .slice ZA l zc, .slice (some ⟨g, 0, none⟩) Q.length d] 27)).ownsRow lo 3 1 (.slice ZA l zc) l (Z.map I)) := Lib.hid (HO.out.alloc _)
  have HI1 : Hid (LvIn (w.alloc (.cells #[.int .i64 N, .slice ZA l zc, .slice (some ⟨g, 0, none⟩) Q.length d] 27)) lo hi g cs Q) := Lib.hid (HI.out.turn fun k _ h2 => Below.heap_alloc w _ k (Nat.lt_of_lt_of_le h2 hhi))
  have hs1 : hi < (w.alloc (.cells #[.int .i64 N, .slice ZA l zc, .slice (some ⟨g, 0, none⟩) Q.length d] 27)).heap.size := by rw [World.size_alloc]; omega
  have Hhi := Lib.hid hhi
  clear hhi
  go_enter Try.func26, Try.ntmps26
  go_wp2_with fail
  generalize w.alloc (.cells #[.int .i64 N, .slice ZA l zc, .slice (some ⟨g, 0, none⟩) Q.length d] 27) = W1 at *
  refine (markInt ZA l zc lo 1 _ W1 HO1.out (by omega) (by omega) (by omega)).mono ?_
  rintro e w2 ⟨rfl, ho2, hg2⟩
  have HO2 := Lib.hid ho2
  have HIn2 : Hid (InsideW lo hi w w2) := Lib.hid (HIn1.out.trans ⟨hg2.os, hg2.tape, hg2.output, hg2.size, fun k hk hc => hg2.block k hk fun e => by
    have h1 := (HO1.out.lt k e.symm).1
    have h2 := HK.out k e.symm
    omega⟩)
  have HI2 : Hid (LvIn w2 lo hi g cs Q) := Lib.hid (by
    have hint := HO1.out
    have hne : ∀ k, (Value.slice ZA l zc).ownBlock = some k → ∀ (n' : Nat) (v' : Value) (xs' : List Value), W1.ownsRow lo 123 1 v' n' xs' → v'.ownBlock ≠ some k := fun k hk n' v' xs' hv => own_types_apart (by decide) hint hv hk
    refine ⟨?_, HI1.out.low, HI1.out.high, HI1.out.cells, fun j p hp => ⟨own_turn4 (HI1.out.own j p hp).1 fun k e => hg2.block k (Nat.lt_of_lt_of_le ((HI1.out.own j p hp).2 k e) (Nat.le_of_lt hs1)) fun e2 => hne k e2.symm _ _ _ (HI1.out.own j p hp).1 e, (HI1.out.own j p hp).2⟩, HI1.out.apart⟩
    refine (hg2.block g (Nat.lt_trans HI1.out.high hs1) fun e => ?_).trans HI1.out.box
    obtain ⟨_, _, cur, hh⟩ := own_typed hint e.symm
    have hb := HI1.out.box
    unfold Box at hb
    rw [hb] at hh
    injection hh with hh
    injection hh with _ e2 _
    exact absurd e2 (by decide))
  have hx2 : Box w2 w.heap.size 27 #[.int .i64 N, .slice ZA l zc, .slice (some ⟨g, 0, none⟩) Q.length d] := HX.out.grown hg2 fun e => by
    have h2 := HK.out _ e
    have := Hhi.out
    omega
  have x2 := hx2.cell 2
  have xl := hx2.lt
  have hs2 : hi ≤ w2.heap.size := Nat.le_trans (Nat.le_of_lt hs1) hg2.size
  clear ho2 hg2 hx2 HX HIn1 HO1 HI1 hs1
  obtain ⟨m0, hm0⟩ : ∃ m0 : Nat, 1 + l = m0 := ⟨_, rfl⟩
  have e0 : (1 : Int) + (l : Int) = (m0 : Int) := by omega
  rw [e0]
  clear e0
  go_wp2_with fail
  refine (markLvs_stay m0 (by omega) lo hi g d cs Q w2 HI2.out hs2 (by omega)).mono ?_
  rintro e w3 ⟨rfl, ⟨cs3, hl3⟩, hi3, hst3⟩
  have HIn3 := Lib.hid (HIn2.out.trans hi3)
  have HO3 : Hid (w3.ownsRow lo 3 1 (.slice ZA l zc) l ((List.range l).map fun (j : Nat) => I ((1 : Int) + j))) := Lib.hid (own_turn4 HO2.out fun k hk => by
    obtain ⟨_, _, cur, hh⟩ := own_typed HO2.out hk
    rw [hh]
    exact hst3 k _ _ hh)
  have HL3 := Lib.hid hl3
  clear hi3 x2 xl hst3 hl3
  go_wp2
  go_ret
  exact ⟨Q, by first | rfl | exact HQ.out | omega, ret_int (by have := HQ.out; omega), ⟨N, ZA, zc, g, d, cs3, rfl, HO3.out, HK.out, by rw [hm0]; exact HL3.out⟩, HIn3.out⟩

set_option maxHeartbeats 1600000 in
theorem heldWave_strong (lo hi l : Nat) (Q : List LvV) (v : Value) (w : World) (h : WvM w lo hi l Q v) (hhi : hi ≤ w.heap.size) (ht : l + totW Q ≤ 1048000) :
    Calls Try.prog 27 #[v, .int .i64 1] w fun e w' => e = .returned (.int .i64 ((1 + l + totW Q : Nat) : Int)) ∧ Below w.heap.size w w' := by
  obtain ⟨N, ZA, zc, g, d, cs, rfl, ho, hk, hin⟩ := h
  have HX := Lib.hid (Box.made w 27 #[.int .i64 N, .slice ZA l zc, .slice (some ⟨g, 0, none⟩) Q.length d])
  have HB1 : Hid (Below w.heap.size w (w.alloc (.cells #[.int .i64 N, .slice ZA l zc, .slice (some ⟨g, 0, none⟩) Q.length d] 27))) := Lib.hid ((Below.refl _ _).alloc (Nat.le_refl _) _)
  have HL1 := Lib.hid ((lies_ints ho).below HB1.out)
  have HI1 := Lib.hid (hin.below HB1.out hhi)
  clear ho hk hin
  have x2 := HX.out.cell 2
  have xl := HX.out.lt
  clear HX
  obtain ⟨t, ht2⟩ : ∃ t, totW Q = t := ⟨_, rfl⟩
  have HT := Lib.hid ht2
  rw [ht2] at ht ⊢
  clear ht2
  go_enter Try.func27, Try.ntmps27
  go_wp2_with fail
  generalize w.alloc (.cells #[.int .i64 N, .slice ZA l zc, .slice (some ⟨g, 0, none⟩) Q.length d] 27) = W1 at *
  refine (heldInt _ _ _ 1 _ HL1.out (by omega) (by omega) (by omega)).mono ?_
  rintro e w2 ⟨rfl, rfl⟩
  obtain ⟨m0, hm0⟩ : ∃ m0 : Nat, 1 + l = m0 := ⟨_, rfl⟩
  have e0 : (1 : Int) + (l : Int) = (m0 : Int) := by omega
  rw [e0]
  rw [hm0] at HI1
  have d0 : decide ((m0 : Int) < 0) = false := by simp
  have hle : m0 + totW Q ≤ 1048576 := by rw [HT.out]; omega
  clear e0 HL1
  go_wp2_with fail
  refine (heldLvs_any m0 lo hi g d cs Q _ HI1.out hle).mono ?_
  rintro e w3 ⟨rfl, rfl⟩
  rw [HT.out]
  obtain ⟨m1, hm1⟩ : ∃ m1 : Nat, m0 + t = m1 := ⟨_, rfl⟩
  rw [hm1]
  have d1 : decide ((m1 : Int) < 0) = false := by simp
  clear x2 xl hle
  go_wp2
  go_ret
  exact ⟨ret_int (by omega), HB1.out⟩

set_option maxHeartbeats 400000 in
theorem markNilV (m0 : Nat) (A : Option Addr) (d : Nat) (w : World) : Calls Try.prog 70 #[.slice A 0 d, .int .i64 m0] w fun e w' => e = .returned (.int .i64 m0) ∧ w = w' := by
  go_enter Try.func70, Try.ntmps70
  go_wp2
  refine wp_loop_rounds 1 ?_
  rw [rounds_succ]
  go_wp2
  go_ret
  exact ⟨rfl, rfl⟩
set_option maxHeartbeats 400000 in
theorem markNilI (m0 : Nat) (A : Option Addr) (d : Nat) (w : World) : Calls Try.prog 25 #[.slice A 0 d, .int .i64 m0] w fun e w' => e = .returned (.int .i64 m0) ∧ w = w' := by
  go_enter Try.func25, Try.ntmps25
  go_wp2
  refine wp_loop_rounds 1 ?_
  rw [rounds_succ]
  go_wp2
  go_ret
  exact ⟨rfl, rfl⟩
set_option maxHeartbeats 400000 in
theorem heldNilI (m0 : Nat) (A : Option Addr) (d : Nat) (w : World) : Calls Try.prog 42 #[.slice A 0 d, .int .i64 m0] w fun e w' => e = .returned (.int .i64 m0) ∧ w = w' := by
  go_enter Try.func42, Try.ntmps42
  go_wp2
  refine wp_loop_rounds 1 ?_
  rw [rounds_succ]
  go_wp2
  go_ret
  exact ⟨rfl, rfl⟩

/-- The wave of no list. -/
def wv0 : Value := .agg #[.int .i64 0, .slice none 0 0, .slice none 0 0]
set_option maxHeartbeats 800000 in
theorem eqWave_zero (w : World) : Calls Try.prog 23 #[wv0, wv0] w fun e w' => e = .returned (.bool true) ∧ Below w.heap.size w w' := by
  have ha : LiesWa w ⟨0, none, 0, [], none, 0, []⟩ := ⟨fun i x h => by simp at h, fun j p h => by simp at h, fun z h => by simp at h, ⟨by simp, by simp⟩⟩
  exact eqWave_true ⟨0, none, 0, [], none, 0, []⟩ ⟨0, none, 0, [], none, 0, []⟩ w ha ha rfl rfl rfl (by simp) (by simp) (fun k p h => by simp at h)
set_option maxHeartbeats 800000 in
theorem markWave_zero (w : World) : Calls Try.prog 26 #[wv0, .int .i64 1] w fun e w' => e = .returned (.int .i64 1) ∧ Below w.heap.size w w' := by
  unfold wv0
  have HX := Lib.hid (Box.made w 27 #[.int .i64 0, .slice none 0 0, .slice none 0 0])
  have HB1 : Hid (Below w.heap.size w (w.alloc (.cells #[.int .i64 0, .slice none 0 0, .slice none 0 0] 27))) := Lib.hid ((Below.refl _ _).alloc (Nat.le_refl _) _)
  have x2 := HX.out.cell 2
  have xl := HX.out.lt
  clear HX
  go_enter Try.func26, Try.ntmps26
  go_wp2_with fail
  generalize w.alloc (.cells #[.int .i64 0, .slice none 0 0, .slice none 0 0] 27) = W1 at *
  refine (markNilI 1 _ _ _).mono ?_
  rintro e w2 ⟨rfl, rfl⟩
  go_wp2_with fail
  refine (markNilV 1 _ _ _).mono ?_
  rintro e w2 ⟨rfl, rfl⟩
  clear x2 xl
  go_wp2
  go_ret
  exact ⟨rfl, HB1.out⟩
set_option maxHeartbeats 800000 in
theorem heldWave_zero (w : World) : Calls Try.prog 27 #[wv0, .int .i64 1] w fun e w' => e = .returned (.int .i64 1) ∧ Below w.heap.size w w' := by
  unfold wv0
  have HX := Lib.hid (Box.made w 27 #[.int .i64 0, .slice none 0 0, .slice none 0 0])
  have HB1 : Hid (Below w.heap.size w (w.alloc (.cells #[.int .i64 0, .slice none 0 0, .slice none 0 0] 27))) := Lib.hid ((Below.refl _ _).alloc (Nat.le_refl _) _)
  have x2 := HX.out.cell 2
  have xl := HX.out.lt
  clear HX
  go_enter Try.func27, Try.ntmps27
  go_wp2_with fail
  generalize w.alloc (.cells #[.int .i64 0, .slice none 0 0, .slice none 0 0] 27) = W1 at *
  refine (heldNilI 1 _ _ _).mono ?_
  rintro e w2 ⟨rfl, rfl⟩
  go_wp2_with fail
  refine (heldNilV 1 _ _ _).mono ?_
  rintro e w2 ⟨rfl, rfl⟩
  clear x2 xl
  go_wp2
  go_ret
  exact ⟨rfl, HB1.out⟩

/-! ### Either outcome -/
/-- What WaveOf returns as its first result, between lo and hi. -/
def OutW (w : World) (lo hi : Nat) (N : Int) (Z : List Int) (V : List (Int × List Nat)) (ok : Bool) (v : Value) : Prop := (ok = true ∧ WvO w lo hi N Z V v) ∨ (ok = false ∧ v = wv0)
theorem OutW.below {w w' : World} {lo hi : Nat} {N : Int} {Z : List Int} {V : List (Int × List Nat)} {ok : Bool} {v : Value} (h : OutW w lo hi N Z V ok v) {B : Nat} (hb : Below B w w') (hB : hi ≤ B) : OutW w' lo hi N Z V ok v := by
  rcases h with ⟨h1, h2⟩ | h
  · exact .inl ⟨h1, h2.below hb hB⟩
  · exact .inr h
theorem OutW.shape {w : World} {lo hi : Nat} {N : Int} {Z : List Int} {V : List (Int × List Nat)} {ok : Bool} {v : Value} (h : OutW w lo hi N Z V ok v) : ∃ (M : Int) (A A' : Option Addr) (n n' c c' : Nat), v = .agg #[.int .i64 M, .slice A n c, .slice A' n' c'] := by
  rcases h with ⟨_, ⟨ZA, zc, g, d, cs, Q, rfl, _⟩⟩ | ⟨_, rfl⟩
  · exact ⟨_, _, _, _, _, _, _, rfl⟩
  · exact ⟨_, _, _, _, _, _, _, rfl⟩
theorem OutW.eq {w : World} {lo hi lo' hi' : Nat} {N : Int} {Z : List Int} {V : List (Int × List Nat)} {ok : Bool} {v v' : Value} (hn : ok = true → WvNum Z V) (ht : ok = true → Z.length + totV2 V ≤ 1048576) (h : OutW w lo hi N Z V ok v) (h' : OutW w lo' hi' N Z V ok v') :
    Calls Try.prog 23 #[v, v'] w fun e w' => e = .returned (.bool true) ∧ Below w.heap.size w w' := by
  rcases h with ⟨h1, h2⟩ | ⟨h1, rfl⟩
  · rcases h' with ⟨_, h3⟩ | ⟨h3, _⟩
    · exact eqWvO (hn h1) (ht h1) h2 h3
    · rw [h1] at h3; cases h3
  · rcases h' with ⟨h3, _⟩ | ⟨_, rfl⟩
    · rw [h1] at h3; cases h3
    · exact eqWave_zero w
/-- A marked outcome, with the number that the marking has returned. -/
def OutM (w : World) (lo hi : Nat) (r : Nat) (v : Value) : Prop := (∃ (l : Nat) (Q : List LvV), l + totW Q ≤ 1048000 ∧ r = 1 + l + totW Q ∧ WvM w lo hi l Q v) ∨ (r = 1 ∧ v = wv0)
theorem OutM.below {w w' : World} {lo hi r : Nat} {v : Value} (h : OutM w lo hi r v) {B : Nat} (hb : Below B w w') (hB : hi ≤ B) : OutM w' lo hi r v := by
  rcases h with ⟨l, Q, h1, h2, h3⟩ | h
  · exact .inl ⟨l, Q, h1, h2, h3.below hb hB⟩
  · exact .inr h
theorem OutW.mark {w : World} {lo hi : Nat} {N : Int} {Z : List Int} {V : List (Int × List Nat)} {ok : Bool} {v : Value} (ht : ok = true → Z.length + totV2 V ≤ 1048000) (h : OutW w lo hi N Z V ok v) (hhi : hi ≤ w.heap.size) (hlo : lo ≤ hi) :
    Calls Try.prog 26 #[v, .int .i64 1] w fun e w' => ∃ r : Nat, r ≤ 1048577 ∧ e = .returned (.int .i64 (r : Int)) ∧ OutM w' lo hi r v ∧ InsideW lo hi w w' := by
  rcases h with ⟨h1, h2⟩ | ⟨h1, rfl⟩
  · have ht' := ht h1
    refine (markWave_strong lo hi N Z V v w h2 hhi ht' (by omega)).mono ?_
    rintro e w' ⟨Q, hq, rfl, hm, hi'⟩
    exact ⟨_, by omega, rfl, .inl ⟨_, Q, by omega, by rw [hq], hm⟩, hi'⟩
  · refine (markWave_zero w).mono ?_
    rintro e w' ⟨rfl, hb⟩
    refine ⟨1, by omega, rfl, .inr ⟨rfl, rfl⟩, ⟨hb.os, hb.tape, hb.output, hb.size, fun k hk _ => hb.block k hk⟩⟩
theorem OutM.held {w : World} {lo hi r : Nat} {v : Value} (h : OutM w lo hi r v) (hhi : hi ≤ w.heap.size) :
    Calls Try.prog 27 #[v, .int .i64 1] w fun e w' => e = .returned (.int .i64 (r : Int)) ∧ Below w.heap.size w w' := by
  rcases h with ⟨l, Q, h1, h2, h3⟩ | ⟨h1, rfl⟩
  · rw [h2]; exact heldWave_strong lo hi l Q v w h3 hhi h1
  · rw [h1]; exact heldWave_zero w

/-- WaveOf's result, either outcome. -/
theorem WaveOfPost.out {X : List Int} {w : World} {e : Ending} {w' : World} (h : WaveOfPost X w e w') : ∃ v, e = .returned (.tuple #[v, .bool (okW X)]) ∧ OutW w' w.heap.size w'.heap.size X.length (wzer X) (levV X) (okW X) v ∧ Below w.heap.size w w' := by
  rcases h with ⟨h1, v, h2, h3, h4⟩ | ⟨h1, h2, h3⟩
  · exact ⟨v, by rw [h1]; exact h2, .inl ⟨h1, h3⟩, h4⟩
  · exact ⟨wv0, by rw [h1]; exact h2, .inr ⟨h1, rfl⟩, h3⟩

theorem totV2_bound (b : Nat) : ∀ (V : List (Int × List Nat)), (∀ v ∈ V, v.2.length ≤ b) → totV2 V ≤ V.length * (1 + b)
  | [], _ => by simp [totV2]
  | v :: V, h => by
    have h1 := totV2_bound b V fun u hu => h u (by simp [hu])
    have h2 := h v (by simp)
    rw [totV2, List.length_cons, Nat.add_mul]
    omega
theorem wvNum_levV {X : List Int} (h : okW X = true) : WvNum (wzer X) (levV X) ∧ (wzer X).length + totV2 (levV X) ≤ 1000 := by
  have hx := (okW_iff X).1 h
  have hl : (levV X).length = 9 := by rw [levV, List.length_map, wlev_len]
  have hm : ∀ v ∈ levV X, v.2.length ≤ 16 ∧ ∀ x ∈ v.2, x < 2 ^ 64 := by
    intro v hv
    rw [levV] at hv
    obtain ⟨L, hL, rfl⟩ := List.mem_map.1 hv
    rw [wlev] at hL
    obtain ⟨k, hk, rfl⟩ := List.mem_map.1 hL
    refine ⟨?_, wordsOf_lt _ (wrow_bits X k)⟩
    show (wordsOf (wrow X k)).length ≤ 16
    rw [wordsOf_len, wrow_len]
    omega
  have ht := totV2_bound 16 (levV X) fun v hv => (hm v hv).1
  rw [hl] at ht
  have hz := wzer_len X
  refine ⟨⟨?_, fun v hv => (hm v hv).2, by omega, by omega⟩, by omega⟩
  intro z hz2
  rw [wzer] at hz2
  obtain ⟨k, hk, rfl⟩ := List.mem_map.1 hz2
  have h1 := low_high (8 - k) (wX X k)
  rw [wX_len] at h1
  omega

end Go.Proofs.Ytoehgcakfblblaa
