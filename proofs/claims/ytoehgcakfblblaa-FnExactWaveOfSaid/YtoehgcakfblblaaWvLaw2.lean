import Derived.Test.YtoehgcakfblblaaLv9
import Derived.Test.YtoehgcakfblblaaLv4
import Derived.Test.YtoehgcakfblblaaNewI
/- The laws' helpers on waves: their size, a copy, comparing, marking. -/
namespace Go.Proofs.Ytoehgcakfblblaa
open Go.RowKit
set_option maxRecDepth 100000

/-- A wave of a call's own, all of it between lo and hi. -/
def WvO (w : World) (lo hi : Nat) (N : Int) (Z : List Int) (V : List (Int × List Nat)) (v : Value) : Prop :=
  ∃ (ZA : Option Addr) (zc g d : Nat) (cs : Array Value) (Q : List LvV), v = .agg #[.int .i64 N, .slice ZA Z.length zc, .slice (some ⟨g, 0, none⟩) V.length d] ∧
    (w.ownsRow lo 3 1 (.slice ZA Z.length zc) Z.length (Z.map I) ∧ ∀ k, (Value.slice ZA Z.length zc).ownBlock = some k → k < hi) ∧ LvIn w lo hi g cs Q ∧ Q.map (fun q => (q.K, q.xs)) = V.map (fun v => (v.1, v.2.map U))

theorem zipL_len {Q : List LvV} {V : List (Int × List Nat)} (h : Q.map (fun q => (q.K, q.xs)) = V.map (fun v => (v.1, v.2.map U))) : (zipL Q V).length = V.length := by
  have : Q.length = V.length := by simpa using congrArg List.length h
  unfold zipL
  rw [List.length_zipWith, this, Nat.min_self]

theorem WvO.below {w w' : World} {lo hi : Nat} {N : Int} {Z : List Int} {V : List (Int × List Nat)} {v : Value} (h : WvO w lo hi N Z V v) {B : Nat} (hb : Below B w w') (hB : hi ≤ B) : WvO w' lo hi N Z V v := by
  obtain ⟨ZA, zc, g, d, cs, Q, h1, ⟨h2, h3⟩, h4, h5⟩ := h
  exact ⟨ZA, zc, g, d, cs, Q, h1, ⟨own_turn4 h2 fun k hk => hb.block k (Nat.lt_of_lt_of_le (h3 k hk) hB), h3⟩, h4.below hb hB, h5⟩

/-- What the numbers of a wave must be. -/
structure WvNum (Z : List Int) (V : List (Int × List Nat)) : Prop where
  znum : ∀ z ∈ Z, -9223372036854775808 ≤ z ∧ z ≤ 9223372036854775807
  word : ∀ v ∈ V, ∀ x ∈ v.2, x < 2 ^ 64
  zlen : Z.length ≤ 1048576
  vlen : V.length ≤ 1048576

theorem WvO.wave {w : World} {lo hi : Nat} {N : Int} {Z : List Int} {V : List (Int × List Nat)} {v : Value} (h : WvO w lo hi N Z V v) (hn : WvNum Z V) : ∃ a : WaA, a.value = v ∧ LiesWa w a ∧ a.N = N ∧ a.Z = Z ∧ a.P.map LvA.val = V := by
  obtain ⟨ZA, zc, g, d, cs, Q, h1, ⟨h2, h3⟩, h4, h5⟩ := h
  have hl := zipL_len h5
  refine ⟨⟨N, ZA, zc, Z, some ⟨g, 0, none⟩, d, zipL Q V⟩, ?_, ⟨Lies.of_own h2, h4.lies h5 hn.word, hn.znum, Nat.le_trans hn.zlen (by decide), ?_⟩, rfl, rfl, zipL_val h5⟩
  · rw [h1]
    simp only [WaA.value, hl]
  · show (zipL Q V).length ≤ _
    rw [hl]
    exact Nat.le_trans hn.vlen (by decide)

theorem LvIn.mono {w : World} {lo lo' hi hi' g : Nat} {cs : Array Value} {Q : List LvV} (h : LvIn w lo hi g cs Q) (hlo : lo' ≤ lo) (hhi : hi ≤ hi') : LvIn w lo' hi' g cs Q :=
  ⟨h.box, Nat.le_trans hlo h.low, Nat.lt_of_lt_of_le h.high hhi, h.cells, fun j p hp => ⟨own_mono (h.own j p hp).1 hlo, fun k hk => Nat.lt_of_lt_of_le ((h.own j p hp).2 k hk) hhi⟩, h.apart⟩

set_option maxHeartbeats 1600000 in
theorem eqWave_true (a b : WaA) (w : World) (ha : LiesWa w a) (hb : LiesWa w b) (hN : a.N = b.N) (hZ : a.Z = b.Z) (hV : a.P.map LvA.val = b.P.map LvA.val) (hz : a.Z.length ≤ 1048576) (hP : a.P.length ≤ 1048576) (hp : ∀ (k : Nat) (p : LvA), a.P[k]? = some p → p.L.length ≤ 1048576) :
    Calls Try.prog 23 #[a.value, b.value] w fun e w' => e = .returned (.bool true) ∧ Below w.heap.size w w' := by
  obtain ⟨N, ZA, zc, Z, LA, lc, P⟩ := a
  obtain ⟨M, YA, yc, Y, KA, kc, O⟩ := b
  simp only at hN hZ hV hz hP hp
  subst hN hZ
  unfold WaA.value
  simp only
  have CE := Lib.hid fun (W : World) (hW : Below w.heap.size w W) => eqLvs_true LA KA lc kc P O W (ha.lev.below hW) (hb.lev.below hW) hV hP hp
  have CI := Lib.hid fun (W : World) (hW : Below w.heap.size w W) => (eqInt ZA YA zc yc Z Z W (ha.zer.below hW) (hb.zer.below hW) (by omega)).mono fun e w' h => (⟨by rw [h.1, decide_eq_true rfl], h.2⟩ : e = .returned (.bool true) ∧ Drawn W w')
  clear ha hb hV hp
  have t0 : (N != N) = false := by simp
  have HB2 : Hid (Below w.heap.size w ((w.alloc (.cells #[.int .i64 N, .slice ZA Z.length zc, .slice LA P.length lc] 27)).alloc (.cells #[.int .i64 N, .slice YA Z.length yc, .slice KA O.length kc] 27))) := Lib.hid (by go_grown)
  have HX1 : Hid (Box ((w.alloc (.cells #[.int .i64 N, .slice ZA Z.length zc, .slice LA P.length lc] 27)).alloc (.cells #[.int .i64 N, .slice YA Z.length yc, .slice KA O.length kc] 27)) w.heap.size 27 #[.int .i64 N, .slice ZA Z.length zc, .slice LA P.length lc]) := Lib.hid ((Box.made _ _ _).alloc _)
  have HX2 : Hid (Box ((w.alloc (.cells #[.int .i64 N, .slice ZA Z.length zc, .slice LA P.length lc] 27)).alloc (.cells #[.int .i64 N, .slice YA Z.length yc, .slice KA O.length kc] 27)) (w.heap.size + 1) 27 #[.int .i64 N, .slice YA Z.length yc, .slice KA O.length kc]) := Lib.hid (by
    have h := Box.made (w.alloc (.cells #[.int .i64 N, .slice ZA Z.length zc, .slice LA P.length lc] 27)) 27 #[.int .i64 N, .slice YA Z.length yc, .slice KA O.length kc]
    rwa [World.size_alloc] at h)
  go_enter Try.func23, Try.ntmps23
  go_wp2_with fail
  generalize (w.alloc (.cells #[.int .i64 N, .slice ZA Z.length zc, .slice LA P.length lc] 27)).alloc (.cells #[.int .i64 N, .slice YA Z.length yc, .slice KA O.length kc] 27) = W2 at *
  refine (CI.out _ HB2.out).mono ?_
  rintro e w3 ⟨rfl, q3, rfl⟩
  have HB3 : Hid (Below w.heap.size w (W2.drewN q3)) := Lib.hid (below_dN HB2.out q3)
  have x2 : (W2.drewN q3).cell? ⟨w.heap.size, 2, none⟩ = some (.slice LA P.length lc) := HX1.out.cell 2
  have y2 : (W2.drewN q3).cell? ⟨w.heap.size + 1, 2, none⟩ = some (.slice KA O.length kc) := HX2.out.cell 2
  have xl : w.heap.size < (W2.drewN q3).heap.size := HX1.out.lt
  have yl : w.heap.size + 1 < (W2.drewN q3).heap.size := HX2.out.lt
  generalize W2.drewN q3 = w3 at *
  go_wp2_with fail
  refine (CE.out _ HB3.out).mono ?_
  rintro e w4 ⟨rfl, hb4⟩
  have HB4 := Lib.hid (below_then HB3.out hb4)
  clear hb4 x2 y2 xl yl
  go_wp2
  go_ret
  exact ⟨rfl, HB4.out⟩

set_option maxHeartbeats 1600000 in
/-- A wave of a call's own is marked: only it is changed. -/
theorem markWave_any (lo hi : Nat) (N : Int) (Z : List Int) (V : List (Int × List Nat)) (v : Value) (w : World) (h : WvO w lo hi N Z V v) (hhi : hi ≤ w.heap.size) (hz : Z.length ≤ 1048576) (ht : ∀ Q : List LvV, Q.map (fun q => (q.K, q.xs)) = V.map (fun v => (v.1, v.2.map U)) → totW Q ≤ 1048576) (hlo : lo ≤ w.heap.size) :
    Calls Try.prog 26 #[v, .int .i64 1] w fun e w' => (∃ r : Nat, e = .returned (.int .i64 r)) ∧ InsideW lo hi w w' := by
  obtain ⟨ZA, zc, g, d, cs, Q, rfl, ⟨ho, hk⟩, hin, hm⟩ := h
  have hql : Q.length = V.length := by simpa using congrArg List.length hm
  have hq := ht Q hm
  have HQl := Lib.hid hql
  rw [← hql]
  have HO := Lib.hid ho
  have HK := Lib.hid hk
  have HI := Lib.hid hin
  clear ht hm ho hk hin hql
  obtain ⟨l, hl⟩ : ∃ l, Z.length = l := ⟨_, rfl⟩
  rw [hl] at HO HK hz ⊢
  clear hl
  have HX := Lib.hid (Box.made w 27 #[.int .i64 N, .slice ZA l zc, .slice (some ⟨g, 0, none⟩) Q.length d])
  have HIn1 : Hid (InsideW lo hi w (w.alloc (.cells #[.int .i64 N, .slice ZA l zc, .slice (some ⟨g, 0, none⟩) Q.length d] 27))) := Lib.hid ⟨rfl, rfl, rfl, by rw [World.size_alloc]; omega, fun k hk _ => Below.heap_alloc w _ k hk⟩
  have HO1 : Hid ((w.alloc (.cells #[.int .i64 N, .slice ZA l zc, .slice (some ⟨g, 0, none⟩) Q.length d] 27)).ownsRow lo 3 1 (.slice ZA l zc) l (Z.map I)) := Lib.hid (HO.out.alloc _)
  have HI1 : Hid (LvIn (w.alloc (.cells #[.int .i64 N, .slice ZA l zc, .slice (some ⟨g, 0, none⟩) Q.length d] 27)) lo hi g cs Q) := Lib.hid (HI.out.turn fun k _ h2 => Below.heap_alloc w _ k (Nat.lt_of_lt_of_le h2 hhi))
  have hs1 : hi < (w.alloc (.cells #[.int .i64 N, .slice ZA l zc, .slice (some ⟨g, 0, none⟩) Q.length d] 27)).heap.size := by rw [World.size_alloc]; omega
  have Hhi := Lib.hid hhi
  clear hhi
  go_enter Try.func26, Try.ntmps26
  go_wp2_with fail
  generalize w.alloc (.cells #[.int .i64 N, .slice ZA l zc, .slice (some ⟨g, 0, none⟩) Q.length d] 27) = W1 at *
  refine (markInt ZA l zc lo 1 _ W1 HO1.out hz (by omega) (by omega)).mono ?_
  rintro e w2 ⟨rfl, ho2, hg2⟩
  have HIn2 : Hid (InsideW lo hi w w2) := Lib.hid (HIn1.out.trans ⟨hg2.os, hg2.tape, hg2.output, hg2.size, fun k hk hc => hg2.block k hk fun e => by
    have h1 := (HO1.out.lt k e.symm).1
    have h2 := HK.out k e.symm
    omega⟩)
  have HI2 : Hid (LvIn w2 lo hi g cs Q) := Lib.hid (by
    have hint := HO1.out
    have hne : ∀ k, (Value.slice ZA l zc).ownBlock = some k → ∀ (n' : Nat) (v' : Value) (xs' : List Value), W1.ownsRow lo 123 1 v' n' xs' → v'.ownBlock ≠ some k := fun k hk n' v' xs' hv => own_types_apart (by decide) hint hv hk
    refine ⟨?_, HI1.out.low, HI1.out.high, HI1.out.cells, fun j p hp => ⟨own_turn4 (HI1.out.own j p hp).1 fun k e => hg2.block k (Nat.lt_of_lt_of_le ((HI1.out.own j p hp).2 k e) (Nat.le_of_lt hs1)) fun e2 => hne k e2.symm _ _ _ (HI1.out.own j p hp).1 e, (HI1.out.own j p hp).2⟩, HI1.out.apart⟩
    refine (hg2.block g (Nat.lt_trans HI1.out.high hs1) fun e => ?_).trans HI1.out.box
    obtain ⟨_, _, cur, hh⟩ := own_typed hint e.symm
    have hb := HI1.out.box
    unfold Box at hb
    rw [hb] at hh
    injection hh with hh
    injection hh with _ e2 _
    exact absurd e2 (by decide))
  have hx2 : Box w2 w.heap.size 27 #[.int .i64 N, .slice ZA l zc, .slice (some ⟨g, 0, none⟩) Q.length d] := HX.out.grown hg2 fun e => by
    have h2 := HK.out _ e
    have := Hhi.out
    omega
  have x2 := hx2.cell 2
  have xl := hx2.lt
  have hs2 : hi ≤ w2.heap.size := Nat.le_trans (Nat.le_of_lt hs1) hg2.size
  clear ho2 hg2 hx2 HX HIn1 HO1 HI1 hs1
  obtain ⟨m0, hm0⟩ : ∃ m0 : Nat, 1 + l = m0 := ⟨_, rfl⟩
  have e0 : (1 : Int) + (l : Int) = (m0 : Int) := by omega
  rw [e0]
  clear e0
  go_wp2_with fail
  refine (markLvs_any m0 (by omega) lo hi g d cs Q w2 HI2.out hs2 hq).mono ?_
  rintro e w3 ⟨⟨r, rfl⟩, hi3⟩
  have HIn3 := Lib.hid (HIn2.out.trans hi3)
  clear hi3 x2 xl
  go_wp2
  go_ret
  exact ⟨⟨r, rfl⟩, HIn3.out⟩

end Go.Proofs.Ytoehgcakfblblaa

/- Waves of a call's own, handed to the laws' helpers. -/
namespace Go.Proofs.Ytoehgcakfblblaa
open Go.RowKit
set_option maxRecDepth 100000

/-- How many numbers and words levels have. -/
def totV2 : List (Int × List Nat) → Nat
  | [] => 0
  | v :: r => 1 + v.2.length + totV2 r
theorem totL_val : ∀ (P : List LvA), totL P = totV2 (P.map LvA.val)
  | [] => rfl
  | p :: r => by rw [List.map_cons, totL, totV2, totL_val r]
theorem totW_val : ∀ {Q : List LvV} {V : List (Int × List Nat)}, Q.map (fun q => (q.K, q.xs)) = V.map (fun v => (v.1, v.2.map U)) → totW Q = totV2 V
  | [], [], _ => rfl
  | [], _ :: _, h => by simp at h
  | _ :: _, [], h => by simp at h
  | q :: Q, v :: V, h => by
    simp only [List.map_cons, List.cons.injEq, Prod.mk.injEq] at h
    rw [totW, totV2, totW_val h.2, h.1.2, List.length_map]
theorem totV2_le : ∀ (V : List (Int × List Nat)), V.length ≤ totV2 V
  | [] => Nat.le_refl _
  | v :: r => by
    have := totV2_le r
    simp only [List.length_cons, totV2]
    omega
theorem totV2_mem : ∀ {V : List (Int × List Nat)} {v : Int × List Nat}, v ∈ V → v.2.length ≤ totV2 V
  | [], v, h => by simp at h
  | u :: r, v, h => by
    rcases List.mem_cons.1 h with rfl | h
    · simp only [totV2]; omega
    · have := totV2_mem h
      simp only [totV2]
      omega

theorem wvNum_of {w : World} {LA : Option Addr} {Z : List Int} {P : List LvA} (hr : ∀ z ∈ Z, -9223372036854775808 ≤ z ∧ z ≤ 9223372036854775807) (hL : LiesLw w LA P) (ht : Z.length + totL P ≤ 1048576) : WvNum Z (P.map LvA.val) := by
  have h1 := totL_le P
  refine ⟨hr, ?_, by omega, by rw [List.length_map]; omega⟩
  intro v hv
  obtain ⟨p, hp, rfl⟩ := List.mem_map.1 hv
  obtain ⟨j, hj⟩ := List.mem_iff_getElem?.1 hp
  exact (hL j p hj).2.2.2

theorem eqWvO {w : World} {lo hi lo' hi' : Nat} {N : Int} {Z : List Int} {V : List (Int × List Nat)} {v v' : Value} (hn : WvNum Z V) (ht : Z.length + totV2 V ≤ 1048576) (h : WvO w lo hi N Z V v) (h' : WvO w lo' hi' N Z V v') :
    Calls Try.prog 23 #[v, v'] w fun e w' => e = .returned (.bool true) ∧ Below w.heap.size w w' := by
  obtain ⟨a, rfl, ha, hN, hZ, hV⟩ := h.wave hn
  obtain ⟨b, rfl, hb, hN', hZ', hV'⟩ := h'.wave hn
  have hl : a.P.length = V.length := by rw [← hV, List.length_map]
  have h1 := totV2_le V
  refine eqWave_true a b w ha hb (hN.trans hN'.symm) (hZ.trans hZ'.symm) (hV.trans hV'.symm) (by rw [hZ]; omega) (by omega) fun k p hp => ?_
  have hm : p.val ∈ V := by rw [← hV]; exact List.mem_map_of_mem (List.mem_of_getElem? hp)
  have : p.L.length ≤ totV2 V := totV2_mem hm
  omega

theorem markWvO {w : World} {lo hi : Nat} {N : Int} {Z : List Int} {V : List (Int × List Nat)} {v : Value} (ht : Z.length + totV2 V ≤ 1048576) (h : WvO w lo hi N Z V v) (hhi : hi ≤ w.heap.size) (hlo : lo ≤ w.heap.size) :
    Calls Try.prog 26 #[v, .int .i64 1] w fun e w' => (∃ r : Nat, e = .returned (.int .i64 r)) ∧ InsideW lo hi w w' :=
  markWave_any lo hi N Z V v w h hhi (by omega) (fun Q hQ => by rw [totW_val hQ]; omega) hlo

/-- Rows outside of what is changed stay. -/
theorem own_outW {lo hi base n size : Nat} {e : TypeId} {w w' : World} {v : Value} {xs : List Value} (h : w.ownsRow base e size v n xs) (hi' : InsideW lo hi w w') (hout : ∀ k, v.ownBlock = some k → k < lo ∨ hi ≤ k) : w'.ownsRow base e size v n xs :=
  own_turn4 h fun k e => hi'.block k (own_typed h e).2.1 (hout k e)

end Go.Proofs.Ytoehgcakfblblaa
