/- The laws' helpers on waves: their size, a copy, comparing, marking. -/
import Derived.Test.YtnlpmcgpdaifoaaLv7
import Derived.Test.YtnlpmcgpdaifoaaWv4
import Derived.Test.YtnlpmcgpdaifoaaNewI
namespace Go.Proofs.Ytnlpmcgpdaifoaa
open Go.RowKit
set_option maxRecDepth 100000

/-- A wave of a call's own, all of it between lo and hi. -/
def WvO (w : World) (lo hi : Nat) (N : Int) (Z : List Int) (V : List (Int × List Nat)) (v : Value) : Prop :=
  ∃ (ZA : Option Addr) (zc g d : Nat) (cs : Array Value) (Q : List LvV), v = .agg #[.int .i64 N, .slice ZA Z.length zc, .slice (some ⟨g, 0, none⟩) V.length d] ∧
    (w.ownsRow lo 3 1 (.slice ZA Z.length zc) Z.length (Z.map I) ∧ ∀ k, (Value.slice ZA Z.length zc).ownBlock = some k → k < hi) ∧ LvIn w lo hi g cs Q ∧ Q.map (fun q => (q.K, q.xs)) = V.map (fun v => (v.1, v.2.map U))

theorem zipL_len {Q : List LvV} {V : List (Int × List Nat)} (h : Q.map (fun q => (q.K, q.xs)) = V.map (fun v => (v.1, v.2.map U))) : (zipL Q V).length = V.length := by
  have : Q.length = V.length := by simpa using congrArg List.length h
  unfold zipL
  rw [List.length_zipWith, this, Nat.min_self]

theorem WvO.below {w w' : World} {lo hi : Nat} {N : Int} {Z : List Int} {V : List (Int × List Nat)} {v : Value} (h : WvO w lo hi N Z V v) {B : Nat} (hb : Below B w w') (hB : hi ≤ B) : WvO w' lo hi N Z V v := by
  obtain ⟨ZA, zc, g, d, cs, Q, h1, ⟨h2, h3⟩, h4, h5⟩ := h
  exact ⟨ZA, zc, g, d, cs, Q, h1, ⟨own_turn4 h2 fun k hk => hb.block k (Nat.lt_of_lt_of_le (h3 k hk) hB), h3⟩, h4.below hb hB, h5⟩

/-- What the numbers of a wave must be. -/
structure WvNum (Z : List Int) (V : List (Int × List Nat)) : Prop where
  znum : ∀ z ∈ Z, -9223372036854775808 ≤ z ∧ z ≤ 9223372036854775807
  word : ∀ v ∈ V, ∀ x ∈ v.2, x < 2 ^ 64
  zlen : Z.length ≤ 1048576
  vlen : V.length ≤ 1048576

theorem WvO.wave {w : World} {lo hi : Nat} {N : Int} {Z : List Int} {V : List (Int × List Nat)} {v : Value} (h : WvO w lo hi N Z V v) (hn : WvNum Z V) : ∃ a : WaA, a.value = v ∧ LiesWa w a ∧ a.N = N ∧ a.Z = Z ∧ a.P.map LvA.val = V := by
  obtain ⟨ZA, zc, g, d, cs, Q, h1, ⟨h2, h3⟩, h4, h5⟩ := h
  have hl := zipL_len h5
  refine ⟨⟨N, ZA, zc, Z, some ⟨g, 0, none⟩, d, zipL Q V⟩, ?_, ⟨Lies.of_own h2, h4.lies h5 hn.word, hn.znum, Nat.le_trans hn.zlen (by decide), ?_⟩, rfl, rfl, zipL_val h5⟩
  · rw [h1]
    simp only [WaA.value, hl]
  · show (zipL Q V).length ≤ _
    rw [hl]
    exact Nat.le_trans hn.vlen (by decide)

set_option maxHeartbeats 800000 in
theorem szWave_any (N : Int) (ZA : Option Addr) (zc : Nat) (Z : List Int) (LA : Option Addr) (lc : Nat) (P : List LvA) (w : World) (hL : LiesLw w LA P) (hz : Z.length ≤ 9223372036854775807) (hP : P.length ≤ 9223372036854775807) (hp : ∀ (k : Nat) (p : LvA), P[k]? = some p → p.L.length ≤ 9223372036854775807)
    (hi : ∀ (n c : Nat) (A : Option Addr) (W : World), n ≤ 9223372036854775807 → Calls Try.prog 57 #[.slice A n c, .int .i64 1048576] W fun e w' => e = .returned (.int .i64 (szL 1048576 n)) ∧ W = w') :
    Calls Try.prog 25 #[.agg #[.int .i64 N, .slice ZA Z.length zc, .slice LA P.length lc], .int .i64 1048576] w fun e w' => e = .returned (.int .i64 (szL 1048576 (Z.length + totL P))) ∧ Below w.heap.size w w' := by
  obtain ⟨l, hl⟩ : ∃ l, Z.length = l := ⟨_, rfl⟩
  rw [hl] at hz ⊢
  have CI := Lib.hid (hi l zc ZA)
  have HL := Lib.hid hL
  have hbox := Box.made w 42 #[.int .i64 N, .slice ZA l zc, .slice LA P.length lc]
  have HB : Hid (Below w.heap.size w (w.alloc (.cells #[.int .i64 N, .slice ZA l zc, .slice LA P.length lc] 42))) := Lib.hid (by go_grown)
  have x1 := hbox.cell 1
  have x2 := hbox.cell 2
  have xl := hbox.lt
  have CS := Lib.hid fun (s : Nat) (hs : s ≤ 1048576) (W : World) (hW : Below w.heap.size w W) => szLvs_any s hs LA lc P W (HL.out.below hW) hP hp
  obtain ⟨m, hm⟩ : ∃ m, P.length = m := ⟨_, rfl⟩
  rw [hm] at hP CS x1 x2 xl HB ⊢
  clear hL hbox hl hp hm
  by_cases h0 : l ≤ 1048576
  · have e0 : szL 1048576 l = ((1048576 - l : Nat) : Int) := by unfold szL; rw [if_pos h0]; omega
    rw [e0] at CI
    obtain ⟨s, hs⟩ : ∃ s, 1048576 - l = s := ⟨_, rfl⟩
    have d0 : decide ((s : Int) < 0) = false := by simp
    rw [hs] at CI
    have CS1 := Lib.hid (CS.out s (by omega) _ HB.out)
    by_cases h1 : totL P ≤ s
    · have e1 : szL s (totL P) = ((s - totL P : Nat) : Int) := by unfold szL; rw [if_pos h1]; omega
      have HE : Hid (szL 1048576 (l + totL P) = ((s - totL P : Nat) : Int)) := Lib.hid (by unfold szL; rw [if_pos (by omega)]; omega)
      rw [e1] at CS1
      obtain ⟨t, ht⟩ : ∃ t, s - totL P = t := ⟨_, rfl⟩
      rw [ht] at CS1 HE
      have d1 : decide ((t : Int) < 0) = false := by simp
      clear e0 e1 CS h0 h1 hs ht
      go_enter Try.func25, Try.ntmps25
      go_wp2_with fail
      refine (CI.out _ (by omega)).mono ?_
      rintro e w1 ⟨rfl, rfl⟩
      go_wp2_with fail
      refine CS1.out.mono ?_
      rintro e w2 ⟨rfl, hb⟩
      have HB2 := Lib.hid (below_then HB.out hb)
      clear hb x1 x2 xl
      go_wp2
      go_ret
      exact ⟨ret_int HE.out.symm, HB2.out⟩
    · have e1 : szL s (totL P) = -1 := by unfold szL; rw [if_neg h1]
      have HE : Hid (szL 1048576 (l + totL P) = -1) := Lib.hid (by unfold szL; rw [if_neg (by omega)])
      rw [e1] at CS1
      clear e0 e1 CS h0 h1 hs
      go_enter Try.func25, Try.ntmps25
      go_wp2_with fail
      refine (CI.out _ (by omega)).mono ?_
      rintro e w1 ⟨rfl, rfl⟩
      go_wp2_with fail
      refine CS1.out.mono ?_
      rintro e w2 ⟨rfl, hb⟩
      have HB2 := Lib.hid (below_then HB.out hb)
      clear hb x1 x2 xl
      go_wp2
      go_ret
      exact ⟨ret_int HE.out.symm, HB2.out⟩
  · have e0 : szL 1048576 l = -1 := by unfold szL; rw [if_neg h0]
    have HE : Hid (szL 1048576 (l + totL P) = -1) := Lib.hid (by unfold szL; rw [if_neg (by omega)])
    rw [e0] at CI
    clear e0 CS h0
    go_enter Try.func25, Try.ntmps25
    go_wp2_with fail
    refine (CI.out _ hz).mono ?_
    rintro e w1 ⟨rfl, rfl⟩
    go_wp2
    go_ret
    exact ⟨ret_int HE.out.symm, HB.out⟩

set_option maxHeartbeats 400000 in
theorem szInt_any (n c : Nat) (A : Option Addr) (w : World) (hn : n ≤ 9223372036854775807) :
    Calls Try.prog 57 #[.slice A n c, .int .i64 1048576] w fun e w' => e = .returned (.int .i64 (szL 1048576 n)) ∧ w = w' := by
  unfold szL
  by_cases h : n ≤ 1048576
  · rw [if_pos h]
    have d : decide ((1048576 : Int) - (n : Int) < 0) = false := by simp; omega
    have e1 : IntKind.i64.wrap ((1048576 : Int) - (n : Int)) = (1048576 : Int) - (n : Int) := IntWalk.i64_in _ (by omega)
    go_enter Try.func57, Try.ntmps57
    go_wp2
    go_ret
    exact ⟨rfl, rfl⟩
  · rw [if_neg h]
    have d : decide ((1048576 : Int) - (n : Int) < 0) = true := by simp; omega
    have e1 : IntKind.i64.wrap ((1048576 : Int) - (n : Int)) = (1048576 : Int) - (n : Int) := IntWalk.i64_in _ (by omega)
    go_enter Try.func57, Try.ntmps57
    go_wp2
    go_ret
    exact ⟨rfl, rfl⟩

theorem LvIn.mono {w : World} {lo lo' hi hi' g : Nat} {cs : Array Value} {Q : List LvV} (h : LvIn w lo hi g cs Q) (hlo : lo' ≤ lo) (hhi : hi ≤ hi') : LvIn w lo' hi' g cs Q :=
  ⟨h.box, Nat.le_trans hlo h.low, Nat.lt_of_lt_of_le h.high hhi, h.cells, fun j p hp => ⟨own_mono (h.own j p hp).1 hlo, fun k hk => Nat.lt_of_lt_of_le ((h.own j p hp).2 k hk) hhi⟩, h.apart⟩

set_option maxHeartbeats 1600000 in
theorem toWave_new (N : Int) (ZA : Option Addr) (zc : Nat) (Z : List Int) (LA : Option Addr) (lc : Nat) (P : List LvA) (w : World) (hZ : Lies w I ZA Z) (hL : LiesLw w LA P) (hz : Z.length ≤ 1048576) (hP : P.length ≤ 1048576) (hp : ∀ (k : Nat) (p : LvA), P[k]? = some p → p.L.length ≤ 1048576) :
    Calls Try.prog 27 #[.agg #[.int .i64 N, .slice ZA Z.length zc, .slice LA P.length lc]] w fun e w' => ∃ v, e = .returned v ∧ WvO w' w.heap.size w'.heap.size N Z (P.map LvA.val) v ∧ Below w.heap.size w w' := by
  have CZ := Lib.hid fun (W : World) (hW : Below w.heap.size w W) => toIntI ZA zc Z W (hZ.below hW) (by omega)
  have CL := Lib.hid fun (W : World) (hW : Below w.heap.size w W) => toLvs_new LA lc P W (hL.below hW) hP hp
  clear hZ hL hp
  obtain ⟨V, hV⟩ : ∃ V, P.map LvA.val = V := ⟨_, rfl⟩
  have hVl : V.length = P.length := by rw [← hV, List.length_map]
  rw [hV] at CL ⊢
  obtain ⟨m, hm⟩ : ∃ m, P.length = m := ⟨_, rfl⟩
  rw [hm] at CL hVl hP ⊢
  have HVl := Lib.hid hVl
  clear hm hV
  go_enter Try.func27, Try.ntmps27
  go_wp2_with fail
  have HB3 : Hid (Below w.heap.size w ((((w.alloc (.cells #[.int .i64 N, .slice ZA Z.length zc, .slice LA m lc] 42)).alloc (.cells #[.int .i64 0, .slice none 0 0, .slice none 0 0] 27)).alloc (.cells #[.int .i64 N, .slice none 0 0, .slice none 0 0] 27)))) := Lib.hid (by go_grown)
  have HX1 : Hid (Box ((((w.alloc (.cells #[.int .i64 N, .slice ZA Z.length zc, .slice LA m lc] 42)).alloc (.cells #[.int .i64 0, .slice none 0 0, .slice none 0 0] 27)).alloc (.cells #[.int .i64 N, .slice none 0 0, .slice none 0 0] 27))) w.heap.size 42 #[.int .i64 N, .slice ZA Z.length zc, .slice LA m lc]) := Lib.hid (((Box.made _ _ _).alloc _).alloc _)
  have HX2 : Hid (Box ((((w.alloc (.cells #[.int .i64 N, .slice ZA Z.length zc, .slice LA m lc] 42)).alloc (.cells #[.int .i64 0, .slice none 0 0, .slice none 0 0] 27)).alloc (.cells #[.int .i64 N, .slice none 0 0, .slice none 0 0] 27))) (w.heap.size + 1) 27 #[.int .i64 0, .slice none 0 0, .slice none 0 0]) := Lib.hid (by
    have h := (Box.made (w.alloc (.cells #[.int .i64 N, .slice ZA Z.length zc, .slice LA m lc] 42)) 27 #[.int .i64 0, .slice none 0 0, .slice none 0 0]).alloc (.cells #[.int .i64 N, .slice none 0 0, .slice none 0 0] 27)
    rwa [World.size_alloc] at h)
  have HX3 : Hid (Box ((((w.alloc (.cells #[.int .i64 N, .slice ZA Z.length zc, .slice LA m lc] 42)).alloc (.cells #[.int .i64 0, .slice none 0 0, .slice none 0 0] 27)).alloc (.cells #[.int .i64 N, .slice none 0 0, .slice none 0 0] 27))) (w.heap.size + 1 + 1) 27 #[.int .i64 N, .slice none 0 0, .slice none 0 0]) := Lib.hid (by
    have h := Box.made ((w.alloc (.cells #[.int .i64 N, .slice ZA Z.length zc, .slice LA m lc] 42)).alloc (.cells #[.int .i64 0, .slice none 0 0, .slice none 0 0] 27)) 27 #[.int .i64 N, .slice none 0 0, .slice none 0 0]
    rwa [World.size_alloc, World.size_alloc] at h)
  generalize (((w.alloc (.cells #[.int .i64 N, .slice ZA Z.length zc, .slice LA m lc] 42)).alloc (.cells #[.int .i64 0, .slice none 0 0, .slice none 0 0] 27)).alloc (.cells #[.int .i64 N, .slice none 0 0, .slice none 0 0] 27)) = W3 at *
  refine (CZ.out _ HB3.out).mono ?_
  rintro e w4 ⟨A4, c4, rfl, ho4, hb4⟩
  have HS34 := Lib.hid hb4.size
  have HB4 := Lib.hid (below_then HB3.out hb4)
  have HO4 := Lib.hid ho4
  have HX1' := Lib.hid (HX1.out.below hb4 HX1.out.lt)
  have HX2' := Lib.hid (HX2.out.below hb4 HX2.out.lt)
  have HX3' := Lib.hid (HX3.out.below hb4 HX3.out.lt)
  have HS3 : Hid (w.heap.size + 1 + 1 < W3.heap.size) := Lib.hid HX3.out.lt
  have x2 := HX1'.out.cell 2
  have xl := HX1'.out.lt
  have y1 := HX3'.out.cell 1
  have yf := HX3'.out.frozen 1
  have yl := HX3'.out.lt
  clear ho4 hb4 CZ HX1 HX2 HX3 HB3
  have HX1s := Lib.hid (HX1'.out.off (p := ⟨w.heap.size + 1 + 1, 1, none⟩) (by dsimp only; omega) (.slice A4 Z.length c4))
  have HX2s := Lib.hid (HX2'.out.off (p := ⟨w.heap.size + 1 + 1, 1, none⟩) (by dsimp only; omega) (.slice A4 Z.length c4))
  have HX3s := Lib.hid (HX3'.out.put 1 (.slice A4 Z.length c4))
  have HB4s := Lib.hid (HB4.out.setCell (p := ⟨w.heap.size + 1 + 1, 1, none⟩) (by dsimp only; omega) (.slice A4 Z.length c4))
  have HO4s : Hid ((w4.setCell ⟨w.heap.size + 1 + 1, 1, none⟩ (.slice A4 Z.length c4)).ownsRow W3.heap.size 3 1 (.slice A4 Z.length c4) Z.length (Z.map I)) := Lib.hid (ownsRow_setCell_below HO4.out (by dsimp only; exact HS3.out) _)
  go_wp2_with fail
  clear x2 xl y1 yf yl
  have HS45 : Hid ((w4.setCell ⟨w.heap.size + 1 + 1, 1, none⟩ (.slice A4 Z.length c4)).heap.size = w4.heap.size) := Lib.hid (World.size_setCell _ _ _)
  generalize w4.setCell ⟨w.heap.size + 1 + 1, 1, none⟩ (.slice A4 Z.length c4) = w5 at *
  refine (CL.out _ HB4s.out).mono ?_
  rintro e w6 ⟨g, d, cs, Q, rfl, hin, hm, hb6⟩
  have HB6 := Lib.hid (below_then HB4s.out hb6)
  have HIn := Lib.hid hin
  have HM := Lib.hid hm
  have HO6 := Lib.hid (own_below HO4s.out hb6 (Nat.le_refl _))
  have HK6 : Hid (∀ k, (Value.slice A4 Z.length c4).ownBlock = some k → k < w5.heap.size) := Lib.hid fun k hk => (HO4s.out.lt k hk).2
  have hx2 := HX2s.out.below hb6 HX2s.out.lt
  have hx3 := HX3s.out.below hb6 HX3s.out.lt
  have HS5 : Hid (W3.heap.size ≤ w5.heap.size ∧ w5.heap.size ≤ w6.heap.size ∧ w.heap.size + 1 + 1 < w5.heap.size) := Lib.hid (by
    have h1 := HS34.out
    have h2 := HS45.out
    have h3 := HS3.out
    exact ⟨by omega, hb6.size, by omega⟩)
  have y0 := hx3.cell 0
  have y1 := hx3.cell 1
  have y2 := hx3.cell 2
  have yf2 := hx3.frozen 2
  have yl := hx3.lt
  have z0 := hx2.cell 0
  have z1 := hx2.cell 1
  have z2 := hx2.cell 2
  have zf0 := hx2.frozen 0
  have zf1 := hx2.frozen 1
  have zf2 := hx2.frozen 2
  have zl := hx2.lt
  simp only [Array.getElem?_setIfInBounds, List.setIfInBounds_toArray, List.getElem?_toArray, List.set_cons_succ, List.set_cons_zero, List.getElem?_cons_zero, List.getElem?_cons_succ] at y0 y1 y2 z0 z1 z2
  clear hin hm hb6 hx2 hx3
  rw [HVl.out]
  go_wp2
  refine bodyPost_ret (v := .agg #[.int .i64 N, .slice A4 Z.length c4, .slice (some ⟨g, 0, none⟩) m d]) (by simp [results, Try.results27, go_sem, z0, z1, z2]) rfl ?_
  have hs5 := HS5.out
  have hk : ∀ k, w5.heap.size ≤ k → ((((w6.setCell ⟨w.heap.size + 1 + 1, 2, none⟩ (.slice (some ⟨g, 0, none⟩) m d)).setCell ⟨w.heap.size + 1, 0, none⟩ (.int .i64 N)).setCell ⟨w.heap.size + 1, 1, none⟩ (.slice A4 Z.length c4)).setCell ⟨w.heap.size + 1, 2, none⟩ (.slice (some ⟨g, 0, none⟩) m d)).heap[k]? = w6.heap[k]? := fun k hk => by
    rw [Below.heap_setCell _ ⟨w.heap.size + 1, 2, none⟩ _ k (by dsimp only; omega), Below.heap_setCell _ ⟨w.heap.size + 1, 1, none⟩ _ k (by dsimp only; omega), Below.heap_setCell _ ⟨w.heap.size + 1, 0, none⟩ _ k (by dsimp only; omega), Below.heap_setCell _ ⟨w.heap.size + 1 + 1, 2, none⟩ _ k (by dsimp only; omega)]
  have hk2 : ∀ k, W3.heap.size ≤ k → ((((w6.setCell ⟨w.heap.size + 1 + 1, 2, none⟩ (.slice (some ⟨g, 0, none⟩) m d)).setCell ⟨w.heap.size + 1, 0, none⟩ (.int .i64 N)).setCell ⟨w.heap.size + 1, 1, none⟩ (.slice A4 Z.length c4)).setCell ⟨w.heap.size + 1, 2, none⟩ (.slice (some ⟨g, 0, none⟩) m d)).heap[k]? = w6.heap[k]? := fun k hk => by
    have h3 := HS3.out
    rw [Below.heap_setCell _ ⟨w.heap.size + 1, 2, none⟩ _ k (by dsimp only; omega), Below.heap_setCell _ ⟨w.heap.size + 1, 1, none⟩ _ k (by dsimp only; omega), Below.heap_setCell _ ⟨w.heap.size + 1, 0, none⟩ _ k (by dsimp only; omega), Below.heap_setCell _ ⟨w.heap.size + 1 + 1, 2, none⟩ _ k (by dsimp only; omega)]
  refine ⟨_, rfl, ⟨A4, c4, g, d, cs, Q, by rw [HVl.out], ⟨own_mono (own_turn4 HO6.out fun k e => hk2 k (HO6.out.lt k e).1) (by have := HS3.out; omega), fun k e => ?_⟩, ?_, HM.out⟩, ?_⟩
  · simp only [World.size_setCell]
    exact Nat.lt_of_lt_of_le (HK6.out k e) hs5.2.1
  · simp only [World.size_setCell]
    exact ((HIn.out.turn fun k h1 _ => hk k h1).mono (by omega) (Nat.le_refl _))
  · exact (((HB6.out.setCell (by dsimp only; omega) _).setCell (by dsimp only; omega) _).setCell (by dsimp only; omega) _).setCell (by dsimp only; omega) _

set_option maxHeartbeats 1600000 in
theorem eqWave_true (a b : WaA) (w : World) (ha : LiesWa w a) (hb : LiesWa w b) (hN : a.N = b.N) (hZ : a.Z = b.Z) (hV : a.P.map LvA.val = b.P.map LvA.val) (hz : a.Z.length ≤ 1048576) (hP : a.P.length ≤ 1048576) (hp : ∀ (k : Nat) (p : LvA), a.P[k]? = some p → p.L.length ≤ 1048576) :
    Calls Try.prog 20 #[a.value, b.value] w fun e w' => e = .returned (.bool true) ∧ Below w.heap.size w w' := by
  obtain ⟨N, ZA, zc, Z, LA, lc, P⟩ := a
  obtain ⟨M, YA, yc, Y, KA, kc, O⟩ := b
  simp only at hN hZ hV hz hP hp
  subst hN hZ
  unfold WaA.value
  simp only
  have CE := Lib.hid fun (W : World) (hW : Below w.heap.size w W) => eqLvs_true LA KA lc kc P O W (ha.lev.below hW) (hb.lev.below hW) hV hP hp
  have CI := Lib.hid fun (W : World) (hW : Below w.heap.size w W) => (eqInt ZA YA zc yc Z Z W (ha.zer.below hW) (hb.zer.below hW) (by omega)).mono fun e w' h => (⟨by rw [h.1, decide_eq_true rfl], h.2⟩ : e = .returned (.bool true) ∧ Drawn W w')
  clear ha hb hV hp
  have t0 : (N != N) = false := by simp
  have HB2 : Hid (Below w.heap.size w ((w.alloc (.cells #[.int .i64 N, .slice ZA Z.length zc, .slice LA P.length lc] 27)).alloc (.cells #[.int .i64 N, .slice YA Z.length yc, .slice KA O.length kc] 27))) := Lib.hid (by go_grown)
  have HX1 : Hid (Box ((w.alloc (.cells #[.int .i64 N, .slice ZA Z.length zc, .slice LA P.length lc] 27)).alloc (.cells #[.int .i64 N, .slice YA Z.length yc, .slice KA O.length kc] 27)) w.heap.size 27 #[.int .i64 N, .slice ZA Z.length zc, .slice LA P.length lc]) := Lib.hid ((Box.made _ _ _).alloc _)
  have HX2 : Hid (Box ((w.alloc (.cells #[.int .i64 N, .slice ZA Z.length zc, .slice LA P.length lc] 27)).alloc (.cells #[.int .i64 N, .slice YA Z.length yc, .slice KA O.length kc] 27)) (w.heap.size + 1) 27 #[.int .i64 N, .slice YA Z.length yc, .slice KA O.length kc]) := Lib.hid (by
    have h := Box.made (w.alloc (.cells #[.int .i64 N, .slice ZA Z.length zc, .slice LA P.length lc] 27)) 27 #[.int .i64 N, .slice YA Z.length yc, .slice KA O.length kc]
    rwa [World.size_alloc] at h)
  go_enter Try.func20, Try.ntmps20
  go_wp2_with fail
  generalize (w.alloc (.cells #[.int .i64 N, .slice ZA Z.length zc, .slice LA P.length lc] 27)).alloc (.cells #[.int .i64 N, .slice YA Z.length yc, .slice KA O.length kc] 27) = W2 at *
  refine (CI.out _ HB2.out).mono ?_
  rintro e w3 ⟨rfl, q3, rfl⟩
  have HB3 : Hid (Below w.heap.size w (W2.drewN q3)) := Lib.hid (below_dN HB2.out q3)
  have x2 : (W2.drewN q3).cell? ⟨w.heap.size, 2, none⟩ = some (.slice LA P.length lc) := HX1.out.cell 2
  have y2 : (W2.drewN q3).cell? ⟨w.heap.size + 1, 2, none⟩ = some (.slice KA O.length kc) := HX2.out.cell 2
  have xl : w.heap.size < (W2.drewN q3).heap.size := HX1.out.lt
  have yl : w.heap.size + 1 < (W2.drewN q3).heap.size := HX2.out.lt
  generalize W2.drewN q3 = w3 at *
  go_wp2_with fail
  refine (CE.out _ HB3.out).mono ?_
  rintro e w4 ⟨rfl, hb4⟩
  have HB4 := Lib.hid (below_then HB3.out hb4)
  clear hb4 x2 y2 xl yl
  go_wp2
  go_ret
  exact ⟨rfl, HB4.out⟩

set_option maxHeartbeats 1600000 in
/-- A wave of a call's own is marked: only it is changed. -/
theorem markWave_any (lo hi : Nat) (N : Int) (Z : List Int) (V : List (Int × List Nat)) (v : Value) (w : World) (h : WvO w lo hi N Z V v) (hhi : hi ≤ w.heap.size) (hz : Z.length ≤ 1048576) (ht : ∀ Q : List LvV, Q.map (fun q => (q.K, q.xs)) = V.map (fun v => (v.1, v.2.map U)) → totW Q ≤ 1048576) (hlo : lo ≤ w.heap.size) :
    Calls Try.prog 23 #[v, .int .i64 1] w fun e w' => (∃ r : Nat, e = .returned (.int .i64 r)) ∧ InsideW lo hi w w' := by
  obtain ⟨ZA, zc, g, d, cs, Q, rfl, ⟨ho, hk⟩, hin, hm⟩ := h
  have hql : Q.length = V.length := by simpa using congrArg List.length hm
  have hq := ht Q hm
  have HQl := Lib.hid hql
  rw [← hql]
  have HO := Lib.hid ho
  have HK := Lib.hid hk
  have HI := Lib.hid hin
  clear ht hm ho hk hin hql
  obtain ⟨l, hl⟩ : ∃ l, Z.length = l := ⟨_, rfl⟩
  rw [hl] at HO HK hz ⊢
  clear hl
  have HX := Lib.hid (Box.made w 27 #[.int .i64 N, .slice ZA l zc, .slice (some ⟨g, 0, none⟩) Q.length d])
  have HIn1 : Hid (InsideW lo hi w (w.alloc (.cells #[.int .i64 N, .slice ZA l zc, .slice (some ⟨g, 0, none⟩) Q.length d] 27))) := Lib.hid ⟨rfl, rfl, rfl, by rw [World.size_alloc]; omega, fun k hk _ => Below.heap_alloc w _ k hk⟩
  have HO1 : Hid ((w.alloc (.cells #[.int .i64 N, .slice ZA l zc, .slice (some ⟨g, 0, none⟩) Q.length d] 27)).ownsRow lo 3 1 (.slice ZA l zc) l (Z.map I)) := Lib.hid (HO.out.alloc _)
  have HI1 : Hid (LvIn (w.alloc (.cells #[.int .i64 N, .slice ZA l zc, .slice (some ⟨g, 0, none⟩) Q.length d] 27)) lo hi g cs Q) := Lib.hid (HI.out.turn fun k _ h2 => Below.heap_alloc w _ k (Nat.lt_of_lt_of_le h2 hhi))
  have hs1 : hi < (w.alloc (.cells #[.int .i64 N, .slice ZA l zc, .slice (some ⟨g, 0, none⟩) Q.length d] 27)).heap.size := by rw [World.size_alloc]; omega
  have Hhi := Lib.hid hhi
  clear hhi
  go_enter Try.func23, Try.ntmps23
  go_wp2_with fail
  generalize w.alloc (.cells #[.int .i64 N, .slice ZA l zc, .slice (some ⟨g, 0, none⟩) Q.length d] 27) = W1 at *
  refine (markInt ZA l zc lo 1 _ W1 HO1.out hz (by omega) (by omega)).mono ?_
  rintro e w2 ⟨rfl, ho2, hg2⟩
  have HIn2 : Hid (InsideW lo hi w w2) := Lib.hid (HIn1.out.trans ⟨hg2.os, hg2.tape, hg2.output, hg2.size, fun k hk hc => hg2.block k hk fun e => by
    have h1 := (HO1.out.lt k e.symm).1
    have h2 := HK.out k e.symm
    omega⟩)
  have HI2 : Hid (LvIn w2 lo hi g cs Q) := Lib.hid (by
    have hint := HO1.out
    have hne : ∀ k, (Value.slice ZA l zc).ownBlock = some k → ∀ (n' : Nat) (v' : Value) (xs' : List Value), W1.ownsRow lo 94 1 v' n' xs' → v'.ownBlock ≠ some k := fun k hk n' v' xs' hv => own_types_apart (by decide) hint hv hk
    refine ⟨?_, HI1.out.low, HI1.out.high, HI1.out.cells, fun j p hp => ⟨own_turn4 (HI1.out.own j p hp).1 fun k e => hg2.block k (Nat.lt_of_lt_of_le ((HI1.out.own j p hp).2 k e) (Nat.le_of_lt hs1)) fun e2 => hne k e2.symm _ _ _ (HI1.out.own j p hp).1 e, (HI1.out.own j p hp).2⟩, HI1.out.apart⟩
    refine (hg2.block g (Nat.lt_trans HI1.out.high hs1) fun e => ?_).trans HI1.out.box
    obtain ⟨_, _, cur, hh⟩ := own_typed hint e.symm
    have hb := HI1.out.box
    unfold Box at hb
    rw [hb] at hh
    injection hh with hh
    injection hh with _ e2 _
    exact absurd e2 (by decide))
  have hx2 : Box w2 w.heap.size 27 #[.int .i64 N, .slice ZA l zc, .slice (some ⟨g, 0, none⟩) Q.length d] := HX.out.grown hg2 fun e => by
    have h2 := HK.out _ e
    have := Hhi.out
    omega
  have x2 := hx2.cell 2
  have xl := hx2.lt
  have hs2 : hi ≤ w2.heap.size := Nat.le_trans (Nat.le_of_lt hs1) hg2.size
  clear ho2 hg2 hx2 HX HIn1 HO1 HI1 hs1
  obtain ⟨m0, hm0⟩ : ∃ m0 : Nat, 1 + l = m0 := ⟨_, rfl⟩
  have e0 : (1 : Int) + (l : Int) = (m0 : Int) := by omega
  rw [e0]
  clear e0
  go_wp2_with fail
  refine (markLvs_any m0 (by omega) lo hi g d cs Q w2 HI2.out hs2 hq).mono ?_
  rintro e w3 ⟨⟨r, rfl⟩, hi3⟩
  have HIn3 := Lib.hid (HIn2.out.trans hi3)
  clear hi3 x2 xl
  go_wp2
  go_ret
  exact ⟨⟨r, rfl⟩, HIn3.out⟩

end Go.Proofs.Ytnlpmcgpdaifoaa
