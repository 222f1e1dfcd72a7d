import Derived.Test.YtnlpmcgpdaifoaaDoorLv4
import Derived.Test.YtnlpmcgpdaifoaaDoorWords2
import Derived.Test.YtnlpmcgpdaifoaaDoorWvVal
import Derived.Test.YtnlpmcgpdaifoaaDoorAppend2
/- Lists of bit vectors: marked (after Frs5, Frs7). -/
namespace Go.Proofs.YtnlpmcgpdaifoaaDoor
open Go.RowKit
set_option maxRecDepth 100000

/-- Only what lies between lo and hi is changed. -/
structure InsideW (lo hi : Nat) (w w' : World) : Prop where
  os : w'.os = w.os
  tape : w'.tape = w.tape
  output : w'.output = w.output
  size : w.heap.size ≤ w'.heap.size
  block : ∀ k, k < w.heap.size → (k < lo ∨ hi ≤ k) → w'.heap[k]? = w.heap[k]?
theorem InsideW.refl (lo hi : Nat) (w : World) : InsideW lo hi w w := ⟨rfl, rfl, rfl, Nat.le_refl _, fun _ _ _ => rfl⟩
theorem InsideW.trans {lo hi : Nat} {a b c : World} (h : InsideW lo hi a b) (k : InsideW lo hi b c) : InsideW lo hi a c :=
  ⟨k.os.trans h.os, k.tape.trans h.tape, k.output.trans h.output, Nat.le_trans h.size k.size, fun j hj hc => (k.block j (Nat.lt_of_lt_of_le hj h.size) hc).trans (h.block j hj hc)⟩
theorem InsideW.below {lo hi B : Nat} {a b c : World} (h : Below B a b) (k : InsideW lo hi b c) (hB : B ≤ lo) (hs : B ≤ b.heap.size) : Below B a c :=
  ⟨k.os.trans h.os, k.tape.trans h.tape, k.output.trans h.output, Nat.le_trans h.size k.size, fun j hj => (k.block j (Nat.lt_of_lt_of_le hj hs) (.inl (Nat.lt_of_lt_of_le hj hB))).trans (h.block j hj)⟩

theorem set_atW {α : Type} {R : List α} {i j : Nat} {x p : α} (h : (R.set i x)[j]? = some p) (hi : i < R.length) : (j = i ∧ p = x) ∨ (j ≠ i ∧ R[j]? = some p) := by
  rw [List.getElem?_set] at h
  split at h
  · rename_i e
    exact .inl ⟨e.symm, (Option.some.inj h).symm⟩
  · rename_i e
    exact .inr ⟨fun e' => e e'.symm, h⟩

section
variable {w w' : World} {lo hi g : Nat} {cs : Array Value} {R : List LvV} {i : Nat} {p : LvV}
/-- A kind is written. -/
theorem LvIn.kind (h : LvIn w lo hi g cs R) (hp : R[i]? = some p) (k : Int) : LvIn (w.setCell ⟨g, i * 2, none⟩ (.int .i64 k)) lo hi g (cs.setIfInBounds (i * 2) (.int .i64 k)) (R.set i { p with K := k }) := by
  have hi' : i < R.length := (List.getElem?_eq_some_iff.1 hp).1
  have hc : i * 2 < cs.size := by
    have := (h.cells i p hp).1
    exact (Array.getElem?_eq_some_iff.1 this).1
  have keep : ∀ {v : Value} {n : Nat} {ys : List Value}, w.ownsRow lo 75 1 v n ys → (w.setCell ⟨g, i * 2, none⟩ (.int .i64 k)).ownsRow lo 75 1 v n ys := fun {v n ys} hv =>
    own_turn4 hv fun j e => Below.heap_setCell w ⟨g, i * 2, none⟩ _ j (fun e2 => own_ne_boxW hv h.box (by rw [e, e2]))
  refine ⟨h.box.put _ _, h.low, h.high, ?_, ?_, ?_⟩
  · intro j q hq
    rcases set_atW hq hi' with ⟨rfl, rfl⟩ | ⟨hj, hq⟩
    · obtain ⟨c1, c2⟩ := h.cells j p hp
      refine ⟨Array.getElem?_setIfInBounds_self_of_lt hc, ?_⟩
      rw [Array.getElem?_setIfInBounds_ne (by omega)]
      exact c2
    · obtain ⟨c1, c2⟩ := h.cells j q hq
      rw [Array.getElem?_setIfInBounds_ne (by omega), Array.getElem?_setIfInBounds_ne (by omega)]
      exact ⟨c1, c2⟩
  · intro j q hq
    rcases set_atW hq hi' with ⟨rfl, rfl⟩ | ⟨hj, hq⟩
    · exact ⟨keep (h.own j p hp).1, (h.own j p hp).2⟩
    · exact ⟨keep (h.own j q hq).1, (h.own j q hq).2⟩
  · intro a b x y m hab hx hy e1 e2
    rcases set_atW hx hi' with ⟨rfl, rfl⟩ | ⟨ha, hx2⟩
    · rcases set_atW hy hi' with ⟨rfl, rfl⟩ | ⟨hb, hy2⟩
      · exact hab rfl
      · exact h.apart a b p y m hab hp hy2 e1 e2
    · rcases set_atW hy hi' with ⟨rfl, rfl⟩ | ⟨hb, hy2⟩
      · exact h.apart a b x p m hab hx2 hp e1 e2
      · exact h.apart a b x y m hab hx2 hy2 e1 e2
/-- Bytes are written. -/
theorem LvIn.bytes (h : LvIn w lo hi g cs R) (hhi : hi ≤ w.heap.size) (hp : R[i]? = some p) {ys : List Value} (hl : ys.length = p.xs.length) (ho : w'.ownsRow lo 75 1 p.body p.xs.length ys) (hg : w.grownBy w' p.body.ownBlock) : LvIn w' lo hi g cs (R.set i { p with xs := ys }) := by
  have hi' : i < R.length := (List.getElem?_eq_some_iff.1 hp).1
  have hbody : ({ p with xs := ys } : LvV).body = p.body := by unfold LvV.body; rw [hl]
  refine ⟨(hg.block g h.box.lt (fun e => own_ne_boxW (h.own i p hp).1 h.box e.symm)).trans h.box, h.low, h.high, ?_, ?_, ?_⟩
  · intro j q hq
    rcases set_atW hq hi' with ⟨rfl, rfl⟩ | ⟨hj, hq⟩
    · rw [hbody]
      exact h.cells j p hp
    · exact h.cells j q hq
  · intro j q hq
    rcases set_atW hq hi' with ⟨rfl, rfl⟩ | ⟨hj, hq⟩
    · rw [hbody]
      refine ⟨?_, (h.own j p hp).2⟩
      show w'.ownsRow lo 75 1 p.body ys.length ys
      rw [hl]
      exact ho
    · refine ⟨own_turn4 (h.own j q hq).1 fun k e => hg.block k (Nat.lt_of_lt_of_le ((h.own j q hq).2 k e) hhi) fun e2 => ?_, (h.own j q hq).2⟩
      exact h.apart j i q p k hj hq hp e e2.symm
  · intro a b x y m hab hx hy e1 e2
    rcases set_atW hx hi' with ⟨rfl, rfl⟩ | ⟨ha, hx2⟩
    · rw [hbody] at e1
      rcases set_atW hy hi' with ⟨rfl, rfl⟩ | ⟨hb, hy2⟩
      · exact hab rfl
      · exact h.apart a b p y m hab hp hy2 e1 e2
    · rcases set_atW hy hi' with ⟨rfl, rfl⟩ | ⟨hb, hy2⟩
      · rw [hbody] at e2
        exact h.apart a b x p m hab hx2 hp e1 e2
      · exact h.apart a b x y m hab hx2 hy2 e1 e2
end

/-- How much is marked. -/
def totW : List LvV → Nat
  | [] => 0
  | p :: r => 1 + p.xs.length + totW r
theorem totW_at {P : List LvV} {k : Nat} {p : LvV} (h : P[k]? = some p) : totW (P.drop k) = 1 + p.xs.length + totW (P.drop (k + 1)) := by
  obtain ⟨hj, rfl⟩ := List.getElem?_eq_some_iff.1 h
  rw [List.drop_eq_getElem_cons hj, totW]

theorem totW_drop_le : ∀ (P : List LvV) (n : Nat), totW (P.drop n) ≤ totW P
  | [], n => by rw [List.drop_nil]; exact Nat.le_refl _
  | p :: r, 0 => Nat.le_refl _
  | p :: r, n + 1 => by
    have := totW_drop_le r n
    rw [List.drop_succ_cons, totW]
    omega
theorem totW_le : ∀ (P : List LvV), P.length ≤ totW P
  | [] => Nat.le_refl _
  | p :: r => by
    have := totW_le r
    simp only [List.length_cons, totW]
    omega

end Go.Proofs.YtnlpmcgpdaifoaaDoor

/- Lists of bit vectors: marked (after Frs5, Frs7). -/
namespace Go.Proofs.YtnlpmcgpdaifoaaDoor
open Go.RowKit
set_option maxRecDepth 100000

/-- The frames as markFrameS leaves them. -/
def mkL : Nat → List LvV → List LvV
  | _, [] => []
  | m, q :: r => ⟨(m : Int), q.A, q.c, (List.range q.xs.length).map fun (j : Nat) => Value.int .u64 ((m : Int) + 1 + j)⟩ :: mkL (m + 1 + q.xs.length) r
theorem mkL_len : ∀ (Q : List LvV) (m : Nat), (mkL m Q).length = Q.length
  | [], _ => rfl
  | q :: r, m => by rw [mkL, List.length_cons, List.length_cons, mkL_len r]
theorem mkL_at : ∀ (Q : List LvV) (m n : Nat) (p : LvV), Q[n]? = some p → (mkL m Q)[n]? = some ⟨((m + totW (Q.take n) : Nat) : Int), p.A, p.c, (List.range p.xs.length).map fun (j : Nat) => Value.int .u64 (((m + totW (Q.take n) : Nat) : Int) + 1 + j)⟩
  | [], _, _, _, h => by simp at h
  | q :: r, m, 0, p, h => by
    have : q = p := by simpa using h
    subst this
    simp [mkL, totW]
  | q :: r, m, n + 1, p, h => by
    have ih := mkL_at r (m + 1 + q.xs.length) n p (by simpa using h)
    rw [mkL, List.getElem?_cons_succ, ih, List.take_succ_cons, totW]
    have e : m + 1 + q.xs.length + totW (r.take n) = m + (1 + q.xs.length + totW (r.take n)) := by omega
    rw [e]
theorem totW_take : ∀ {Q : List LvV} {n : Nat} {p : LvV}, Q[n]? = some p → totW (Q.take (n + 1)) = totW (Q.take n) + 1 + p.xs.length
  | [], _, _, h => by simp at h
  | q :: r, 0, p, h => by
    have : q = p := by simpa using h
    subst this
    simp [totW]
  | q :: r, n + 1, p, h => by
    have ih := totW_take (Q := r) (n := n) (p := p) (by simpa using h)
    rw [List.take_succ_cons, List.take_succ_cons, totW, totW, ih]
    omega

end Go.Proofs.YtnlpmcgpdaifoaaDoor

/- The laws' helpers on waves: their size, a copy, comparing, marking. -/
namespace Go.Proofs.YtnlpmcgpdaifoaaDoor
open Go.RowKit
set_option maxRecDepth 100000

/-- A wave of a call's own, all of it between lo and hi. -/
def WvO (w : World) (lo hi : Nat) (N : Int) (Z : List Int) (V : List (Int × List Nat)) (v : Value) : Prop :=
  ∃ (ZA : Option Addr) (zc g d : Nat) (cs : Array Value) (Q : List LvV), v = .agg #[.int .i64 N, .slice ZA Z.length zc, .slice (some ⟨g, 0, none⟩) V.length d] ∧
    (w.ownsRow lo 3 1 (.slice ZA Z.length zc) Z.length (Z.map I) ∧ ∀ k, (Value.slice ZA Z.length zc).ownBlock = some k → k < hi) ∧ LvIn w lo hi g cs Q ∧ Q.map (fun q => (q.K, q.xs)) = V.map (fun v => (v.1, v.2.map U))

theorem zipL_len {Q : List LvV} {V : List (Int × List Nat)} (h : Q.map (fun q => (q.K, q.xs)) = V.map (fun v => (v.1, v.2.map U))) : (zipL Q V).length = V.length := by
  have : Q.length = V.length := by simpa using congrArg List.length h
  unfold zipL
  rw [List.length_zipWith, this, Nat.min_self]

theorem WvO.below {w w' : World} {lo hi : Nat} {N : Int} {Z : List Int} {V : List (Int × List Nat)} {v : Value} (h : WvO w lo hi N Z V v) {B : Nat} (hb : Below B w w') (hB : hi ≤ B) : WvO w' lo hi N Z V v := by
  obtain ⟨ZA, zc, g, d, cs, Q, h1, ⟨h2, h3⟩, h4, h5⟩ := h
  exact ⟨ZA, zc, g, d, cs, Q, h1, ⟨own_turn4 h2 fun k hk => hb.block k (Nat.lt_of_lt_of_le (h3 k hk) hB), h3⟩, h4.below hb hB, h5⟩

/-- What the numbers of a wave must be. -/
structure WvNum (Z : List Int) (V : List (Int × List Nat)) : Prop where
  znum : ∀ z ∈ Z, -9223372036854775808 ≤ z ∧ z ≤ 9223372036854775807
  word : ∀ v ∈ V, ∀ x ∈ v.2, x < 2 ^ 64
  zlen : Z.length ≤ 1048576
  vlen : V.length ≤ 1048576

theorem WvO.wave {w : World} {lo hi : Nat} {N : Int} {Z : List Int} {V : List (Int × List Nat)} {v : Value} (h : WvO w lo hi N Z V v) (hn : WvNum Z V) : ∃ a : WaA, a.value = v ∧ LiesWa w a ∧ a.N = N ∧ a.Z = Z ∧ a.P.map LvA.val = V := by
  obtain ⟨ZA, zc, g, d, cs, Q, h1, ⟨h2, h3⟩, h4, h5⟩ := h
  have hl := zipL_len h5
  refine ⟨⟨N, ZA, zc, Z, some ⟨g, 0, none⟩, d, zipL Q V⟩, ?_, ⟨Lies.of_own h2, h4.lies h5 hn.word, hn.znum, Nat.le_trans hn.zlen (by decide), ?_⟩, rfl, rfl, zipL_val h5⟩
  · rw [h1]
    simp only [WaA.value, hl]
  · show (zipL Q V).length ≤ _
    rw [hl]
    exact Nat.le_trans hn.vlen (by decide)

set_option maxHeartbeats 800000 in
theorem szWave_any (N : Int) (ZA : Option Addr) (zc : Nat) (Z : List Int) (LA : Option Addr) (lc : Nat) (P : List LvA) (w : World) (hL : LiesLw w LA P) (hz : Z.length ≤ 9223372036854775807) (hP : P.length ≤ 9223372036854775807) (hp : ∀ (k : Nat) (p : LvA), P[k]? = some p → p.L.length ≤ 9223372036854775807)
    (hi : ∀ (n c : Nat) (A : Option Addr) (W : World), n ≤ 9223372036854775807 → Calls Tryd.prog 37 #[.slice A n c, .int .i64 1048576] W fun e w' => e = .returned (.int .i64 (szL 1048576 n)) ∧ W = w') :
    Calls Tryd.prog 17 #[.agg #[.int .i64 N, .slice ZA Z.length zc, .slice LA P.length lc], .int .i64 1048576] w fun e w' => e = .returned (.int .i64 (szL 1048576 (Z.length + totL P))) ∧ Below w.heap.size w w' := by
  obtain ⟨l, hl⟩ : ∃ l, Z.length = l := ⟨_, rfl⟩
  rw [hl] at hz ⊢
  have CI := Lib.hid (hi l zc ZA)
  have HL := Lib.hid hL
  have hbox := Box.made w 40 #[.int .i64 N, .slice ZA l zc, .slice LA P.length lc]
  have HB : Hid (Below w.heap.size w (w.alloc (.cells #[.int .i64 N, .slice ZA l zc, .slice LA P.length lc] 40))) := Lib.hid (by go_grown)
  have x1 := hbox.cell 1
  have x2 := hbox.cell 2
  have xl := hbox.lt
  have CS := Lib.hid fun (s : Nat) (hs : s ≤ 1048576) (W : World) (hW : Below w.heap.size w W) => szLvs_any s hs LA lc P W (HL.out.below hW) hP hp
  obtain ⟨m, hm⟩ : ∃ m, P.length = m := ⟨_, rfl⟩
  rw [hm] at hP CS x1 x2 xl HB ⊢
  clear hL hbox hl hp hm
  by_cases h0 : l ≤ 1048576
  · have e0 : szL 1048576 l = ((1048576 - l : Nat) : Int) := by unfold szL; rw [if_pos h0]; omega
    rw [e0] at CI
    obtain ⟨s, hs⟩ : ∃ s, 1048576 - l = s := ⟨_, rfl⟩
    have d0 : decide ((s : Int) < 0) = false := by simp
    rw [hs] at CI
    have CS1 := Lib.hid (CS.out s (by omega) _ HB.out)
    by_cases h1 : totL P ≤ s
    · have e1 : szL s (totL P) = ((s - totL P : Nat) : Int) := by unfold szL; rw [if_pos h1]; omega
      have HE : Hid (szL 1048576 (l + totL P) = ((s - totL P : Nat) : Int)) := Lib.hid (by unfold szL; rw [if_pos (by omega)]; omega)
      rw [e1] at CS1
      obtain ⟨t, ht⟩ : ∃ t, s - totL P = t := ⟨_, rfl⟩
      rw [ht] at CS1 HE
      have d1 : decide ((t : Int) < 0) = false := by simp
      clear e0 e1 CS h0 h1 hs ht
      go_enter Tryd.func17, Tryd.ntmps17
      go_wp2_with fail
      refine (CI.out _ (by omega)).mono ?_
      rintro e w1 ⟨rfl, rfl⟩
      go_wp2_with fail
      refine CS1.out.mono ?_
      rintro e w2 ⟨rfl, hb⟩
      have HB2 := Lib.hid (below_then HB.out hb)
      clear hb x1 x2 xl
      go_wp2
      go_ret
      exact ⟨ret_int HE.out.symm, HB2.out⟩
    · have e1 : szL s (totL P) = -1 := by unfold szL; rw [if_neg h1]
      have HE : Hid (szL 1048576 (l + totL P) = -1) := Lib.hid (by unfold szL; rw [if_neg (by omega)])
      rw [e1] at CS1
      clear e0 e1 CS h0 h1 hs
      go_enter Tryd.func17, Tryd.ntmps17
      go_wp2_with fail
      refine (CI.out _ (by omega)).mono ?_
      rintro e w1 ⟨rfl, rfl⟩
      go_wp2_with fail
      refine CS1.out.mono ?_
      rintro e w2 ⟨rfl, hb⟩
      have HB2 := Lib.hid (below_then HB.out hb)
      clear hb x1 x2 xl
      go_wp2
      go_ret
      exact ⟨ret_int HE.out.symm, HB2.out⟩
  · have e0 : szL 1048576 l = -1 := by unfold szL; rw [if_neg h0]
    have HE : Hid (szL 1048576 (l + totL P) = -1) := Lib.hid (by unfold szL; rw [if_neg (by omega)])
    rw [e0] at CI
    clear e0 CS h0
    go_enter Tryd.func17, Tryd.ntmps17
    go_wp2_with fail
    refine (CI.out _ hz).mono ?_
    rintro e w1 ⟨rfl, rfl⟩
    go_wp2
    go_ret
    exact ⟨ret_int HE.out.symm, HB.out⟩

set_option maxHeartbeats 400000 in
theorem szInt_any (n c : Nat) (A : Option Addr) (w : World) (hn : n ≤ 9223372036854775807) :
    Calls Tryd.prog 37 #[.slice A n c, .int .i64 1048576] w fun e w' => e = .returned (.int .i64 (szL 1048576 n)) ∧ w = w' := by
  unfold szL
  by_cases h : n ≤ 1048576
  · rw [if_pos h]
    have d : decide ((1048576 : Int) - (n : Int) < 0) = false := by simp; omega
    have e1 : IntKind.i64.wrap ((1048576 : Int) - (n : Int)) = (1048576 : Int) - (n : Int) := IntWalk.i64_in _ (by omega)
    go_enter Tryd.func37, Tryd.ntmps37
    go_wp2
    go_ret
    exact ⟨rfl, rfl⟩
  · rw [if_neg h]
    have d : decide ((1048576 : Int) - (n : Int) < 0) = true := by simp; omega
    have e1 : IntKind.i64.wrap ((1048576 : Int) - (n : Int)) = (1048576 : Int) - (n : Int) := IntWalk.i64_in _ (by omega)
    go_enter Tryd.func37, Tryd.ntmps37
    go_wp2
    go_ret
    exact ⟨rfl, rfl⟩

theorem LvIn.mono {w : World} {lo lo' hi hi' g : Nat} {cs : Array Value} {Q : List LvV} (h : LvIn w lo hi g cs Q) (hlo : lo' ≤ lo) (hhi : hi ≤ hi') : LvIn w lo' hi' g cs Q :=
  ⟨h.box, Nat.le_trans hlo h.low, Nat.lt_of_lt_of_le h.high hhi, h.cells, fun j p hp => ⟨own_mono (h.own j p hp).1 hlo, fun k hk => Nat.lt_of_lt_of_le ((h.own j p hp).2 k hk) hhi⟩, h.apart⟩

set_option maxHeartbeats 1600000 in
theorem toWave_new (N : Int) (ZA : Option Addr) (zc : Nat) (Z : List Int) (LA : Option Addr) (lc : Nat) (P : List LvA) (w : World) (hZ : Lies w I ZA Z) (hL : LiesLw w LA P) (hz : Z.length ≤ 1048576) (hP : P.length ≤ 1048576) (hp : ∀ (k : Nat) (p : LvA), P[k]? = some p → p.L.length ≤ 1048576) :
    Calls Tryd.prog 19 #[.agg #[.int .i64 N, .slice ZA Z.length zc, .slice LA P.length lc]] w fun e w' => ∃ v, e = .returned v ∧ WvO w' w.heap.size w'.heap.size N Z (P.map LvA.val) v ∧ Below w.heap.size w w' := by
  have CZ := Lib.hid fun (W : World) (hW : Below w.heap.size w W) => toIntI ZA zc Z W (hZ.below hW) (by omega)
  have CL := Lib.hid fun (W : World) (hW : Below w.heap.size w W) => toLvs_new LA lc P W (hL.below hW) hP hp
  clear hZ hL hp
  obtain ⟨V, hV⟩ : ∃ V, P.map LvA.val = V := ⟨_, rfl⟩
  have hVl : V.length = P.length := by rw [← hV, List.length_map]
  rw [hV] at CL ⊢
  obtain ⟨m, hm⟩ : ∃ m, P.length = m := ⟨_, rfl⟩
  rw [hm] at CL hVl hP ⊢
  have HVl := Lib.hid hVl
  clear hm hV
  go_enter Tryd.func19, Tryd.ntmps19
  go_wp2_with fail
  have HB3 : Hid (Below w.heap.size w ((((w.alloc (.cells #[.int .i64 N, .slice ZA Z.length zc, .slice LA m lc] 40)).alloc (.cells #[.int .i64 0, .slice none 0 0, .slice none 0 0] 28)).alloc (.cells #[.int .i64 N, .slice none 0 0, .slice none 0 0] 28)))) := Lib.hid (by go_grown)
  have HX1 : Hid (Box ((((w.alloc (.cells #[.int .i64 N, .slice ZA Z.length zc, .slice LA m lc] 40)).alloc (.cells #[.int .i64 0, .slice none 0 0, .slice none 0 0] 28)).alloc (.cells #[.int .i64 N, .slice none 0 0, .slice none 0 0] 28))) w.heap.size 40 #[.int .i64 N, .slice ZA Z.length zc, .slice LA m lc]) := Lib.hid (((Box.made _ _ _).alloc _).alloc _)
  have HX2 : Hid (Box ((((w.alloc (.cells #[.int .i64 N, .slice ZA Z.length zc, .slice LA m lc] 40)).alloc (.cells #[.int .i64 0, .slice none 0 0, .slice none 0 0] 28)).alloc (.cells #[.int .i64 N, .slice none 0 0, .slice none 0 0] 28))) (w.heap.size + 1) 28 #[.int .i64 0, .slice none 0 0, .slice none 0 0]) := Lib.hid (by
    have h := (Box.made (w.alloc (.cells #[.int .i64 N, .slice ZA Z.length zc, .slice LA m lc] 40)) 28 #[.int .i64 0, .slice none 0 0, .slice none 0 0]).alloc (.cells #[.int .i64 N, .slice none 0 0, .slice none 0 0] 28)
    rwa [World.size_alloc] at h)
  have HX3 : Hid (Box ((((w.alloc (.cells #[.int .i64 N, .slice ZA Z.length zc, .slice LA m lc] 40)).alloc (.cells #[.int .i64 0, .slice none 0 0, .slice none 0 0] 28)).alloc (.cells #[.int .i64 N, .slice none 0 0, .slice none 0 0] 28))) (w.heap.size + 1 + 1) 28 #[.int .i64 N, .slice none 0 0, .slice none 0 0]) := Lib.hid (by
    have h := Box.made ((w.alloc (.cells #[.int .i64 N, .slice ZA Z.length zc, .slice LA m lc] 40)).alloc (.cells #[.int .i64 0, .slice none 0 0, .slice none 0 0] 28)) 28 #[.int .i64 N, .slice none 0 0, .slice none 0 0]
    rwa [World.size_alloc, World.size_alloc] at h)
  generalize (((w.alloc (.cells #[.int .i64 N, .slice ZA Z.length zc, .slice LA m lc] 40)).alloc (.cells #[.int .i64 0, .slice none 0 0, .slice none 0 0] 28)).alloc (.cells #[.int .i64 N, .slice none 0 0, .slice none 0 0] 28)) = W3 at *
  refine (CZ.out _ HB3.out).mono ?_
  rintro e w4 ⟨A4, c4, rfl, ho4, hb4⟩
  have HS34 := Lib.hid hb4.size
  have HB4 := Lib.hid (below_then HB3.out hb4)
  have HO4 := Lib.hid ho4
  have HX1' := Lib.hid (HX1.out.below hb4 HX1.out.lt)
  have HX2' := Lib.hid (HX2.out.below hb4 HX2.out.lt)
  have HX3' := Lib.hid (HX3.out.below hb4 HX3.out.lt)
  have HS3 : Hid (w.heap.size + 1 + 1 < W3.heap.size) := Lib.hid HX3.out.lt
  have x2 := HX1'.out.cell 2
  have xl := HX1'.out.lt
  have y1 := HX3'.out.cell 1
  have yf := HX3'.out.frozen 1
  have yl := HX3'.out.lt
  clear ho4 hb4 CZ HX1 HX2 HX3 HB3
  have HX1s := Lib.hid (HX1'.out.off (p := ⟨w.heap.size + 1 + 1, 1, none⟩) (by dsimp only; omega) (.slice A4 Z.length c4))
  have HX2s := Lib.hid (HX2'.out.off (p := ⟨w.heap.size + 1 + 1, 1, none⟩) (by dsimp only; omega) (.slice A4 Z.length c4))
  have HX3s := Lib.hid (HX3'.out.put 1 (.slice A4 Z.length c4))
  have HB4s := Lib.hid (HB4.out.setCell (p := ⟨w.heap.size + 1 + 1, 1, none⟩) (by dsimp only; omega) (.slice A4 Z.length c4))
  have HO4s : Hid ((w4.setCell ⟨w.heap.size + 1 + 1, 1, none⟩ (.slice A4 Z.length c4)).ownsRow W3.heap.size 3 1 (.slice A4 Z.length c4) Z.length (Z.map I)) := Lib.hid (ownsRow_setCell_below HO4.out (by dsimp only; exact HS3.out) _)
  go_wp2_with fail
  clear x2 xl y1 yf yl
  have HS45 : Hid ((w4.setCell ⟨w.heap.size + 1 + 1, 1, none⟩ (.slice A4 Z.length c4)).heap.size = w4.heap.size) := Lib.hid (World.size_setCell _ _ _)
  generalize w4.setCell ⟨w.heap.size + 1 + 1, 1, none⟩ (.slice A4 Z.length c4) = w5 at *
  refine (CL.out _ HB4s.out).mono ?_
  rintro e w6 ⟨g, d, cs, Q, rfl, hin, hm, hb6⟩
  have HB6 := Lib.hid (below_then HB4s.out hb6)
  have HIn := Lib.hid hin
  have HM := Lib.hid hm
  have HO6 := Lib.hid (own_below HO4s.out hb6 (Nat.le_refl _))
  have HK6 : Hid (∀ k, (Value.slice A4 Z.length c4).ownBlock = some k → k < w5.heap.size) := Lib.hid fun k hk => (HO4s.out.lt k hk).2
  have hx2 := HX2s.out.below hb6 HX2s.out.lt
  have hx3 := HX3s.out.below hb6 HX3s.out.lt
  have HS5 : Hid (W3.heap.size ≤ w5.heap.size ∧ w5.heap.size ≤ w6.heap.size ∧ w.heap.size + 1 + 1 < w5.heap.size) := Lib.hid (by
    have h1 := HS34.out
    have h2 := HS45.out
    have h3 := HS3.out
    exact ⟨by omega, hb6.size, by omega⟩)
  have y0 := hx3.cell 0
  have y1 := hx3.cell 1
  have y2 := hx3.cell 2
  have yf2 := hx3.frozen 2
  have yl := hx3.lt
  have z0 := hx2.cell 0
  have z1 := hx2.cell 1
  have z2 := hx2.cell 2
  have zf0 := hx2.frozen 0
  have zf1 := hx2.frozen 1
  have zf2 := hx2.frozen 2
  have zl := hx2.lt
  simp only [Array.getElem?_setIfInBounds, List.setIfInBounds_toArray, List.getElem?_toArray, List.set_cons_succ, List.set_cons_zero, List.getElem?_cons_zero, List.getElem?_cons_succ] at y0 y1 y2 z0 z1 z2
  clear hin hm hb6 hx2 hx3
  rw [HVl.out]
  go_wp2
  refine bodyPost_ret (v := .agg #[.int .i64 N, .slice A4 Z.length c4, .slice (some ⟨g, 0, none⟩) m d]) (by simp [results, Tryd.results19, go_sem, z0, z1, z2]) rfl ?_
  have hs5 := HS5.out
  have hk : ∀ k, w5.heap.size ≤ k → ((((w6.setCell ⟨w.heap.size + 1 + 1, 2, none⟩ (.slice (some ⟨g, 0, none⟩) m d)).setCell ⟨w.heap.size + 1, 0, none⟩ (.int .i64 N)).setCell ⟨w.heap.size + 1, 1, none⟩ (.slice A4 Z.length c4)).setCell ⟨w.heap.size + 1, 2, none⟩ (.slice (some ⟨g, 0, none⟩) m d)).heap[k]? = w6.heap[k]? := fun k hk => by
    rw [Below.heap_setCell _ ⟨w.heap.size + 1, 2, none⟩ _ k (by dsimp only; omega), Below.heap_setCell _ ⟨w.heap.size + 1, 1, none⟩ _ k (by dsimp only; omega), Below.heap_setCell _ ⟨w.heap.size + 1, 0, none⟩ _ k (by dsimp only; omega), Below.heap_setCell _ ⟨w.heap.size + 1 + 1, 2, none⟩ _ k (by dsimp only; omega)]
  have hk2 : ∀ k, W3.heap.size ≤ k → ((((w6.setCell ⟨w.heap.size + 1 + 1, 2, none⟩ (.slice (some ⟨g, 0, none⟩) m d)).setCell ⟨w.heap.size + 1, 0, none⟩ (.int .i64 N)).setCell ⟨w.heap.size + 1, 1, none⟩ (.slice A4 Z.length c4)).setCell ⟨w.heap.size + 1, 2, none⟩ (.slice (some ⟨g, 0, none⟩) m d)).heap[k]? = w6.heap[k]? := fun k hk => by
    have h3 := HS3.out
    rw [Below.heap_setCell _ ⟨w.heap.size + 1, 2, none⟩ _ k (by dsimp only; omega), Below.heap_setCell _ ⟨w.heap.size + 1, 1, none⟩ _ k (by dsimp only; omega), Below.heap_setCell _ ⟨w.heap.size + 1, 0, none⟩ _ k (by dsimp only; omega), Below.heap_setCell _ ⟨w.heap.size + 1 + 1, 2, none⟩ _ k (by dsimp only; omega)]
  refine ⟨_, rfl, ⟨A4, c4, g, d, cs, Q, by rw [HVl.out], ⟨own_mono (own_turn4 HO6.out fun k e => hk2 k (HO6.out.lt k e).1) (by have := HS3.out; omega), fun k e => ?_⟩, ?_, HM.out⟩, ?_⟩
  · simp only [World.size_setCell]
    exact Nat.lt_of_lt_of_le (HK6.out k e) hs5.2.1
  · simp only [World.size_setCell]
    exact ((HIn.out.turn fun k h1 _ => hk k h1).mono (by omega) (Nat.le_refl _))
  · exact (((HB6.out.setCell (by dsimp only; omega) _).setCell (by dsimp only; omega) _).setCell (by dsimp only; omega) _).setCell (by dsimp only; omega) _

set_option maxHeartbeats 1600000 in
theorem eqWave_true (a b : WaA) (w : World) (ha : LiesWa w a) (hb : LiesWa w b) (hN : a.N = b.N) (hZ : a.Z = b.Z) (hV : a.P.map LvA.val = b.P.map LvA.val) (hz : a.Z.length ≤ 1048576) (hP : a.P.length ≤ 1048576) (hp : ∀ (k : Nat) (p : LvA), a.P[k]? = some p → p.L.length ≤ 1048576) :
    Calls Tryd.prog 20 #[a.value, b.value] w fun e w' => e = .returned (.bool true) ∧ Below w.heap.size w w' := by
  obtain ⟨N, ZA, zc, Z, LA, lc, P⟩ := a
  obtain ⟨M, YA, yc, Y, KA, kc, O⟩ := b
  simp only at hN hZ hV hz hP hp
  subst hN hZ
  unfold WaA.value
  simp only
  have CE := Lib.hid fun (W : World) (hW : Below w.heap.size w W) => eqLvs_true LA KA lc kc P O W (ha.lev.below hW) (hb.lev.below hW) hV hP hp
  have CI := Lib.hid fun (W : World) (hW : Below w.heap.size w W) => (eqInt ZA YA zc yc Z Z W (ha.zer.below hW) (hb.zer.below hW) (by omega)).mono fun e w' h => (⟨by rw [h.1, decide_eq_true rfl], h.2⟩ : e = .returned (.bool true) ∧ Drawn W w')
  clear ha hb hV hp
  have t0 : (N != N) = false := by simp
  have HB2 : Hid (Below w.heap.size w ((w.alloc (.cells #[.int .i64 N, .slice ZA Z.length zc, .slice LA P.length lc] 28)).alloc (.cells #[.int .i64 N, .slice YA Z.length yc, .slice KA O.length kc] 28))) := Lib.hid (by go_grown)
  have HX1 : Hid (Box ((w.alloc (.cells #[.int .i64 N, .slice ZA Z.length zc, .slice LA P.length lc] 28)).alloc (.cells #[.int .i64 N, .slice YA Z.length yc, .slice KA O.length kc] 28)) w.heap.size 28 #[.int .i64 N, .slice ZA Z.length zc, .slice LA P.length lc]) := Lib.hid ((Box.made _ _ _).alloc _)
  have HX2 : Hid (Box ((w.alloc (.cells #[.int .i64 N, .slice ZA Z.length zc, .slice LA P.length lc] 28)).alloc (.cells #[.int .i64 N, .slice YA Z.length yc, .slice KA O.length kc] 28)) (w.heap.size + 1) 28 #[.int .i64 N, .slice YA Z.length yc, .slice KA O.length kc]) := Lib.hid (by
    have h := Box.made (w.alloc (.cells #[.int .i64 N, .slice ZA Z.length zc, .slice LA P.length lc] 28)) 28 #[.int .i64 N, .slice YA Z.length yc, .slice KA O.length kc]
    rwa [World.size_alloc] at h)
  go_enter Tryd.func20, Tryd.ntmps20
  go_wp2_with fail
  generalize (w.alloc (.cells #[.int .i64 N, .slice ZA Z.length zc, .slice LA P.length lc] 28)).alloc (.cells #[.int .i64 N, .slice YA Z.length yc, .slice KA O.length kc] 28) = W2 at *
  refine (CI.out _ HB2.out).mono ?_
  rintro e w3 ⟨rfl, q3, rfl⟩
  have HB3 : Hid (Below w.heap.size w (W2.drewN q3)) := Lib.hid (below_dN HB2.out q3)
  have x2 : (W2.drewN q3).cell? ⟨w.heap.size, 2, none⟩ = some (.slice LA P.length lc) := HX1.out.cell 2
  have y2 : (W2.drewN q3).cell? ⟨w.heap.size + 1, 2, none⟩ = some (.slice KA O.length kc) := HX2.out.cell 2
  have xl : w.heap.size < (W2.drewN q3).heap.size := HX1.out.lt
  have yl : w.heap.size + 1 < (W2.drewN q3).heap.size := HX2.out.lt
  generalize W2.drewN q3 = w3 at *
  go_wp2_with fail
  refine (CE.out _ HB3.out).mono ?_
  rintro e w4 ⟨rfl, hb4⟩
  have HB4 := Lib.hid (below_then HB3.out hb4)
  clear hb4 x2 y2 xl yl
  go_wp2
  go_ret
  exact ⟨rfl, HB4.out⟩

end Go.Proofs.YtnlpmcgpdaifoaaDoor

/- Waves of a call's own, handed to the laws' helpers. -/
namespace Go.Proofs.YtnlpmcgpdaifoaaDoor
open Go.RowKit
set_option maxRecDepth 100000

/-- How many numbers and words levels have. -/
def totV2 : List (Int × List Nat) → Nat
  | [] => 0
  | v :: r => 1 + v.2.length + totV2 r
theorem totL_val : ∀ (P : List LvA), totL P = totV2 (P.map LvA.val)
  | [] => rfl
  | p :: r => by rw [List.map_cons, totL, totV2, totL_val r]
theorem totW_val : ∀ {Q : List LvV} {V : List (Int × List Nat)}, Q.map (fun q => (q.K, q.xs)) = V.map (fun v => (v.1, v.2.map U)) → totW Q = totV2 V
  | [], [], _ => rfl
  | [], _ :: _, h => by simp at h
  | _ :: _, [], h => by simp at h
  | q :: Q, v :: V, h => by
    simp only [List.map_cons, List.cons.injEq, Prod.mk.injEq] at h
    rw [totW, totV2, totW_val h.2, h.1.2, List.length_map]
theorem totV2_le : ∀ (V : List (Int × List Nat)), V.length ≤ totV2 V
  | [] => Nat.le_refl _
  | v :: r => by
    have := totV2_le r
    simp only [List.length_cons, totV2]
    omega
theorem totV2_mem : ∀ {V : List (Int × List Nat)} {v : Int × List Nat}, v ∈ V → v.2.length ≤ totV2 V
  | [], v, h => by simp at h
  | u :: r, v, h => by
    rcases List.mem_cons.1 h with rfl | h
    · simp only [totV2]; omega
    · have := totV2_mem h
      simp only [totV2]
      omega

theorem wvNum_of {w : World} {LA : Option Addr} {Z : List Int} {P : List LvA} (hr : ∀ z ∈ Z, -9223372036854775808 ≤ z ∧ z ≤ 9223372036854775807) (hL : LiesLw w LA P) (ht : Z.length + totL P ≤ 1048576) : WvNum Z (P.map LvA.val) := by
  have h1 := totL_le P
  refine ⟨hr, ?_, by omega, by rw [List.length_map]; omega⟩
  intro v hv
  obtain ⟨p, hp, rfl⟩ := List.mem_map.1 hv
  obtain ⟨j, hj⟩ := List.mem_iff_getElem?.1 hp
  exact (hL j p hj).2.2.2

theorem eqWvO {w : World} {lo hi lo' hi' : Nat} {N : Int} {Z : List Int} {V : List (Int × List Nat)} {v v' : Value} (hn : WvNum Z V) (ht : Z.length + totV2 V ≤ 1048576) (h : WvO w lo hi N Z V v) (h' : WvO w lo' hi' N Z V v') :
    Calls Tryd.prog 20 #[v, v'] w fun e w' => e = .returned (.bool true) ∧ Below w.heap.size w w' := by
  obtain ⟨a, rfl, ha, hN, hZ, hV⟩ := h.wave hn
  obtain ⟨b, rfl, hb, hN', hZ', hV'⟩ := h'.wave hn
  have hl : a.P.length = V.length := by rw [← hV, List.length_map]
  have h1 := totV2_le V
  refine eqWave_true a b w ha hb (hN.trans hN'.symm) (hZ.trans hZ'.symm) (hV.trans hV'.symm) (by rw [hZ]; omega) (by omega) fun k p hp => ?_
  have hm : p.val ∈ V := by rw [← hV]; exact List.mem_map_of_mem (List.mem_of_getElem? hp)
  have : p.L.length ≤ totV2 V := totV2_mem hm
  omega

/-- Rows outside of what is changed stay. -/
theorem own_outW {lo hi base n size : Nat} {e : TypeId} {w w' : World} {v : Value} {xs : List Value} (h : w.ownsRow base e size v n xs) (hi' : InsideW lo hi w w') (hout : ∀ k, v.ownBlock = some k → k < lo ∨ hi ≤ k) : w'.ownsRow base e size v n xs :=
  own_turn4 h fun k e => hi'.block k (own_typed h e).2.1 (hout k e)

end Go.Proofs.YtnlpmcgpdaifoaaDoor
