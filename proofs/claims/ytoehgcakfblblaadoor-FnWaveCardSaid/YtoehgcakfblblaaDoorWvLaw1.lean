import Derived.Test.YtoehgcakfblblaaDoorLv4
import Derived.Test.YtoehgcakfblblaaDoorWords2
import Derived.Test.YtoehgcakfblblaaDoorNewI
/- Lists of bit vectors: marked (after Frs5, Frs7). -/
namespace Go.Proofs.YtoehgcakfblblaaDoor
open Go.RowKit
set_option maxRecDepth 100000

/-- Only what lies between lo and hi is changed. -/
structure InsideW (lo hi : Nat) (w w' : World) : Prop where
  os : w'.os = w.os
  tape : w'.tape = w.tape
  output : w'.output = w.output
  size : w.heap.size ≤ w'.heap.size
  block : ∀ k, k < w.heap.size → (k < lo ∨ hi ≤ k) → w'.heap[k]? = w.heap[k]?
theorem InsideW.refl (lo hi : Nat) (w : World) : InsideW lo hi w w := ⟨rfl, rfl, rfl, Nat.le_refl _, fun _ _ _ => rfl⟩
theorem InsideW.trans {lo hi : Nat} {a b c : World} (h : InsideW lo hi a b) (k : InsideW lo hi b c) : InsideW lo hi a c :=
  ⟨k.os.trans h.os, k.tape.trans h.tape, k.output.trans h.output, Nat.le_trans h.size k.size, fun j hj hc => (k.block j (Nat.lt_of_lt_of_le hj h.size) hc).trans (h.block j hj hc)⟩
theorem InsideW.below {lo hi B : Nat} {a b c : World} (h : Below B a b) (k : InsideW lo hi b c) (hB : B ≤ lo) (hs : B ≤ b.heap.size) : Below B a c :=
  ⟨k.os.trans h.os, k.tape.trans h.tape, k.output.trans h.output, Nat.le_trans h.size k.size, fun j hj => (k.block j (Nat.lt_of_lt_of_le hj hs) (.inl (Nat.lt_of_lt_of_le hj hB))).trans (h.block j hj)⟩

theorem set_atW {α : Type} {R : List α} {i j : Nat} {x p : α} (h : (R.set i x)[j]? = some p) (hi : i < R.length) : (j = i ∧ p = x) ∨ (j ≠ i ∧ R[j]? = some p) := by
  rw [List.getElem?_set] at h
  split at h
  · rename_i e
    exact .inl ⟨e.symm, (Option.some.inj h).symm⟩
  · rename_i e
    exact .inr ⟨fun e' => e e'.symm, h⟩

section
variable {w w' : World} {lo hi g : Nat} {cs : Array Value} {R : List LvV} {i : Nat} {p : LvV}
/-- A kind is written. -/
theorem LvIn.kind (h : LvIn w lo hi g cs R) (hp : R[i]? = some p) (k : Int) : LvIn (w.setCell ⟨g, i * 2, none⟩ (.int .i64 k)) lo hi g (cs.setIfInBounds (i * 2) (.int .i64 k)) (R.set i { p with K := k }) := by
  have hi' : i < R.length := (List.getElem?_eq_some_iff.1 hp).1
  have hc : i * 2 < cs.size := by
    have := (h.cells i p hp).1
    exact (Array.getElem?_eq_some_iff.1 this).1
  have keep : ∀ {v : Value} {n : Nat} {ys : List Value}, w.ownsRow lo 64 1 v n ys → (w.setCell ⟨g, i * 2, none⟩ (.int .i64 k)).ownsRow lo 64 1 v n ys := fun {v n ys} hv =>
    own_turn4 hv fun j e => Below.heap_setCell w ⟨g, i * 2, none⟩ _ j (fun e2 => own_ne_boxW hv h.box (by rw [e, e2]))
  refine ⟨h.box.put _ _, h.low, h.high, ?_, ?_, ?_⟩
  · intro j q hq
    rcases set_atW hq hi' with ⟨rfl, rfl⟩ | ⟨hj, hq⟩
    · obtain ⟨c1, c2⟩ := h.cells j p hp
      refine ⟨Array.getElem?_setIfInBounds_self_of_lt hc, ?_⟩
      rw [Array.getElem?_setIfInBounds_ne (by omega)]
      exact c2
    · obtain ⟨c1, c2⟩ := h.cells j q hq
      rw [Array.getElem?_setIfInBounds_ne (by omega), Array.getElem?_setIfInBounds_ne (by omega)]
      exact ⟨c1, c2⟩
  · intro j q hq
    rcases set_atW hq hi' with ⟨rfl, rfl⟩ | ⟨hj, hq⟩
    · exact ⟨keep (h.own j p hp).1, (h.own j p hp).2⟩
    · exact ⟨keep (h.own j q hq).1, (h.own j q hq).2⟩
  · intro a b x y m hab hx hy e1 e2
    rcases set_atW hx hi' with ⟨rfl, rfl⟩ | ⟨ha, hx2⟩
    · rcases set_atW hy hi' with ⟨rfl, rfl⟩ | ⟨hb, hy2⟩
      · exact hab rfl
      · exact h.apart a b p y m hab hp hy2 e1 e2
    · rcases set_atW hy hi' with ⟨rfl, rfl⟩ | ⟨hb, hy2⟩
      · exact h.apart a b x p m hab hx2 hp e1 e2
      · exact h.apart a b x y m hab hx2 hy2 e1 e2
/-- Bytes are written. -/
theorem LvIn.bytes (h : LvIn w lo hi g cs R) (hhi : hi ≤ w.heap.size) (hp : R[i]? = some p) {ys : List Value} (hl : ys.length = p.xs.length) (ho : w'.ownsRow lo 64 1 p.body p.xs.length ys) (hg : w.grownBy w' p.body.ownBlock) : LvIn w' lo hi g cs (R.set i { p with xs := ys }) := by
  have hi' : i < R.length := (List.getElem?_eq_some_iff.1 hp).1
  have hbody : ({ p with xs := ys } : LvV).body = p.body := by unfold LvV.body; rw [hl]
  refine ⟨(hg.block g h.box.lt (fun e => own_ne_boxW (h.own i p hp).1 h.box e.symm)).trans h.box, h.low, h.high, ?_, ?_, ?_⟩
  · intro j q hq
    rcases set_atW hq hi' with ⟨rfl, rfl⟩ | ⟨hj, hq⟩
    · rw [hbody]
      exact h.cells j p hp
    · exact h.cells j q hq
  · intro j q hq
    rcases set_atW hq hi' with ⟨rfl, rfl⟩ | ⟨hj, hq⟩
    · rw [hbody]
      refine ⟨?_, (h.own j p hp).2⟩
      show w'.ownsRow lo 64 1 p.body ys.length ys
      rw [hl]
      exact ho
    · refine ⟨own_turn4 (h.own j q hq).1 fun k e => hg.block k (Nat.lt_of_lt_of_le ((h.own j q hq).2 k e) hhi) fun e2 => ?_, (h.own j q hq).2⟩
      exact h.apart j i q p k hj hq hp e e2.symm
  · intro a b x y m hab hx hy e1 e2
    rcases set_atW hx hi' with ⟨rfl, rfl⟩ | ⟨ha, hx2⟩
    · rw [hbody] at e1
      rcases set_atW hy hi' with ⟨rfl, rfl⟩ | ⟨hb, hy2⟩
      · exact hab rfl
      · exact h.apart a b p y m hab hp hy2 e1 e2
    · rcases set_atW hy hi' with ⟨rfl, rfl⟩ | ⟨hb, hy2⟩
      · rw [hbody] at e2
        exact h.apart a b x p m hab hx2 hp e1 e2
      · exact h.apart a b x y m hab hx2 hy2 e1 e2
end

/-- How much is marked. -/
def totW : List LvV → Nat
  | [] => 0
  | p :: r => 1 + p.xs.length + totW r
theorem totW_at {P : List LvV} {k : Nat} {p : LvV} (h : P[k]? = some p) : totW (P.drop k) = 1 + p.xs.length + totW (P.drop (k + 1)) := by
  obtain ⟨hj, rfl⟩ := List.getElem?_eq_some_iff.1 h
  rw [List.drop_eq_getElem_cons hj, totW]

theorem totW_drop_le : ∀ (P : List LvV) (n : Nat), totW (P.drop n) ≤ totW P
  | [], n => by rw [List.drop_nil]; exact Nat.le_refl _
  | p :: r, 0 => Nat.le_refl _
  | p :: r, n + 1 => by
    have := totW_drop_le r n
    rw [List.drop_succ_cons, totW]
    omega
theorem totW_le : ∀ (P : List LvV), P.length ≤ totW P
  | [] => Nat.le_refl _
  | p :: r => by
    have := totW_le r
    simp only [List.length_cons, totW]
    omega

end Go.Proofs.YtoehgcakfblblaaDoor

/- Lists of bit vectors: marked (after Frs5, Frs7). -/
namespace Go.Proofs.YtoehgcakfblblaaDoor
open Go.RowKit
set_option maxRecDepth 100000

/-- The frames as markFrameS leaves them. -/
def mkL : Nat → List LvV → List LvV
  | _, [] => []
  | m, q :: r => ⟨(m : Int), q.A, q.c, (List.range q.xs.length).map fun (j : Nat) => Value.int .u64 ((m : Int) + 1 + j)⟩ :: mkL (m + 1 + q.xs.length) r
theorem mkL_len : ∀ (Q : List LvV) (m : Nat), (mkL m Q).length = Q.length
  | [], _ => rfl
  | q :: r, m => by rw [mkL, List.length_cons, List.length_cons, mkL_len r]
theorem mkL_at : ∀ (Q : List LvV) (m n : Nat) (p : LvV), Q[n]? = some p → (mkL m Q)[n]? = some ⟨((m + totW (Q.take n) : Nat) : Int), p.A, p.c, (List.range p.xs.length).map fun (j : Nat) => Value.int .u64 (((m + totW (Q.take n) : Nat) : Int) + 1 + j)⟩
  | [], _, _, _, h => by simp at h
  | q :: r, m, 0, p, h => by
    have : q = p := by simpa using h
    subst this
    simp [mkL, totW]
  | q :: r, m, n + 1, p, h => by
    have ih := mkL_at r (m + 1 + q.xs.length) n p (by simpa using h)
    rw [mkL, List.getElem?_cons_succ, ih, List.take_succ_cons, totW]
    have e : m + 1 + q.xs.length + totW (r.take n) = m + (1 + q.xs.length + totW (r.take n)) := by omega
    rw [e]
theorem totW_take : ∀ {Q : List LvV} {n : Nat} {p : LvV}, Q[n]? = some p → totW (Q.take (n + 1)) = totW (Q.take n) + 1 + p.xs.length
  | [], _, _, h => by simp at h
  | q :: r, 0, p, h => by
    have : q = p := by simpa using h
    subst this
    simp [totW]
  | q :: r, n + 1, p, h => by
    have ih := totW_take (Q := r) (n := n) (p := p) (by simpa using h)
    rw [List.take_succ_cons, List.take_succ_cons, totW, totW, ih]
    omega

end Go.Proofs.YtoehgcakfblblaaDoor

/- The laws' helpers on waves: their size, a copy, comparing, marking. -/
namespace Go.Proofs.YtoehgcakfblblaaDoor
open Go.RowKit
set_option maxRecDepth 100000

/-- A wave of a call's own, all of it between lo and hi. -/
def WvO (w : World) (lo hi : Nat) (N : Int) (Z : List Int) (V : List (Int × List Nat)) (v : Value) : Prop :=
  ∃ (ZA : Option Addr) (zc g d : Nat) (cs : Array Value) (Q : List LvV), v = .agg #[.int .i64 N, .slice ZA Z.length zc, .slice (some ⟨g, 0, none⟩) V.length d] ∧
    (w.ownsRow lo 3 1 (.slice ZA Z.length zc) Z.length (Z.map I) ∧ ∀ k, (Value.slice ZA Z.length zc).ownBlock = some k → k < hi) ∧ LvIn w lo hi g cs Q ∧ Q.map (fun q => (q.K, q.xs)) = V.map (fun v => (v.1, v.2.map U))

theorem zipL_len {Q : List LvV} {V : List (Int × List Nat)} (h : Q.map (fun q => (q.K, q.xs)) = V.map (fun v => (v.1, v.2.map U))) : (zipL Q V).length = V.length := by
  have : Q.length = V.length := by simpa using congrArg List.length h
  unfold zipL
  rw [List.length_zipWith, this, Nat.min_self]

theorem WvO.below {w w' : World} {lo hi : Nat} {N : Int} {Z : List Int} {V : List (Int × List Nat)} {v : Value} (h : WvO w lo hi N Z V v) {B : Nat} (hb : Below B w w') (hB : hi ≤ B) : WvO w' lo hi N Z V v := by
  obtain ⟨ZA, zc, g, d, cs, Q, h1, ⟨h2, h3⟩, h4, h5⟩ := h
  exact ⟨ZA, zc, g, d, cs, Q, h1, ⟨own_turn4 h2 fun k hk => hb.block k (Nat.lt_of_lt_of_le (h3 k hk) hB), h3⟩, h4.below hb hB, h5⟩

/-- What the numbers of a wave must be. -/
structure WvNum (Z : List Int) (V : List (Int × List Nat)) : Prop where
  znum : ∀ z ∈ Z, -9223372036854775808 ≤ z ∧ z ≤ 9223372036854775807
  word : ∀ v ∈ V, ∀ x ∈ v.2, x < 2 ^ 64
  zlen : Z.length ≤ 1048576
  vlen : V.length ≤ 1048576

theorem WvO.wave {w : World} {lo hi : Nat} {N : Int} {Z : List Int} {V : List (Int × List Nat)} {v : Value} (h : WvO w lo hi N Z V v) (hn : WvNum Z V) : ∃ a : WaA, a.value = v ∧ LiesWa w a ∧ a.N = N ∧ a.Z = Z ∧ a.P.map LvA.val = V := by
  obtain ⟨ZA, zc, g, d, cs, Q, h1, ⟨h2, h3⟩, h4, h5⟩ := h
  have hl := zipL_len h5
  refine ⟨⟨N, ZA, zc, Z, some ⟨g, 0, none⟩, d, zipL Q V⟩, ?_, ⟨Lies.of_own h2, h4.lies h5 hn.word, hn.znum, Nat.le_trans hn.zlen (by decide), ?_⟩, rfl, rfl, zipL_val h5⟩
  · rw [h1]
    simp only [WaA.value, hl]
  · show (zipL Q V).length ≤ _
    rw [hl]
    exact Nat.le_trans hn.vlen (by decide)

theorem LvIn.mono {w : World} {lo lo' hi hi' g : Nat} {cs : Array Value} {Q : List LvV} (h : LvIn w lo hi g cs Q) (hlo : lo' ≤ lo) (hhi : hi ≤ hi') : LvIn w lo' hi' g cs Q :=
  ⟨h.box, Nat.le_trans hlo h.low, Nat.lt_of_lt_of_le h.high hhi, h.cells, fun j p hp => ⟨own_mono (h.own j p hp).1 hlo, fun k hk => Nat.lt_of_lt_of_le ((h.own j p hp).2 k hk) hhi⟩, h.apart⟩

end Go.Proofs.YtoehgcakfblblaaDoor
