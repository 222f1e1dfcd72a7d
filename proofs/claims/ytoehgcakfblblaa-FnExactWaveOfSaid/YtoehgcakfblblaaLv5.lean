/- Lists of bit vectors: marked (after Frs5, Frs7). -/
import Derived.Test.YtoehgcakfblblaaLv4
import Derived.Test.YtoehgcakfblblaaWords2
namespace Go.Proofs.Ytoehgcakfblblaa
open Go.RowKit
set_option maxRecDepth 100000

/-- Only what lies between lo and hi is changed. -/
structure InsideW (lo hi : Nat) (w w' : World) : Prop where
  os : w'.os = w.os
  tape : w'.tape = w.tape
  output : w'.output = w.output
  size : w.heap.size ≤ w'.heap.size
  block : ∀ k, k < w.heap.size → (k < lo ∨ hi ≤ k) → w'.heap[k]? = w.heap[k]?
theorem InsideW.refl (lo hi : Nat) (w : World) : InsideW lo hi w w := ⟨rfl, rfl, rfl, Nat.le_refl _, fun _ _ _ => rfl⟩
theorem InsideW.trans {lo hi : Nat} {a b c : World} (h : InsideW lo hi a b) (k : InsideW lo hi b c) : InsideW lo hi a c :=
  ⟨k.os.trans h.os, k.tape.trans h.tape, k.output.trans h.output, Nat.le_trans h.size k.size, fun j hj hc => (k.block j (Nat.lt_of_lt_of_le hj h.size) hc).trans (h.block j hj hc)⟩
theorem InsideW.below {lo hi B : Nat} {a b c : World} (h : Below B a b) (k : InsideW lo hi b c) (hB : B ≤ lo) (hs : B ≤ b.heap.size) : Below B a c :=
  ⟨k.os.trans h.os, k.tape.trans h.tape, k.output.trans h.output, Nat.le_trans h.size k.size, fun j hj => (k.block j (Nat.lt_of_lt_of_le hj hs) (.inl (Nat.lt_of_lt_of_le hj hB))).trans (h.block j hj)⟩

theorem set_atW {α : Type} {R : List α} {i j : Nat} {x p : α} (h : (R.set i x)[j]? = some p) (hi : i < R.length) : (j = i ∧ p = x) ∨ (j ≠ i ∧ R[j]? = some p) := by
  rw [List.getElem?_set] at h
  split at h
  · rename_i e
    exact .inl ⟨e.symm, (Option.some.inj h).symm⟩
  · rename_i e
    exact .inr ⟨fun e' => e e'.symm, h⟩

section
variable {w w' : World} {lo hi g : Nat} {cs : Array Value} {R : List LvV} {i : Nat} {p : LvV}
/-- A kind is written. -/
theorem LvIn.kind (h : LvIn w lo hi g cs R) (hp : R[i]? = some p) (k : Int) : LvIn (w.setCell ⟨g, i * 2, none⟩ (.int .i64 k)) lo hi g (cs.setIfInBounds (i * 2) (.int .i64 k)) (R.set i { p with K := k }) := by
  have hi' : i < R.length := (List.getElem?_eq_some_iff.1 hp).1
  have hc : i * 2 < cs.size := by
    have := (h.cells i p hp).1
    exact (Array.getElem?_eq_some_iff.1 this).1
  have keep : ∀ {v : Value} {n : Nat} {ys : List Value}, w.ownsRow lo 123 1 v n ys → (w.setCell ⟨g, i * 2, none⟩ (.int .i64 k)).ownsRow lo 123 1 v n ys := fun {v n ys} hv =>
    own_turn4 hv fun j e => Below.heap_setCell w ⟨g, i * 2, none⟩ _ j (fun e2 => own_ne_boxW hv h.box (by rw [e, e2]))
  refine ⟨h.box.put _ _, h.low, h.high, ?_, ?_, ?_⟩
  · intro j q hq
    rcases set_atW hq hi' with ⟨rfl, rfl⟩ | ⟨hj, hq⟩
    · obtain ⟨c1, c2⟩ := h.cells j p hp
      refine ⟨Array.getElem?_setIfInBounds_self_of_lt hc, ?_⟩
      rw [Array.getElem?_setIfInBounds_ne (by omega)]
      exact c2
    · obtain ⟨c1, c2⟩ := h.cells j q hq
      rw [Array.getElem?_setIfInBounds_ne (by omega), Array.getElem?_setIfInBounds_ne (by omega)]
      exact ⟨c1, c2⟩
  · intro j q hq
    rcases set_atW hq hi' with ⟨rfl, rfl⟩ | ⟨hj, hq⟩
    · exact ⟨keep (h.own j p hp).1, (h.own j p hp).2⟩
    · exact ⟨keep (h.own j q hq).1, (h.own j q hq).2⟩
  · intro a b x y m hab hx hy e1 e2
    rcases set_atW hx hi' with ⟨rfl, rfl⟩ | ⟨ha, hx2⟩
    · rcases set_atW hy hi' with ⟨rfl, rfl⟩ | ⟨hb, hy2⟩
      · exact hab rfl
      · exact h.apart a b p y m hab hp hy2 e1 e2
    · rcases set_atW hy hi' with ⟨rfl, rfl⟩ | ⟨hb, hy2⟩
      · exact h.apart a b x p m hab hx2 hp e1 e2
      · exact h.apart a b x y m hab hx2 hy2 e1 e2
/-- Bytes are written. -/
theorem LvIn.bytes (h : LvIn w lo hi g cs R) (hhi : hi ≤ w.heap.size) (hp : R[i]? = some p) {ys : List Value} (hl : ys.length = p.xs.length) (ho : w'.ownsRow lo 123 1 p.body p.xs.length ys) (hg : w.grownBy w' p.body.ownBlock) : LvIn w' lo hi g cs (R.set i { p with xs := ys }) := by
  have hi' : i < R.length := (List.getElem?_eq_some_iff.1 hp).1
  have hbody : ({ p with xs := ys } : LvV).body = p.body := by unfold LvV.body; rw [hl]
  refine ⟨(hg.block g h.box.lt (fun e => own_ne_boxW (h.own i p hp).1 h.box e.symm)).trans h.box, h.low, h.high, ?_, ?_, ?_⟩
  · intro j q hq
    rcases set_atW hq hi' with ⟨rfl, rfl⟩ | ⟨hj, hq⟩
    · rw [hbody]
      exact h.cells j p hp
    · exact h.cells j q hq
  · intro j q hq
    rcases set_atW hq hi' with ⟨rfl, rfl⟩ | ⟨hj, hq⟩
    · rw [hbody]
      refine ⟨?_, (h.own j p hp).2⟩
      show w'.ownsRow lo 123 1 p.body ys.length ys
      rw [hl]
      exact ho
    · refine ⟨own_turn4 (h.own j q hq).1 fun k e => hg.block k (Nat.lt_of_lt_of_le ((h.own j q hq).2 k e) hhi) fun e2 => ?_, (h.own j q hq).2⟩
      exact h.apart j i q p k hj hq hp e e2.symm
  · intro a b x y m hab hx hy e1 e2
    rcases set_atW hx hi' with ⟨rfl, rfl⟩ | ⟨ha, hx2⟩
    · rw [hbody] at e1
      rcases set_atW hy hi' with ⟨rfl, rfl⟩ | ⟨hb, hy2⟩
      · exact hab rfl
      · exact h.apart a b p y m hab hp hy2 e1 e2
    · rcases set_atW hy hi' with ⟨rfl, rfl⟩ | ⟨hb, hy2⟩
      · rw [hbody] at e2
        exact h.apart a b x p m hab hx2 hp e1 e2
      · exact h.apart a b x y m hab hx2 hy2 e1 e2
end

/-- How much is marked. -/
def totW : List LvV → Nat
  | [] => 0
  | p :: r => 1 + p.xs.length + totW r
theorem totW_at {P : List LvV} {k : Nat} {p : LvV} (h : P[k]? = some p) : totW (P.drop k) = 1 + p.xs.length + totW (P.drop (k + 1)) := by
  obtain ⟨hj, rfl⟩ := List.getElem?_eq_some_iff.1 h
  rw [List.drop_eq_getElem_cons hj, totW]

theorem totW_drop_le : ∀ (P : List LvV) (n : Nat), totW (P.drop n) ≤ totW P
  | [], n => by rw [List.drop_nil]; exact Nat.le_refl _
  | p :: r, 0 => Nat.le_refl _
  | p :: r, n + 1 => by
    have := totW_drop_le r n
    rw [List.drop_succ_cons, totW]
    omega
theorem totW_le : ∀ (P : List LvV), P.length ≤ totW P
  | [] => Nat.le_refl _
  | p :: r => by
    have := totW_le r
    simp only [List.length_cons, totW]
    omega

set_option maxHeartbeats 1600000 in
theorem markLvs_any (m0 : Nat) (hm0 : m0 ≤ 1048577) (lo hi g d : Nat) (cs : Array Value) (Q : List LvV) (w : World) (h : LvIn w lo hi g cs Q) (hhi : hi ≤ w.heap.size) (ht : totW Q ≤ 1048576) :
    Calls Try.prog 70 #[.slice (some ⟨g, 0, none⟩) Q.length d, .int .i64 m0] w fun e w' => (∃ r : Nat, e = .returned (.int .i64 r)) ∧ InsideW lo hi w w' := by
  have H0 := Lib.hid h
  clear h
  have hQl : Q.length ≤ 1048576 := Nat.le_trans (totW_le Q) ht
  go_enter Try.func70, Try.ntmps70
  go_wp2
  go_loopw [1, 5] (fun k i wr => ∃ (n m : Nat) (cs' : Array Value) (R : List LvV), n ≤ Q.length ∧ i = .int .i64 n ∧ k = .int .i64 m ∧ LvIn wr lo hi g cs' R ∧ R.length = Q.length ∧ Hid (R.drop n = Q.drop n) ∧ m + totW (Q.drop n) = m0 + totW Q ∧ InsideW lo hi w wr) (fun _ i _ => Q.length - (intOf i).toNat)
  case atStart => exact ⟨0, m0, cs, Q, Nat.zero_le _, rfl, rfl, H0.out, rfl, Lib.hid rfl, by rw [List.drop_zero], InsideW.refl _ _ _⟩
  case round =>
    obtain ⟨n, m, cs', R, hn, rfl, rfl, hin, hR, hD, hm, hI⟩ := hrel
    have HI := Lib.hid hI
    have HF := Lib.hid hin
    have HR := Lib.hid hR
    clear hI hin hR
    by_cases hlt : n < Q.length
    · obtain ⟨p, hp⟩ : ∃ p, R[n]? = some p := ⟨R[n]'(by rw [HR.out]; exact hlt), List.getElem?_eq_getElem _⟩
      have hpQ : Q[n]? = some p := by
        have e1 : (R.drop n)[0]? = some p := by rw [List.getElem?_drop]; exact hp
        rw [hD.out, List.getElem?_drop] at e1
        exact e1
      have htot := totW_at hpQ
      have htd := totW_drop_le Q n
      obtain ⟨c1, c2⟩ := HF.out.cells n p hp
      have y0 := (HF.out.box.cell (n * 2)).trans c1
      have z0 := HF.out.box.frozen (n * 2)
      have hgl := HF.out.box.lt
      have HK := Lib.hid (HF.out.kind hp ((m : Nat) : Int))
      have hx2 := (HK.out.box.cell (n * 2 + 1)).trans (HK.out.cells n _ (by rw [List.getElem?_set]; simp [HR.out, hlt]; rfl)).2
      have hs2 : hi ≤ (wr.setCell ⟨g, n * 2, none⟩ (.int .i64 (m : Int))).heap.size := by rw [World.size_setCell]; exact Nat.le_trans hhi HI.out.size
      have tl : decide ((n : Int) < (Q.length : Int)) = true := by simp; omega
      have HP := Lib.hid hp
      have hIs : InsideW lo hi wr (wr.setCell ⟨g, n * 2, none⟩ (.int .i64 (m : Int))) := by
        have hb := (Below.refl 0 wr).setCell (p := ⟨g, n * 2, none⟩) (Nat.zero_le _) (.int .i64 (m : Int))
        refine ⟨hb.os, hb.tape, hb.output, hb.size, fun j hj hc => Below.heap_setCell wr ⟨g, n * 2, none⟩ _ j fun e => ?_⟩
        have := HF.out.low
        have := HF.out.high
        simp only at e
        omega
      have HIs := Lib.hid (HI.out.trans hIs)
      clear c1 c2 hp hpQ hIs
      go_wp2_with fail
      clear y0 z0 hx2
      generalize wr.setCell ⟨g, n * 2, none⟩ (.int .i64 (m : Int)) = w1 at *
      have hp2 : (R.set n { p with K := (m : Int) })[n]? = some { p with K := (m : Int) } := by
        rw [List.getElem?_set]
        simp [HR.out, hlt]
      have hown := (HK.out.own n _ hp2).1
      refine (markU64w p.A p.xs.length p.c lo ((m : Int) + 1) p.xs w1 hown (by omega) (by omega) (by omega)).mono ?_
      rintro e w2 ⟨rfl, ho2, hg2⟩
      have HF2 := Lib.hid (HK.out.bytes hs2 hp2 (ys := (List.range p.xs.length).map fun (j : Nat) => Value.int .u64 ((m : Int) + 1 + j)) (by simp) ho2 hg2)
      have hI2 : InsideW lo hi w1 w2 := ⟨hg2.os, hg2.tape, hg2.output, hg2.size, fun j hj hc => hg2.block j hj fun e => by
        have h1 := (own_kindW hown e.symm).1
        have h2 := (HK.out.own n _ hp2).2 j e.symm
        omega⟩
      have HI2 := Lib.hid (HIs.out.trans hI2)
      rw [List.set_set] at HF2
      have e5 : (m : Int) + 1 + (p.xs.length : Int) = ((m + 1 + p.xs.length : Nat) : Int) := by omega
      rw [e5]
      obtain ⟨m2, hm2⟩ : ∃ m2, m + 1 + p.xs.length = m2 := ⟨_, rfl⟩
      rw [hm2]
      have HD2 : Hid ((R.set n ⟨(m : Int), p.A, p.c, (List.range p.xs.length).map fun (j : Nat) => Value.int .u64 ((m : Int) + 1 + j)⟩).drop (n + 1) = Q.drop (n + 1)) := Lib.hid (by
        rw [List.drop_set_of_lt (by omega)]
        have := congrArg (List.drop 1) hD.out
        rw [List.drop_drop, List.drop_drop] at this
        exact this)
      have hm3 : m2 + totW (Q.drop (n + 1)) = m0 + totW Q := by omega
      clear ho2 hg2 hI2 e5 hm2 hown hp2 htot hm hD
      go_wp2
      go_roundw
      case rel => exact ⟨n + 1, m2, cs'.setIfInBounds (n * 2) (.int .i64 (m : Int)), _, by omega, by go_num, rfl, HF2.out, by rw [List.length_set, HR.out], HD2, hm3, HI2.out⟩
      case measure => simp [intOf]; omega
    · go_wp2
      go_ret
      exact ⟨⟨m, rfl⟩, HI.out⟩

end Go.Proofs.Ytoehgcakfblblaa
