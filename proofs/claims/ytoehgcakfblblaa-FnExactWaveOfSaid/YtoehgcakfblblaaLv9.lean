import Derived.Test.YtoehgcakfblblaaLv5
import Derived.Test.YtoehgcakfblblaaWvApp
/- Lists of bit vectors: marked (after Frs5, Frs7). -/
namespace Go.Proofs.Ytoehgcakfblblaa
open Go.RowKit
set_option maxRecDepth 100000

/-- The frames as markFrameS leaves them. -/
def mkL : Nat → List LvV → List LvV
  | _, [] => []
  | m, q :: r => ⟨(m : Int), q.A, q.c, (List.range q.xs.length).map fun (j : Nat) => Value.int .u64 ((m : Int) + 1 + j)⟩ :: mkL (m + 1 + q.xs.length) r
theorem mkL_len : ∀ (Q : List LvV) (m : Nat), (mkL m Q).length = Q.length
  | [], _ => rfl
  | q :: r, m => by rw [mkL, List.length_cons, List.length_cons, mkL_len r]
theorem mkL_at : ∀ (Q : List LvV) (m n : Nat) (p : LvV), Q[n]? = some p → (mkL m Q)[n]? = some ⟨((m + totW (Q.take n) : Nat) : Int), p.A, p.c, (List.range p.xs.length).map fun (j : Nat) => Value.int .u64 (((m + totW (Q.take n) : Nat) : Int) + 1 + j)⟩
  | [], _, _, _, h => by simp at h
  | q :: r, m, 0, p, h => by
    have : q = p := by simpa using h
    subst this
    simp [mkL, totW]
  | q :: r, m, n + 1, p, h => by
    have ih := mkL_at r (m + 1 + q.xs.length) n p (by simpa using h)
    rw [mkL, List.getElem?_cons_succ, ih, List.take_succ_cons, totW]
    have e : m + 1 + q.xs.length + totW (r.take n) = m + (1 + q.xs.length + totW (r.take n)) := by omega
    rw [e]
theorem totW_take : ∀ {Q : List LvV} {n : Nat} {p : LvV}, Q[n]? = some p → totW (Q.take (n + 1)) = totW (Q.take n) + 1 + p.xs.length
  | [], _, _, h => by simp at h
  | q :: r, 0, p, h => by
    have : q = p := by simpa using h
    subst this
    simp [totW]
  | q :: r, n + 1, p, h => by
    have ih := totW_take (Q := r) (n := n) (p := p) (by simpa using h)
    rw [List.take_succ_cons, List.take_succ_cons, totW, totW, ih]
    omega

set_option maxHeartbeats 1600000 in
theorem markLvs_strong (m0 : Nat) (hm0 : m0 ≤ 1048577) (lo hi g d : Nat) (cs : Array Value) (Q : List LvV) (w : World) (h : LvIn w lo hi g cs Q) (hhi : hi ≤ w.heap.size) (ht : totW Q ≤ 1048576) :
    Calls Try.prog 70 #[.slice (some ⟨g, 0, none⟩) Q.length d, .int .i64 m0] w fun e w' => e = .returned (.int .i64 ((m0 + totW Q : Nat) : Int)) ∧ (∃ cs', LvIn w' lo hi g cs' (mkL m0 Q)) ∧ InsideW lo hi w w' := by
  have H0 := Lib.hid h
  clear h
  have hQl : Q.length ≤ 1048576 := Nat.le_trans (totW_le Q) ht
  go_enter Try.func70, Try.ntmps70
  go_wp2
  go_loopw [1, 5] (fun k i wr => ∃ (n m : Nat) (cs' : Array Value) (R : List LvV), n ≤ Q.length ∧ i = .int .i64 n ∧ k = .int .i64 m ∧ LvIn wr lo hi g cs' R ∧ R.length = Q.length ∧ Hid (R.drop n = Q.drop n) ∧ Hid (R.take n = (mkL m0 Q).take n) ∧ Hid (m = m0 + totW (Q.take n)) ∧ m + totW (Q.drop n) = m0 + totW Q ∧ InsideW lo hi w wr) (fun _ i _ => Q.length - (intOf i).toNat)
  case atStart => exact ⟨0, m0, cs, Q, Nat.zero_le _, rfl, rfl, H0.out, rfl, Lib.hid rfl, Lib.hid rfl, Lib.hid rfl, by rw [List.drop_zero], InsideW.refl _ _ _⟩
  case round =>
    obtain ⟨n, m, cs', R, hn, rfl, rfl, hin, hR, hD, hTk, hMm, hm, hI⟩ := hrel
    have HI := Lib.hid hI
    have HF := Lib.hid hin
    have HR := Lib.hid hR
    clear hI hin hR
    by_cases hlt : n < Q.length
    · obtain ⟨p, hp⟩ : ∃ p, R[n]? = some p := ⟨R[n]'(by rw [HR.out]; exact hlt), List.getElem?_eq_getElem _⟩
      have hpQ : Q[n]? = some p := by
        have e1 : (R.drop n)[0]? = some p := by rw [List.getElem?_drop]; exact hp
        rw [hD.out, List.getElem?_drop] at e1
        exact e1
      have htot := totW_at hpQ
      have htd := totW_drop_le Q n
      have HNew := Lib.hid (mkL_at Q m0 n p hpQ)
      rw [← hMm.out] at HNew
      have HTot := Lib.hid (totW_take hpQ)
      obtain ⟨c1, c2⟩ := HF.out.cells n p hp
      have y0 := (HF.out.box.cell (n * 2)).trans c1
      have z0 := HF.out.box.frozen (n * 2)
      have hgl := HF.out.box.lt
      have HK := Lib.hid (HF.out.kind hp ((m : Nat) : Int))
      have hx2 := (HK.out.box.cell (n * 2 + 1)).trans (HK.out.cells n _ (by rw [List.getElem?_set]; simp [HR.out, hlt]; rfl)).2
      have hs2 : hi ≤ (wr.setCell ⟨g, n * 2, none⟩ (.int .i64 (m : Int))).heap.size := by rw [World.size_setCell]; exact Nat.le_trans hhi HI.out.size
      have tl : decide ((n : Int) < (Q.length : Int)) = true := by simp; omega
      have HP := Lib.hid hp
      have hIs : InsideW lo hi wr (wr.setCell ⟨g, n * 2, none⟩ (.int .i64 (m : Int))) := by
        have hb := (Below.refl 0 wr).setCell (p := ⟨g, n * 2, none⟩) (Nat.zero_le _) (.int .i64 (m : Int))
        refine ⟨hb.os, hb.tape, hb.output, hb.size, fun j hj hc => Below.heap_setCell wr ⟨g, n * 2, none⟩ _ j fun e => ?_⟩
        have := HF.out.low
        have := HF.out.high
        simp only at e
        omega
      have HIs := Lib.hid (HI.out.trans hIs)
      clear c1 c2 hp hpQ hIs
      go_wp2_with fail
      clear y0 z0 hx2
      generalize wr.setCell ⟨g, n * 2, none⟩ (.int .i64 (m : Int)) = w1 at *
      have hp2 : (R.set n { p with K := (m : Int) })[n]? = some { p with K := (m : Int) } := by
        rw [List.getElem?_set]
        simp [HR.out, hlt]
      have hown := (HK.out.own n _ hp2).1
      refine (markU64w p.A p.xs.length p.c lo ((m : Int) + 1) p.xs w1 hown (by omega) (by omega) (by omega)).mono ?_
      rintro e w2 ⟨rfl, ho2, hg2⟩
      have HF2 := Lib.hid (HK.out.bytes hs2 hp2 (ys := (List.range p.xs.length).map fun (j : Nat) => Value.int .u64 ((m : Int) + 1 + j)) (by simp) ho2 hg2)
      have hI2 : InsideW lo hi w1 w2 := ⟨hg2.os, hg2.tape, hg2.output, hg2.size, fun j hj hc => hg2.block j hj fun e => by
        have h1 := (own_kindW hown e.symm).1
        have h2 := (HK.out.own n _ hp2).2 j e.symm
        omega⟩
      have HI2 := Lib.hid (HIs.out.trans hI2)
      rw [List.set_set] at HF2
      have e5 : (m : Int) + 1 + (p.xs.length : Int) = ((m + 1 + p.xs.length : Nat) : Int) := by omega
      rw [e5]
      obtain ⟨m2, hm2⟩ : ∃ m2, m + 1 + p.xs.length = m2 := ⟨_, rfl⟩
      rw [hm2]
      have HD2 : Hid ((R.set n ⟨(m : Int), p.A, p.c, (List.range p.xs.length).map fun (j : Nat) => Value.int .u64 ((m : Int) + 1 + j)⟩).drop (n + 1) = Q.drop (n + 1)) := Lib.hid (by
        rw [List.drop_set_of_lt (by omega)]
        have := congrArg (List.drop 1) hD.out
        rw [List.drop_drop, List.drop_drop] at this
        exact this)
      have hm3 : m2 + totW (Q.drop (n + 1)) = m0 + totW Q := by omega
      have HTk2 : Hid ((R.set n ⟨(m : Int), p.A, p.c, (List.range p.xs.length).map fun (j : Nat) => Value.int .u64 ((m : Int) + 1 + j)⟩).take (n + 1) = (mkL m0 Q).take (n + 1)) := Lib.hid (by
        have hl : n < R.length := by rw [HR.out]; exact hlt
        rw [List.take_add_one, List.take_add_one, HNew.out, List.getElem?_set_self hl, List.take_set_of_le (Nat.le_refl n), hTk.out])
      have HMm2 : Hid (m2 = m0 + totW (Q.take (n + 1))) := Lib.hid (by have := HTot.out; have := hMm.out; omega)
      clear ho2 hg2 hI2 e5 hm2 hown hp2 htot hm hD hTk hMm HNew HTot
      go_wp2
      go_roundw
      case rel => exact ⟨n + 1, m2, cs'.setIfInBounds (n * 2) (.int .i64 (m : Int)), _, by omega, by go_num, rfl, HF2.out, by rw [List.length_set, HR.out], HD2, HTk2, HMm2, hm3, HI2.out⟩
      case measure => simp [intOf]; omega
    · have hn2 : n = Q.length := by omega
      have hmm : m = m0 + totW Q := by
        rw [hn2, List.drop_length] at hm
        simp only [totW] at hm
        omega
      have HRR : Hid (R = mkL m0 Q) := Lib.hid (by
        have h1 := hTk.out
        rw [hn2, List.take_of_length_le (by rw [HR.out]; exact Nat.le_refl _), List.take_of_length_le (by rw [mkL_len]; exact Nat.le_refl _)] at h1
        exact h1)
      clear hTk hMm hD hm
      go_wp2
      go_ret
      refine ⟨by rw [hmm]; rfl, ⟨cs', ?_⟩, HI.out⟩
      rw [← HRR.out]
      exact HF.out

end Go.Proofs.Ytoehgcakfblblaa

/- Lists of bit vectors, marked: blocks of numbers stay as they were (Lv7's proof, with one word more). -/
namespace Go.Proofs.Ytoehgcakfblblaa
open Go.RowKit
set_option maxRecDepth 100000

/-- Blocks of numbers stay. -/
def StayI (w w' : World) : Prop := ∀ (k : Nat) (cs : Array Value) (fz : Nat × Nat), w.heap[k]? = some (.cells cs 3 fz) → w'.heap[k]? = some (.cells cs 3 fz)
theorem StayI.refl (w : World) : StayI w w := fun _ _ _ h => h
theorem StayI.trans {w w' w'' : World} (h : StayI w w') (h' : StayI w' w'') : StayI w w'' := fun k cs fz e => h' k cs fz (h k cs fz e)
theorem StayI.set_box {w : World} {g : Nat} {t : TypeId} {cs : Array Value} (hb : Box w g t cs) (hne : t ≠ 3) (i : Nat) (v : Value) : StayI w (w.setCell ⟨g, i, none⟩ v) := by
  intro k cs' fz h
  refine (Below.heap_setCell w ⟨g, i, none⟩ v k fun e => ?_).trans h
  unfold Box at hb
  simp only at e
  subst e
  rw [hb] at h
  injection h with h
  injection h with _ e2 _
  exact hne e2
theorem StayI.own {w w' : World} {b n s : Nat} {t : TypeId} {v : Value} {xs : List Value} (hne : t ≠ 3) (ho : w.ownsRow b t s v n xs) (hg : w.grownBy w' v.ownBlock) : StayI w w' := by
  intro k cs fz h
  have hk : k < w.heap.size := by
    rcases Nat.lt_or_ge k w.heap.size with h2 | h2
    · exact h2
    · rw [Array.getElem?_eq_none h2] at h; cases h
  refine (hg.block k hk fun e => ?_).trans h
  obtain ⟨_, _, cur, h2⟩ := own_typed ho e.symm
  rw [h2] at h
  injection h with h
  injection h with _ e2 _
  exact hne e2

set_option maxHeartbeats 1600000 in
theorem markLvs_stay (m0 : Nat) (hm0 : m0 ≤ 1048577) (lo hi g d : Nat) (cs : Array Value) (Q : List LvV) (w : World) (h : LvIn w lo hi g cs Q) (hhi : hi ≤ w.heap.size) (ht : totW Q ≤ 1048576) :
    Calls Try.prog 70 #[.slice (some ⟨g, 0, none⟩) Q.length d, .int .i64 m0] w fun e w' => e = .returned (.int .i64 ((m0 + totW Q : Nat) : Int)) ∧ (∃ cs', LvIn w' lo hi g cs' (mkL m0 Q)) ∧ InsideW lo hi w w' ∧ StayI w w' := by
  have H0 := Lib.hid h
  clear h
  have hQl : Q.length ≤ 1048576 := Nat.le_trans (totW_le Q) ht
  go_enter Try.func70, Try.ntmps70
  go_wp2
  go_loopw [1, 5] (fun k i wr => ∃ (n m : Nat) (cs' : Array Value) (R : List LvV), n ≤ Q.length ∧ i = .int .i64 n ∧ k = .int .i64 m ∧ LvIn wr lo hi g cs' R ∧ R.length = Q.length ∧ Hid (R.drop n = Q.drop n) ∧ Hid (R.take n = (mkL m0 Q).take n) ∧ Hid (m = m0 + totW (Q.take n)) ∧ m + totW (Q.drop n) = m0 + totW Q ∧ InsideW lo hi w wr ∧ Hid (StayI w wr)) (fun _ i _ => Q.length - (intOf i).toNat)
  case atStart => exact ⟨0, m0, cs, Q, Nat.zero_le _, rfl, rfl, H0.out, rfl, Lib.hid rfl, Lib.hid rfl, Lib.hid rfl, by rw [List.drop_zero], InsideW.refl _ _ _, Lib.hid (StayI.refl _)⟩
  case round =>
    obtain ⟨n, m, cs', R, hn, rfl, rfl, hin, hR, hD, hTk, hMm, hm, hI, HSt⟩ := hrel
    have HI := Lib.hid hI
    have HF := Lib.hid hin
    have HR := Lib.hid hR
    clear hI hin hR
    by_cases hlt : n < Q.length
    · obtain ⟨p, hp⟩ : ∃ p, R[n]? = some p := ⟨R[n]'(by rw [HR.out]; exact hlt), List.getElem?_eq_getElem _⟩
      have hpQ : Q[n]? = some p := by
        have e1 : (R.drop n)[0]? = some p := by rw [List.getElem?_drop]; exact hp
        rw [hD.out, List.getElem?_drop] at e1
        exact e1
      have htot := totW_at hpQ
      have htd := totW_drop_le Q n
      have HNew := Lib.hid (mkL_at Q m0 n p hpQ)
      rw [← hMm.out] at HNew
      have HTot := Lib.hid (totW_take hpQ)
      obtain ⟨c1, c2⟩ := HF.out.cells n p hp
      have y0 := (HF.out.box.cell (n * 2)).trans c1
      have z0 := HF.out.box.frozen (n * 2)
      have hgl := HF.out.box.lt
      have HK := Lib.hid (HF.out.kind hp ((m : Nat) : Int))
      have hx2 := (HK.out.box.cell (n * 2 + 1)).trans (HK.out.cells n _ (by rw [List.getElem?_set]; simp [HR.out, hlt]; rfl)).2
      have hs2 : hi ≤ (wr.setCell ⟨g, n * 2, none⟩ (.int .i64 (m : Int))).heap.size := by rw [World.size_setCell]; exact Nat.le_trans hhi HI.out.size
      have tl : decide ((n : Int) < (Q.length : Int)) = true := by simp; omega
      have HP := Lib.hid hp
      have hIs : InsideW lo hi wr (wr.setCell ⟨g, n * 2, none⟩ (.int .i64 (m : Int))) := by
        have hb := (Below.refl 0 wr).setCell (p := ⟨g, n * 2, none⟩) (Nat.zero_le _) (.int .i64 (m : Int))
        refine ⟨hb.os, hb.tape, hb.output, hb.size, fun j hj hc => Below.heap_setCell wr ⟨g, n * 2, none⟩ _ j fun e => ?_⟩
        have := HF.out.low
        have := HF.out.high
        simp only at e
        omega
      have HIs := Lib.hid (HI.out.trans hIs)
      have HSt1 := Lib.hid (HSt.out.trans (StayI.set_box HF.out.box (by decide) (n * 2) (.int .i64 (m : Int))))
      clear c1 c2 hp hpQ hIs
      go_wp2_with fail
      clear y0 z0 hx2
      generalize wr.setCell ⟨g, n * 2, none⟩ (.int .i64 (m : Int)) = w1 at *
      have hp2 : (R.set n { p with K := (m : Int) })[n]? = some { p with K := (m : Int) } := by
        rw [List.getElem?_set]
        simp [HR.out, hlt]
      have hown := (HK.out.own n _ hp2).1
      refine (markU64w p.A p.xs.length p.c lo ((m : Int) + 1) p.xs w1 hown (by omega) (by omega) (by omega)).mono ?_
      rintro e w2 ⟨rfl, ho2, hg2⟩
      have HF2 := Lib.hid (HK.out.bytes hs2 hp2 (ys := (List.range p.xs.length).map fun (j : Nat) => Value.int .u64 ((m : Int) + 1 + j)) (by simp) ho2 hg2)
      have hI2 : InsideW lo hi w1 w2 := ⟨hg2.os, hg2.tape, hg2.output, hg2.size, fun j hj hc => hg2.block j hj fun e => by
        have h1 := (own_kindW hown e.symm).1
        have h2 := (HK.out.own n _ hp2).2 j e.symm
        omega⟩
      have HI2 := Lib.hid (HIs.out.trans hI2)
      have HSt2 := Lib.hid (HSt1.out.trans (StayI.own (by decide) hown hg2))
      rw [List.set_set] at HF2
      have e5 : (m : Int) + 1 + (p.xs.length : Int) = ((m + 1 + p.xs.length : Nat) : Int) := by omega
      rw [e5]
      obtain ⟨m2, hm2⟩ : ∃ m2, m + 1 + p.xs.length = m2 := ⟨_, rfl⟩
      rw [hm2]
      have HD2 : Hid ((R.set n ⟨(m : Int), p.A, p.c, (List.range p.xs.length).map fun (j : Nat) => Value.int .u64 ((m : Int) + 1 + j)⟩).drop (n + 1) = Q.drop (n + 1)) := Lib.hid (by
        rw [List.drop_set_of_lt (by omega)]
        have := congrArg (List.drop 1) hD.out
        rw [List.drop_drop, List.drop_drop] at this
        exact this)
      have hm3 : m2 + totW (Q.drop (n + 1)) = m0 + totW Q := by omega
      have HTk2 : Hid ((R.set n ⟨(m : Int), p.A, p.c, (List.range p.xs.length).map fun (j : Nat) => Value.int .u64 ((m : Int) + 1 + j)⟩).take (n + 1) = (mkL m0 Q).take (n + 1)) := Lib.hid (by
        have hl : n < R.length := by rw [HR.out]; exact hlt
        rw [List.take_add_one, List.take_add_one, HNew.out, List.getElem?_set_self hl, List.take_set_of_le (Nat.le_refl n), hTk.out])
      have HMm2 : Hid (m2 = m0 + totW (Q.take (n + 1))) := Lib.hid (by have := HTot.out; have := hMm.out; omega)
      clear ho2 hg2 hI2 e5 hm2 hown hp2 htot hm hD hTk hMm HNew HTot
      go_wp2
      go_roundw
      case rel => exact ⟨n + 1, m2, cs'.setIfInBounds (n * 2) (.int .i64 (m : Int)), _, by omega, by go_num, rfl, HF2.out, by rw [List.length_set, HR.out], HD2, HTk2, HMm2, hm3, HI2.out, HSt2⟩
      case measure => simp [intOf]; omega
    · have hn2 : n = Q.length := by omega
      have hmm : m = m0 + totW Q := by
        rw [hn2, List.drop_length] at hm
        simp only [totW] at hm
        omega
      have HRR : Hid (R = mkL m0 Q) := Lib.hid (by
        have h1 := hTk.out
        rw [hn2, List.take_of_length_le (by rw [HR.out]; exact Nat.le_refl _), List.take_of_length_le (by rw [mkL_len]; exact Nat.le_refl _)] at h1
        exact h1)
      clear hTk hMm hD hm
      go_wp2
      go_ret
      refine ⟨by rw [hmm]; rfl, ⟨cs', ?_⟩, HI.out, HSt.out⟩
      rw [← HRR.out]
      exact HF.out

end Go.Proofs.Ytoehgcakfblblaa
