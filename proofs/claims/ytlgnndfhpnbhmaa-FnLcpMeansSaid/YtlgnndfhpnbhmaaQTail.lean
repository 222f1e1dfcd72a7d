/- A region that draws its order, whose operations read or call callees that may draw, all but a tail in one forced order at its end: the head walked once, in the text's order, then the tail, from whatever world the head leaves. Nothing of the program stands here. (The library has this for callees that leave the world as it was; its lemmas on the forced tail are used.) -/
import Derived.Test.YtlgnndfhpnbhmaaMem
import Derived.StillTail
import Derived.StillTailTactics
import Derived.Deep.Quiet
namespace Go.Proofs.Ytlgnndfhpnbhmaa
open Go.RowKit

section
variable {P : Program} {ops : Array Oper} {C : World → Prop}

/-- While f operations of the head are to come: whichever comes is of the head and quiet; then L. -/
def headQ (P : Program) (ops : Array Oper) (C : World → Prop) (n : Nat) (L : Array Bool → Act → Prop) : Nat → Array Bool → Act → Prop
  | 0, S, a => L S a
  | f + 1, S, a => Region.ready .any ops S ≠ [] ∧ ∀ i ∈ Region.ready .any ops S, i < n ∧ qOp P ops C i (headQ P ops C n L f (S.setIfInBounds i true)) a

theorem headQ_any {n g : Nat} {L : Array Bool → Act → Prop} {Q : Exit → Act → World → Prop} (hL : ∀ S a w, C w → L S a → wpAny P .any ops Q g S a w) (f : Nat) :
    ∀ (S : Array Bool) (a : Act) (w : World), C w → headQ P ops C n L f S a → wpAny P .any ops Q (f + g) S a w := by
  induction f with
  | zero => intro S a w hw h; rw [Nat.zero_add]; exact hL S a w hw h
  | succ f ih =>
    intro S a w hw h
    have e : f + 1 + g = (f + g) + 1 := by omega
    rw [e]
    refine ⟨fun h0 => (h.1 h0).elim, fun i hi => ?_⟩
    exact wpOp_of_qOp hw (fun a' w' hw' hk => ih _ a' w' hw' hk) (h.2 i hi).2

/-- What may come and commutes with whatever else may come can be taken first. -/
theorem headQ_first {n i : Nat} {oi : Oper} {v : Value} {L : Array Bool → Act → Prop} (hi : ops[i]? = some oi) (hsel : Region.noSelect ops = true) (hs : Region.sinkB .any ops n = true) (hc : Region.chainB .any ops n = true) (hn : n < ops.size) (hin : i < n)
    (hL : ∀ S a, L S a → ∀ j ∈ Region.ready .any ops S, n ≤ j) (f : Nat) :
    ∀ (S : Array Bool) (a : Act), HeadInv .any ops n S → (∀ j oj, ops[j]? = some oj → j ≠ i → S.getD j true = false → (∀ e ∈ oj.after, Region.binds .any e = true → e.on ≠ i) → oi.apart ops oj = true) →
      i ∈ Region.ready .any ops S → YieldsIn P ops C oi v a → headQ P ops C n L f (S.setIfInBounds i true) (a.put oi.dst v) → headQ P ops C n L (f + 1) S a := by
  have nosel := Region.noSelect_spec hsel
  induction f with
  | zero =>
    intro S a inv _ hr hy H
    refine ⟨fun h0 => (by rw [h0] at hr; cases hr), fun j hj => ?_⟩
    have hjn : j < n := Classical.byContradiction fun hge => tail_waits hs hc hn inv _ i rfl hin (mem_ready.1 hr).1 j (by omega) hj
    by_cases e : j = i
    · subst e
      exact ⟨hjn, hy.qOp hi H⟩
    · have := hL _ _ H j (ready_mono hj e)
      omega
  | succ f ih =>
    intro S a inv free hr hy H
    refine ⟨fun h0 => (by rw [h0] at hr; cases hr), fun j hj => ?_⟩
    have hjn : j < n := Classical.byContradiction fun hge => tail_waits hs hc hn inv _ i rfl hin (mem_ready.1 hr).1 j (by omega) hj
    by_cases e : j = i
    · subst e
      exact ⟨hjn, hy.qOp hi H⟩
    · obtain ⟨hju, oj, hoj, hdone⟩ := mem_ready.1 hj
      have nowait : ∀ x ∈ oj.after, Region.binds .any x = true → x.on ≠ i := fun x hx hb hxi => by
        have h1 := hdone x hx hb
        rw [hxi, getD_both (mem_ready.1 hr).1] at h1
        cases h1
      have swapped := qOp_put hoj (free j oj hoj e hju nowait) (fun cs b => nosel i oi cs b hi) (fun cs b => nosel j oj cs b hoj) hy (H.2 j (ready_mono hj e)).2
      refine ⟨hjn, qOp_mono (fun a' h3 => ih (S.setIfInBounds j true) a' (inv.set hj hjn) (fun k ok hk hki hku hno => free k ok hk hki ?_ hno) (ready_mono hr (Ne.symm e)) h3.1 ?_) swapped⟩
      · by_cases hjk : j = k
        · subst hjk; exact hju
        · rwa [getD_set_ne true hjk] at hku
      · rw [Array.setIfInBounds_comm _ _ e]
        exact h3.2

theorem headQ_lex {n g : Nat} {Lq : Act → Prop} (hsel : Region.noSelect ops = true) (hs : Region.sinkB .any ops n = true) (hc : Region.chainB .any ops n = true) (hn : n < ops.size) (l : List Oper) :
    ∀ (k : Nat) (S : Array Bool) (a : Act), (∀ j, j < l.length → l[j]? = ops[k + j]?) → k + l.length = n → HeadInv .any ops n S → Region.lexHead .any ops g l.length k S = true → wpQuiet P ops C Lq l a →
      headQ P ops C n (fun S' a' => Region.seqB .any ops g n S' = true ∧ Lq a') l.length S a := by
  induction l with
  | nil =>
    intro k S a _ hk _ hB h
    obtain rfl : k = n := by simpa using hk
    exact ⟨hB, h⟩
  | cons o l ih =>
    intro k S a hl hk inv hB h
    simp only [List.length_cons] at hk
    have h0 : ops[k]? = some o := (hl 0 (by simp)).symm
    simp only [List.length_cons, Region.lexHead, Bool.and_eq_true] at hB
    have hr : k ∈ Region.ready .any ops S := by simpa using hB.1.1
    have hq : qOp P ops C k (wpQuiet P ops C Lq l) a := by
      unfold qOp
      simp only [h0]
      exact h
    obtain ⟨v, hy, hK⟩ := yieldsIn_of_qOp h0 hq
    refine headQ_first h0 hsel hs hc hn (by omega) (fun S' a' hS => seqB_ready hS.1) l.length S a inv (Region.free_spec h0 hB.1.2) hr hy ?_
    refine ih (k + 1) _ _ (fun j hj => ?_) (by omega) (inv.set hr (by omega)) hB.2 hK
    have := hl (j + 1) (by simp; omega)
    rw [show k + 1 + j = k + (j + 1) by omega]
    simpa using this

/-- The region: its head in the text's order, quiet; its tail from whatever world that has drawn some more. -/
theorem wp_region_quiet_tail {id : Nat} {Q : Exit → Act → World → Prop} {a : Act} {w : World} {l : List Oper} (n : Nat) (hm : P.follows .mixedOrders = true) (hB : Region.lexTailB .any l.toArray n = true)
    (h : wpQuiet P l.toArray (fun w' => ∃ q, w' = w.drewN q) (fun a' => ∀ w', (∃ q, w' = w.drewN q) → wpList P l.toArray Q (l.drop n) a' w') (l.take n) a) : (Code.region id l.toArray true).wp P Q a w := by
  simp only [Region.lexTailB, Bool.and_eq_true, decide_eq_true_eq] at hB
  obtain ⟨⟨⟨⟨hsel, hn⟩, hs⟩, hc⟩, hlex⟩ := hB
  have hn' : n < l.length := by simpa using hn
  have e1 : (l.take n).length = n := by simp; omega
  have e2 : (l.drop n).length = l.toArray.size - n := by simp
  have inv0 : HeadInv .any l.toArray n (Array.replicate l.toArray.size false) :=
    ⟨by simp, fun j oj _ hl => (by rw [getD_replicate_false] at hl; cases hl), fun t _ ht => getD_in (by simpa using ht) (getD_replicate_false _ _)⟩
  have H := headQ_lex (g := l.toArray.size - n) hsel hs hc hn (l.take n) 0 _ a (fun j hj => by
    have : j < n := by omega
    simp [this]) (by omega) inv0 (by rw [e1]; exact hlex) h
  refine wp_region_any hm ?_
  have A := headQ_any (Q := Q) (g := l.toArray.size - n) (fun S a' w' hw' hS => by
    have := wpAny_of_seq (md := .any) (Q' := Q) (l.drop n) n S a' w' (fun j => by simp [List.getElem?_drop]) (by rw [e2]; exact hS.1) (hS.2 w' hw')
    rwa [e2] at this) _ _ _ { w with drawn := w.drawn + 1 } ⟨1, rfl⟩ H
  rwa [e1, show n + (l.toArray.size - n) = l.toArray.size by omega] at A
end

end Go.Proofs.Ytlgnndfhpnbhmaa
