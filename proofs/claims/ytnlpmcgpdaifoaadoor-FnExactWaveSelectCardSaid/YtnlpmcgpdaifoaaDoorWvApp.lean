/- One value appended to a row of the call's own, and where the row then lies: where it was, or in a block that is new. Nothing of the program stands here. -/
import Derived.Test.YtnlpmcgpdaifoaaDoorScene
namespace Go.Proofs.YtnlpmcgpdaifoaaDoor
open Go.RowKit

/-- Where an appended row lies. -/
def Moved (w : World) (v v' : Value) : Prop := v'.ownBlock = v.ownBlock ∨ ∃ k, v'.ownBlock = some k ∧ w.heap.size ≤ k

section
variable {P : Program}
theorem wpList_push_own {ops : Array Oper} {rest : List Oper} {o : Oper} {a : Act} {Q : Exit → Act → World → Prop} (hgd : o.guard = none) (s x : Operand) (t e : TypeId)
    (ho : o.op = .call { callee := .builtin .append, args := #[s, x], argTypes := #[t, t] }) (ht : P.underlying t = some (.slice e)) {z : Value} {bytes : Nat} (hinfo : (P.info? e).map (fun i => (i.zero, i.size, i.bytes)) = some (some z, 1, bytes)) (hzs : z.cells.size = 1) (hby : bytes ≤ 1000)
    (base : Nat) (W : World) (v : Value) (n : Nat) (xs : List Value) (hs : a.eval s = v) (hown : W.ownsRow base e 1 v n xs) (y : Value) (hy : y.oneCell' = true) (hx : a.eval x = .slice (some ⟨W.heap.size, 0, none⟩) 1 1) (hb : base ≤ W.heap.size) (hl : n ≤ 1000000)
    (h : ∀ A c w', w'.ownsRow base e 1 (.slice A (n + 1) c) (n + 1) (xs ++ [y]) → W.grownBy w' v.ownBlock → Moved W v (.slice A (n + 1) c) → wpList P ops Q rest (a.put o.dst (.slice A (n + 1) c)) w') :
    wpList P ops Q (o :: rest) a (W.alloc (.cells #[y] e)) := by
  refine wpList_plain hgd fun _ hK => ?_
  obtain ⟨i0, hi, hz⟩ := Option.map_eq_some_iff.1 hinfo
  simp only [Prod.mk.injEq] at hz
  obtain ⟨hz0, hz1, hz2⟩ := hz
  have hcell : ∀ j u, [y][j]? = some u → (W.alloc (.cells #[y] e)).cell? ((⟨W.heap.size, 0, none⟩ : Addr).add j) = some u := by
    intro j u hu
    match j with
    | 0 =>
      obtain rfl : y = u := by simpa using hu
      have hadd : (⟨W.heap.size, 0, none⟩ : Addr).add 0 = ⟨W.heap.size, 0, none⟩ := by unfold Addr.add; split <;> simp_all
      rw [hadd]
      exact (Box.made W e #[y]).cell 0
    | j + 1 => simp at hu
  obtain ⟨v', w', hr, h1, h2, _, h4⟩ := run_append_own_at (P := P) (W.alloc (.cells #[y] e)) base t o.type e i0 z 1 bytes ht hi hz0 hz1 hz2 hzs (by decide) v n xs (hown.alloc _) ⟨W.heap.size, 0, none⟩ 1 1 [y] (by simp) hcell
    (by intro u hu; obtain rfl : u = y := by simpa using hu
        exact hy) (by unfold maxLen; omega) (Nat.le_trans (Nat.mul_le_mul (show n + 1 ≤ 1000001 by omega) hby) (by decide)) (by rw [World.size_alloc]; omega)
  obtain ⟨A, c, rfl⟩ := own_slice h1
  unfold Oper.wp execOp
  simp only [ho, resolve, invoke, builtin, Sem.run_bind, Sem.run_pure, Result.andThen_ok, List.map_toArray, List.map_cons, List.map_nil, hs, hx, hr]
  refine hK _ _ (h A c w' h1 ((World.grownBy_alloc W _ _).trans h2) ?_)
  rcases h4 with h4 | h4
  · exact .inl h4
  · refine .inr ⟨_, h4, ?_⟩
    rw [World.size_alloc]
    omega
end

/-- The block of an owned row holds its type. -/
theorem own_typed {w : World} {base n size : Nat} {e : TypeId} {v : Value} {xs : List Value} (h : w.ownsRow base e size v n xs) {k : Nat} (hk : v.ownBlock = some k) : base ≤ k ∧ k < w.heap.size ∧ ∃ cur, w.heap[k]? = some (.cells cur e (0, 0)) := by
  rcases h.2 with ⟨h2, _⟩ | ⟨g, cap, cur, hv, hg, hh, r⟩
  · rw [h2] at hk
    cases hk
  · rw [hv] at hk
    injection hk with hk
    subst hk
    exact ⟨hg, (Array.getElem?_eq_some_iff.1 hh).1, cur, hh⟩
theorem own_types_apart {w : World} {b b' n n' s s' : Nat} {e e' : TypeId} {v v' : Value} {xs xs' : List Value} (hne : e ≠ e') (h : w.ownsRow b e s v n xs) (h' : w.ownsRow b' e' s' v' n' xs') {k : Nat} (hk : v.ownBlock = some k) : v'.ownBlock ≠ some k := by
  intro hk'
  obtain ⟨_, _, cur, h1⟩ := own_typed h hk
  obtain ⟨_, _, cur', h2⟩ := own_typed h' hk'
  rw [h1] at h2
  injection h2 with h2
  injection h2 with _ h2 _
  exact hne h2
theorem own_turn4 {w w' : World} {b : Nat} {e : TypeId} {size n : Nat} {v : Value} {xs : List Value} (h : w.ownsRow b e size v n xs) (hk : ∀ k, v.ownBlock = some k → w'.heap[k]? = w.heap[k]?) : w'.ownsRow b e size v n xs := by
  obtain ⟨h1, h2⟩ := h
  refine ⟨h1, ?_⟩
  rcases h2 with h2 | ⟨g, cap, cur, hv, hg, hh, r⟩
  · exact .inl h2
  · exact .inr ⟨g, cap, cur, hv, hg, (hk g (by rw [hv]; rfl)).trans hh, r⟩

/-- A list of rows of numbers (lev), and a row of numbers that grows (out). -/
structure LL (ti tl : TypeId) (w0 w : World) (vo : Value) (xo : List Int) (vl : Value) (Q : List Value) (Bs : List (List Int)) : Prop where
  below : Below w0.heap.size w0 w
  out : w.ownsRow w0.heap.size ti 1 vo xo.length (xo.map I)
  lev : w.ownsRow w0.heap.size tl 1 vl Q.length Q
  len : Q.length = Bs.length
  rows : ∀ (j : Nat) (q : Value) (B : List Int), Q[j]? = some q → Bs[j]? = some B → (∃ A c, q = .slice A B.length c) ∧ w.ownsRow w0.heap.size ti 1 q B.length (B.map I)
  apart : ∀ (j : Nat) (q : Value) (k : Nat), Q[j]? = some q → q.ownBlock = some k → vo.ownBlock ≠ some k
section
variable {ti tl : TypeId} {w0 w w' : World} {vo vl : Value} {xo : List Int} {Q : List Value} {Bs : List (List Int)}
theorem LL.more (h : LL ti tl w0 w vo xo vl Q Bs) (hb : Below w.heap.size w w') : LL ti tl w0 w' vo xo vl Q Bs :=
  ⟨below_then h.below hb, own_below h.out hb (Nat.le_refl _), own_below h.lev hb (Nat.le_refl _), h.len, fun j q B hq hB => ⟨(h.rows j q B hq hB).1, own_below (h.rows j q B hq hB).2 hb (Nat.le_refl _)⟩, h.apart⟩
/-- A new row of numbers is put at the end of the list. -/
theorem LL.add (hne : ti ≠ tl) (h : LL ti tl w0 w vo xo vl Q Bs) {A : Option Addr} {c base : Nat} {B : List Int} {vl' : Value} (hB : w.ownsRow base ti 1 (.slice A B.length c) B.length (B.map I)) (hbase : w0.heap.size ≤ base) (hnew : ∀ k, vo.ownBlock = some k → k < base)
    (ho : w'.ownsRow w0.heap.size tl 1 vl' (Q.length + 1) (Q ++ [.slice A B.length c])) (hg : w.grownBy w' vl.ownBlock) : LL ti tl w0 w' vo xo vl' (Q ++ [.slice A B.length c]) (Bs ++ [B]) := by
  have keep : ∀ {v : Value} {n b : Nat} {xs : List Value}, w.ownsRow b ti 1 v n xs → w'.ownsRow b ti 1 v n xs := fun {v n b xs} hv => own_turn4 hv fun k hk => hg.block k (own_typed hv hk).2.1 fun e => own_types_apart hne hv h.lev hk e.symm
  refine ⟨h.below.trans (grown_below h.lev hg (Nat.le_refl _) h.below.size), keep h.out, by rw [List.length_append]; exact ho, by rw [List.length_append, List.length_append, h.len]; rfl, ?_, ?_⟩
  · intro j q B' hq hB'
    rcases Nat.lt_or_ge j Q.length with hj | hj
    · rw [List.getElem?_append_left hj] at hq
      rw [List.getElem?_append_left (by rw [← h.len]; exact hj)] at hB'
      exact ⟨(h.rows j q B' hq hB').1, keep (h.rows j q B' hq hB').2⟩
    · rw [List.getElem?_append_right hj] at hq
      rw [List.getElem?_append_right (by rw [← h.len]; exact hj)] at hB'
      have hj0 : j - Q.length = 0 := by
        rcases Nat.eq_zero_or_pos (j - Q.length) with h0 | h0
        · exact h0
        · rw [List.getElem?_eq_none (by simp; omega)] at hq
          cases hq
      rw [hj0] at hq
      rw [← h.len, hj0] at hB'
      obtain rfl : Value.slice A B.length c = q := by simpa using hq
      obtain rfl : B = B' := by simpa using hB'
      exact ⟨⟨A, c, rfl⟩, keep (own_mono hB hbase)⟩
  · intro j q k hq hk hvo
    rcases Nat.lt_or_ge j Q.length with hj | hj
    · rw [List.getElem?_append_left hj] at hq
      exact h.apart j q k hq hk hvo
    · rw [List.getElem?_append_right hj] at hq
      have hj0 : j - Q.length = 0 := by
        rcases Nat.eq_zero_or_pos (j - Q.length) with h0 | h0
        · exact h0
        · rw [List.getElem?_eq_none (by simp; omega)] at hq
          cases hq
      rw [hj0] at hq
      obtain rfl : Value.slice A B.length c = q := by simpa using hq
      have h1 := hnew k hvo
      have h2 := (hB.lt k hk).1
      omega
/-- A number more. -/
theorem LL.push (hne : ti ≠ tl) (h : LL ti tl w0 w vo xo vl Q Bs) {vo' : Value} {y : Int} (ho : w'.ownsRow w0.heap.size ti 1 vo' (xo.length + 1) (xo.map I ++ [I y])) (hg : w.grownBy w' vo.ownBlock) (hm : Moved w vo vo') : LL ti tl w0 w' vo' (xo ++ [y]) vl Q Bs := by
  refine ⟨h.below.trans (grown_below h.out hg (Nat.le_refl _) h.below.size), by rw [List.length_append, List.map_append]; exact ho, own_turn4 h.lev fun k hk => hg.block k (own_typed h.lev hk).2.1 fun e => own_types_apart (Ne.symm hne) h.lev h.out hk e.symm, h.len, ?_, ?_⟩
  · intro j q B hq hB
    obtain ⟨h1, h2⟩ := h.rows j q B hq hB
    exact ⟨h1, own_turn4 h2 fun k hk => hg.block k (own_typed h2 hk).2.1 fun e => h.apart j q k hq hk e.symm⟩
  · intro j q k hq hk hvo
    have hj : j < Bs.length := by rw [← h.len]; exact (List.getElem?_eq_some_iff.1 hq).1
    obtain ⟨_, h2⟩ := h.rows j q _ hq (List.getElem?_eq_getElem hj)
    rcases hm with hm | ⟨k', hm, hk'⟩
    · rw [hm] at hvo
      exact h.apart j q k hq hk hvo
    · rw [hm] at hvo
      have e := Option.some.inj hvo
      have := (own_typed h2 hk).2.1
      omega
end

end Go.Proofs.YtnlpmcgpdaifoaaDoor
