/- Numbers appended to a row of the call's own, whatever they lie in. -/
import Derived.Test.YtoehgcakfblblaaAppB
import Derived.Test.YtoehgcakfblblaaNewI
namespace Go.Proofs.Ytoehgcakfblblaa
open Go.RowKit
set_option maxRecDepth 100000

theorem intsI_oneCell (M : List Int) : ∀ y ∈ M.map I, y.oneCell' = true := by
  intro y hy
  obtain ⟨x, _, rfl⟩ := List.mem_map.1 hy
  rfl

theorem lies_cellsI {w : World} {b o : Nat} {M : List Int} (h : Lies w I (some ⟨b, o, none⟩) M) : ∀ j u, (M.map I)[j]? = some u → w.cell? ((⟨b, o, none⟩ : Addr).add j) = some u := by
  intro j u hu
  rw [List.getElem?_map] at hu
  obtain ⟨x, hx, rfl⟩ := Option.map_eq_some_iff.1 hu
  obtain ⟨b', o', e, _, hc⟩ := h j x hx
  injection e with e
  injection e with e1 e2
  subst e1 e2
  have hadd : (⟨b, o, none⟩ : Addr).add j = ⟨b, o + j, none⟩ := by unfold Addr.add; split <;> simp_all
  rw [hadd]
  exact hc

section
variable (w : World)
theorem run_append_ints (ty : TypeId) (base : Nat) (v : Value) (D : List Int) (hown : w.ownsRow base 3 1 v D.length (D.map I)) (B : Option Addr) (c : Nat) (M : List Int) (hM : Lies w I B M) (hB : Tidy B c)
    (hlen : D.length + M.length ≤ 1073741824) (hbase : base ≤ w.heap.size) :
    ∃ A' c' w', (Builtin.append_ #[24, 24] ty #[v, .slice B M.length c]).run Try.prog w = .ok (.slice A' (D ++ M).length c') w' ∧
      w'.ownsRow base 3 1 (.slice A' (D ++ M).length c') (D ++ M).length ((D ++ M).map I) ∧ w.grownBy w' v.ownBlock := by
  obtain ⟨i0, hi, hz0, hz1, hz2⟩ := info_parts Try.infoInt
  rcases hB with ⟨rfl, rfl⟩ | ⟨b, o, rfl⟩
  · have e0 : M = [] := by
      cases M with
      | nil => rfl
      | cons x r => obtain ⟨b, o, e, _⟩ := hM 0 x rfl; cases e
    subst e0
    obtain ⟨A, c, rfl⟩ := own_slice hown
    refine ⟨A, c, w, ?_, ?_, World.grownBy.refl w _⟩
    · rw [List.append_nil]
      exact run_append_owned_none (P := Try.prog) w base 24 ty 3 i0 1 Try.underlying24 hi _ _ _ hown
    · rw [List.append_nil]
      exact hown
  · obtain ⟨v', w', hr, h1, h2, _⟩ := run_append_own_at (P := Try.prog) w base 24 ty 3 i0 (.int .i64 0) 1 8 Try.underlying24 hi hz0 hz1 hz2 rfl (by decide) v D.length (D.map I) hown ⟨b, o, none⟩ M.length c (M.map I) (by simp) (lies_cellsI hM) (intsI_oneCell M) (by unfold maxLen; omega) (by omega) hbase
    rw [← List.map_append, ← List.length_append] at h1
    obtain ⟨A, c', rfl⟩ := own_slice h1
    exact ⟨A, c', w', hr, h1, h2⟩

theorem wpList_append_ints {ops : Array Oper} {rest : List Oper} {o : Oper} {a : Act} {Q : Exit → Act → World → Prop} (hgd : o.guard = none) (s x : Operand)
    (ho : o.op = .call { callee := .builtin .append, args := #[s, x], argTypes := #[24, 24] })
    (base : Nat) (v : Value) (D : List Int) (hs : a.eval s = v) (hown : w.ownsRow base 3 1 v D.length (D.map I)) (B : Option Addr) (c : Nat) (M : List Int) (hx : a.eval x = .slice B M.length c) (hM : Lies w I B M) (hB : Tidy B c) (E : List Int) (hE : D ++ M = E)
    (hlen : D.length + M.length ≤ 1073741824) (hbase : base ≤ w.heap.size)
    (h : ∀ A' c' w', w'.ownsRow base 3 1 (.slice A' E.length c') E.length (E.map I) → w.grownBy w' v.ownBlock → wpList Try.prog ops Q rest (a.put o.dst (.slice A' E.length c')) w') : wpList Try.prog ops Q (o :: rest) a w := by
  refine wpList_plain hgd fun _ hK => ?_
  subst hE
  obtain ⟨A', c', w', hr, h2, h3⟩ := run_append_ints w o.type base v D hown B c M hM hB hlen hbase
  unfold Oper.wp execOp
  simp only [ho, resolve, invoke, builtin, Sem.run_bind, Sem.run_pure, Result.andThen_ok, List.map_toArray, List.map_cons, List.map_nil, hs, hx, hr]
  exact hK _ _ (h A' c' w' h2 h3)

theorem step_append_ints {ops : Array Oper} {o : Oper} {a : Act} {K : Act → World → Prop} {Q : Exit → Act → World → Prop} {Z : Prop} (hgd : o.guard = none) (s x : Operand)
    (ho : o.op = .call { callee := .builtin .append, args := #[s, x], argTypes := #[24, 24] })
    (base : Nat) (v : Value) (D : List Int) (hs : a.eval s = v) (hown : w.ownsRow base 3 1 v D.length (D.map I)) (B : Option Addr) (c : Nat) (M : List Int) (hx : a.eval x = .slice B M.length c) (hM : Lies w I B M) (hB : Tidy B c) (E : List Int) (hE : D ++ M = E)
    (hlen : D.length + M.length ≤ 1073741824) (hbase : base ≤ w.heap.size)
    (h : ∀ A' c' w', w'.ownsRow base 3 1 (.slice A' E.length c') E.length (E.map I) → w.grownBy w' v.ownBlock → K (a.put o.dst (.slice A' E.length c')) w') :
    if Region.wanted o (yielded ops a.tmps) = true then Oper.wp Try.prog o a w K Q else Z := by
  subst hE
  obtain ⟨A', c', w', hr, h2, h3⟩ := run_append_ints w o.type base v D hown B c M hM hB hlen hbase
  rw [if_pos (by simp [Region.wanted, hgd])]
  unfold Oper.wp execOp
  simp only [ho, resolve, invoke, builtin, Sem.run_bind, Sem.run_pure, Result.andThen_ok, List.map_toArray, List.map_cons, List.map_nil, hs, hx, hr]
  exact h A' c' w' h2 h3
end


/-- One number appended, out of a literal's block. -/
theorem wpList_pushI {ops : Array Oper} {rest : List Oper} {o : Oper} {a : Act} {Q : Exit → Act → World → Prop} (hgd : o.guard = none) (s x : Operand)
    (ho : o.op = .call { callee := .builtin .append, args := #[s, x], argTypes := #[24, 24] }) (base : Nat) (W : World) (v : Value) (D : List Int) (hs : a.eval s = v)
    (hown : W.ownsRow base 3 1 v D.length (D.map I)) (y : Int) (hx : a.eval x = .slice (some ⟨W.heap.size, 0, none⟩) 1 1) (hb : base ≤ W.heap.size) (hl : D.length ≤ 1000000) (E : List Int) (hE : D ++ [y] = E)
    (h : ∀ A c w', w'.ownsRow base 3 1 (.slice A E.length c) E.length (E.map I) → W.grownBy w' v.ownBlock → wpList Try.prog ops Q rest (a.put o.dst (.slice A E.length c)) w') :
    wpList Try.prog ops Q (o :: rest) a (W.alloc (Obj.cells #[.int .i64 y] 3)) := by
  subst hE
  refine wpList_append_ints _ hgd s x ho base v D hs (hown.alloc _) (some ⟨W.heap.size, 0, none⟩) 1 [y] hx ?_ (.inr ⟨_, _, rfl⟩) _ rfl (by simp; omega) (by simp; omega) fun A c w' h1 h2 => h A c w' h1 ((World.grownBy_alloc W _ _).trans h2)
  intro i z hz
  match i with
  | 0 =>
    obtain rfl : y = z := by simpa using hz
    exact ⟨_, _, rfl, by simp, cell_one_new _ _ _ 0 _ rfl⟩
  | i + 1 => simp at hz

/-- The same as a step of a region that draws its order. -/
theorem step_push1 {ops : Array Oper} {o : Oper} {a : Act} {K : Act → World → Prop} {Q : Exit → Act → World → Prop} {Z : Prop} (hgd : o.guard = none) (s x : Operand)
    (ho : o.op = .call { callee := .builtin .append, args := #[s, x], argTypes := #[24, 24] }) (base : Nat) (W : World) (v : Value) (D : List Int) (hs : a.eval s = v)
    (hown : W.ownsRow base 3 1 v D.length (D.map I)) (y : Int) (hx : a.eval x = .slice (some ⟨W.heap.size, 0, none⟩) 1 1) (hb : base ≤ W.heap.size) (hl : D.length ≤ 1000000) (E : List Int) (hE : D ++ [y] = E)
    (h : ∀ A c w', w'.ownsRow base 3 1 (.slice A E.length c) E.length (E.map I) → W.grownBy w' v.ownBlock → K (a.put o.dst (.slice A E.length c)) w') :
    if Region.wanted o (yielded ops a.tmps) = true then Oper.wp Try.prog o a (W.alloc (Obj.cells #[.int .i64 y] 3)) K Q else Z := by
  subst hE
  refine step_append_ints _ hgd s x ho base v D hs (hown.alloc _) (some ⟨W.heap.size, 0, none⟩) 1 [y] hx ?_ (.inr ⟨_, _, rfl⟩) _ rfl (by simp; omega) (by simp; omega) fun A c w' h1 h2 => h A c w' h1 ((World.grownBy_alloc W _ _).trans h2)
  intro i z hz
  match i with
  | 0 =>
    obtain rfl : y = z := by simpa using hz
    exact ⟨_, _, rfl, by simp, cell_one_new _ _ _ 0 _ rfl⟩
  | i + 1 => simp at hz

end Go.Proofs.Ytoehgcakfblblaa
