import Derived.Test.YtoehgcakfblblaaCrcMath
import Derived.Test.YtoehgcakfblblaaMem3
import Derived.Test.YtoehgcakfblblaaNewI
/- Bytes appended to a row of the call's own, whatever they lie in; the four bytes of a number. -/
namespace Go.Proofs.Ytoehgcakfblblaa
open Go.RowKit
set_option maxRecDepth 100000

/-- A slice that is nil has no room; one that is not has an address in a plain block. -/
def Tidy (A : Option Addr) (c : Nat) : Prop := (A = none ∧ c = 0) ∨ ∃ b o, A = some ⟨b, o, none⟩
theorem own_tidy {w : World} {base n c : Nat} {e : TypeId} {A : Option Addr} {xs : List Value} (h : w.ownsRow base e 1 (.slice A n c) n xs) : Tidy A c := by
  rcases h.2 with ⟨h, _⟩ | ⟨g, cap, cur, hv, _⟩
  · injection h with h1 _ h2
    exact .inl ⟨h1, h2⟩
  · injection hv with h1
    exact .inr ⟨_, _, h1⟩
theorem bytes_oneCell (M : List Nat) : ∀ y ∈ M.map B8, y.oneCell' = true := by
  intro y hy
  obtain ⟨x, _, rfl⟩ := List.mem_map.1 hy
  rfl

theorem lies_cells {w : World} {b o : Nat} {M : List Nat} (h : Lies w B8 (some ⟨b, o, none⟩) M) : ∀ j u, (M.map B8)[j]? = some u → w.cell? ((⟨b, o, none⟩ : Addr).add j) = some u := by
  intro j u hu
  rw [List.getElem?_map] at hu
  obtain ⟨x, hx, rfl⟩ := Option.map_eq_some_iff.1 hu
  obtain ⟨b', o', e, _, hc⟩ := h j x hx
  injection e with e
  injection e with e1 e2
  subst e1 e2
  have hadd : (⟨b, o, none⟩ : Addr).add j = ⟨b, o + j, none⟩ := by unfold Addr.add; split <;> simp_all
  rw [hadd]
  exact hc

section
variable (w : World)
theorem run_append_bytes (ty : TypeId) (base : Nat) (v : Value) (D : List Nat) (hown : w.ownsRow base 5 1 v D.length (D.map B8)) (B : Option Addr) (c : Nat) (M : List Nat) (hM : Lies w B8 B M) (hB : Tidy B c)
    (hlen : D.length + M.length ≤ 1073741824) (hbase : base ≤ w.heap.size) :
    ∃ A' c' w', (Builtin.append_ #[22, 22] ty #[v, .slice B M.length c]).run Try.prog w = .ok (.slice A' (D ++ M).length c') w' ∧
      w'.ownsRow base 5 1 (.slice A' (D ++ M).length c') (D ++ M).length ((D ++ M).map B8) ∧ w.grownBy w' v.ownBlock := by
  obtain ⟨i0, hi, hz0, hz1, hz2⟩ := info_parts Try.infoU8
  rcases hB with ⟨rfl, rfl⟩ | ⟨b, o, rfl⟩
  · have e0 : M = [] := by
      cases M with
      | nil => rfl
      | cons x r => obtain ⟨b, o, e, _⟩ := hM 0 x rfl; cases e
    subst e0
    obtain ⟨A, c, rfl⟩ := own_slice hown
    refine ⟨A, c, w, ?_, ?_, World.grownBy.refl w _⟩
    · rw [List.append_nil]
      exact run_append_owned_none (P := Try.prog) w base 22 ty 5 i0 1 Try.underlying22 hi _ _ _ hown
    · rw [List.append_nil]
      exact hown
  · obtain ⟨v', w', hr, h1, h2, _⟩ := run_append_own_at (P := Try.prog) w base 22 ty 5 i0 (.int .u8 0) 1 1 Try.underlying22 hi hz0 hz1 hz2 rfl (by decide) v D.length (D.map B8) hown ⟨b, o, none⟩ M.length c (M.map B8) (by simp) (lies_cells hM) (bytes_oneCell M) (by unfold maxLen; omega) (by omega) hbase
    rw [← List.map_append, ← List.length_append] at h1
    obtain ⟨A, c', rfl⟩ := own_slice h1
    exact ⟨A, c', w', hr, h1, h2⟩

theorem wpList_append_bytes {ops : Array Oper} {rest : List Oper} {o : Oper} {a : Act} {Q : Exit → Act → World → Prop} (hgd : o.guard = none) (s x : Operand)
    (ho : o.op = .call { callee := .builtin .append, args := #[s, x], argTypes := #[22, 22] })
    (base : Nat) (v : Value) (D : List Nat) (hs : a.eval s = v) (hown : w.ownsRow base 5 1 v D.length (D.map B8)) (B : Option Addr) (c : Nat) (M : List Nat) (hx : a.eval x = .slice B M.length c) (hM : Lies w B8 B M) (hB : Tidy B c) (E : List Nat) (hE : D ++ M = E)
    (hlen : D.length + M.length ≤ 1073741824) (hbase : base ≤ w.heap.size)
    (h : ∀ A' c' w', w'.ownsRow base 5 1 (.slice A' E.length c') E.length (E.map B8) → w.grownBy w' v.ownBlock → wpList Try.prog ops Q rest (a.put o.dst (.slice A' E.length c')) w') : wpList Try.prog ops Q (o :: rest) a w := by
  refine wpList_plain hgd fun _ hK => ?_
  subst hE
  obtain ⟨A', c', w', hr, h2, h3⟩ := run_append_bytes w o.type base v D hown B c M hM hB hlen hbase
  unfold Oper.wp execOp
  simp only [ho, resolve, invoke, builtin, Sem.run_bind, Sem.run_pure, Result.andThen_ok, List.map_toArray, List.map_cons, List.map_nil, hs, hx, hr]
  exact hK _ _ (h A' c' w' h2 h3)

theorem step_append_bytes {ops : Array Oper} {o : Oper} {a : Act} {K : Act → World → Prop} {Q : Exit → Act → World → Prop} {Z : Prop} (hgd : o.guard = none) (s x : Operand)
    (ho : o.op = .call { callee := .builtin .append, args := #[s, x], argTypes := #[22, 22] })
    (base : Nat) (v : Value) (D : List Nat) (hs : a.eval s = v) (hown : w.ownsRow base 5 1 v D.length (D.map B8)) (B : Option Addr) (c : Nat) (M : List Nat) (hx : a.eval x = .slice B M.length c) (hM : Lies w B8 B M) (hB : Tidy B c) (E : List Nat) (hE : D ++ M = E)
    (hlen : D.length + M.length ≤ 1073741824) (hbase : base ≤ w.heap.size)
    (h : ∀ A' c' w', w'.ownsRow base 5 1 (.slice A' E.length c') E.length (E.map B8) → w.grownBy w' v.ownBlock → K (a.put o.dst (.slice A' E.length c')) w') :
    if Region.wanted o (yielded ops a.tmps) = true then Oper.wp Try.prog o a w K Q else Z := by
  subst hE
  obtain ⟨A', c', w', hr, h2, h3⟩ := run_append_bytes w o.type base v D hown B c M hM hB hlen hbase
  rw [if_pos (by simp [Region.wanted, hgd])]
  unfold Oper.wp execOp
  simp only [ho, resolve, invoke, builtin, Sem.run_bind, Sem.run_pure, Result.andThen_ok, List.map_toArray, List.map_cons, List.map_nil, hs, hx, hr]
  exact h A' c' w' h2 h3
end

theorem four_own (w : World) (n : Nat) : NewBytes w (four n) (.returned (.slice (some ⟨w.heap.size, 0, none⟩) 4 4)) (w.alloc (.cells #[B8 (n % 256), B8 (n / 256 % 256), B8 (n / 65536 % 256), B8 (n / 16777216 % 256)] 5)) :=
  ⟨_, _, rfl, World.ownsRow_lit w _ _ (Nat.le_refl _) (show 4 ≤ maxLen by decide) rfl, (Below.refl _ _).alloc (Nat.le_refl _) _⟩

end Go.Proofs.Ytoehgcakfblblaa

/- Numbers appended to a row of the call's own, whatever they lie in. -/
namespace Go.Proofs.Ytoehgcakfblblaa
open Go.RowKit
set_option maxRecDepth 100000

theorem intsI_oneCell (M : List Int) : ∀ y ∈ M.map I, y.oneCell' = true := by
  intro y hy
  obtain ⟨x, _, rfl⟩ := List.mem_map.1 hy
  rfl

theorem lies_cellsI {w : World} {b o : Nat} {M : List Int} (h : Lies w I (some ⟨b, o, none⟩) M) : ∀ j u, (M.map I)[j]? = some u → w.cell? ((⟨b, o, none⟩ : Addr).add j) = some u := by
  intro j u hu
  rw [List.getElem?_map] at hu
  obtain ⟨x, hx, rfl⟩ := Option.map_eq_some_iff.1 hu
  obtain ⟨b', o', e, _, hc⟩ := h j x hx
  injection e with e
  injection e with e1 e2
  subst e1 e2
  have hadd : (⟨b, o, none⟩ : Addr).add j = ⟨b, o + j, none⟩ := by unfold Addr.add; split <;> simp_all
  rw [hadd]
  exact hc

section
variable (w : World)
theorem run_append_ints (ty : TypeId) (base : Nat) (v : Value) (D : List Int) (hown : w.ownsRow base 3 1 v D.length (D.map I)) (B : Option Addr) (c : Nat) (M : List Int) (hM : Lies w I B M) (hB : Tidy B c)
    (hlen : D.length + M.length ≤ 1073741824) (hbase : base ≤ w.heap.size) :
    ∃ A' c' w', (Builtin.append_ #[24, 24] ty #[v, .slice B M.length c]).run Try.prog w = .ok (.slice A' (D ++ M).length c') w' ∧
      w'.ownsRow base 3 1 (.slice A' (D ++ M).length c') (D ++ M).length ((D ++ M).map I) ∧ w.grownBy w' v.ownBlock := by
  obtain ⟨i0, hi, hz0, hz1, hz2⟩ := info_parts Try.infoInt
  rcases hB with ⟨rfl, rfl⟩ | ⟨b, o, rfl⟩
  · have e0 : M = [] := by
      cases M with
      | nil => rfl
      | cons x r => obtain ⟨b, o, e, _⟩ := hM 0 x rfl; cases e
    subst e0
    obtain ⟨A, c, rfl⟩ := own_slice hown
    refine ⟨A, c, w, ?_, ?_, World.grownBy.refl w _⟩
    · rw [List.append_nil]
      exact run_append_owned_none (P := Try.prog) w base 24 ty 3 i0 1 Try.underlying24 hi _ _ _ hown
    · rw [List.append_nil]
      exact hown
  · obtain ⟨v', w', hr, h1, h2, _⟩ := run_append_own_at (P := Try.prog) w base 24 ty 3 i0 (.int .i64 0) 1 8 Try.underlying24 hi hz0 hz1 hz2 rfl (by decide) v D.length (D.map I) hown ⟨b, o, none⟩ M.length c (M.map I) (by simp) (lies_cellsI hM) (intsI_oneCell M) (by unfold maxLen; omega) (by omega) hbase
    rw [← List.map_append, ← List.length_append] at h1
    obtain ⟨A, c', rfl⟩ := own_slice h1
    exact ⟨A, c', w', hr, h1, h2⟩

theorem wpList_append_ints {ops : Array Oper} {rest : List Oper} {o : Oper} {a : Act} {Q : Exit → Act → World → Prop} (hgd : o.guard = none) (s x : Operand)
    (ho : o.op = .call { callee := .builtin .append, args := #[s, x], argTypes := #[24, 24] })
    (base : Nat) (v : Value) (D : List Int) (hs : a.eval s = v) (hown : w.ownsRow base 3 1 v D.length (D.map I)) (B : Option Addr) (c : Nat) (M : List Int) (hx : a.eval x = .slice B M.length c) (hM : Lies w I B M) (hB : Tidy B c) (E : List Int) (hE : D ++ M = E)
    (hlen : D.length + M.length ≤ 1073741824) (hbase : base ≤ w.heap.size)
    (h : ∀ A' c' w', w'.ownsRow base 3 1 (.slice A' E.length c') E.length (E.map I) → w.grownBy w' v.ownBlock → wpList Try.prog ops Q rest (a.put o.dst (.slice A' E.length c')) w') : wpList Try.prog ops Q (o :: rest) a w := by
  refine wpList_plain hgd fun _ hK => ?_
  subst hE
  obtain ⟨A', c', w', hr, h2, h3⟩ := run_append_ints w o.type base v D hown B c M hM hB hlen hbase
  unfold Oper.wp execOp
  simp only [ho, resolve, invoke, builtin, Sem.run_bind, Sem.run_pure, Result.andThen_ok, List.map_toArray, List.map_cons, List.map_nil, hs, hx, hr]
  exact hK _ _ (h A' c' w' h2 h3)

theorem step_append_ints {ops : Array Oper} {o : Oper} {a : Act} {K : Act → World → Prop} {Q : Exit → Act → World → Prop} {Z : Prop} (hgd : o.guard = none) (s x : Operand)
    (ho : o.op = .call { callee := .builtin .append, args := #[s, x], argTypes := #[24, 24] })
    (base : Nat) (v : Value) (D : List Int) (hs : a.eval s = v) (hown : w.ownsRow base 3 1 v D.length (D.map I)) (B : Option Addr) (c : Nat) (M : List Int) (hx : a.eval x = .slice B M.length c) (hM : Lies w I B M) (hB : Tidy B c) (E : List Int) (hE : D ++ M = E)
    (hlen : D.length + M.length ≤ 1073741824) (hbase : base ≤ w.heap.size)
    (h : ∀ A' c' w', w'.ownsRow base 3 1 (.slice A' E.length c') E.length (E.map I) → w.grownBy w' v.ownBlock → K (a.put o.dst (.slice A' E.length c')) w') :
    if Region.wanted o (yielded ops a.tmps) = true then Oper.wp Try.prog o a w K Q else Z := by
  subst hE
  obtain ⟨A', c', w', hr, h2, h3⟩ := run_append_ints w o.type base v D hown B c M hM hB hlen hbase
  rw [if_pos (by simp [Region.wanted, hgd])]
  unfold Oper.wp execOp
  simp only [ho, resolve, invoke, builtin, Sem.run_bind, Sem.run_pure, Result.andThen_ok, List.map_toArray, List.map_cons, List.map_nil, hs, hx, hr]
  exact h A' c' w' h2 h3
end


/-- One number appended, out of a literal's block. -/
theorem wpList_pushI {ops : Array Oper} {rest : List Oper} {o : Oper} {a : Act} {Q : Exit → Act → World → Prop} (hgd : o.guard = none) (s x : Operand)
    (ho : o.op = .call { callee := .builtin .append, args := #[s, x], argTypes := #[24, 24] }) (base : Nat) (W : World) (v : Value) (D : List Int) (hs : a.eval s = v)
    (hown : W.ownsRow base 3 1 v D.length (D.map I)) (y : Int) (hx : a.eval x = .slice (some ⟨W.heap.size, 0, none⟩) 1 1) (hb : base ≤ W.heap.size) (hl : D.length ≤ 1000000) (E : List Int) (hE : D ++ [y] = E)
    (h : ∀ A c w', w'.ownsRow base 3 1 (.slice A E.length c) E.length (E.map I) → W.grownBy w' v.ownBlock → wpList Try.prog ops Q rest (a.put o.dst (.slice A E.length c)) w') :
    wpList Try.prog ops Q (o :: rest) a (W.alloc (Obj.cells #[.int .i64 y] 3)) := by
  subst hE
  refine wpList_append_ints _ hgd s x ho base v D hs (hown.alloc _) (some ⟨W.heap.size, 0, none⟩) 1 [y] hx ?_ (.inr ⟨_, _, rfl⟩) _ rfl (by simp; omega) (by simp; omega) fun A c w' h1 h2 => h A c w' h1 ((World.grownBy_alloc W _ _).trans h2)
  intro i z hz
  match i with
  | 0 =>
    obtain rfl : y = z := by simpa using hz
    exact ⟨_, _, rfl, by simp, cell_one_new _ _ _ 0 _ rfl⟩
  | i + 1 => simp at hz

/-- The same as a step of a region that draws its order. -/
theorem step_push1 {ops : Array Oper} {o : Oper} {a : Act} {K : Act → World → Prop} {Q : Exit → Act → World → Prop} {Z : Prop} (hgd : o.guard = none) (s x : Operand)
    (ho : o.op = .call { callee := .builtin .append, args := #[s, x], argTypes := #[24, 24] }) (base : Nat) (W : World) (v : Value) (D : List Int) (hs : a.eval s = v)
    (hown : W.ownsRow base 3 1 v D.length (D.map I)) (y : Int) (hx : a.eval x = .slice (some ⟨W.heap.size, 0, none⟩) 1 1) (hb : base ≤ W.heap.size) (hl : D.length ≤ 1000000) (E : List Int) (hE : D ++ [y] = E)
    (h : ∀ A c w', w'.ownsRow base 3 1 (.slice A E.length c) E.length (E.map I) → W.grownBy w' v.ownBlock → K (a.put o.dst (.slice A E.length c)) w') :
    if Region.wanted o (yielded ops a.tmps) = true then Oper.wp Try.prog o a (W.alloc (Obj.cells #[.int .i64 y] 3)) K Q else Z := by
  subst hE
  refine step_append_ints _ hgd s x ho base v D hs (hown.alloc _) (some ⟨W.heap.size, 0, none⟩) 1 [y] hx ?_ (.inr ⟨_, _, rfl⟩) _ rfl (by simp; omega) (by simp; omega) fun A c w' h1 h2 => h A c w' h1 ((World.grownBy_alloc W _ _).trans h2)
  intro i z hz
  match i with
  | 0 =>
    obtain rfl : y = z := by simpa using hz
    exact ⟨_, _, rfl, by simp, cell_one_new _ _ _ 0 _ rfl⟩
  | i + 1 => simp at hz

end Go.Proofs.Ytoehgcakfblblaa
