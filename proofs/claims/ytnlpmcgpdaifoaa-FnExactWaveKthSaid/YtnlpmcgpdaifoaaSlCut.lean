import Derived.Test.YtnlpmcgpdaifoaaCrcMath
import Derived.Test.YtnlpmcgpdaifoaaAppend2
import Derived.Test.YtnlpmcgpdaifoaaNewI
/- Bytes appended to a row of the call's own, whatever they lie in; the four bytes of a number. -/
namespace Go.Proofs.Ytnlpmcgpdaifoaa
open Go.RowKit
set_option maxRecDepth 100000

/-- A slice that is nil has no room; one that is not has an address in a plain block. -/
def Tidy (A : Option Addr) (c : Nat) : Prop := (A = none ∧ c = 0) ∨ ∃ b o, A = some ⟨b, o, none⟩
theorem own_tidy {w : World} {base n c : Nat} {e : TypeId} {A : Option Addr} {xs : List Value} (h : w.ownsRow base e 1 (.slice A n c) n xs) : Tidy A c := by
  rcases h.2 with ⟨h, _⟩ | ⟨g, cap, cur, hv, _⟩
  · injection h with h1 _ h2
    exact .inl ⟨h1, h2⟩
  · injection hv with h1
    exact .inr ⟨_, _, h1⟩
theorem bytes_oneCell (M : List Nat) : ∀ y ∈ M.map B8, y.oneCell' = true := by
  intro y hy
  obtain ⟨x, _, rfl⟩ := List.mem_map.1 hy
  rfl

theorem lies_cells {w : World} {b o : Nat} {M : List Nat} (h : Lies w B8 (some ⟨b, o, none⟩) M) : ∀ j u, (M.map B8)[j]? = some u → w.cell? ((⟨b, o, none⟩ : Addr).add j) = some u := by
  intro j u hu
  rw [List.getElem?_map] at hu
  obtain ⟨x, hx, rfl⟩ := Option.map_eq_some_iff.1 hu
  obtain ⟨b', o', e, _, hc⟩ := h j x hx
  injection e with e
  injection e with e1 e2
  subst e1 e2
  have hadd : (⟨b, o, none⟩ : Addr).add j = ⟨b, o + j, none⟩ := by unfold Addr.add; split <;> simp_all
  rw [hadd]
  exact hc

section
variable (w : World)
theorem run_append_bytes (ty : TypeId) (base : Nat) (v : Value) (D : List Nat) (hown : w.ownsRow base 5 1 v D.length (D.map B8)) (B : Option Addr) (c : Nat) (M : List Nat) (hM : Lies w B8 B M) (hB : Tidy B c)
    (hlen : D.length + M.length ≤ 1073741824) (hbase : base ≤ w.heap.size) :
    ∃ A' c' w', (Builtin.append_ #[22, 22] ty #[v, .slice B M.length c]).run Try.prog w = .ok (.slice A' (D ++ M).length c') w' ∧
      w'.ownsRow base 5 1 (.slice A' (D ++ M).length c') (D ++ M).length ((D ++ M).map B8) ∧ w.grownBy w' v.ownBlock := by
  obtain ⟨i0, hi, hz0, hz1, hz2⟩ := info_parts Try.infoU8
  rcases hB with ⟨rfl, rfl⟩ | ⟨b, o, rfl⟩
  · have e0 : M = [] := by
      cases M with
      | nil => rfl
      | cons x r => obtain ⟨b, o, e, _⟩ := hM 0 x rfl; cases e
    subst e0
    obtain ⟨A, c, rfl⟩ := own_slice hown
    refine ⟨A, c, w, ?_, ?_, World.grownBy.refl w _⟩
    · rw [List.append_nil]
      exact run_append_owned_none (P := Try.prog) w base 22 ty 5 i0 1 Try.underlying22 hi _ _ _ hown
    · rw [List.append_nil]
      exact hown
  · obtain ⟨v', w', hr, h1, h2, _⟩ := run_append_own_at (P := Try.prog) w base 22 ty 5 i0 (.int .u8 0) 1 1 Try.underlying22 hi hz0 hz1 hz2 rfl (by decide) v D.length (D.map B8) hown ⟨b, o, none⟩ M.length c (M.map B8) (by simp) (lies_cells hM) (bytes_oneCell M) (by unfold maxLen; omega) (by omega) hbase
    rw [← List.map_append, ← List.length_append] at h1
    obtain ⟨A, c', rfl⟩ := own_slice h1
    exact ⟨A, c', w', hr, h1, h2⟩

theorem wpList_append_bytes {ops : Array Oper} {rest : List Oper} {o : Oper} {a : Act} {Q : Exit → Act → World → Prop} (hgd : o.guard = none) (s x : Operand)
    (ho : o.op = .call { callee := .builtin .append, args := #[s, x], argTypes := #[22, 22] })
    (base : Nat) (v : Value) (D : List Nat) (hs : a.eval s = v) (hown : w.ownsRow base 5 1 v D.length (D.map B8)) (B : Option Addr) (c : Nat) (M : List Nat) (hx : a.eval x = .slice B M.length c) (hM : Lies w B8 B M) (hB : Tidy B c) (E : List Nat) (hE : D ++ M = E)
    (hlen : D.length + M.length ≤ 1073741824) (hbase : base ≤ w.heap.size)
    (h : ∀ A' c' w', w'.ownsRow base 5 1 (.slice A' E.length c') E.length (E.map B8) → w.grownBy w' v.ownBlock → wpList Try.prog ops Q rest (a.put o.dst (.slice A' E.length c')) w') : wpList Try.prog ops Q (o :: rest) a w := by
  refine wpList_plain hgd fun _ hK => ?_
  subst hE
  obtain ⟨A', c', w', hr, h2, h3⟩ := run_append_bytes w o.type base v D hown B c M hM hB hlen hbase
  unfold Oper.wp execOp
  simp only [ho, resolve, invoke, builtin, Sem.run_bind, Sem.run_pure, Result.andThen_ok, List.map_toArray, List.map_cons, List.map_nil, hs, hx, hr]
  exact hK _ _ (h A' c' w' h2 h3)

theorem step_append_bytes {ops : Array Oper} {o : Oper} {a : Act} {K : Act → World → Prop} {Q : Exit → Act → World → Prop} {Z : Prop} (hgd : o.guard = none) (s x : Operand)
    (ho : o.op = .call { callee := .builtin .append, args := #[s, x], argTypes := #[22, 22] })
    (base : Nat) (v : Value) (D : List Nat) (hs : a.eval s = v) (hown : w.ownsRow base 5 1 v D.length (D.map B8)) (B : Option Addr) (c : Nat) (M : List Nat) (hx : a.eval x = .slice B M.length c) (hM : Lies w B8 B M) (hB : Tidy B c) (E : List Nat) (hE : D ++ M = E)
    (hlen : D.length + M.length ≤ 1073741824) (hbase : base ≤ w.heap.size)
    (h : ∀ A' c' w', w'.ownsRow base 5 1 (.slice A' E.length c') E.length (E.map B8) → w.grownBy w' v.ownBlock → K (a.put o.dst (.slice A' E.length c')) w') :
    if Region.wanted o (yielded ops a.tmps) = true then Oper.wp Try.prog o a w K Q else Z := by
  subst hE
  obtain ⟨A', c', w', hr, h2, h3⟩ := run_append_bytes w o.type base v D hown B c M hM hB hlen hbase
  rw [if_pos (by simp [Region.wanted, hgd])]
  unfold Oper.wp execOp
  simp only [ho, resolve, invoke, builtin, Sem.run_bind, Sem.run_pure, Result.andThen_ok, List.map_toArray, List.map_cons, List.map_nil, hs, hx, hr]
  exact h A' c' w' h2 h3
end

theorem four_own (w : World) (n : Nat) : NewBytes w (four n) (.returned (.slice (some ⟨w.heap.size, 0, none⟩) 4 4)) (w.alloc (.cells #[B8 (n % 256), B8 (n / 256 % 256), B8 (n / 65536 % 256), B8 (n / 16777216 % 256)] 5)) :=
  ⟨_, _, rfl, World.ownsRow_lit w _ _ (Nat.le_refl _) (show 4 ≤ maxLen by decide) rfl, (Below.refl _ _).alloc (Nat.le_refl _) _⟩

end Go.Proofs.Ytnlpmcgpdaifoaa

/- Numbers appended to a row of the call's own, whatever they lie in. -/
namespace Go.Proofs.Ytnlpmcgpdaifoaa
open Go.RowKit
set_option maxRecDepth 100000

theorem intsI_oneCell (M : List Int) : ∀ y ∈ M.map I, y.oneCell' = true := by
  intro y hy
  obtain ⟨x, _, rfl⟩ := List.mem_map.1 hy
  rfl

theorem lies_cellsI {w : World} {b o : Nat} {M : List Int} (h : Lies w I (some ⟨b, o, none⟩) M) : ∀ j u, (M.map I)[j]? = some u → w.cell? ((⟨b, o, none⟩ : Addr).add j) = some u := by
  intro j u hu
  rw [List.getElem?_map] at hu
  obtain ⟨x, hx, rfl⟩ := Option.map_eq_some_iff.1 hu
  obtain ⟨b', o', e, _, hc⟩ := h j x hx
  injection e with e
  injection e with e1 e2
  subst e1 e2
  have hadd : (⟨b, o, none⟩ : Addr).add j = ⟨b, o + j, none⟩ := by unfold Addr.add; split <;> simp_all
  rw [hadd]
  exact hc

section
variable (w : World)
theorem run_append_ints (ty : TypeId) (base : Nat) (v : Value) (D : List Int) (hown : w.ownsRow base 3 1 v D.length (D.map I)) (B : Option Addr) (c : Nat) (M : List Int) (hM : Lies w I B M) (hB : Tidy B c)
    (hlen : D.length + M.length ≤ 1073741824) (hbase : base ≤ w.heap.size) :
    ∃ A' c' w', (Builtin.append_ #[24, 24] ty #[v, .slice B M.length c]).run Try.prog w = .ok (.slice A' (D ++ M).length c') w' ∧
      w'.ownsRow base 3 1 (.slice A' (D ++ M).length c') (D ++ M).length ((D ++ M).map I) ∧ w.grownBy w' v.ownBlock := by
  obtain ⟨i0, hi, hz0, hz1, hz2⟩ := info_parts Try.infoInt
  rcases hB with ⟨rfl, rfl⟩ | ⟨b, o, rfl⟩
  · have e0 : M = [] := by
      cases M with
      | nil => rfl
      | cons x r => obtain ⟨b, o, e, _⟩ := hM 0 x rfl; cases e
    subst e0
    obtain ⟨A, c, rfl⟩ := own_slice hown
    refine ⟨A, c, w, ?_, ?_, World.grownBy.refl w _⟩
    · rw [List.append_nil]
      exact run_append_owned_none (P := Try.prog) w base 24 ty 3 i0 1 Try.underlying24 hi _ _ _ hown
    · rw [List.append_nil]
      exact hown
  · obtain ⟨v', w', hr, h1, h2, _⟩ := run_append_own_at (P := Try.prog) w base 24 ty 3 i0 (.int .i64 0) 1 8 Try.underlying24 hi hz0 hz1 hz2 rfl (by decide) v D.length (D.map I) hown ⟨b, o, none⟩ M.length c (M.map I) (by simp) (lies_cellsI hM) (intsI_oneCell M) (by unfold maxLen; omega) (by omega) hbase
    rw [← List.map_append, ← List.length_append] at h1
    obtain ⟨A, c', rfl⟩ := own_slice h1
    exact ⟨A, c', w', hr, h1, h2⟩

theorem wpList_append_ints {ops : Array Oper} {rest : List Oper} {o : Oper} {a : Act} {Q : Exit → Act → World → Prop} (hgd : o.guard = none) (s x : Operand)
    (ho : o.op = .call { callee := .builtin .append, args := #[s, x], argTypes := #[24, 24] })
    (base : Nat) (v : Value) (D : List Int) (hs : a.eval s = v) (hown : w.ownsRow base 3 1 v D.length (D.map I)) (B : Option Addr) (c : Nat) (M : List Int) (hx : a.eval x = .slice B M.length c) (hM : Lies w I B M) (hB : Tidy B c) (E : List Int) (hE : D ++ M = E)
    (hlen : D.length + M.length ≤ 1073741824) (hbase : base ≤ w.heap.size)
    (h : ∀ A' c' w', w'.ownsRow base 3 1 (.slice A' E.length c') E.length (E.map I) → w.grownBy w' v.ownBlock → wpList Try.prog ops Q rest (a.put o.dst (.slice A' E.length c')) w') : wpList Try.prog ops Q (o :: rest) a w := by
  refine wpList_plain hgd fun _ hK => ?_
  subst hE
  obtain ⟨A', c', w', hr, h2, h3⟩ := run_append_ints w o.type base v D hown B c M hM hB hlen hbase
  unfold Oper.wp execOp
  simp only [ho, resolve, invoke, builtin, Sem.run_bind, Sem.run_pure, Result.andThen_ok, List.map_toArray, List.map_cons, List.map_nil, hs, hx, hr]
  exact hK _ _ (h A' c' w' h2 h3)

theorem step_append_ints {ops : Array Oper} {o : Oper} {a : Act} {K : Act → World → Prop} {Q : Exit → Act → World → Prop} {Z : Prop} (hgd : o.guard = none) (s x : Operand)
    (ho : o.op = .call { callee := .builtin .append, args := #[s, x], argTypes := #[24, 24] })
    (base : Nat) (v : Value) (D : List Int) (hs : a.eval s = v) (hown : w.ownsRow base 3 1 v D.length (D.map I)) (B : Option Addr) (c : Nat) (M : List Int) (hx : a.eval x = .slice B M.length c) (hM : Lies w I B M) (hB : Tidy B c) (E : List Int) (hE : D ++ M = E)
    (hlen : D.length + M.length ≤ 1073741824) (hbase : base ≤ w.heap.size)
    (h : ∀ A' c' w', w'.ownsRow base 3 1 (.slice A' E.length c') E.length (E.map I) → w.grownBy w' v.ownBlock → K (a.put o.dst (.slice A' E.length c')) w') :
    if Region.wanted o (yielded ops a.tmps) = true then Oper.wp Try.prog o a w K Q else Z := by
  subst hE
  obtain ⟨A', c', w', hr, h2, h3⟩ := run_append_ints w o.type base v D hown B c M hM hB hlen hbase
  rw [if_pos (by simp [Region.wanted, hgd])]
  unfold Oper.wp execOp
  simp only [ho, resolve, invoke, builtin, Sem.run_bind, Sem.run_pure, Result.andThen_ok, List.map_toArray, List.map_cons, List.map_nil, hs, hx, hr]
  exact h A' c' w' h2 h3
end


/-- One number appended, out of a literal's block. -/
theorem wpList_pushI {ops : Array Oper} {rest : List Oper} {o : Oper} {a : Act} {Q : Exit → Act → World → Prop} (hgd : o.guard = none) (s x : Operand)
    (ho : o.op = .call { callee := .builtin .append, args := #[s, x], argTypes := #[24, 24] }) (base : Nat) (W : World) (v : Value) (D : List Int) (hs : a.eval s = v)
    (hown : W.ownsRow base 3 1 v D.length (D.map I)) (y : Int) (hx : a.eval x = .slice (some ⟨W.heap.size, 0, none⟩) 1 1) (hb : base ≤ W.heap.size) (hl : D.length ≤ 1000000) (E : List Int) (hE : D ++ [y] = E)
    (h : ∀ A c w', w'.ownsRow base 3 1 (.slice A E.length c) E.length (E.map I) → W.grownBy w' v.ownBlock → wpList Try.prog ops Q rest (a.put o.dst (.slice A E.length c)) w') :
    wpList Try.prog ops Q (o :: rest) a (W.alloc (Obj.cells #[.int .i64 y] 3)) := by
  subst hE
  refine wpList_append_ints _ hgd s x ho base v D hs (hown.alloc _) (some ⟨W.heap.size, 0, none⟩) 1 [y] hx ?_ (.inr ⟨_, _, rfl⟩) _ rfl (by simp; omega) (by simp; omega) fun A c w' h1 h2 => h A c w' h1 ((World.grownBy_alloc W _ _).trans h2)
  intro i z hz
  match i with
  | 0 =>
    obtain rfl : y = z := by simpa using hz
    exact ⟨_, _, rfl, by simp, cell_one_new _ _ _ 0 _ rfl⟩
  | i + 1 => simp at hz

/-- The same as a step of a region that draws its order. -/
theorem step_push1 {ops : Array Oper} {o : Oper} {a : Act} {K : Act → World → Prop} {Q : Exit → Act → World → Prop} {Z : Prop} (hgd : o.guard = none) (s x : Operand)
    (ho : o.op = .call { callee := .builtin .append, args := #[s, x], argTypes := #[24, 24] }) (base : Nat) (W : World) (v : Value) (D : List Int) (hs : a.eval s = v)
    (hown : W.ownsRow base 3 1 v D.length (D.map I)) (y : Int) (hx : a.eval x = .slice (some ⟨W.heap.size, 0, none⟩) 1 1) (hb : base ≤ W.heap.size) (hl : D.length ≤ 1000000) (E : List Int) (hE : D ++ [y] = E)
    (h : ∀ A c w', w'.ownsRow base 3 1 (.slice A E.length c) E.length (E.map I) → W.grownBy w' v.ownBlock → K (a.put o.dst (.slice A E.length c)) w') :
    if Region.wanted o (yielded ops a.tmps) = true then Oper.wp Try.prog o a (W.alloc (Obj.cells #[.int .i64 y] 3)) K Q else Z := by
  subst hE
  refine step_append_ints _ hgd s x ho base v D hs (hown.alloc _) (some ⟨W.heap.size, 0, none⟩) 1 [y] hx ?_ (.inr ⟨_, _, rfl⟩) _ rfl (by simp; omega) (by simp; omega) fun A c w' h1 h2 => h A c w' h1 ((World.grownBy_alloc W _ _).trans h2)
  intro i z hz
  match i with
  | 0 =>
    obtain rfl : y = z := by simpa using hz
    exact ⟨_, _, rfl, by simp, cell_one_new _ _ _ 0 _ rfl⟩
  | i + 1 => simp at hz

end Go.Proofs.Ytnlpmcgpdaifoaa

/- Slices cut: what lies behind a slice's piece. Nothing of the program stands here. -/
namespace Go.Proofs.Ytnlpmcgpdaifoaa
open Go.RowKit

section
variable {P : Program} {α : Type} {f : α → Value} {T : TypeId}

theorem slice_drop (ht : P.underlying T = some (.slice (P.elem T))) (hz : ∀ W : World, (sizeOf (P.elem T)).run P W = .ok 1 W) (A : Option Addr) (n c : Nat) (L : List α) (i : Nat) (w : World) (Hn : Hid (L.length = n)) (hL : Lies w f A L) (hA : Tidy A c) (hi : i ≤ n) (hc : n ≤ c) :
    ∃ A', (∀ W : World, (Instr.slice T (.slice A n c) (some (.int .i64 (i : Int))) none none).run P W = .ok (.slice A' (L.drop i).length (c - i)) W) ∧ Lies w f A' (L.drop i) ∧ Tidy A' (c - i) := by
  have hn := Hn.out
  have e : (L.drop i).length = n - i := by rw [List.length_drop, hn]
  rw [e]
  rcases hA with ⟨rfl, rfl⟩ | ⟨b, o, rfl⟩
  · obtain rfl : i = 0 := by omega
    refine ⟨none, fun W => ?_, by simpa using hL, .inl ⟨rfl, rfl⟩⟩
    rw [run_slice_l (P := P) W T none n 0 ht .i64 ((0 : Nat) : Int) (by omega) (by omega), hz]
    rfl
  · by_cases hct : c = i
    · refine ⟨some ⟨b, o, none⟩, fun W => ?_, ?_, .inr ⟨_, _, rfl⟩⟩
      · rw [run_slice_l (P := P) W T _ n c ht .i64 (i : Int) (by omega) (by omega), hz, Int.toNat_natCast]
        simp [Result.andThen, sliced, hct]
      · have : L.drop i = [] := List.length_eq_zero_iff.1 (by omega)
        rw [this]
        exact Lies.nil_
    · refine ⟨some ⟨b, o + i, none⟩, fun W => ?_, ?_, .inr ⟨_, _, rfl⟩⟩
      · rw [run_slice_l (P := P) W T _ n c ht .i64 (i : Int) (by omega) (by omega), hz, Int.toNat_natCast]
        simp [Result.andThen, sliced, hct, Addr.add]
      · have h := hL.piece i (n - i)
        rwa [List.take_of_length_le (by omega)] at h

theorem slice_take (ht : P.underlying T = some (.slice (P.elem T))) (hz : ∀ W : World, (sizeOf (P.elem T)).run P W = .ok 1 W) (A : Option Addr) (n c : Nat) (L : List α) (i : Nat) (w : World) (Hn : Hid (L.length = n)) (hL : Lies w f A L) (hA : Tidy A c) (hi : i ≤ n) (hc : n ≤ c) :
    ∃ A', (∀ W : World, (Instr.slice T (.slice A n c) none (some (.int .i64 (i : Int))) none).run P W = .ok (.slice A' (L.take i).length c) W) ∧ Lies w f A' (L.take i) ∧ Tidy A' c := by
  have hn := Hn.out
  have e : (L.take i).length = i := by rw [List.length_take, hn]; omega
  rw [e]
  refine ⟨A, fun W => ?_, hL.front i, hA⟩
  rw [run_slice_h (P := P) W T A n c ht .i64 (i : Int) (by omega) (by omega), hz, Int.toNat_natCast]
  rcases hA with ⟨rfl, rfl⟩ | ⟨b, o, rfl⟩
  · simp [Result.andThen, sliced]
  · simp [Result.andThen, sliced, Addr.add]
end

theorem row_cap {w : World} {base n c : Nat} {e : TypeId} {A : Option Addr} {xs : List Value} (h : w.ownsRow base e 1 (.slice A n c) n xs) : n ≤ c ∧ c ≤ 9223372036854775807 := by
  rcases h.2 with ⟨h, hn⟩ | ⟨g, cap, cur, hv, _, _, h1, h2, _⟩
  · injection h with _ e1 e2
    omega
  · injection hv with _ _ e
    unfold maxLen at h2
    omega

theorem Drawn.b {w w' : World} (h : Drawn w w') : Below w.heap.size w w' := h.below _

theorem Try.elemBytes : Try.prog.underlying 22 = some (.slice (Try.prog.elem 22)) := by kernel_rfl
theorem Try.sizeByte (W : World) : (sizeOf (Try.prog.elem 22)).run Try.prog W = .ok 1 W := by kernel_rfl
theorem Try.elemInts : Try.prog.underlying 24 = some (.slice (Try.prog.elem 24)) := by kernel_rfl
theorem Try.sizeInt (W : World) : (sizeOf (Try.prog.elem 24)).run Try.prog W = .ok 1 W := by kernel_rfl

end Go.Proofs.Ytnlpmcgpdaifoaa
