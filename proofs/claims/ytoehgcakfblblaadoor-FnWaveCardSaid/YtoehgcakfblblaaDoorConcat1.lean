import Derived.Test.YtoehgcakfblblaaDoorSfD1
import Derived.Test.YtoehgcakfblblaaDoorNewI
import Derived.Lib.AppendZeros
/- Numbers appended to a row of the call's own, whatever they lie in. -/
namespace Go.Proofs.YtoehgcakfblblaaDoor
open Go.RowKit
set_option maxRecDepth 100000

theorem intsI_oneCell (M : List Int) : ∀ y ∈ M.map I, y.oneCell' = true := by
  intro y hy
  obtain ⟨x, _, rfl⟩ := List.mem_map.1 hy
  rfl

theorem lies_cellsI {w : World} {b o : Nat} {M : List Int} (h : Lies w I (some ⟨b, o, none⟩) M) : ∀ j u, (M.map I)[j]? = some u → w.cell? ((⟨b, o, none⟩ : Addr).add j) = some u := by
  intro j u hu
  rw [List.getElem?_map] at hu
  obtain ⟨x, hx, rfl⟩ := Option.map_eq_some_iff.1 hu
  obtain ⟨b', o', e, _, hc⟩ := h j x hx
  injection e with e
  injection e with e1 e2
  subst e1 e2
  have hadd : (⟨b, o, none⟩ : Addr).add j = ⟨b, o + j, none⟩ := by unfold Addr.add; split <;> simp_all
  rw [hadd]
  exact hc

section
variable (w : World)
theorem run_append_ints (ty : TypeId) (base : Nat) (v : Value) (D : List Int) (hown : w.ownsRow base 3 1 v D.length (D.map I)) (B : Option Addr) (c : Nat) (M : List Int) (hM : Lies w I B M) (hB : Tidy B c)
    (hlen : D.length + M.length ≤ 1073741824) (hbase : base ≤ w.heap.size) :
    ∃ A' c' w', (Builtin.append_ #[24, 24] ty #[v, .slice B M.length c]).run Tryd.prog w = .ok (.slice A' (D ++ M).length c') w' ∧
      w'.ownsRow base 3 1 (.slice A' (D ++ M).length c') (D ++ M).length ((D ++ M).map I) ∧ w.grownBy w' v.ownBlock := by
  obtain ⟨i0, hi, hz0, hz1, hz2⟩ := info_parts Tryd.infoInt
  rcases hB with ⟨rfl, rfl⟩ | ⟨b, o, rfl⟩
  · have e0 : M = [] := by
      cases M with
      | nil => rfl
      | cons x r => obtain ⟨b, o, e, _⟩ := hM 0 x rfl; cases e
    subst e0
    obtain ⟨A, c, rfl⟩ := own_slice hown
    refine ⟨A, c, w, ?_, ?_, World.grownBy.refl w _⟩
    · rw [List.append_nil]
      exact run_append_owned_none (P := Tryd.prog) w base 24 ty 3 i0 1 Tryd.underlying24 hi _ _ _ hown
    · rw [List.append_nil]
      exact hown
  · obtain ⟨v', w', hr, h1, h2, _⟩ := run_append_own_at (P := Tryd.prog) w base 24 ty 3 i0 (.int .i64 0) 1 8 Tryd.underlying24 hi hz0 hz1 hz2 rfl (by decide) v D.length (D.map I) hown ⟨b, o, none⟩ M.length c (M.map I) (by simp) (lies_cellsI hM) (intsI_oneCell M) (by unfold maxLen; omega) (by omega) hbase
    rw [← List.map_append, ← List.length_append] at h1
    obtain ⟨A, c', rfl⟩ := own_slice h1
    exact ⟨A, c', w', hr, h1, h2⟩

theorem wpList_append_ints {ops : Array Oper} {rest : List Oper} {o : Oper} {a : Act} {Q : Exit → Act → World → Prop} (hgd : o.guard = none) (s x : Operand)
    (ho : o.op = .call { callee := .builtin .append, args := #[s, x], argTypes := #[24, 24] })
    (base : Nat) (v : Value) (D : List Int) (hs : a.eval s = v) (hown : w.ownsRow base 3 1 v D.length (D.map I)) (B : Option Addr) (c : Nat) (M : List Int) (hx : a.eval x = .slice B M.length c) (hM : Lies w I B M) (hB : Tidy B c) (E : List Int) (hE : D ++ M = E)
    (hlen : D.length + M.length ≤ 1073741824) (hbase : base ≤ w.heap.size)
    (h : ∀ A' c' w', w'.ownsRow base 3 1 (.slice A' E.length c') E.length (E.map I) → w.grownBy w' v.ownBlock → wpList Tryd.prog ops Q rest (a.put o.dst (.slice A' E.length c')) w') : wpList Tryd.prog ops Q (o :: rest) a w := by
  refine wpList_plain hgd fun _ hK => ?_
  subst hE
  obtain ⟨A', c', w', hr, h2, h3⟩ := run_append_ints w o.type base v D hown B c M hM hB hlen hbase
  unfold Oper.wp execOp
  simp only [ho, resolve, invoke, builtin, Sem.run_bind, Sem.run_pure, Result.andThen_ok, List.map_toArray, List.map_cons, List.map_nil, hs, hx, hr]
  exact hK _ _ (h A' c' w' h2 h3)

theorem step_append_ints {ops : Array Oper} {o : Oper} {a : Act} {K : Act → World → Prop} {Q : Exit → Act → World → Prop} {Z : Prop} (hgd : o.guard = none) (s x : Operand)
    (ho : o.op = .call { callee := .builtin .append, args := #[s, x], argTypes := #[24, 24] })
    (base : Nat) (v : Value) (D : List Int) (hs : a.eval s = v) (hown : w.ownsRow base 3 1 v D.length (D.map I)) (B : Option Addr) (c : Nat) (M : List Int) (hx : a.eval x = .slice B M.length c) (hM : Lies w I B M) (hB : Tidy B c) (E : List Int) (hE : D ++ M = E)
    (hlen : D.length + M.length ≤ 1073741824) (hbase : base ≤ w.heap.size)
    (h : ∀ A' c' w', w'.ownsRow base 3 1 (.slice A' E.length c') E.length (E.map I) → w.grownBy w' v.ownBlock → K (a.put o.dst (.slice A' E.length c')) w') :
    if Region.wanted o (yielded ops a.tmps) = true then Oper.wp Tryd.prog o a w K Q else Z := by
  subst hE
  obtain ⟨A', c', w', hr, h2, h3⟩ := run_append_ints w o.type base v D hown B c M hM hB hlen hbase
  rw [if_pos (by simp [Region.wanted, hgd])]
  unfold Oper.wp execOp
  simp only [ho, resolve, invoke, builtin, Sem.run_bind, Sem.run_pure, Result.andThen_ok, List.map_toArray, List.map_cons, List.map_nil, hs, hx, hr]
  exact h A' c' w' h2 h3
end


/-- One number appended, out of a literal's block. -/
theorem wpList_pushI {ops : Array Oper} {rest : List Oper} {o : Oper} {a : Act} {Q : Exit → Act → World → Prop} (hgd : o.guard = none) (s x : Operand)
    (ho : o.op = .call { callee := .builtin .append, args := #[s, x], argTypes := #[24, 24] }) (base : Nat) (W : World) (v : Value) (D : List Int) (hs : a.eval s = v)
    (hown : W.ownsRow base 3 1 v D.length (D.map I)) (y : Int) (hx : a.eval x = .slice (some ⟨W.heap.size, 0, none⟩) 1 1) (hb : base ≤ W.heap.size) (hl : D.length ≤ 1000000) (E : List Int) (hE : D ++ [y] = E)
    (h : ∀ A c w', w'.ownsRow base 3 1 (.slice A E.length c) E.length (E.map I) → W.grownBy w' v.ownBlock → wpList Tryd.prog ops Q rest (a.put o.dst (.slice A E.length c)) w') :
    wpList Tryd.prog ops Q (o :: rest) a (W.alloc (Obj.cells #[.int .i64 y] 3)) := by
  subst hE
  refine wpList_append_ints _ hgd s x ho base v D hs (hown.alloc _) (some ⟨W.heap.size, 0, none⟩) 1 [y] hx ?_ (.inr ⟨_, _, rfl⟩) _ rfl (by simp; omega) (by simp; omega) fun A c w' h1 h2 => h A c w' h1 ((World.grownBy_alloc W _ _).trans h2)
  intro i z hz
  match i with
  | 0 =>
    obtain rfl : y = z := by simpa using hz
    exact ⟨_, _, rfl, by simp, cell_one_new _ _ _ 0 _ rfl⟩
  | i + 1 => simp at hz

/-- The same as a step of a region that draws its order. -/
theorem step_push1 {ops : Array Oper} {o : Oper} {a : Act} {K : Act → World → Prop} {Q : Exit → Act → World → Prop} {Z : Prop} (hgd : o.guard = none) (s x : Operand)
    (ho : o.op = .call { callee := .builtin .append, args := #[s, x], argTypes := #[24, 24] }) (base : Nat) (W : World) (v : Value) (D : List Int) (hs : a.eval s = v)
    (hown : W.ownsRow base 3 1 v D.length (D.map I)) (y : Int) (hx : a.eval x = .slice (some ⟨W.heap.size, 0, none⟩) 1 1) (hb : base ≤ W.heap.size) (hl : D.length ≤ 1000000) (E : List Int) (hE : D ++ [y] = E)
    (h : ∀ A c w', w'.ownsRow base 3 1 (.slice A E.length c) E.length (E.map I) → W.grownBy w' v.ownBlock → K (a.put o.dst (.slice A E.length c)) w') :
    if Region.wanted o (yielded ops a.tmps) = true then Oper.wp Tryd.prog o a (W.alloc (Obj.cells #[.int .i64 y] 3)) K Q else Z := by
  subst hE
  refine step_append_ints _ hgd s x ho base v D hs (hown.alloc _) (some ⟨W.heap.size, 0, none⟩) 1 [y] hx ?_ (.inr ⟨_, _, rfl⟩) _ rfl (by simp; omega) (by simp; omega) fun A c w' h1 h2 => h A c w' h1 ((World.grownBy_alloc W _ _).trans h2)
  intro i z hz
  match i with
  | 0 =>
    obtain rfl : y = z := by simpa using hz
    exact ⟨_, _, rfl, by simp, cell_one_new _ _ _ 0 _ rfl⟩
  | i + 1 => simp at hz

end Go.Proofs.YtoehgcakfblblaaDoor

/- slices.Grow of nothing, and slices.Concat of two rows of numbers. -/
namespace Go.Proofs.YtoehgcakfblblaaDoor
open Go.RowKit
set_option maxRecDepth 100000

set_option maxHeartbeats 1600000 in
theorem growNil_any (s : Nat) (w : World) (hs : s ≤ 1000000) :
    Calls Tryd.prog 45 #[.slice none 0 0, .int .i64 s] w fun e w' => ∃ A c, e = .returned (.slice A 0 c) ∧ w'.ownsRow w.heap.size 3 1 (.slice A 0 c) 0 [] ∧ Below w.heap.size w w' := by
  by_cases h0 : s = 0
  · subst h0
    go_enter Tryd.func45, Tryd.ntmps45
    go_wp2
    go_ret
    exact ⟨none, 0, rfl, World.ownsRow_nil _ _ _ _, Below.refl _ _⟩
  · obtain ⟨i0, hi, hz0, hz1, hz2⟩ := info_parts Tryd.infoInt
    have happ := Lib.run_append_nil_zeros (P := Tryd.prog) w 24 3 24 3 i0 (.int .i64 0) .i64 .i64 Tryd.underlying24 Tryd.underlying3 hi hz0 s (by omega) (by omega) (by omega) (by rw [hz2]; omega)
    generalize hcap : grownCap w s 0 3 = cap at happ
    have hcapge : s ≤ cap := by rw [← hcap]; exact grownCap_ge w _ 0 3
    have hcaple : cap ≤ maxLen := by rw [← hcap]; exact grownCap_le_maxLen w _ 0 3 (by unfold maxLen; omega)
    generalize hZ : (Builtin.zeroCells (Value.int .i64 0).cells s ++ Builtin.zeroCells (Value.int .i64 0).cells (cap - s)) = Z at happ
    have hZs : Z.size = cap := by rw [← hZ]; simp [size_zeroCells, Value.cells]; omega
    clear hcap hZ
    have HR : Hid ((w.drew.alloc (.cells Z 3)).ownsRow w.heap.size 3 1 (.slice (some ⟨w.heap.size, 0, none⟩) 0 cap) 0 []) := Lib.hid ⟨rfl, .inr ⟨w.heap.size, cap, Z, rfl, Nat.le_refl _, heap_alloc_new w.drew _, Nat.zero_le _, hcaple, by rw [hZs, Nat.mul_one], rfl⟩⟩
    have HB : Hid (Below w.heap.size w (w.drew.alloc (.cells Z 3))) := Lib.hid ((Below.refl _ _).drew.alloc (Nat.le_refl _) _)
    have t0 : decide ((s : Int) < 0) = false := by simp
    have t1 : decide ((0 : Int) < (s : Int)) = true := by simp; omega
    have t1n : decide (0 < s) = true := by simp; omega
    have e1 : IntKind.i64.wrap (s : Int) = (s : Int) := IntWalk.i64_in _ (by omega)
    have hcm : cap ≤ 9223372036854775807 := by unfold maxLen at hcaple; omega
    clear hi hz0 hz1 hz2 hcaple
    go_enter Tryd.func45, Tryd.ntmps45
    go_wp2_with (at_builtin; refine Lib.wpList_append_run _ rfl _ _ _ _ rfl _ _ rfl rfl _ _ happ ?_)
    go_wp2
    go_ret
    exact ⟨_, _, rfl, HR.out, HB.out⟩

end Go.Proofs.YtoehgcakfblblaaDoor

/- slices.Concat of two rows of numbers. -/
namespace Go.Proofs.YtoehgcakfblblaaDoor
open Go.RowKit
set_option maxRecDepth 100000

set_option maxHeartbeats 3200000 in
theorem concat_any (g zl ol zc oc : Nat) (ZA OA : Option Addr) (ZL OL : List Int) (w : World) (c0 : w.cell? ⟨g, 0, none⟩ = some (.slice ZA zl zc)) (c1 : w.cell? ⟨g, 1, none⟩ = some (.slice OA ol oc)) (hg : g < w.heap.size)
    (hZ : Lies w I ZA ZL) (hO : Lies w I OA OL) (hZt : Tidy ZA zc) (hOt : Tidy OA oc) (hzl : ZL.length = zl) (hol : OL.length = ol) (hz1 : zl ≤ 1000) (ho1 : ol ≤ 1000) :
    Calls Tryd.prog 36 #[.slice (some ⟨g, 0, none⟩) 2 2] w fun e w' => ∃ A c, e = .returned (.slice A (zl + ol) c) ∧ w'.ownsRow w.heap.size 3 1 (.slice A (zl + ol) c) (zl + ol) ((ZL ++ OL).map I) ∧ Below w.heap.size w w' := by
  obtain ⟨s, hs⟩ : ∃ s, zl + ol = s := ⟨_, rfl⟩
  rw [hs]
  have CG := Lib.hid (growNil_any s w (by omega))
  obtain ⟨E, hE⟩ : ∃ E, ZL ++ OL = E := ⟨_, rfl⟩
  rw [hE]
  have HL3 : Hid (E.length = s) := Lib.hid (by rw [← hE, List.length_append, hzl, hol, hs])
  have HE := Lib.hid hE
  clear hE
  have HZ := Lib.hid fun (W : World) (hW : Below w.heap.size w W) => hZ.below hW
  have HO := Lib.hid fun (W : World) (hW : Below w.heap.size w W) => hO.below hW
  have HK0 := Lib.hid fun (W : World) (hW : Below w.heap.size w W) => (hW.cell (p := ⟨g, 0, none⟩) hg).trans c0
  have HK1 := Lib.hid fun (W : World) (hW : Below w.heap.size w W) => (hW.cell (p := ⟨g, 1, none⟩) hg).trans c1
  have HT0 := Lib.hid hZt
  have HT1 := Lib.hid hOt
  have Hzl := Lib.hid hzl
  have Hol := Lib.hid hol
  have e1 : IntKind.i64.wrap (zl : Int) = (zl : Int) := IntWalk.i64_in _ (by omega)
  have e2 : IntKind.i64.wrap ((zl : Int) + (ol : Int)) = (s : Int) := by rw [IntWalk.i64_in _ (by omega)]; omega
  have e3 : (zl : Int) + (ol : Int) = (s : Int) := by omega
  have e4 : IntKind.i64.wrap (s : Int) = (s : Int) := IntWalk.i64_in _ (by omega)
  have d1 : decide ((zl : Int) < 0) = false := by simp
  have d2 : decide ((s : Int) < 0) = false := by simp
  clear hZ hO hZt hOt hzl hol
  have Hs := Lib.hid hs
  have Hb := Lib.hid (show zl + ol ≤ 2000 by omega)
  clear hs
  go_enter Tryd.func36, Tryd.ntmps36
  go_wp2
  refine wp_loop_rounds 3 ?_
  rw [rounds_succ]
  go_wp2
  rw [rounds_succ]
  go_wp2
  rw [rounds_succ]
  go_wp2_with fail
  refine CG.out.mono ?_
  rintro e w1 ⟨A1, k1, rfl, ho1, hb1⟩
  have HO1 := Lib.hid ho1
  have HB1 := Lib.hid hb1
  have x0 := HK0.out _ hb1
  clear ho1 hb1 CG c0 c1
  go_wp2
  refine wp_loop_rounds 3 ?_
  rw [rounds_succ]
  go_wp2_with (at_builtin; refine wpList_append_ints _ rfl _ _ rfl w.heap.size _ [] rfl HO1.out ZA zc ZL (by rw [Hzl.out]; rfl) (HZ.out _ HB1.out) HT0.out ZL rfl (by rw [Hzl.out]; simp; omega) HB1.out.size ?_)
  intro A2 k2 w2 ho2 hg2
  have HB2 := Lib.hid (HB1.out.trans (grown_below HO1.out hg2 (Nat.le_refl _) HB1.out.size))
  rw [Hzl.out] at ho2
  have HO2 := Lib.hid ho2
  have x1 := HK1.out _ HB2.out
  clear ho2 hg2 x0 HO1 HB1
  rw [Hzl.out]
  go_wp2
  rw [rounds_succ]
  go_wp2_with (at_builtin; refine wpList_append_ints _ rfl _ _ rfl w.heap.size _ ZL rfl (by rw [Hzl.out]; exact HO2.out) OA oc OL (by rw [Hol.out]; rfl) (HO.out _ HB2.out) HT1.out E HE.out (by rw [Hzl.out, Hol.out]; have := Hb.out; omega) HB2.out.size ?_)
  intro A3 k3 w3 ho3 hg3
  have HB3 := Lib.hid (HB2.out.trans (grown_below HO2.out hg3 (Nat.le_refl _) HB2.out.size))
  rw [HL3.out] at ho3
  have HO3 := Lib.hid ho3
  clear ho3 hg3 x1 HO2 HB2
  rw [HL3.out]
  go_wp2
  rw [rounds_succ]
  go_wp2
  go_ret
  exact ⟨_, _, rfl, HO3.out, HB3.out⟩

end Go.Proofs.YtoehgcakfblblaaDoor
