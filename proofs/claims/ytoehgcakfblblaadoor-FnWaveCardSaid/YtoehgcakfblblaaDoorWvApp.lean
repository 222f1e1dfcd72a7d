import Derived.Test.YtoehgcakfblblaaDoorSfD1
import Derived.Test.YtoehgcakfblblaaDoorDraw3
import Derived.Test.YtoehgcakfblblaaDoorNewI
/- Drawn numbers, and the draw of WaveOf. -/
namespace Go.Proofs.YtoehgcakfblblaaDoor
open Go.RowKit
set_option maxRecDepth 100000

theorem own_turnG {w w' : World} {b : Nat} {e : TypeId} {size n : Nat} {v : Value} {xs : List Value} (h : w.ownsRow b e size v n xs) (hk : ∀ k, v.ownBlock = some k → w'.heap[k]? = w.heap[k]?) : w'.ownsRow b e size v n xs := by
  obtain ⟨h1, h2⟩ := h
  refine ⟨h1, ?_⟩
  rcases h2 with h2 | ⟨g, cap, cur, hv, hg, hh, r⟩
  · exact .inl h2
  · exact .inr ⟨g, cap, cur, hv, hg, (hk g (by rw [hv]; rfl)).trans hh, r⟩
theorem grown_twoG {w w1 w2 : World} {g : Nat} {row : Option Nat} (h : w.grownBy w1 (some g)) (k : w1.grownBy w2 row) (hr : ∀ j, row = some j → w.heap.size ≤ j) : w.grownBy w2 (some g) :=
  h.andThen k fun j hj => .inl (hr j hj)

set_option maxRecDepth 100000 in
set_option maxHeartbeats 800000 in
theorem numbersN_any (g : Nat) (A : Option Addr) (c : Nat) (D : List Nat) (K n top : Nat) (w : World) (h : Cur w g A c D K) (hn : n ≤ 1000) (hn1 : 1 ≤ n) (hK : K ≤ 4611686018427380000) (ht : 1 ≤ top) (ht2 : top ≤ 9223372036854775807) :
    Calls Tryd.prog 17 #[.pointer (some ⟨g, 0, none⟩), .int .i64 n, .int .i64 top] w fun e w' => ∃ (v : Value) (L : List Int), e = .returned v ∧ w'.ownsRow w.heap.size 3 1 v L.length (L.map I) ∧ L.length ≤ n ∧ Cur w' g A c D (K + 1 + 3 * n) ∧ w.grownBy w' (some g) := by
  obtain ⟨i0, hi, hz0, hz1, hz2⟩ := info_parts Tryd.infoInt
  have hgl := h.lt
  have HD0 := Lib.hid h.lies
  have hmx : (if (1 : Int) < (top : Int) then (top : Int) else 1) = (top : Int) := by split <;> omega
  have hmx2 : (if 1 < top then (top : Int) else 1) = (top : Int) := by split <;> omega
  go_enter Tryd.func17, Tryd.ntmps17
  go_wp2_with fail
  refine (sizeN_any g A c D K n _ (cur_alloc h _) (by omega) hn hn1).mono ?_
  rintro e w1 ⟨r, rfl, hr20, hc1, hg1⟩
  have HG1 := Lib.hid ((World.grownBy_alloc w (Obj.cells #[] 3) (some g)).trans hg1)
  have hown0 : w1.ownsRow w.heap.size 3 1 (.slice (some ⟨w.heap.size, 0, none⟩) 0 0) 0 [] := by
    have h0 := World.ownsRow_made w (e := 3) (size := 1) #[] 0 (Nat.le_refl _) (by unfold maxLen; omega) rfl
    exact own_turnG h0 fun k hk => hg1.block k (h0.lt k hk).2 fun e => by
      have := (h0.lt k hk).1
      have := Option.some.inj e
      omega
  have HO0 := Lib.hid hown0
  have HC1 := Lib.hid hc1
  clear hown0 hg1 hc1 h
  go_wp2
  go_loopw [7, 8] (fun s j wr => ∃ (k : Nat) (L : List Int), k ≤ r ∧ j = .int .i64 k ∧ wr.ownsRow w.heap.size 3 1 s L.length (L.map I) ∧ L.length + k ≤ n ∧ Cur wr g A c D (K + 1 + 3 * (n - k)) ∧ w.grownBy wr (some g)) (fun _ j _ => (intOf j).toNat)
  case atStart => exact ⟨r, [], Nat.le_refl _, rfl, HO0.out, by simpa using hr20, HC1.out.more (by omega), HG1.out⟩
  case round =>
    obtain ⟨k, L, hkr, rfl, hown, hLk, hcur, hgr⟩ := hrel
    rcases Nat.eq_zero_or_pos k with h0 | h0
    · subst h0
      go_wp2
      go_ret
      exact ⟨_, L, rfl, hown, by omega, hcur.more (by omega), hgr⟩
    · obtain ⟨k, rfl⟩ : ∃ k', k = k' + 1 := ⟨k - 1, by omega⟩
      have HO := Lib.hid hown
      have HG := Lib.hid hgr
      clear hown hgr
      go_wp2_with fail
      refine (wide_any g A c D (K + 1 + 3 * (n - (k + 1))) top wr hcur ht ht2 (by omega)).mono ?_
      rintro e w2 ⟨x, rfl, _, _, hc2, hg2⟩
      have HC2 := Lib.hid hc2
      have HG2 := Lib.hid hg2
      have HO2 : Hid (w2.ownsRow w.heap.size 3 1 _ L.length (L.map I)) := Lib.hid (own_turnG HO.out fun j hj => hg2.block j (HO.out.lt j hj).2 fun e => by
        have := (HO.out.lt j hj).1
        have := Option.some.inj e
        omega)
      clear hc2 hg2 hcur
      go_wp2_with (at_builtin; refine wpList_append_own _ rfl _ _ 24 rfl w.heap.size 3 i0 (.int .i64 0) 1 8 Tryd.underlying24 hi hz0 hz1 hz2 rfl (by decide) _ _ _ rfl (HO2.out.alloc _) ⟨w2.heap.size, 0, none⟩ 1 1 [.int .i64 (x : Int)] rfl rfl (cell_one_new _ _ _) (ints_oneCell .i64 [_]) (by unfold maxLen; omega) (by omega) (by have := HG.out.size; have := HG2.out.size; simp; omega) ?_)
      intro v' w3 hown' hgrow _
      have HO3 := Lib.hid hown'
      have HG3 : Hid (w2.grownBy w3 _) := Lib.hid ((World.grownBy_alloc w2 _ _).trans hgrow)
      clear hown' hgrow
      go_wp2
      go_roundw
      case rel =>
        have hle := HO2.out.lt
        refine ⟨k, L ++ [(x : Int)], by omega, by go_num, ?_, by simp; omega, ?_, ?_⟩
        · rw [List.length_append, List.map_append]
          exact HO3.out
        · have hge : ∀ q, some q = Value.ownBlock _ → w.heap.size ≤ q := fun q hq => (HO2.out.lt q hq.symm).1
          refine (HC2.out.turn HG3.out.size fun q hq hcase => HG3.out.block q hq fun e => ?_).more (by omega)
          have h1 := hge q e
          rcases hcase with h2 | ⟨o, hl, hA⟩
          · omega
          · obtain ⟨b, o', _, hA', hb', _⟩ := HD0.out.at_ hl
            rw [hA] at hA'
            injection hA' with hA'
            injection hA' with e1 e2
            omega
        · exact grown_twoG (HG.out.trans HG2.out) HG3.out fun j hj => (HO2.out.lt j hj).1
      case measure => simp [intOf]

/-- Numbers that WaveOf is tried at. -/
def DrewN (w : World) (e : Ending) (w' : World) : Prop := ∃ (A : Option Addr) (c : Nat) (L : List Int), e = .returned (.slice A L.length c) ∧ w'.ownsRow w.heap.size 3 1 (.slice A L.length c) L.length (L.map I) ∧ L.length ≤ 5001 ∧ Below w.heap.size w w'
theorem drewN_of {w w' : World} {v : Value} {L : List Int} (h : w'.ownsRow w.heap.size 3 1 v L.length (L.map I)) (hl : L.length ≤ 5001) (hb : Below w.heap.size w w') : DrewN w (.returned v) w' := by
  obtain ⟨A, c, rfl⟩ : ∃ A c, v = .slice A L.length c := by
    rcases h.2 with ⟨h1, h2⟩ | ⟨g, cap, cur, hv, _⟩
    · rw [h2]; exact ⟨_, _, h1⟩
    · exact ⟨_, _, hv⟩
  exact ⟨A, c, L, rfl, h, hl, hb⟩

set_option maxRecDepth 100000 in
set_option maxHeartbeats 1600000 in
theorem drawWave_any (A : Option Addr) (c : Nat) (D : List Nat) (w : World) (hD : Lies w B8 A D) (hw : ∀ x ∈ D, x < 2 ^ 8) (hl : D.length ≤ 1048576) :
    Calls Tryd.prog 5 #[.slice A D.length c] w (DrewN w) := by
  obtain ⟨i0, hi, hz0, hz1, hz2⟩ := info_parts Tryd.infoInt
  have HO := Lib.hid (open_any A c D w hD hw hl)
  clear hD hw
  go_enter Tryd.func5, Tryd.ntmps5
  go_wp2_with fail
  refine HO.out.mono ?_
  rintro e w3 ⟨rfl, hc3, hb1⟩
  have HB1 := Lib.hid hb1
  generalize hg : w.heap.size = g at *
  clear hb1
  go_wp2_with fail
  have hlt3 := hc3.lt
  refine (numbersN_any g A c D 0 24 512 w3 hc3 (by omega) (by omega) (by omega) (by omega) (by omega)).mono ?_
  rintro e w4 ⟨v4, L4, rfl, ho4, hL4, hc4, hg4⟩
  have HG4 := Lib.hid hg4
  have HS3 : Hid (g ≤ w3.heap.size ∧ w3.heap.size ≤ w4.heap.size) := Lib.hid ⟨by omega, hg4.size⟩
  clear hg4 hc3
  go_wp2_with fail
  refine (pick_any g A c D 73 8 w4 hc4 (by omega) (by omega)).mono ?_
  rintro e w5 ⟨r5, rfl, hr5, _, hc5, hg5⟩
  have hq5 : (r5 : Int) < 8 := hr5 (by omega)
  have HO5 := Lib.hid (own_pastG ho4 hg5 hlt3)
  have HG5 := Lib.hid (HG4.out.trans hg5)
  have HS5 : Hid (w3.heap.size ≤ w5.heap.size) := Lib.hid (Nat.le_trans HS3.out.2 hg5.size)
  clear hg5 hc4 hr5 ho4 HG4
  by_cases h0 : r5 = 0
  · have t0 : ((r5 : Int) == 0) = true := by rw [beq_iff_eq]; omega
    clear h0
    go_wp2_with fail
    refine (raw_any g A c D 74 w5 hc5 (by omega)).mono ?_
    rintro e w6 ⟨r6, rfl, _, hc6, hg6⟩
    have HO6 := Lib.hid (own_pastG HO5.out hg6 hlt3)
    have HG6 := Lib.hid (HG5.out.trans hg6)
    have HS6 : Hid (w3.heap.size ≤ w6.heap.size) := Lib.hid (Nat.le_trans HS5.out hg6.size)
    clear hg6 hc5
    go_wp2_with fail
    have hbx := Box.made w6 3 #[Value.int IntKind.i64 r6, Value.int IntKind.i64 512]
    have hlt6 := hc6.lt
    refine (pick_any g A c D 76 2 _ (cur_alloc hc6 _) (by omega) (by omega)).mono ?_
    rintro e w7 ⟨q7, rfl, hq7, _, hc7, hg7⟩
    have hq7' : (q7 : Int) < 2 := hq7 (by omega)
    obtain ⟨x, _, hcell⟩ := table_at (L := [r6, 512]) (box_kept hbx hg7 (by omega)) (i := q7) (by simp; omega)
    have HO7 := Lib.hid (own_pastG (HO6.out.alloc _) hg7 hlt3)
    have HG7 := Lib.hid (HG6.out.trans ((World.grownBy_alloc w6 _ (some g)).trans hg7))
    have HS7 : Hid (w3.heap.size ≤ w7.heap.size) := Lib.hid (by have := hg7.size; have := HS6.out; simp at *; omega)
    clear hq7 hg7 hc6 hc7 hbx
    go_wp2_with (at_builtin; refine wpList_append_own _ rfl _ _ 24 rfl w3.heap.size 3 i0 (.int .i64 0) 1 8 Tryd.underlying24 hi hz0 hz1 hz2 rfl (by decide) _ _ _ rfl (HO7.out.alloc _) ⟨w7.heap.size, 0, none⟩ 1 1 [.int .i64 x] rfl rfl (cell_one_new _ _ _) (ints_oneCell .i64 [_]) (by unfold maxLen; omega) (by omega) (by have := HS7.out; simp; omega) ?_)
    intro v8 w8 ho8 hg8 _
    have HO8 := Lib.hid ho8
    have HG8 := Lib.hid hg8
    clear ho8 hg8
    go_wp2
    go_ret
    refine drewN_of (L := L4 ++ [x]) ?_ (by simp; omega) ?_
    · rw [List.length_append, List.map_append]
      exact own_mono HO8.out (by rw [hg]; exact HS3.out.1)
    · have hb := HB1.out
      rw [← hg] at hb
      have h7 : Below w.heap.size w w7 := grown_below2 hb HG7.out (by omega)
      have h8 := HS7.out
      have h9 := HS3.out.1
      exact (h7.alloc (by omega) _).grown HG8.out (by simp; omega) (fun j hj => by
        have := (HO7.out.lt j hj).1
        omega)
  · have t0 : ((r5 : Int) == 0) = false := by rw [beq_eq_false_iff_ne]; omega
    by_cases h1 : r5 = 1
    · have t1 : ((r5 : Int) == 1) = true := by rw [beq_iff_eq]; omega
      clear h0 h1
      go_wp2_with fail
      refine (onceN_any g A c D 74 4 w5 hc5 (by omega) (by omega)).mono ?_
      rintro e w6 ⟨b6, rfl, hc6, hg6⟩
      have HO6 := Lib.hid (own_pastG HO5.out hg6 hlt3)
      have HG6 := Lib.hid (HG5.out.trans hg6)
      clear hg6 hc5
      cases b6 with
      | true =>
        go_wp2_with fail
        refine (pick_any g A c D 75 2 _ hc6 (by omega) (by omega)).mono ?_
        rintro e w7 ⟨q7, rfl, hq7, _, hc7, hg7⟩
        have hq7' : (q7 : Int) < 2 := hq7 (by omega)
        obtain ⟨n, hn, hn2⟩ : ∃ n : Nat, (1000 : Int) + (q7 : Int) = (n : Int) ∧ n ≤ 1001 := ⟨1000 + q7, by omega, by omega⟩
        have ew : IntKind.i64.wrap ((1000 : Int) + (q7 : Int)) = (n : Int) := by rw [IntWalk.i64_in _ (by omega)]; exact hn
        have HG7 := Lib.hid (HG6.out.trans hg7)
        have hmk := fun W => run_make_row' (P := Tryd.prog) 24 3 (.int .i64 0) 8 Tryd.underlying24 Tryd.infoInt rfl .i64 .i64 n (by omega) (by omega) W
        clear hq7 hg7 hc6 hc7
        go_wp2
        go_ret
        refine drewN_of (L := List.replicate n 0) ?_ (by simp; omega) ?_
        · have e1 : (List.replicate n (0 : Int)).map I = (madeCells #[Value.int IntKind.i64 0] n).toList := by rw [toList_madeCells_one, List.map_replicate]
          rw [List.length_replicate, e1]
          have hb := HB1.out.size
          have h6 := HG7.out.size
          exact own_mono (World.ownsRow_lit w7 _ _ (Nat.le_refl _) (by unfold maxLen; omega) (by simp [size_madeCells])) (by omega)
        · have hb := HB1.out
          rw [← hg] at hb
          have h6 : Below w.heap.size w w7 := grown_below2 hb HG7.out (by omega)
          exact h6.alloc h6.size _
      | false =>
        clear hc6
        go_wp2
        go_ret
        refine drewN_of (L := L4) (own_mono HO6.out (by rw [hg]; exact HS3.out.1)) (by omega) ?_
        have hb := HB1.out
        rw [← hg] at hb
        exact grown_below2 hb HG6.out (by omega)
    · have t1 : ((r5 : Int) == 1) = false := by rw [beq_eq_false_iff_ne]; omega
      clear h0 h1 hc5
      go_wp2
      go_ret
      refine drewN_of (L := L4) (own_mono HO5.out (by rw [hg]; exact HS3.out.1)) (by omega) ?_
      have hb := HB1.out
      rw [← hg] at hb
      exact grown_below2 hb HG5.out (by omega)

end Go.Proofs.YtoehgcakfblblaaDoor

/- One value appended to a row of the call's own, and where the row then lies: where it was, or in a block that is new. Nothing of the program stands here. -/
namespace Go.Proofs.YtoehgcakfblblaaDoor
open Go.RowKit

/-- Where an appended row lies. -/
def Moved (w : World) (v v' : Value) : Prop := v'.ownBlock = v.ownBlock ∨ ∃ k, v'.ownBlock = some k ∧ w.heap.size ≤ k

section
variable {P : Program}
theorem wpList_push_own {ops : Array Oper} {rest : List Oper} {o : Oper} {a : Act} {Q : Exit → Act → World → Prop} (hgd : o.guard = none) (s x : Operand) (t e : TypeId)
    (ho : o.op = .call { callee := .builtin .append, args := #[s, x], argTypes := #[t, t] }) (ht : P.underlying t = some (.slice e)) {z : Value} {bytes : Nat} (hinfo : (P.info? e).map (fun i => (i.zero, i.size, i.bytes)) = some (some z, 1, bytes)) (hzs : z.cells.size = 1) (hby : bytes ≤ 1000)
    (base : Nat) (W : World) (v : Value) (n : Nat) (xs : List Value) (hs : a.eval s = v) (hown : W.ownsRow base e 1 v n xs) (y : Value) (hy : y.oneCell' = true) (hx : a.eval x = .slice (some ⟨W.heap.size, 0, none⟩) 1 1) (hb : base ≤ W.heap.size) (hl : n ≤ 1000000)
    (h : ∀ A c w', w'.ownsRow base e 1 (.slice A (n + 1) c) (n + 1) (xs ++ [y]) → W.grownBy w' v.ownBlock → Moved W v (.slice A (n + 1) c) → wpList P ops Q rest (a.put o.dst (.slice A (n + 1) c)) w') :
    wpList P ops Q (o :: rest) a (W.alloc (.cells #[y] e)) := by
  refine wpList_plain hgd fun _ hK => ?_
  obtain ⟨i0, hi, hz⟩ := Option.map_eq_some_iff.1 hinfo
  simp only [Prod.mk.injEq] at hz
  obtain ⟨hz0, hz1, hz2⟩ := hz
  have hcell : ∀ j u, [y][j]? = some u → (W.alloc (.cells #[y] e)).cell? ((⟨W.heap.size, 0, none⟩ : Addr).add j) = some u := by
    intro j u hu
    match j with
    | 0 =>
      obtain rfl : y = u := by simpa using hu
      have hadd : (⟨W.heap.size, 0, none⟩ : Addr).add 0 = ⟨W.heap.size, 0, none⟩ := by unfold Addr.add; split <;> simp_all
      rw [hadd]
      exact (Box.made W e #[y]).cell 0
    | j + 1 => simp at hu
  obtain ⟨v', w', hr, h1, h2, _, h4⟩ := run_append_own_at (P := P) (W.alloc (.cells #[y] e)) base t o.type e i0 z 1 bytes ht hi hz0 hz1 hz2 hzs (by decide) v n xs (hown.alloc _) ⟨W.heap.size, 0, none⟩ 1 1 [y] (by simp) hcell
    (by intro u hu; obtain rfl : u = y := by simpa using hu
        exact hy) (by unfold maxLen; omega) (Nat.le_trans (Nat.mul_le_mul (show n + 1 ≤ 1000001 by omega) hby) (by decide)) (by rw [World.size_alloc]; omega)
  obtain ⟨A, c, rfl⟩ := own_slice h1
  unfold Oper.wp execOp
  simp only [ho, resolve, invoke, builtin, Sem.run_bind, Sem.run_pure, Result.andThen_ok, List.map_toArray, List.map_cons, List.map_nil, hs, hx, hr]
  refine hK _ _ (h A c w' h1 ((World.grownBy_alloc W _ _).trans h2) ?_)
  rcases h4 with h4 | h4
  · exact .inl h4
  · refine .inr ⟨_, h4, ?_⟩
    rw [World.size_alloc]
    omega
end

/-- The block of an owned row holds its type. -/
theorem own_typed {w : World} {base n size : Nat} {e : TypeId} {v : Value} {xs : List Value} (h : w.ownsRow base e size v n xs) {k : Nat} (hk : v.ownBlock = some k) : base ≤ k ∧ k < w.heap.size ∧ ∃ cur, w.heap[k]? = some (.cells cur e (0, 0)) := by
  rcases h.2 with ⟨h2, _⟩ | ⟨g, cap, cur, hv, hg, hh, r⟩
  · rw [h2] at hk
    cases hk
  · rw [hv] at hk
    injection hk with hk
    subst hk
    exact ⟨hg, (Array.getElem?_eq_some_iff.1 hh).1, cur, hh⟩
theorem own_types_apart {w : World} {b b' n n' s s' : Nat} {e e' : TypeId} {v v' : Value} {xs xs' : List Value} (hne : e ≠ e') (h : w.ownsRow b e s v n xs) (h' : w.ownsRow b' e' s' v' n' xs') {k : Nat} (hk : v.ownBlock = some k) : v'.ownBlock ≠ some k := by
  intro hk'
  obtain ⟨_, _, cur, h1⟩ := own_typed h hk
  obtain ⟨_, _, cur', h2⟩ := own_typed h' hk'
  rw [h1] at h2
  injection h2 with h2
  injection h2 with _ h2 _
  exact hne h2
theorem own_turn4 {w w' : World} {b : Nat} {e : TypeId} {size n : Nat} {v : Value} {xs : List Value} (h : w.ownsRow b e size v n xs) (hk : ∀ k, v.ownBlock = some k → w'.heap[k]? = w.heap[k]?) : w'.ownsRow b e size v n xs := by
  obtain ⟨h1, h2⟩ := h
  refine ⟨h1, ?_⟩
  rcases h2 with h2 | ⟨g, cap, cur, hv, hg, hh, r⟩
  · exact .inl h2
  · exact .inr ⟨g, cap, cur, hv, hg, (hk g (by rw [hv]; rfl)).trans hh, r⟩

/-- A list of rows of numbers (lev), and a row of numbers that grows (out). -/
structure LL (ti tl : TypeId) (w0 w : World) (vo : Value) (xo : List Int) (vl : Value) (Q : List Value) (Bs : List (List Int)) : Prop where
  below : Below w0.heap.size w0 w
  out : w.ownsRow w0.heap.size ti 1 vo xo.length (xo.map I)
  lev : w.ownsRow w0.heap.size tl 1 vl Q.length Q
  len : Q.length = Bs.length
  rows : ∀ (j : Nat) (q : Value) (B : List Int), Q[j]? = some q → Bs[j]? = some B → (∃ A c, q = .slice A B.length c) ∧ w.ownsRow w0.heap.size ti 1 q B.length (B.map I)
  apart : ∀ (j : Nat) (q : Value) (k : Nat), Q[j]? = some q → q.ownBlock = some k → vo.ownBlock ≠ some k
section
variable {ti tl : TypeId} {w0 w w' : World} {vo vl : Value} {xo : List Int} {Q : List Value} {Bs : List (List Int)}
theorem LL.more (h : LL ti tl w0 w vo xo vl Q Bs) (hb : Below w.heap.size w w') : LL ti tl w0 w' vo xo vl Q Bs :=
  ⟨below_then h.below hb, own_below h.out hb (Nat.le_refl _), own_below h.lev hb (Nat.le_refl _), h.len, fun j q B hq hB => ⟨(h.rows j q B hq hB).1, own_below (h.rows j q B hq hB).2 hb (Nat.le_refl _)⟩, h.apart⟩
/-- A new row of numbers is put at the end of the list. -/
theorem LL.add (hne : ti ≠ tl) (h : LL ti tl w0 w vo xo vl Q Bs) {A : Option Addr} {c base : Nat} {B : List Int} {vl' : Value} (hB : w.ownsRow base ti 1 (.slice A B.length c) B.length (B.map I)) (hbase : w0.heap.size ≤ base) (hnew : ∀ k, vo.ownBlock = some k → k < base)
    (ho : w'.ownsRow w0.heap.size tl 1 vl' (Q.length + 1) (Q ++ [.slice A B.length c])) (hg : w.grownBy w' vl.ownBlock) : LL ti tl w0 w' vo xo vl' (Q ++ [.slice A B.length c]) (Bs ++ [B]) := by
  have keep : ∀ {v : Value} {n b : Nat} {xs : List Value}, w.ownsRow b ti 1 v n xs → w'.ownsRow b ti 1 v n xs := fun {v n b xs} hv => own_turn4 hv fun k hk => hg.block k (own_typed hv hk).2.1 fun e => own_types_apart hne hv h.lev hk e.symm
  refine ⟨h.below.trans (grown_below h.lev hg (Nat.le_refl _) h.below.size), keep h.out, by rw [List.length_append]; exact ho, by rw [List.length_append, List.length_append, h.len]; rfl, ?_, ?_⟩
  · intro j q B' hq hB'
    rcases Nat.lt_or_ge j Q.length with hj | hj
    · rw [List.getElem?_append_left hj] at hq
      rw [List.getElem?_append_left (by rw [← h.len]; exact hj)] at hB'
      exact ⟨(h.rows j q B' hq hB').1, keep (h.rows j q B' hq hB').2⟩
    · rw [List.getElem?_append_right hj] at hq
      rw [List.getElem?_append_right (by rw [← h.len]; exact hj)] at hB'
      have hj0 : j - Q.length = 0 := by
        rcases Nat.eq_zero_or_pos (j - Q.length) with h0 | h0
        · exact h0
        · rw [List.getElem?_eq_none (by simp; omega)] at hq
          cases hq
      rw [hj0] at hq
      rw [← h.len, hj0] at hB'
      obtain rfl : Value.slice A B.length c = q := by simpa using hq
      obtain rfl : B = B' := by simpa using hB'
      exact ⟨⟨A, c, rfl⟩, keep (own_mono hB hbase)⟩
  · intro j q k hq hk hvo
    rcases Nat.lt_or_ge j Q.length with hj | hj
    · rw [List.getElem?_append_left hj] at hq
      exact h.apart j q k hq hk hvo
    · rw [List.getElem?_append_right hj] at hq
      have hj0 : j - Q.length = 0 := by
        rcases Nat.eq_zero_or_pos (j - Q.length) with h0 | h0
        · exact h0
        · rw [List.getElem?_eq_none (by simp; omega)] at hq
          cases hq
      rw [hj0] at hq
      obtain rfl : Value.slice A B.length c = q := by simpa using hq
      have h1 := hnew k hvo
      have h2 := (hB.lt k hk).1
      omega
/-- A number more. -/
theorem LL.push (hne : ti ≠ tl) (h : LL ti tl w0 w vo xo vl Q Bs) {vo' : Value} {y : Int} (ho : w'.ownsRow w0.heap.size ti 1 vo' (xo.length + 1) (xo.map I ++ [I y])) (hg : w.grownBy w' vo.ownBlock) (hm : Moved w vo vo') : LL ti tl w0 w' vo' (xo ++ [y]) vl Q Bs := by
  refine ⟨h.below.trans (grown_below h.out hg (Nat.le_refl _) h.below.size), by rw [List.length_append, List.map_append]; exact ho, own_turn4 h.lev fun k hk => hg.block k (own_typed h.lev hk).2.1 fun e => own_types_apart (Ne.symm hne) h.lev h.out hk e.symm, h.len, ?_, ?_⟩
  · intro j q B hq hB
    obtain ⟨h1, h2⟩ := h.rows j q B hq hB
    exact ⟨h1, own_turn4 h2 fun k hk => hg.block k (own_typed h2 hk).2.1 fun e => h.apart j q k hq hk e.symm⟩
  · intro j q k hq hk hvo
    have hj : j < Bs.length := by rw [← h.len]; exact (List.getElem?_eq_some_iff.1 hq).1
    obtain ⟨_, h2⟩ := h.rows j q _ hq (List.getElem?_eq_getElem hj)
    rcases hm with hm | ⟨k', hm, hk'⟩
    · rw [hm] at hvo
      exact h.apart j q k hq hk hvo
    · rw [hm] at hvo
      have e := Option.some.inj hvo
      have := (own_typed h2 hk).2.1
      omega
end

end Go.Proofs.YtoehgcakfblblaaDoor
