/- Drawn texts: the letters. -/
import Derived.Test.YtkjelakdejbolaaSfD1
namespace Go.Proofs.Ytkjelakdejbolaa
open Go.RowKit
set_option maxRecDepth 100000

theorem own_cut {w : World} {b n c m : Nat} {e : TypeId} {A : Option Addr} {xs : List Value} (h : w.ownsRow b e 1 (.slice A n c) n xs) (hm : m ≤ n) : w.ownsRow b e 1 (.slice A m c) m (xs.take m) := by
  obtain ⟨h1, h2⟩ := h
  refine ⟨by rw [List.length_take]; omega, ?_⟩
  rcases h2 with ⟨hv, hn⟩ | ⟨g, cap, cur, hv, hg, hh, h3, h4, h5, h6⟩
  · injection hv with e1 e2 e3
    subst e1 e3
    obtain rfl : m = 0 := by omega
    exact .inl ⟨rfl, rfl⟩
  · injection hv with e1 e2 e3
    subst e1 e3
    refine .inr ⟨g, c, cur, rfl, hg, hh, by omega, h4, h5, ?_⟩
    rw [← h6, List.take_take]
    congr 1
    omega

theorem wpList_pushB {ops : Array Oper} {rest : List Oper} {o : Oper} {a : Act} {Q : Exit → Act → World → Prop} (hgd : o.guard = none) (s x : Operand)
    (ho : o.op = .call { callee := .builtin .append, args := #[s, x], argTypes := #[22, 22] }) (base : Nat) (W : World) (v : Value) (D : List Nat) (hs : a.eval s = v)
    (hown : W.ownsRow base 5 1 v D.length (D.map B8)) (y : Nat) (hx : a.eval x = .slice (some ⟨W.heap.size, 0, none⟩) 1 1) (hb : base ≤ W.heap.size) (hl : D.length ≤ 1000000) (E : List Nat) (hE : D ++ [y] = E)
    (h : ∀ A c w', w'.ownsRow base 5 1 (.slice A E.length c) E.length (E.map B8) → W.grownBy w' v.ownBlock → wpList Try.prog ops Q rest (a.put o.dst (.slice A E.length c)) w') :
    wpList Try.prog ops Q (o :: rest) a (W.alloc (Obj.cells #[.int .u8 (y : Int)] 5)) := by
  subst hE
  refine wpList_append_bytes _ hgd s x ho base v D hs (hown.alloc _) (some ⟨W.heap.size, 0, none⟩) 1 [y] hx ?_ (.inr ⟨_, _, rfl⟩) _ rfl (by simp; omega) (by simp; omega) fun A c w' h1 h2 => h A c w' h1 ((World.grownBy_alloc W _ _).trans h2)
  intro i z hz
  match i with
  | 0 =>
    obtain rfl : y = z := by simpa using hz
    exact ⟨_, _, rfl, by simp, cell_one_new _ _ _ 0 _ rfl⟩
  | i + 1 => simp at hz

/-- The letters that a text is drawn of. -/
abbrev abcV : Array Value := #[.string ⟨#[97]⟩, .string ⟨#[97, 98]⟩, .string ⟨#[97, 98, 99]⟩, .string ⟨#[97, 99, 103, 116]⟩, .string ⟨#[0, 255]⟩]
theorem abc_at (r : Nat) (h : r < 5) : ∃ S : ByteArray, abcV[r]? = some (.string S) ∧ 1 ≤ S.size ∧ S.size ≤ 4 := by
  match r, h with
  | 0, _ => exact ⟨_, rfl, by decide, by decide⟩
  | 1, _ => exact ⟨_, rfl, by decide, by decide⟩
  | 2, _ => exact ⟨_, rfl, by decide, by decide⟩
  | 3, _ => exact ⟨_, rfl, by decide, by decide⟩
  | 4, _ => exact ⟨_, rfl, by decide, by decide⟩

set_option maxHeartbeats 4000000 in
theorem textOf_any (g : Nat) (A : Option Addr) (c : Nat) (D : List Nat) (K top : Nat) (w : World) (h : Cur w g A c D K) (hK : K ≤ 4611686018427380000) (ht : top ≤ 40) (ht1 : 1 ≤ top) :
    Calls Try.prog 54 #[.pointer (some ⟨g, 0, none⟩), .int .i64 top] w (DrewT w g A c D (K + 200) top) := by
  have hgl := h.lt
  have HD0 := Lib.hid h.lies
  have hc0 := cur_alloc (cur_alloc h (.cells #[] 5)) (.cells abcV 9)
  have hb0 : w.grownBy ((w.alloc (.cells #[] 5)).alloc (.cells abcV 9)) (some g) := (World.grownBy_alloc w _ _).trans (World.grownBy_alloc _ _ _)
  have ho0 : ((w.alloc (.cells #[] 5)).alloc (.cells abcV 9)).ownsRow w.heap.size 5 1 (.slice (some ⟨w.heap.size, 0, none⟩) 0 0) ([] : List Nat).length (([] : List Nat).map B8) := (World.ownsRow_lit w #[] 0 (Nat.le_refl _) (show 0 ≤ maxLen by decide) rfl).alloc _
  have bx0 := Box.made (w.alloc (.cells #[] 5)) 9 abcV
  have s0 : (w.alloc (.cells #[] 5)).heap.size = w.heap.size + 1 := by simp
  rw [s0] at bx0
  have HC0 := Lib.hid hc0
  have HB0 := Lib.hid hb0
  have HO0 := Lib.hid ho0
  have HX0 := Lib.hid bx0
  clear hc0 hb0 ho0 bx0 s0 h
  go_enter Try.func54, Try.ntmps54
  go_wp2_with fail
  refine (pick_any g A c D K 5 _ HC0.out (by omega) (by omega)).mono ?_
  rintro e w1 ⟨r, rfl, hr, _, hc1, hg1⟩
  have hr5 : r < 5 := by have := hr (by omega); omega
  obtain ⟨S, hS, hs1, hs4⟩ := abc_at r hr5
  have hcell : w1.cell? ⟨w.heap.size + 1, r, none⟩ = some (.string S) := by
    rw [World.cell?_of_block (a := ⟨w.heap.size + 1, r, none⟩) (hg1.block _ (by simp) (fun e => absurd (Option.some.inj e) (show w.heap.size + 1 ≠ g by omega))), HX0.out.cell r]
    exact hS
  have HO1 := Lib.hid (own_pastG HO0.out hg1 hgl)
  have HC1 := Lib.hid hc1
  have HG1 := Lib.hid (HB0.out.trans hg1)
  clear hr hc1 hg1 hS HC0 HB0 HO0 HX0
  go_wp2_with fail
  refine (sizeN_any g A c D (K + 1) top w1 HC1.out (by omega) (by omega) ht1).mono ?_
  rintro e w2 ⟨q, rfl, hq, hc2, hg2⟩
  have HO2 := Lib.hid (own_pastG HO1.out hg2 hgl)
  have HC2 := Lib.hid hc2
  have HG2 := Lib.hid (HG1.out.trans hg2)
  clear hc2 hg2 HO1 HC1 HG1 hcell
  go_wp2
  go_loopw [5, 7] (fun v i wr => ∃ (k : Nat) (T : List Nat), k ≤ q ∧ i = .int .i64 k ∧ T.length + 6 * k ≤ 240 ∧ Hid (∀ x ∈ T, x < 2 ^ 8) ∧ Hid (wr.ownsRow w.heap.size 5 1 v T.length (T.map B8)) ∧ Hid (Cur wr g A c D (K + 2 + 3 * (40 - k))) ∧ Hid (w.grownBy wr (some g))) (fun _ i _ => (intOf i).toNat)
  case atStart => exact ⟨q, [], Nat.le_refl _, rfl, by simp; omega, Lib.hid (by simp), HO2, Lib.hid (HC2.out.more (by omega)), HG2⟩
  case round =>
    obtain ⟨k, T, hk, rfl, hTk, HT8, HO, HC, HG⟩ := hrel
    clear HO2 HC2 HG2
    obtain ⟨At, ct, rfl⟩ := own_slice HO.out
    rcases Nat.eq_zero_or_pos k with h0 | h0
    · subst h0
      by_cases htop : top < T.length
      · have hcap := (row_cap HO.out).1
        have HOc := Lib.hid (own_cut HO.out (m := top) (by omega))
        have hsl : ∀ W : World, (Instr.slice 22 (.slice At T.length ct) none (some (.int .i64 (top : Int))) none).run Try.prog W = .ok (.slice At top ct) W := fun W => by
          obtain ⟨gb, cb, hvb, _, _⟩ := HO.out.form (by omega)
          injection hvb with e1
          rw [run_slice_h (P := Try.prog) W 22 At T.length ct Try.elemBytes .i64 (top : Int) (by omega) (by omega), Try.sizeByte, Int.toNat_natCast, e1]
          simp [Result.andThen, sliced, Addr.add]
        have hd1 : decide ((top : Int) < (T.length : Int)) = true := by simp; omega
        have HF : Hid (DrewT w g A c D (K + 200) top (.returned (.slice At top ct)) wr) := Lib.hid (by
          have hl : (T.take top).length = top := by rw [List.length_take]; omega
          refine ⟨At, ct, T.take top, by rw [hl], by omega, fun x hx => HT8.out x (List.mem_of_mem_take hx), ?_, HC.out.more (by omega), HG.out⟩
          rw [hl, List.map_take]
          exact HOc.out)
        clear HO HC HG HOc
        go_wp2
        go_ret
        exact HF.out
      · have hd1 : decide ((top : Int) < (T.length : Int)) = false := by simp; omega
        have HF : Hid (DrewT w g A c D (K + 200) top (.returned (.slice At T.length ct)) wr) := Lib.hid ⟨At, ct, T, rfl, by omega, HT8.out, HO.out, HC.out.more (by omega), HG.out⟩
        clear HO HC HG
        go_wp2
        go_ret
        exact HF.out
    · obtain ⟨p, hp⟩ : ∃ p, k = p + 1 := ⟨k - 1, by omega⟩
      have hki : IntKind.i64.wrap ((k : Int) - 1) = (p : Int) := by rw [IntWalk.i64_in _ (by omega)]; omega
      have hki2 : (k : Int) - 1 = (p : Int) := by omega
      obtain ⟨K0, hK0⟩ : ∃ K0, K + 2 + 3 * (40 - k) = K0 := ⟨_, rfl⟩
      rw [hK0] at HC
      have hKp : K0 + 3 ≤ K + 2 + 3 * (40 - p) := by omega
      have hTp : T.length + 6 + 6 * p ≤ 240 := by omega
      have hpq : p ≤ q := by omega
      have hpk : p < k := by omega
      have hK0b : K0 ≤ 4611686018427381000 := by omega
      clear hp hK0
      by_cases h3 : 3 < T.length
      · have d1 : decide ((3 : Int) < (T.length : Int)) = true := by simp; omega
        have d1b : decide (3 < T.length) = true := by simpa using h3
        go_wp2_with fail
        refine (onceN_any g A c D K0 6 wr HC.out (by omega) (by omega)).mono ?_
        rintro e w3 ⟨b, rfl, hc3, hg3⟩
        have HO3 := Lib.hid (own_pastG HO.out hg3 hgl)
        have HC3 := Lib.hid hc3
        have HG3 := Lib.hid (HG.out.trans hg3)
        clear hc3 hg3 HO HC HG
        cases b
        · -- one letter
          go_wp2_with fail
          refine (pick_any g A c D (K0 + 1) (S.size : Int) w3 HC3.out (by omega) (by omega)).mono ?_
          rintro e w5 ⟨r5, rfl, hr5, hr5z, hc5, hg5⟩
          have hr5s : r5 < S.size := by
            by_cases h2 : 2 ≤ S.size
            · have := hr5 (by omega)
              omega
            · have := hr5z (by omega)
              omega
          obtain ⟨y, hy, hy8⟩ : ∃ y : Nat, (S[r5]'hr5s).toNat = y ∧ y < 256 := ⟨_, rfl, (S[r5]'hr5s).toNat_lt⟩
          have hix : ∀ W : World, (Instr.index 9 (.string S) (.int .i64 (r5 : Int))).run Try.prog W = .ok (.int .u8 (y : Int)) W := fun W => by
            rw [run_index_string W 9 S .i64 (r5 : Int) Try.underlying9, dif_pos ⟨by omega, by omega⟩]
            simp only [Int.toNat_natCast, hy]
          have HO5 := Lib.hid (own_pastG HO3.out hg5 hgl)
          have HC5 := Lib.hid hc5
          have HG5 := Lib.hid (HG3.out.trans hg5)
          have hsz5 := HG5.out.size
          obtain ⟨E, hE⟩ : ∃ E, T ++ [y] = E := ⟨_, rfl⟩
          have HE := Lib.hid hE
          have HEl : Hid (E.length = T.length + 1) := Lib.hid (by rw [← hE]; simp)
          have HE8 : Hid (∀ x ∈ E, x < 2 ^ 8) := Lib.hid (by
            rw [← hE]
            intro x hx
            rcases List.mem_append.1 hx with hx | hx
            · exact HT8.out x hx
            · simp at hx
              omega)
          clear hr5 hr5z hy hc5 hg5 hE
          go_wp2_with (at_builtin; refine wpList_pushB rfl _ _ rfl w.heap.size _ _ _ rfl HO5.out y rfl hsz5 (by omega) E HE.out ?_)
          intro A7 c7 w7 ho7 hg7
          have HO7 := Lib.hid ho7
          have hrow7 : ∀ j, some j = Value.ownBlock _ → w.heap.size ≤ j := fun j hj => (HO5.out.lt j hj.symm).1
          have HC7 := Lib.hid (HC5.out.push HD0.out hgl hg7 (fun j hj => hrow7 j hj.symm))
          have HG7 := Lib.hid (grown_pastG HG5.out hg7 (fun j hj => hrow7 j hj.symm))
          clear ho7 hg7 hrow7
          go_wp2
          go_roundw
          case rel => exact ⟨p, E, hpq, by go_num, by have := HEl.out; omega, HE8, HO7, Lib.hid (HC7.out.more (by omega)), HG7⟩
          case measure => simp [intOf]; omega
        · -- a piece of what is there
          go_wp2_with fail
          refine (pick_any g A c D (K0 + 1) (T.length : Int) w3 HC3.out (by omega) (by omega)).mono ?_
          rintro e w4 ⟨i, rfl, hi, _, hc4, hg4⟩
          have hiT : i < T.length := by have := hi (by omega); omega
          have HO4 := Lib.hid (own_pastG HO3.out hg4 hgl)
          have HC4 := Lib.hid hc4
          have HG4 := Lib.hid (HG3.out.trans hg4)
          clear hi hc4 hg4 HO3 HC3 HG3
          go_wp2_with fail
          refine (pick_any g A c D (K0 + 1 + 1) 6 w4 HC4.out (by omega) (by omega)).mono ?_
          rintro e w5 ⟨u, rfl, hu, _, hc5, hg5⟩
          have hu6 : u < 6 := by have := hu (by omega); omega
          have HO5 := Lib.hid (own_pastG HO4.out hg5 hgl)
          have HC5 := Lib.hid hc5
          have HG5 := Lib.hid (HG4.out.trans hg5)
          have hsz5 := HG5.out.size
          clear hu hc5 hg5 HO4 HC4 HG4
          obtain ⟨j, hj, hij, hjT, hj6⟩ : ∃ j : Nat, min (T.length : Int) ((i : Int) + 1 + (u : Int)) = (j : Int) ∧ i ≤ j ∧ j ≤ T.length ∧ j ≤ i + 6 := ⟨min T.length (i + 1 + u), by omega, by omega, by omega, by omega⟩
          have hj2 : (if (i : Int) + 1 + (u : Int) < (T.length : Int) then (i : Int) + 1 + (u : Int) else (T.length : Int)) = (j : Int) := by split <;> omega
          obtain ⟨gb, cb, hvb, _, _⟩ := HO5.out.form (by omega)
          injection hvb with e1 e2 e3
          subst e1 e3
          clear e2
          have hcap := (row_cap HO5.out).1
          obtain ⟨o', hsl, hLp⟩ := slice_mid Try.elemBytes Try.sizeByte gb 0 T.length ct T i j w5 (Lib.hid rfl) (Lies.of_own HO5.out) hij hjT hcap
          obtain ⟨M, hM⟩ : ∃ M, (T.drop i).take (j - i) = M := ⟨_, rfl⟩
          rw [hM] at hsl hLp
          have hMl : M.length ≤ 6 := by rw [← hM, List.length_take]; omega
          have HM8 : Hid (∀ x ∈ M, x < 2 ^ 8) := Lib.hid (by rw [← hM]; exact fun x hx => HT8.out x (List.mem_of_mem_drop (List.mem_of_mem_take hx)))
          obtain ⟨E, hE⟩ : ∃ E, T ++ M = E := ⟨_, rfl⟩
          have HE := Lib.hid hE
          have HEl : Hid (E.length ≤ T.length + 6) := Lib.hid (by rw [← hE, List.length_append]; omega)
          have HE8 : Hid (∀ x ∈ E, x < 2 ^ 8) := Lib.hid (by
            rw [← hE]
            intro x hx
            rcases List.mem_append.1 hx with hx | hx
            · exact HT8.out x hx
            · exact HM8.out x hx)
          have HLp := Lib.hid hLp
          clear hM hE hLp
          go_wp2_with (at_builtin; refine wpList_append_bytes _ rfl _ _ rfl w.heap.size _ T rfl HO5.out (some ⟨gb, o', none⟩) (ct - i) M rfl HLp.out (.inr ⟨_, _, rfl⟩) E HE.out (by omega) hsz5 ?_)
          intro A7 c7 w7 ho7 hg7
          have HO7 := Lib.hid ho7
          have hrow7 : ∀ j, some j = Value.ownBlock _ → w.heap.size ≤ j := fun j hj => (HO5.out.lt j hj.symm).1
          have HC7 := Lib.hid (HC5.out.push HD0.out hgl hg7 (fun j hj => hrow7 j hj.symm))
          have HG7 := Lib.hid (grown_pastG HG5.out hg7 (fun j hj => hrow7 j hj.symm))
          clear ho7 hg7 hrow7
          go_wp2
          go_roundw
          case rel => exact ⟨p, E, hpq, by go_num, by have := HEl.out; omega, HE8, HO7, Lib.hid (HC7.out.more (by omega)), HG7⟩
          case measure => simp [intOf]; omega
      · have d1 : decide ((3 : Int) < (T.length : Int)) = false := by simp; omega
        have d1b : decide (3 < T.length) = false := by simpa using h3
        go_wp2_with fail
        refine (pick_any g A c D K0 (S.size : Int) wr HC.out (by omega) (by omega)).mono ?_
        rintro e w5 ⟨r5, rfl, hr5, hr5z, hc5, hg5⟩
        have hr5s : r5 < S.size := by
          by_cases h2 : 2 ≤ S.size
          · have := hr5 (by omega)
            omega
          · have := hr5z (by omega)
            omega
        obtain ⟨y, hy, hy8⟩ : ∃ y : Nat, (S[r5]'hr5s).toNat = y ∧ y < 256 := ⟨_, rfl, (S[r5]'hr5s).toNat_lt⟩
        have hix : ∀ W : World, (Instr.index 9 (.string S) (.int .i64 (r5 : Int))).run Try.prog W = .ok (.int .u8 (y : Int)) W := fun W => by
          rw [run_index_string W 9 S .i64 (r5 : Int) Try.underlying9, dif_pos ⟨by omega, by omega⟩]
          simp only [Int.toNat_natCast, hy]
        have HO5 := Lib.hid (own_pastG HO.out hg5 hgl)
        have HC5 := Lib.hid hc5
        have HG5 := Lib.hid (HG.out.trans hg5)
        have hsz5 := HG5.out.size
        obtain ⟨E, hE⟩ : ∃ E, T ++ [y] = E := ⟨_, rfl⟩
        have HE := Lib.hid hE
        have HEl : Hid (E.length = T.length + 1) := Lib.hid (by rw [← hE]; simp)
        have HE8 : Hid (∀ x ∈ E, x < 2 ^ 8) := Lib.hid (by
          rw [← hE]
          intro x hx
          rcases List.mem_append.1 hx with hx | hx
          · exact HT8.out x hx
          · simp at hx
            omega)
        clear hr5 hr5z hy hc5 hg5 hE
        go_wp2_with (at_builtin; refine wpList_pushB rfl _ _ rfl w.heap.size _ _ _ rfl HO5.out y rfl hsz5 (by omega) E HE.out ?_)
        intro A7 c7 w7 ho7 hg7
        have HO7 := Lib.hid ho7
        have hrow7 : ∀ j, some j = Value.ownBlock _ → w.heap.size ≤ j := fun j hj => (HO5.out.lt j hj.symm).1
        have HC7 := Lib.hid (HC5.out.push HD0.out hgl hg7 (fun j hj => hrow7 j hj.symm))
        have HG7 := Lib.hid (grown_pastG HG5.out hg7 (fun j hj => hrow7 j hj.symm))
        clear ho7 hg7 hrow7
        go_wp2
        go_roundw
        case rel => exact ⟨p, E, hpq, by go_num, by have := HEl.out; omega, HE8, HO7, Lib.hid (HC7.out.more (by omega)), HG7⟩
        case measure => simp [intOf]; omega

end Go.Proofs.Ytkjelakdejbolaa
