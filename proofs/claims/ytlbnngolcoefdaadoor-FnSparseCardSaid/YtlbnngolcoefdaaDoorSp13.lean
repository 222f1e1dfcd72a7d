/- The specification's l03List of a valid value. -/
import Derived.Test.YtlbnngolcoefdaaDoorSp12
import Derived.Test.YtlbnngolcoefdaaDoorStage
import Derived.Deep.RegionLaw
import Derived.Deep.AppendLies
namespace Go.Proofs.YtlbnngolcoefdaaDoor
open Go.RowKit
set_option maxRecDepth 100000

/-- A row of the stage is appended to; a literal's block was made ahead of it. -/
theorem Stage.push {w0 W W' : World} {its : List Item} (h : Stage w0 W its) (i : Nat) {o : Obj} {e : TypeId} {v v' : Value} {n n' : Nat} {xs ys : List Value} (hi : its[i]? = some (.row e v n xs)) (hown : W'.ownsRow w0.heap.size e 1 v' n' ys) (hg : (W.alloc o).grownBy W' v.ownBlock)
    (hat : v'.ownBlock = v.ownBlock ∨ v'.ownBlock = some (W.heap.size + 1)) : Stage w0 W' (its.set i (.row e v' n' ys)) := by
  have hl := (List.getElem?_eq_some_iff.1 hi).1
  have hv : W.ownsRow w0.heap.size e 1 v n xs := h.there i _ hi
  have hkeep : ∀ k, k < W.heap.size → v.ownBlock ≠ some k → W'.heap[k]? = W.heap[k]? := fun k hk hne => (hg.block k (by simp; omega) (fun e => hne e.symm)).trans (Below.heap_alloc W o k hk)
  have hhas : ∀ k, v'.ownBlock = some k → v.ownBlock = some k ∨ W.heap.size ≤ k := fun k hk => by
    rcases hat with e' | e'
    · exact .inl (e' ▸ hk)
    · rw [e'] at hk
      have := Option.some.inj hk
      exact .inr (by omega)
  refine ⟨(h.below.alloc h.below.size o).grown hg (by simp; have := h.below.size; omega) (fun j hj => (hv.lt j hj).1), fun j b hj => ?_, fun j l b c hjl hj hl' k hbk hck => ?_⟩
  · rw [List.getElem?_set] at hj
    by_cases hij : i = j
    · rw [if_pos hij, if_pos hl] at hj
      cases hj
      exact hown
    · rw [if_neg hij] at hj
      exact Item.turn (h.there j b hj) fun k hbk => hkeep k (Item.lt (h.there j b hj) hbk).2 fun hak => h.apart i j _ b hij hi hj k hak hbk
  · rw [List.getElem?_set] at hj hl'
    by_cases hij : i = j
    · rw [if_pos hij, if_pos hl] at hj
      cases hj
      rw [if_neg (by omega)] at hl'
      have hc := (Item.lt (h.there l c hl') hck).2
      rcases hhas k hbk with h1 | h1
      · exact h.apart i l _ c (by omega) hi hl' k h1 hck
      · omega
    · rw [if_neg hij] at hj
      by_cases hil : i = l
      · rw [if_pos hil, if_pos hl] at hl'
        cases hl'
        have hc := (Item.lt (h.there j b hj) hbk).2
        rcases hhas k hck with h1 | h1
        · exact h.apart i j _ b hij hi hj k h1 hbk
        · omega
      · rw [if_neg hil] at hl'
        exact h.apart j l b c hjl hj hl' k hbk hck

theorem step_pushI {ops : Array Oper} {o : Oper} {a : Act} {K : Act → World → Prop} {Q : Exit → Act → World → Prop} {E : Prop} (hgd : o.guard = none) (s x : Operand)
    (ho : o.op = .call { callee := .builtin .append, args := #[s, x], argTypes := #[24, 24] }) (base : Nat) (W : World) (v : Value) (D : List Int) (hs : a.eval s = v)
    (hown : W.ownsRow base 3 1 v D.length (D.map I)) (y : Int) (hx : a.eval x = .slice (some ⟨W.heap.size, 0, none⟩) 1 1) (hb : base ≤ W.heap.size) (hl : D.length ≤ 1000000)
    (h : ∀ g cap w', w'.ownsRow base 3 1 (.slice (some ⟨g, 0, none⟩) (D.length + 1) cap) (D.length + 1) (D.map I ++ [.int .i64 y]) → (W.alloc (Obj.cells #[.int .i64 y] 3)).grownBy w' v.ownBlock → (v.ownBlock = some g ∨ g = W.heap.size + 1) → K (a.put o.dst (.slice (some ⟨g, 0, none⟩) (D.length + 1) cap)) w') :
    if Region.wanted o (yielded ops a.tmps) = true then Oper.wp Tryd.prog o a (W.alloc (Obj.cells #[.int .i64 y] 3)).drew K Q else E := by
  obtain ⟨i0, hi, hz0, hz1, hz2⟩ := info_parts Tryd.infoInt
  have hown' : (W.alloc (Obj.cells #[.int .i64 y] 3)).drew.ownsRow base 3 1 v D.length (D.map I) := hown.alloc _
  refine step_append_lies _ hgd s x 24 ho base 3 i0 (.int .i64 0) 1 8 Tryd.underlying24 hi hz0 hz1 hz2 rfl (by decide) v D.length (D.map I) hs hown' ⟨W.heap.size, 0, none⟩ 1 1 [.int .i64 y] hx rfl (cell_one_new W _ _) (ints_oneCell .i64 [_]) (by decide) (by unfold maxLen; omega) (by omega) (by simp; omega) _ rfl ?_
  intro g cap w' h1 h2 h3 _
  refine h g cap w' h1 ⟨h2.os, h2.tape, h2.output, h2.size, h2.block⟩ ?_
  rcases h3 with h3 | h3
  · exact .inl h3
  · exact .inr (h3.trans (by simp))

theorem pl_lowS {P M K : Int} {Ws : List Nat} (hok : okP P M K Ws = true) : ∀ y ∈ plV P M K Ws, 0 ≤ y ∧ y < 4294967296 := by
  intro y hy
  obtain ⟨wd, n, m, rfl, rfl, rfl, _, hwd, _⟩ := okP_nat hok
  unfold plV at hy
  rw [if_pos hok] at hy
  unfold unpack at hy
  obtain ⟨i, _, rfl⟩ := List.mem_map.1 hy
  have h1 := Nat.mod_lt (val (bitsOf (m : Int).toNat Ws) / 2 ^ (i * (wd : Int).toNat)) (Nat.two_pow_pos (wd : Int).toNat)
  have h2 : 2 ^ (wd : Int).toNat ≤ 2 ^ 32 := Nat.pow_le_pow_right (by omega) (by omega)
  omega
theorem plV_len5 {P M K : Int} {Ws : List Nat} (hok : okP P M K Ws = true) : (plV P M K Ws).length ≤ 5000 := by
  obtain ⟨wd, n, m, rfl, rfl, rfl, _, _, hn, _⟩ := okP_nat hok
  unfold plV
  rw [if_pos hok, unpack_len, Int.toNat_natCast]
  exact hn

theorem cnt_nil (Vs : List Nat) (m : Nat) : cnt Vs 0 (m + 1) = cnt Vs 0 m + if bitN Vs m = 1 then 0 else 1 := by
  have h := bitN_lt Vs m
  rw [cnt]
  by_cases hb : bitN Vs m = 1
  · rw [if_pos hb, if_neg (by omega)]
  · rw [if_neg hb, if_pos (by omega)]

set_option maxHeartbeats 3200000 in
theorem l03List_any (V N : Int) (wd H : Nat) (M K : Int) (A A' : Option Addr) (c c' : Nat) (Ws Vs : List Nat) (w : World) (hL : Lies w U A Ws) (hL' : Lies w U A' Vs) (hw : ∀ x ∈ Ws, x < 2 ^ 64) (hw' : ∀ x ∈ Vs, x < 2 ^ 64)
    (hp : okP wd M K Ws = true) (hb : okB H Vs = true) (hH : H ≤ 5000) (hwd : wd ≤ 20) :
    Calls Tryd.prog 116 #[SP V N wd M K (.slice A Ws.length c) H (.slice A' Vs.length c')] w (NewI w (splV wd M K Ws H Vs)) := by
  obtain ⟨i0, hi, hz0, hz1, hz2⟩ := info_parts Tryd.infoInt
  have HL := Lib.hid hL
  have HL' := Lib.hid hL'
  have HW := Lib.hid hw
  have HW' := Lib.hid hw'
  have hVl : Vs.length = (H + 63) / 64 := by
    obtain ⟨h2, e2, _, h3, _⟩ := okB_nat hb
    have : h2 = H := by omega
    rw [← this]; exact h3
  have HVl := Lib.hid hVl
  have hlow := pl_lowS hp
  have hpl5 := plV_len5 hp
  have HLow := Lib.hid hlow
  unfold splV
  rw [Int.toNat_natCast, Int.toNat_natCast]
  clear hL hL' hw hw' hVl hlow
  go_enter Tryd.func116, Tryd.ntmps116
  go_wp2_with fail
  have st := ((Stage.start w).box 33 (SPC V N wd M K (.slice A Ws.length c) H (.slice A' Vs.length c')))
  have hr0 := World.ownsRow_made (base := w.heap.size) (w.alloc (Obj.cells (SPC V N wd M K (.slice A Ws.length c) H (.slice A' Vs.length c')) 33)) (e := 3) (size := 1) #[] 0 (by simp) (by unfold maxLen; omega) rfl
  rw [World.size_alloc] at hr0
  replace st := st.new (it := .row 3 (.slice (some ⟨w.heap.size + 1, 0, none⟩) 0 0) 0 []) ((Below.refl _ _).alloc (Nat.le_refl _) _) hr0 (fun k hk => by
    have e : w.heap.size + 1 = k := Option.some.inj hk
    simp
    omega)
  generalize (w.alloc (Obj.cells (SPC V N wd M K (.slice A Ws.length c) H (.slice A' Vs.length c')) 33)).alloc (Obj.cells #[] 3) = w1 at *
  clear hr0
  refine (specPackList_any wd M K A c Ws _ (st.liesOld HL.out) HW.out).mono ?_
  rintro e w2 ⟨AL, cL, rfl, ho, hb2⟩
  replace st := st.row hb2 ho
  clear ho hb2
  obtain ⟨⟨p0, p1, p2, p3, p4, p5, p6, p7⟩, _, hbl⟩ := box_eight (st.getBox 2 rfl)
  generalize plV (wd : Int) M K Ws = low at *
  go_wp2_with fail
  clear p0 p1 p2 p3 p4 p5 p6 p7 hbl
  refine (list_new H A' c' Vs _ (st.liesOld HL'.out) HVl.out hH HW'.out).mono ?_
  rintro e w3 ⟨AH, cH, rfl, ho, hb3⟩
  replace st := st.row hb3 ho
  clear ho hb3
  replace st := st.pick [2, 0, 1, 3] (by decide) (its' := [.row 3 (.slice (some ⟨w.heap.size + 1, 0, none⟩) 0 0) 0 [], .row 3 (.slice AH H cH) H ((bitsOf H Vs).map I), .row 3 (.slice AL low.length cL) low.length (low.map I), .box w.heap.size 33 (SPC V N wd M K (.slice A Ws.length c) H (.slice A' Vs.length c'))]) rfl
  obtain ⟨sz, hsz⟩ : ∃ sz, 2 ^ wd = sz := ⟨_, rfl⟩
  have hszp : 0 < sz := by rw [← hsz]; exact Nat.two_pow_pos _
  have hszl : sz ≤ 1048576 := by rw [← hsz]; exact Nat.pow_le_pow_right (n := 2) (j := 20) (by omega) hwd
  have CP : Hid (∀ W : World, Calls Tryd.prog 50 #[.int .i64 wd] W fun e w' => e = .returned (.int .i64 sz) ∧ w' = W) := Lib.hid fun W => (pow_any wd W (by omega)).mono fun e w' h => ⟨by rw [h.1, hsz], h.2.symm⟩
  have HSZ : Hid ((2 : Int) ^ wd = (sz : Int)) := Lib.hid (by rw [← pow_int, hsz])
  clear hsz hp hb
  go_wp2
  go_loopw [3, 6, 7] (fun s q i wr => ∃ m : Nat, m ≤ H ∧ i = .int .i64 m ∧ q = .int .i64 (cnt Vs 0 m) ∧ Stage w wr [.row 3 s (spl wd low Vs m).length ((spl wd low Vs m).map I), .row 3 (.slice AH H cH) H ((bitsOf H Vs).map I), .row 3 (.slice AL low.length cL) low.length (low.map I), .box w.heap.size 33 (SPC V N wd M K (.slice A Ws.length c) H (.slice A' Vs.length c'))]) (fun _ _ i _ => H - (intOf i).toNat)
  case atStart => exact ⟨0, Nat.zero_le _, rfl, rfl, st⟩
  case round =>
    clear st
    obtain ⟨m, hm, rfl, rfl, st⟩ := hrel
    have hSl := spl_len wd low Vs m
    have hc1 := cnt_le Vs 1 m
    have hc0 := cnt_le Vs 0 m
    obtain ⟨As, cs, rfl⟩ := own_slice (st.getRow 0 rfl)
    by_cases hlt : m < H
    · obtain ⟨b, o, x, hA, hbl, hx, hc⟩ := (st.lies 1 rfl).at_ (i := m) (by rw [bitsOf_len]; exact hlt)
      rw [bitsOf_get _ _ _ hlt] at hx
      cases hx
      subst hA
      have HC0 := Lib.hid (cnt_nil Vs m)
      have hbl2 := bitN_lt Vs m
      by_cases hbit : bitN Vs m = 1
      · rw [hbit] at hc
        rw [if_pos hbit, Nat.add_zero] at HC0
        by_cases hd : (spl wd low Vs m).length < low.length
        · obtain ⟨bl, ol, y, hAL, hbl3, hy, hcy⟩ := (st.lies 2 rfl).at_ (i := (spl wd low Vs m).length) hd
          subst hAL
          have hyy := HLow.out y (List.mem_of_getElem? hy)
          have HP := Lib.hid (spl_push wd low Vs m y hbit (by rw [show cnt Vs 1 m = (spl wd low Vs m).length by omega]; exact hy))
          rw [HSZ.out] at HP
          obtain ⟨⟨p0, p1, p2, p3, p4, p5, p6, p7⟩, _, hbxl⟩ := box_eight (st.getBox 3 rfl)
          have hDl : (spl wd low Vs m).length ≤ 5000 := by omega
          clear hSl hbit hbl2 hy
          generalize spl wd low Vs m = D at *
          generalize hcq : cnt Vs 0 m = q0 at *
          clear hcq
          have SC := Lib.hid st.drew
          clear st
          obtain ⟨z, hz⟩ : ∃ z : Int, (q0 : Int) * (sz : Int) = z := ⟨_, rfl⟩
          have hzz0 : 0 ≤ z := by rw [← hz]; exact Int.mul_nonneg (by omega) (by omega)
          have hzz1 : z ≤ 5000 * 1048576 := by rw [← hz]; exact Int.mul_le_mul (by omega) (by omega) (by omega) (by omega)
          have e1 : IntKind.i64.wrap ((q0 : Int) * (sz : Int)) = z := by rw [hz]; exact IntWalk.i64_in _ (by omega)
          rw [hz] at HP
          clear hz
          obtain ⟨x, hx⟩ : ∃ x : Int, z + y = x := ⟨_, rfl⟩
          have e2 : IntKind.i64.wrap (z + y) = x := by rw [hx]; exact IntWalk.i64_in _ (by omega)
          rw [hx] at HP
          clear hx
          have td : decide ((D.length : Int) < (low.length : Int)) = true := by simp; omega
          have tdn : decide (D.length < low.length) = true := by simp; omega
          go_wp2
          have HS := Lib.hid ((Stage.there SC.out 0 _ rfl : wr.drew.ownsRow w.heap.size 3 1 (.slice As D.length cs) D.length (D.map I)))
          have HSz : Hid (w.heap.size ≤ wr.heap.size) := Lib.hid SC.out.below.size
          have HST := Lib.hid fun (g cap : Nat) (w4 : World) (h1 : w4.ownsRow w.heap.size 3 1 (.slice (some ⟨g, 0, none⟩) (D.length + 1) cap) (D.length + 1) (D.map I ++ [.int .i64 x])) (h2 : (wr.alloc (Obj.cells #[.int .i64 x] 3)).grownBy w4 (Value.slice As D.length cs).ownBlock) (h3 : (Value.slice As D.length cs).ownBlock = some g ∨ g = wr.heap.size + 1) =>
            Stage.push (its := [.row 3 (.slice As D.length cs) D.length (D.map I), .row 3 (.slice (some ⟨b, o, none⟩) H cH) H ((bitsOf H Vs).map I), .row 3 (.slice (some ⟨bl, ol, none⟩) low.length cL) low.length (low.map I), .box w.heap.size 33 (SPC V N wd M K (.slice A Ws.length c) H (.slice A' Vs.length c'))]) (W := wr.drew) SC.out 0 (o := Obj.cells #[.int .i64 x] 3) (v' := .slice (some ⟨g, 0, none⟩) (D.length + 1) cap) rfl h1 ⟨h2.os, h2.tape, h2.output, h2.size, h2.block⟩ (h3.elim (fun h => .inl h.symm) (fun h => .inr (by rw [h]; rfl)))
          clear SC
          go_region_law (first | (go_simp; go_at_call 50; (with_reducible refine Calls.mono (CP.out _) ?_); rintro e w5 ⟨rfl, rfl⟩) | (refine step_pushI rfl (.tmp 33) (.tmp 46) rfl w.heap.size wr (.slice As D.length cs) D rfl HS.out x rfl HSz.out (by omega) ?_; intro g cap w6 hown hgrow hat))
          all_goals (
            have HF := Lib.hid (HST.out _ _ _ hown hgrow hat)
            clear hown hgrow hat
            go_wp2
            go_roundw
            case rel => exact ⟨m + 1, by omega, by go_num, by simp [HC0.out], by rw [HP.out, List.length_append, List.map_append]; exact HF.out⟩
            case measure => simp [intOf]; omega)
        · have HF := Lib.hid (spl_full wd low Vs m (by omega))
          have td : decide (((spl wd low Vs m).length : Int) < (low.length : Int)) = false := by simp; omega
          have tdn : decide ((spl wd low Vs m).length < low.length) = false := by simp; omega
          have SC := Lib.hid st
          clear st hSl hbit hbl2
          generalize spl wd low Vs m = D at *
          generalize hcq : cnt Vs 0 m = q0 at *
          clear hcq
          go_wp2
          go_roundw
          case rel => exact ⟨m + 1, by omega, by go_num, by simp [HC0.out], by rw [HF.out]; exact SC.out⟩
          case measure => simp [intOf]; omega
      · have h0 : bitN Vs m = 0 := by omega
        rw [h0] at hc
        rw [if_neg hbit] at HC0
        have HF := Lib.hid (spl_no wd low Vs m hbit)
        have SC := Lib.hid st
        clear st hSl hbit hbl2 h0
        generalize spl wd low Vs m = D at *
        generalize hcq : cnt Vs 0 m = q0 at *
        clear hcq
        go_wp2
        go_roundw
        case rel => exact ⟨m + 1, by omega, by go_num, by simp [HC0.out], by rw [HF.out]; exact SC.out⟩
        case measure => simp [intOf]; omega
    · obtain rfl : m = H := by omega
      have h := st.there 0 _ rfl
      have HR : Hid (NewI w (spl wd low Vs m) (.returned (.slice As (spl wd low Vs m).length cs)) wr) := Lib.hid (newI_own h rfl st.below)
      clear st h hSl
      generalize spl wd low Vs m = D at *
      go_wp2
      go_ret
      exact HR.out

end Go.Proofs.YtlbnngolcoefdaaDoor
