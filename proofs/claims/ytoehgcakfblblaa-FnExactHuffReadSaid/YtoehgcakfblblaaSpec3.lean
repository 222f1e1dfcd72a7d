/- The specification's BitsOf: the words of a list of bits, or none. -/
import Derived.Test.YtoehgcakfblblaaSpec1
namespace Go.Proofs.Ytoehgcakfblblaa
open Go.RowKit
set_option maxRecDepth 100000

/-- What BitsOf is to return for a list of numbers. -/
def BitsOfPost (B : List Int) (w : World) (e : Ending) (w' : World) : Prop :=
  (B.length ≤ 5000 ∧ IsBits B ∧ Below w.heap.size w w' ∧ ∃ v, e = .returned (.tuple #[.agg #[.int .i64 B.length, v], .bool true]) ∧ w'.ownsRow w.heap.size 123 1 v ((B.length + 63) / 64) ((wordsOf B).map U)) ∨
  (¬ (B.length ≤ 5000 ∧ IsBits B) ∧ Below w.heap.size w w' ∧ e = .returned (.tuple #[.agg #[.int .i64 0, .slice none 0 0], .bool false]))

set_option maxHeartbeats 400000 in
theorem specOf_long (A : Option Addr) (n c : Nat) (w : World) (hn : n ≤ 17592186044416) (h : 5000 < n) :
    Calls Try.prog 65 #[.slice A n c] w fun e w' => e = .returned (.tuple #[.agg #[.int .i64 0, .slice none 0 0], .bool false]) ∧ Below w.heap.size w w' := by
  go_enter Try.func65, Try.ntmps65
  go_wp2
  go_returns
  exact ⟨rfl, by go_grown⟩

/-- What holds of the world after k rounds of BitsOf. -/
structure OfInv (B : List Int) (w : World) (n k : Nat) (va : Option Addr) (vc : Nat) (wr : World) : Prop where
  below : Below w.heap.size w wr
  res : Box wr w.heap.size 44 #[.int .i64 0, .slice none 0 0]
  box : Box wr (w.heap.size + 1) 44 #[.int .i64 n, .slice va ((k + 63) / 64) vc]
  own : wr.ownsRow (w.heap.size + 2) 123 1 (.slice va ((k + 63) / 64) vc) ((k + 63) / 64) ((wordsOf (B.take k)).map U)

theorem OfInv.start (B : List Int) (w : World) (n : Nat) (a b : Obj) (ha : a = Obj.cells #[Value.int IntKind.i64 0, Value.slice none 0 0] 44) (hb : b = Obj.cells #[Value.int IntKind.i64 ↑n, Value.slice none 0 0] 44) :
    OfInv B w n 0 none 0 ((w.alloc a).alloc b) := by
  subst ha hb
  refine ⟨by go_grown, (Box.made _ _ _).alloc _, ?_, ?_⟩
  · have h := Box.made (w.alloc (Obj.cells #[Value.int IntKind.i64 0, Value.slice none 0 0] 44)) 44 #[Value.int IntKind.i64 ↑n, Value.slice none 0 0]
    rwa [World.size_alloc] at h
  · rw [List.take_zero, wordsOf_nil]
    exact World.ownsRow_nil _ _ _ _

/-- A bit 0 more. -/
theorem words_take0 {B : List Int} {k : Nat} (hx : B[k]? = some 0) : wordsOf (B.take (k + 1)) = if k % 64 = 0 then wordsOf (B.take k) ++ [0] else wordsOf (B.take k) := by
  obtain ⟨hk, hx⟩ := List.getElem?_eq_some_iff.1 hx
  have hl : (B.take k).length = k := by rw [List.length_take]; omega
  rw [List.take_succ_eq_append_getElem hk, hx]
  split
  · rw [wordsOf_snoc0 _ _ (by rw [hl]; assumption)]; rfl
  · rw [wordsOf_snoc _ _ (by rw [hl]; assumption), hl]
    simp only [Int.toNat_zero, Nat.mul_zero, Nat.add_zero]
    apply List.ext_getElem?
    intro j
    rw [List.getElem?_set]
    split
    · subst j
      split
      · rw [List.getD_eq_getElem?_getD]
        rename_i h
        rw [List.getElem?_eq_getElem h]; rfl
      · rename_i h
        rw [List.getElem?_eq_none (by omega)]
    · rfl
/-- A bit 1 more. -/
theorem words_take1 {B : List Int} {k : Nat} (hx : B[k]? = some 1) (y : Nat) (hy : (if k % 64 = 0 then wordsOf (B.take k) ++ [0] else wordsOf (B.take k))[k / 64]? = some y) :
    wordsOf (B.take (k + 1)) = (if k % 64 = 0 then wordsOf (B.take k) ++ [0] else wordsOf (B.take k)).set (k / 64) (y + 2 ^ (k % 64)) := by
  obtain ⟨hk, hx⟩ := List.getElem?_eq_some_iff.1 hx
  have hl : (B.take k).length = k := by rw [List.length_take]; omega
  rw [List.take_succ_eq_append_getElem hk, hx]
  split
  · rename_i h0
    rw [if_pos h0] at hy
    have hw : (wordsOf (B.take k)).length = k / 64 := by rw [wordsOf_len, hl]; omega
    rw [List.getElem?_append_right (by omega), hw, Nat.sub_self] at hy
    have e : y = 0 := by simpa using hy.symm
    subst e
    rw [wordsOf_snoc0 _ _ (by rw [hl]; assumption), List.set_append_right _ _ (by omega), hw, Nat.sub_self, h0]
    rfl
  · rename_i h0
    rw [if_neg h0] at hy
    rw [wordsOf_snoc _ _ (by rw [hl]; assumption), hl, List.getD_eq_getElem?_getD, hy]
    simp
theorem word_bound {B : List Int} {k : Nat} (hb : IsBits (B.take k)) (y : Nat) (hk : k < B.length) (hy : (if k % 64 = 0 then wordsOf (B.take k) ++ [0] else wordsOf (B.take k))[k / 64]? = some y) : y + 2 ^ (k % 64) < 2 ^ 64 := by
  have hl : (B.take k).length = k := by rw [List.length_take]; omega
  split at hy
  · rename_i h0
    have hw : (wordsOf (B.take k)).length = k / 64 := by rw [wordsOf_len, hl]; omega
    rw [List.getElem?_append_right (by omega), hw, Nat.sub_self] at hy
    have e : y = 0 := by simpa using hy.symm
    rw [e, h0]; decide
  · rename_i h0
    rw [wordsOf_get _ _ (by rw [hl]; omega)] at hy
    have e := Option.some.inj hy
    have hd : ((B.take k).drop (64 * (k / 64))).length = k % 64 := by rw [List.length_drop, hl]; omega
    rw [List.take_of_length_le (by omega)] at e
    have h1 := val_lt _ (hb.drop (64 * (k / 64)))
    rw [hd, e] at h1
    have h2 : 2 ^ (k % 64 + 1) ≤ 2 ^ 64 := Nat.pow_le_pow_right (by omega) (by omega)
    rw [Nat.pow_succ] at h2
    omega

/-- What holds in the midst of a round, once the word of bit k is there. -/
structure MidInv (B : List Int) (w : World) (n k g m cap : Nat) (W : World) : Prop where
  below : Below w.heap.size w W
  res : Box W w.heap.size 44 #[.int .i64 0, .slice none 0 0]
  box : Box W (w.heap.size + 1) 44 #[.int .i64 n, .slice (some ⟨g, 0, none⟩) m cap]
  own : W.ownsRow (w.heap.size + 2) 123 1 (.slice (some ⟨g, 0, none⟩) m cap) m ((if k % 64 = 0 then wordsOf (B.take k) ++ [0] else wordsOf (B.take k)).map U)
  len : m = k / 64 + 1

theorem mid_push {B : List Int} {w : World} {n k vc : Nat} {va : Option Addr} {wr : World} (inv : OfInv B w n k va vc wr) (h0 : k % 64 = 0) {o : Obj} {g cap : Nat} {w1 : World}
    (hown : w1.ownsRow (w.heap.size + 2) 123 1 (.slice (some ⟨g, 0, none⟩) ((k + 63) / 64 + 1) cap) ((k + 63) / 64 + 1) ((wordsOf (B.take k)).map U ++ [.int .u64 0]))
    (hg : (wr.alloc o).grownBy w1 (Value.slice va ((k + 63) / 64) vc).ownBlock) :
    MidInv B w n k g ((k + 63) / 64 + 1) cap (w1.setCell ⟨w.heap.size + 1, 1, none⟩ (.slice (some ⟨g, 0, none⟩) ((k + 63) / 64 + 1) cap)) := by
  have hlt := inv.box.lt
  have hb1 : Below w.heap.size w w1 := (inv.below.alloc (by omega) o).grown hg (by simp; omega) (fun j hj => by have := (inv.own.lt j hj).1; omega)
  have hx := (inv.box.alloc o).grown hg (own_apart inv.own (by omega))
  have hr := (inv.res.alloc o).grown hg (own_apart inv.own (by omega))
  refine ⟨hb1.setCell (by simp) _, hr.off (by simp) _, ?_, ?_, by omega⟩
  · exact hx.put 1 _
  · rw [if_pos h0, List.map_append]
    exact ownsRow_setCell_below hown (by simp) _

theorem mid_keep {B : List Int} {w : World} {n k vc g : Nat} {wr : World} (inv : OfInv B w n k (some ⟨g, 0, none⟩) vc wr) (h0 : k % 64 ≠ 0) : MidInv B w n k g ((k + 63) / 64) vc wr :=
  ⟨inv.below, inv.res, inv.box, by rw [if_neg h0]; exact inv.own, by omega⟩

theorem mid_zero {B : List Int} {w : World} {n k g m cap : Nat} {W : World} (h : MidInv B w n k g m cap W) (hx : B[k]? = some 0) : OfInv B w n (k + 1) (some ⟨g, 0, none⟩) cap W := by
  have e : (k + 1 + 63) / 64 = m := by rw [h.len]; omega
  refine ⟨h.below, h.res, by rw [e]; exact h.box, ?_⟩
  rw [e, words_take0 hx]
  exact h.own

theorem mid_one {B : List Int} {w : World} {n k g m cap : Nat} {W : World} (h : MidInv B w n k g m cap W) (hx : B[k]? = some 1) {y : Nat}
    (hy : (if k % 64 = 0 then wordsOf (B.take k) ++ [0] else wordsOf (B.take k))[k / 64]? = some y) : OfInv B w n (k + 1) (some ⟨g, 0, none⟩) cap (W.setCell ⟨g, k / 64, none⟩ (.int .u64 ((y + 2 ^ (k % 64) : Nat) : Int))) := by
  have e : (k + 1 + 63) / 64 = m := by rw [h.len]; omega
  have hg := (h.own.lt g rfl).1
  refine ⟨h.below.setCell (by simp; omega) _, h.res.off (by simp; omega) _, by rw [e]; exact h.box.off (by simp; omega) _, ?_⟩
  rw [e, words_take1 hx y hy, List.map_set]
  exact (h.own.stored (k / 64) _).1

theorem OfInv.drew {B : List Int} {w : World} {n k vc : Nat} {va : Option Addr} {wr : World} (h : OfInv B w n k va vc wr) : OfInv B w n k va vc wr.drew :=
  ⟨h.below.drew, h.res, h.box, h.own⟩
theorem mid_one' {B : List Int} {w : World} {n k g m cap q r p : Nat} {W : World} (h : MidInv B w n k g m cap W) (hx : B[k]? = some 1) {y : Nat}
    (hy : (if k % 64 = 0 then wordsOf (B.take k) ++ [0] else wordsOf (B.take k))[k / 64]? = some y) (hq : k / 64 = q) (hr : k % 64 = r) (hp : 2 ^ r = p) :
    OfInv B w n (k + 1) (some ⟨g, 0, none⟩) cap (W.setCell ⟨g, q, none⟩ (.int .u64 ((y : Int) + (p : Int)))).drew := by
  subst hq hr hp
  exact (mid_one h hx hy).drew

theorem mid_word {B : List Int} {w : World} {n k g m cap : Nat} {W : World} (h : MidInv B w n k g m cap W) : ∃ y, (if k % 64 = 0 then wordsOf (B.take k) ++ [0] else wordsOf (B.take k))[k / 64]? = some y ∧ W.cell? ⟨g, k / 64, none⟩ = some (.int .u64 y) := by
  have hm := h.len
  have hl : (if k % 64 = 0 then wordsOf (B.take k) ++ [0] else wordsOf (B.take k)).length = m := by have := h.own.1; simpa using this
  have hlt : k / 64 < (if k % 64 = 0 then wordsOf (B.take k) ++ [0] else wordsOf (B.take k)).length := by omega
  refine ⟨_, List.getElem?_eq_getElem hlt, ?_⟩
  rw [h.own.cellAt (k / 64) (by omega), List.getElem?_map, List.getElem?_eq_getElem hlt]
  rfl

theorem bits_snoc {B : List Int} {k : Nat} {x : Int} (h : IsBits (B.take k)) (hx : B[k]? = some x) (h01 : x = 0 ∨ x = 1) : IsBits (B.take (k + 1)) := by
  intro b hb
  rw [List.take_add_one, hx] at hb
  rcases List.mem_append.1 hb with hb | hb
  · exact h b hb
  · simp at hb
    subst hb
    exact h01

set_option maxRecDepth 100000 in
set_option maxHeartbeats 400000 in
theorem specOf_short (A : Option Addr) (n c : Nat) (B : List Int) (w : World) (hB : Lies w I A B) (hl : Hid (B.length = n)) (hn : n ≤ 5000) :
    Calls Try.prog 65 #[.slice A n c] w (BitsOfPost B w) := by
  obtain ⟨i0, hi, hz0, hz1, hz2⟩ := info_parts Try.infoU64
  have hn0 : decide ((5000 : Int) < (n : Int)) = false := by simp; omega
  go_enter Try.func65, Try.ntmps65
  go_wp2
  go_loopw [5] (fun i wr => ∃ (k : Nat) (va : Option Addr) (vc : Nat), k ≤ n ∧ i = .int .i64 k ∧ IsBits (B.take k) ∧ OfInv B w n k va vc wr) (fun i _ => n - (intOf i).toNat)
  case atStart => exact ⟨0, _, _, Nat.zero_le _, rfl, by intro b hb; simp at hb, OfInv.start B w n _ _ rfl rfl⟩
  case round =>
    obtain ⟨k, va, vc, hk, rfl, hbits, inv⟩ := hrel
    have HBits := Lib.hid hbits
    clear hbits
    have hb0 := inv.box.cell 0
    have hb1 := inv.box.cell 1
    have hf1 := inv.box.frozen 1
    have hr0 := inv.res.cell 0
    have hr1 := inv.res.cell 1
    have hrf0 := inv.res.frozen 0
    have hrf1 := inv.res.frozen 1
    simp only [List.getElem?_toArray, List.getElem?_cons_zero, List.getElem?_cons_succ] at hb0 hb1 hr0 hr1
    by_cases hlt : k < n
    · obtain ⟨b, o, x, rfl, hbl, hx, hc⟩ := hB.at_ (i := k) (by rw [hl.out]; exact hlt)
      have hc' : wr.cell? ⟨b, o + k, none⟩ = some (.int .i64 x) := (inv.below.cell (p := ⟨b, o + k, none⟩) hbl).trans hc
      by_cases hx01 : x = 0 ∨ x = 1
      · by_cases hk0 : k % 64 = 0
        · have t3 : ((k : Int) % 64 == 0) = true := by simp; omega
          rcases hx01 with rfl | rfl
          · clear hc hB
            go_wp2_with (at_builtin; refine wpList_append_lies _ rfl _ _ 42 rfl (w.heap.size + 2) 123 i0 (.int .u64 0) 1 8 Try.underlying42 hi hz0 hz1 hz2 rfl (by decide) _ _ _ rfl (inv.own.alloc _) ⟨wr.heap.size, 0, none⟩ 1 1 [.int .u64 0] rfl rfl (cell_one_new _ _ _) (ints_oneCell .u64 [_]) (by decide) (by unfold maxLen; omega) (by omega) (by have := inv.box.lt; simp; omega) _ rfl ?_)
            intro g cap w1 hown hgrow _ hgl
            have mi := mid_push inv hk0 hown hgrow
            have hq := ((inv.box.alloc _).grown hgrow (own_apart inv.own (by omega))).cell 1
            have hqf := ((inv.box.alloc _).grown hgrow (own_apart inv.own (by omega))).frozen 1
            simp only [List.getElem?_toArray, List.getElem?_cons_zero, List.getElem?_cons_succ] at hq
            have hbl1 : w1.cell? ⟨b, o + k, none⟩ = some (.int .i64 0) := by
              have hlt := inv.below.size
              have h1 : Below w.heap.size wr w1 := ((Below.refl _ _).alloc hlt _).grown hgrow (by simp; omega) (fun j hj => by have := (inv.own.lt j hj).1; omega)
              exact (h1.cell (p := ⟨b, o + k, none⟩) hbl).trans hc'
            clear hown hgrow hc' hb0 hb1 hf1 hr0 hr1 hrf0 hrf1
            have hne : b ≠ w.heap.size + 1 := by omega
            go_wp2
            go_roundw
            case rel => exact ⟨k + 1, _, _, by omega, by go_num, bits_snoc HBits.out hx (.inl rfl), mid_zero mi hx⟩
            case measure => simp [intOf]; omega
          · clear hc hB
            go_wp2_with (at_builtin; refine wpList_append_lies _ rfl _ _ 42 rfl (w.heap.size + 2) 123 i0 (.int .u64 0) 1 8 Try.underlying42 hi hz0 hz1 hz2 rfl (by decide) _ _ _ rfl (inv.own.alloc _) ⟨wr.heap.size, 0, none⟩ 1 1 [.int .u64 0] rfl rfl (cell_one_new _ _ _) (ints_oneCell .u64 [_]) (by decide) (by unfold maxLen; omega) (by omega) (by have := inv.box.lt; simp; omega) _ rfl ?_)
            intro g cap w1 hown hgrow _ hgl
            have mi := mid_push inv hk0 hown hgrow
            have hq := ((inv.box.alloc _).grown hgrow (own_apart inv.own (by omega))).cell 1
            have hqf := ((inv.box.alloc _).grown hgrow (own_apart inv.own (by omega))).frozen 1
            simp only [List.getElem?_toArray, List.getElem?_cons_zero, List.getElem?_cons_succ] at hq
            have hbl1 : w1.cell? ⟨b, o + k, none⟩ = some (.int .i64 1) := by
              have hlt := inv.below.size
              have h1 : Below w.heap.size wr w1 := ((Below.refl _ _).alloc hlt _).grown hgrow (by simp; omega) (fun j hj => by have := (inv.own.lt j hj).1; omega)
              exact (h1.cell (p := ⟨b, o + k, none⟩) hbl).trans hc'
            clear hown hgrow hc' hb0 hb1 hf1 hr0 hr1 hrf0 hrf1
            have hne : b ≠ w.heap.size + 1 := by omega
            go_wp2
            have hmb := mi.box.cell 1
            simp only [List.getElem?_toArray, List.getElem?_cons_zero, List.getElem?_cons_succ] at hmb
            obtain ⟨y, hy, hyc⟩ := mid_word mi
            have hyf := mi.own.frozenAt (k / 64)
            have hyb := word_bound HBits.out y (by rw [hl.out]; exact hlt) hy
            have MI := Lib.hid mi
            have HY := Lib.hid hy
            have HX := Lib.hid hx
            clear mi hy hx hq hqf hbl1 hgl
            generalize w1.setCell { block := w.heap.size + 1, off := 1 } (Value.slice (some { block := g, off := 0 }) ((k + 63) / 64 + 1) cap) = W at *
            obtain ⟨q, hq⟩ : ∃ q, k / 64 = q := ⟨_, rfl⟩
            have hqi : (k : Int) / 64 = (q : Int) := by omega
            have e1 : IntKind.i64.wrap ((k : Int) / 64) = (q : Int) := by rw [hqi]; exact IntWalk.i64_in _ (by omega)
            have hql : q < (k + 63) / 64 + 1 := by omega
            rw [hq] at hyc hyf
            have HQ := Lib.hid hq
            clear hq hqi
            generalize (k + 63) / 64 + 1 = m at *
            obtain ⟨r, hr⟩ : ∃ r, k % 64 = r := ⟨_, rfl⟩
            obtain ⟨p, hp⟩ : ∃ p, 2 ^ r = p := ⟨_, rfl⟩
            have e2 : (k : Int).tmod 64 = (r : Int) := by rw [IntWalk.rem_in _ _ (by omega)]; omega
            have CP : ∀ W : World, Calls Try.prog 107 #[.int .i64 r] W fun e w' => e = .returned (.int .u64 p) ∧ w' = W := fun W =>
              (power_any r W (by omega)).mono fun e w' h => ⟨by rw [h.1, hp], h.2.symm⟩
            rw [hr, hp] at hyb
            have e6 : IntKind.u64.wrap ((y : Int) + (p : Int)) = (y : Int) + (p : Int) := IntWalk.u64_in _ (by omega)
            have HC := Lib.hid CP
            have HR := Lib.hid hr
            have HP := Lib.hid hp
            clear CP hr hp
            go_still_tail 15, (by kernel_rfl)
            still_call (HC.out _)
            repeat still_step
            refine wpStill_nil ?_
            change wpList _ _ _ _ _ W.drew
            go_wp2
            go_roundw
            case rel => exact ⟨k + 1, _, _, by omega, by go_num, bits_snoc HBits.out HX.out (.inr rfl), mid_one' MI.out HX.out HY.out HQ.out HR.out HP.out⟩
            case measure => simp [intOf]; omega
        · have t3 : ((k : Int) % 64 == 0) = false := by rw [beq_eq_false_iff_ne]; omega
          obtain ⟨g, cap, hv, _, _⟩ := inv.own.form (by omega)
          injection hv with hva hvn hvc
          subst hva hvc
          have mi := mid_keep inv hk0
          rcases hx01 with rfl | rfl
          · clear hc hB hvn
            go_wp2
            go_roundw
            case rel => exact ⟨k + 1, _, _, by omega, by go_num, bits_snoc HBits.out hx (.inl rfl), mid_zero mi hx⟩
            case measure => simp [intOf]; omega
          · clear hc hB hvn
            go_wp2
            have hmb := mi.box.cell 1
            simp only [List.getElem?_toArray, List.getElem?_cons_zero, List.getElem?_cons_succ] at hmb
            obtain ⟨y, hy, hyc⟩ := mid_word mi
            have hyf := mi.own.frozenAt (k / 64)
            have hyb := word_bound HBits.out y (by rw [hl.out]; exact hlt) hy
            have MI := Lib.hid mi
            have HY := Lib.hid hy
            have HX := Lib.hid hx
            clear mi hy hx
            obtain ⟨q, hq⟩ : ∃ q, k / 64 = q := ⟨_, rfl⟩
            have hqi : (k : Int) / 64 = (q : Int) := by omega
            have e1 : IntKind.i64.wrap ((k : Int) / 64) = (q : Int) := by rw [hqi]; exact IntWalk.i64_in _ (by omega)
            have hql : q < (k + 63) / 64 := by omega
            rw [hq] at hyc hyf
            have HQ := Lib.hid hq
            clear hq hqi
            have hm0 : 0 < (k + 63) / 64 := by omega
            generalize (k + 63) / 64 = m at *
            obtain ⟨r, hr⟩ : ∃ r, k % 64 = r := ⟨_, rfl⟩
            obtain ⟨p, hp⟩ : ∃ p, 2 ^ r = p := ⟨_, rfl⟩
            have e2 : (k : Int).tmod 64 = (r : Int) := by rw [IntWalk.rem_in _ _ (by omega)]; omega
            have CP : ∀ W : World, Calls Try.prog 107 #[.int .i64 r] W fun e w' => e = .returned (.int .u64 p) ∧ w' = W := fun W =>
              (power_any r W (by omega)).mono fun e w' h => ⟨by rw [h.1, hp], h.2.symm⟩
            rw [hr, hp] at hyb
            have e6 : IntKind.u64.wrap ((y : Int) + (p : Int)) = (y : Int) + (p : Int) := IntWalk.u64_in _ (by omega)
            have HC := Lib.hid CP
            have HR := Lib.hid hr
            have HP := Lib.hid hp
            clear CP hr hp
            go_still_tail 15, (by kernel_rfl)
            still_call (HC.out _)
            repeat still_step
            refine wpStill_nil ?_
            change wpList _ _ _ _ _ wr.drew
            go_wp2
            go_roundw
            case rel => exact ⟨k + 1, _, _, by omega, by go_num, bits_snoc HBits.out HX.out (.inr rfl), mid_one' MI.out HX.out HY.out HQ.out HR.out HP.out⟩
            case measure => simp [intOf]; omega
      · have t0 : (x != 0) = true := by rw [bne_iff_ne]; omega
        have t1 : (x != 1) = true := by rw [bne_iff_ne]; omega
        clear hc hB
        go_wp2
        refine bodyPost_ret (v := .tuple #[.agg #[.int .i64 0, .slice none 0 0], .bool false]) (by simp [results, Try.results65, go_sem, hr0, hr1]) rfl ?_
        refine .inr ⟨fun h => hx01 (h.2 x (List.mem_of_getElem? hx)), ?_, rfl⟩
        exact (inv.below.setCell (Nat.le_refl _) _).setCell (Nat.le_refl _) _
    · clear hB
      go_wp2
      have e : k = n := by omega
      subst e
      refine bodyPost_ret (v := .tuple #[.agg #[.int .i64 k, .slice va ((k + 63) / 64) vc], .bool true]) (by simp [results, Try.results65, go_sem, hr0, hr1]) rfl ?_
      have hlk := hl.out
      have hbits := HBits.out
      have hown := inv.own
      rw [List.take_of_length_le (by omega)] at hbits hown
      refine .inl ⟨by omega, hbits, (inv.below.setCell (Nat.le_refl _) _).setCell (Nat.le_refl _) _, _, by rw [hlk], ?_⟩
      rw [hlk]
      exact own_mono (ownsRow_setCell_below (ownsRow_setCell_below hown (by go_size) _) (by go_size) _) (by go_size)

end Go.Proofs.Ytoehgcakfblblaa
