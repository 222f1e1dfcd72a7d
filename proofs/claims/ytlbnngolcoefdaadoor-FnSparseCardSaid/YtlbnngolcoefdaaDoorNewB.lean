import Derived.Test.YtlbnngolcoefdaaDoorSelMath2
import Derived.Test.YtlbnngolcoefdaaDoorLaws5
/- Contracts of the specification's bit vectors. -/
namespace Go.Proofs.YtlbnngolcoefdaaDoor
open Go.RowKit
set_option maxRecDepth 100000

theorem pow_lt64 {k : Nat} (h : k < 64) : 2 ^ k < 2 ^ 64 := Nat.pow_lt_pow_right (by omega) h
theorem half_lt {p j i : Nat} (h : p * 2 ^ j = 2 ^ i) (hj : 0 < j) (hi : i < 64) : p < 9223372036854775808 := by
  have h1 : 2 ^ i ≤ 2 ^ 63 := Nat.pow_le_pow_right (by omega) (by omega)
  have h2 : 2 ^ 1 ≤ 2 ^ j := Nat.pow_le_pow_right (by omega) hj
  rcases Nat.lt_or_ge p 9223372036854775808 with h3 | h3
  · exact h3
  · have := Nat.mul_le_mul h3 h2
    omega

set_option maxHeartbeats 400000 in
theorem power_any (i : Nat) (w : World) (hi : i < 64) :
    Calls Tryd.prog 90 #[.int .i64 i] w fun e w' => e = .returned (U (2 ^ i)) ∧ w = w' := by
  go_enter Tryd.func90, Tryd.ntmps90
  go_wp2
  go_loop [0, 3] (fun v x => ∃ j p : Nat, j ≤ i ∧ v = .int .i64 j ∧ x = .int .u64 p ∧ Hid (p * 2 ^ j = 2 ^ i)) (fun v _ => (intOf v).toNat)
  case atStart => exact ⟨i, 1, Nat.le_refl _, rfl, rfl, Lib.hid (by omega)⟩
  case round =>
    obtain ⟨j, p, hj, rfl, rfl, hp⟩ := hrel
    rcases Nat.eq_zero_or_pos j with h0 | h0
    · subst h0
      go_wp2
      go_ret
      exact ⟨ret_int (by rw [← hp.out]; omega), rfl⟩
    · obtain ⟨j, rfl⟩ : ∃ j', j = j' + 1 := ⟨j - 1, by omega⟩
      have hb : p < 9223372036854775808 := half_lt hp.out (by omega) hi
      go_wp2
      go_round
      case rel => exact ⟨j, 2 * p, by omega, by go_num, by go_num, Lib.hid (by rw [← hp.out, Nat.pow_succ, Nat.mul_comm 2 p, Nat.mul_assoc, Nat.mul_comm 2])⟩
      case measure => simp [intOf]

end Go.Proofs.YtlbnngolcoefdaaDoor

/- The specification's list of bits. -/
namespace Go.Proofs.YtlbnngolcoefdaaDoor
open Go.RowKit
set_option maxRecDepth 100000

set_option maxHeartbeats 400000 in
theorem list_any (n : Nat) (A : Option Addr) (c : Nat) (L : List Nat) (w : World) (hL : Lies w U A L) (hl : (n + 63) / 64 ≤ L.length) (hn : n ≤ 5000) (hm : L.length ≤ 5000) (hw : ∀ x ∈ L, x < 2 ^ 64) :
    Calls Tryd.prog 135 #[.agg #[.int .i64 n, .slice A L.length c]] w fun e w' => ∃ v, e = .returned v ∧
      w'.ownsRow w.heap.size 3 1 v n ((bitsOf n L).map I) ∧ Below w.heap.size w w' := by
  obtain ⟨i0, hi, hz0, hz1, hz2⟩ := info_parts Tryd.infoInt
  go_enter Tryd.func135, Tryd.ntmps135
  go_wp2
  generalize hW0 : w.alloc (Obj.cells #[Value.int IntKind.i64 ↑n, Value.slice A L.length c] 29) = W0
  have hs0 : W0.heap.size = w.heap.size + 1 := by rw [← hW0]; simp
  have hb0 : Below w.heap.size w W0 := by rw [← hW0]; go_grown
  have hc0 : W0.cell? ⟨w.heap.size, 0, none⟩ = some (.int .i64 n) := by rw [← hW0]; simp
  have hc1 : W0.cell? ⟨w.heap.size, 1, none⟩ = some (.slice A L.length c) := by rw [← hW0]; simp
  have hL0 := hL.below hb0
  have HS := Lib.hid hs0
  have HB := Lib.hid hb0
  have HC0 := Lib.hid hc0
  have HC1 := Lib.hid hc1
  clear hW0 hs0 hb0 hc0 hc1 hL
  go_loopw [3, 4] (fun v i wr => ∃ k : Nat, k ≤ n ∧ i = .int .i64 k ∧ wr.ownsRow W0.heap.size 3 1 v k ((bitsOf k L).map I) ∧ Below W0.heap.size W0 wr) (fun _ i _ => n - (intOf i).toNat)
  case atStart => 
    refine ⟨0, Nat.zero_le _, rfl, ?_, (Below.refl _ _).alloc (Nat.le_refl _) _⟩
    rw [← HS.out]
    exact World.ownsRow_made W0 #[] 0 (Nat.le_refl _) (by unfold maxLen; omega) rfl
  case round =>
    obtain ⟨k, hk, rfl, hown, hb⟩ := hrel
    have hd0 : wr.cell? ⟨w.heap.size, 0, none⟩ = some (.int .i64 n) := (hb.cell (p := ⟨w.heap.size, 0, none⟩) (by rw [HS.out]; simp)).trans HC0.out
    have hd1 : wr.cell? ⟨w.heap.size, 1, none⟩ = some (.slice A L.length c) := (hb.cell (p := ⟨w.heap.size, 1, none⟩) (by rw [HS.out]; simp)).trans HC1.out
    by_cases hlt : k < n
    · obtain ⟨b, o, x, rfl, hbl, hx, hc⟩ := hL0.at_ (i := k / 64) (by omega)
      have hc' : wr.cell? ⟨b, o + k / 64, none⟩ = some (.int .u64 x) := (hb.cell (p := ⟨b, o + k / 64, none⟩) hbl).trans hc
      have hxl : x < 18446744073709551616 := hw x (List.mem_of_getElem? hx)
      have HX := Lib.hid hx
      clear hx hc hw
      go_wp2
      go_loop [5, 6] (fun p j => ∃ q m : Nat, m ≤ k % 64 ∧ q ≤ x ∧ j = .int .i64 m ∧ p = .int .u64 q ∧ Hid (q / 2 ^ m = x / 2 ^ (k % 64))) (fun _ j => (intOf j).toNat)
      case atStart => exact ⟨x, k % 64, Nat.le_refl _, Nat.le_refl _, by go_num, rfl, Lib.hid rfl⟩
      case round =>
        obtain ⟨q, m, hm, hqx, rfl, rfl, hq⟩ := hrel
        rcases Nat.eq_zero_or_pos m with h0 | h0
        · subst h0
          have HN := Lib.hid hown
          have HB1 := Lib.hid hb
          clear hown hb
          go_wp2_with (at_builtin; refine wpList_append_own _ rfl _ _ 24 rfl W0.heap.size 3 i0 (.int .i64 0) 1 8 Tryd.underlying24 hi hz0 hz1 hz2 rfl (by decide) _ _ _ rfl (HN.out.alloc _) ⟨wr.heap.size, 0, none⟩ 1 1 [.int .i64 ((q : Int) % 2)] rfl rfl (cell_one_new _ _ _) (ints_oneCell .i64 [_]) (by unfold maxLen; omega) (by omega) (by have := HB1.out.size; simp; omega) ?_)
          intro v' w1 hown' hgrow _
          have HO := Lib.hid hown'
          have HG := Lib.hid hgrow
          clear hown' hgrow
          go_wp2
          go_roundw
          case rel =>
            refine ⟨k + 1, by omega, by go_num, ?_, ?_⟩
            · have e : bitN L k = q % 2 := by
                have h := hq.out
                rw [Nat.pow_zero, Nat.div_one] at h
                unfold bitN
                rw [List.getD_eq_getElem?_getD, HX.out, Option.getD_some, h]
              rw [bitsOf_succ, List.map_append, e]
              exact HO.out
            · exact HB1.out.trans (((Below.refl _ _).alloc HB1.out.size _).grown HG.out (by have := HB1.out.size; simp; omega) (fun g hg => (HN.out.lt g hg).1))
          case measure => simp [intOf]; omega
        · obtain ⟨m, rfl⟩ : ∃ m', m = m' + 1 := ⟨m - 1, by omega⟩
          go_wp2
          go_round
          case rel => exact ⟨q / 2, m, by omega, by omega, by go_num, by go_num, Lib.hid (by rw [← hq.out, Nat.pow_succ, Nat.mul_comm, Nat.div_div_eq_div_mul])⟩
          case measure => simp [intOf]
    · go_wp2
      go_ret
      have e : k = n := by omega
      subst e
      exact ⟨_, rfl, own_mono hown (by rw [HS.out]; omega), HB.out.trans (hb.mono (by rw [HS.out]; omega))⟩

end Go.Proofs.YtlbnngolcoefdaaDoor

/- The specification's BitsOf: the words of a list of bits, or none. -/
namespace Go.Proofs.YtlbnngolcoefdaaDoor
open Go.RowKit
set_option maxRecDepth 100000

/-- What BitsOf is to return for a list of numbers. -/
def BitsOfPost (B : List Int) (w : World) (e : Ending) (w' : World) : Prop :=
  (B.length ≤ 5000 ∧ IsBits B ∧ Below w.heap.size w w' ∧ ∃ v, e = .returned (.tuple #[.agg #[.int .i64 B.length, v], .bool true]) ∧ w'.ownsRow w.heap.size 113 1 v ((B.length + 63) / 64) ((wordsOf B).map U)) ∨
  (¬ (B.length ≤ 5000 ∧ IsBits B) ∧ Below w.heap.size w w' ∧ e = .returned (.tuple #[.agg #[.int .i64 0, .slice none 0 0], .bool false]))

set_option maxHeartbeats 400000 in
theorem specOf_long (A : Option Addr) (n c : Nat) (w : World) (hn : n ≤ 17592186044416) (h : 5000 < n) :
    Calls Tryd.prog 53 #[.slice A n c] w fun e w' => e = .returned (.tuple #[.agg #[.int .i64 0, .slice none 0 0], .bool false]) ∧ Below w.heap.size w w' := by
  go_enter Tryd.func53, Tryd.ntmps53
  go_wp2
  go_returns
  exact ⟨rfl, by go_grown⟩

/-- What holds of the world after k rounds of BitsOf. -/
structure OfInv (B : List Int) (w : World) (n k : Nat) (va : Option Addr) (vc : Nat) (wr : World) : Prop where
  below : Below w.heap.size w wr
  res : Box wr w.heap.size 29 #[.int .i64 0, .slice none 0 0]
  box : Box wr (w.heap.size + 1) 29 #[.int .i64 n, .slice va ((k + 63) / 64) vc]
  own : wr.ownsRow (w.heap.size + 2) 113 1 (.slice va ((k + 63) / 64) vc) ((k + 63) / 64) ((wordsOf (B.take k)).map U)

theorem OfInv.start (B : List Int) (w : World) (n : Nat) (a b : Obj) (ha : a = Obj.cells #[Value.int IntKind.i64 0, Value.slice none 0 0] 29) (hb : b = Obj.cells #[Value.int IntKind.i64 ↑n, Value.slice none 0 0] 29) :
    OfInv B w n 0 none 0 ((w.alloc a).alloc b) := by
  subst ha hb
  refine ⟨by go_grown, (Box.made _ _ _).alloc _, ?_, ?_⟩
  · have h := Box.made (w.alloc (Obj.cells #[Value.int IntKind.i64 0, Value.slice none 0 0] 29)) 29 #[Value.int IntKind.i64 ↑n, Value.slice none 0 0]
    rwa [World.size_alloc] at h
  · rw [List.take_zero, wordsOf_nil]
    exact World.ownsRow_nil _ _ _ _

/-- A bit 0 more. -/
theorem words_take0 {B : List Int} {k : Nat} (hx : B[k]? = some 0) : wordsOf (B.take (k + 1)) = if k % 64 = 0 then wordsOf (B.take k) ++ [0] else wordsOf (B.take k) := by
  obtain ⟨hk, hx⟩ := List.getElem?_eq_some_iff.1 hx
  have hl : (B.take k).length = k := by rw [List.length_take]; omega
  rw [List.take_succ_eq_append_getElem hk, hx]
  split
  · rw [wordsOf_snoc0 _ _ (by rw [hl]; assumption)]; rfl
  · rw [wordsOf_snoc _ _ (by rw [hl]; assumption), hl]
    simp only [Int.toNat_zero, Nat.mul_zero, Nat.add_zero]
    apply List.ext_getElem?
    intro j
    rw [List.getElem?_set]
    split
    · subst j
      split
      · rw [List.getD_eq_getElem?_getD]
        rename_i h
        rw [List.getElem?_eq_getElem h]; rfl
      · rename_i h
        rw [List.getElem?_eq_none (by omega)]
    · rfl
/-- A bit 1 more. -/
theorem words_take1 {B : List Int} {k : Nat} (hx : B[k]? = some 1) (y : Nat) (hy : (if k % 64 = 0 then wordsOf (B.take k) ++ [0] else wordsOf (B.take k))[k / 64]? = some y) :
    wordsOf (B.take (k + 1)) = (if k % 64 = 0 then wordsOf (B.take k) ++ [0] else wordsOf (B.take k)).set (k / 64) (y + 2 ^ (k % 64)) := by
  obtain ⟨hk, hx⟩ := List.getElem?_eq_some_iff.1 hx
  have hl : (B.take k).length = k := by rw [List.length_take]; omega
  rw [List.take_succ_eq_append_getElem hk, hx]
  split
  · rename_i h0
    rw [if_pos h0] at hy
    have hw : (wordsOf (B.take k)).length = k / 64 := by rw [wordsOf_len, hl]; omega
    rw [List.getElem?_append_right (by omega), hw, Nat.sub_self] at hy
    have e : y = 0 := by simpa using hy.symm
    subst e
    rw [wordsOf_snoc0 _ _ (by rw [hl]; assumption), List.set_append_right _ _ (by omega), hw, Nat.sub_self, h0]
    rfl
  · rename_i h0
    rw [if_neg h0] at hy
    rw [wordsOf_snoc _ _ (by rw [hl]; assumption), hl, List.getD_eq_getElem?_getD, hy]
    simp
theorem word_bound {B : List Int} {k : Nat} (hb : IsBits (B.take k)) (y : Nat) (hk : k < B.length) (hy : (if k % 64 = 0 then wordsOf (B.take k) ++ [0] else wordsOf (B.take k))[k / 64]? = some y) : y + 2 ^ (k % 64) < 2 ^ 64 := by
  have hl : (B.take k).length = k := by rw [List.length_take]; omega
  split at hy
  · rename_i h0
    have hw : (wordsOf (B.take k)).length = k / 64 := by rw [wordsOf_len, hl]; omega
    rw [List.getElem?_append_right (by omega), hw, Nat.sub_self] at hy
    have e : y = 0 := by simpa using hy.symm
    rw [e, h0]; decide
  · rename_i h0
    rw [wordsOf_get _ _ (by rw [hl]; omega)] at hy
    have e := Option.some.inj hy
    have hd : ((B.take k).drop (64 * (k / 64))).length = k % 64 := by rw [List.length_drop, hl]; omega
    rw [List.take_of_length_le (by omega)] at e
    have h1 := val_lt _ (hb.drop (64 * (k / 64)))
    rw [hd, e] at h1
    have h2 : 2 ^ (k % 64 + 1) ≤ 2 ^ 64 := Nat.pow_le_pow_right (by omega) (by omega)
    rw [Nat.pow_succ] at h2
    omega

/-- What holds in the midst of a round, once the word of bit k is there. -/
structure MidInv (B : List Int) (w : World) (n k g m cap : Nat) (W : World) : Prop where
  below : Below w.heap.size w W
  res : Box W w.heap.size 29 #[.int .i64 0, .slice none 0 0]
  box : Box W (w.heap.size + 1) 29 #[.int .i64 n, .slice (some ⟨g, 0, none⟩) m cap]
  own : W.ownsRow (w.heap.size + 2) 113 1 (.slice (some ⟨g, 0, none⟩) m cap) m ((if k % 64 = 0 then wordsOf (B.take k) ++ [0] else wordsOf (B.take k)).map U)
  len : m = k / 64 + 1

theorem mid_push {B : List Int} {w : World} {n k vc : Nat} {va : Option Addr} {wr : World} (inv : OfInv B w n k va vc wr) (h0 : k % 64 = 0) {o : Obj} {g cap : Nat} {w1 : World}
    (hown : w1.ownsRow (w.heap.size + 2) 113 1 (.slice (some ⟨g, 0, none⟩) ((k + 63) / 64 + 1) cap) ((k + 63) / 64 + 1) ((wordsOf (B.take k)).map U ++ [.int .u64 0]))
    (hg : (wr.alloc o).grownBy w1 (Value.slice va ((k + 63) / 64) vc).ownBlock) :
    MidInv B w n k g ((k + 63) / 64 + 1) cap (w1.setCell ⟨w.heap.size + 1, 1, none⟩ (.slice (some ⟨g, 0, none⟩) ((k + 63) / 64 + 1) cap)) := by
  have hlt := inv.box.lt
  have hb1 : Below w.heap.size w w1 := (inv.below.alloc (by omega) o).grown hg (by simp; omega) (fun j hj => by have := (inv.own.lt j hj).1; omega)
  have hx := (inv.box.alloc o).grown hg (own_apart inv.own (by omega))
  have hr := (inv.res.alloc o).grown hg (own_apart inv.own (by omega))
  refine ⟨hb1.setCell (by simp) _, hr.off (by simp) _, ?_, ?_, by omega⟩
  · exact hx.put 1 _
  · rw [if_pos h0, List.map_append]
    exact ownsRow_setCell_below hown (by simp) _

theorem mid_keep {B : List Int} {w : World} {n k vc g : Nat} {wr : World} (inv : OfInv B w n k (some ⟨g, 0, none⟩) vc wr) (h0 : k % 64 ≠ 0) : MidInv B w n k g ((k + 63) / 64) vc wr :=
  ⟨inv.below, inv.res, inv.box, by rw [if_neg h0]; exact inv.own, by omega⟩

theorem mid_zero {B : List Int} {w : World} {n k g m cap : Nat} {W : World} (h : MidInv B w n k g m cap W) (hx : B[k]? = some 0) : OfInv B w n (k + 1) (some ⟨g, 0, none⟩) cap W := by
  have e : (k + 1 + 63) / 64 = m := by rw [h.len]; omega
  refine ⟨h.below, h.res, by rw [e]; exact h.box, ?_⟩
  rw [e, words_take0 hx]
  exact h.own

theorem mid_one {B : List Int} {w : World} {n k g m cap : Nat} {W : World} (h : MidInv B w n k g m cap W) (hx : B[k]? = some 1) {y : Nat}
    (hy : (if k % 64 = 0 then wordsOf (B.take k) ++ [0] else wordsOf (B.take k))[k / 64]? = some y) : OfInv B w n (k + 1) (some ⟨g, 0, none⟩) cap (W.setCell ⟨g, k / 64, none⟩ (.int .u64 ((y + 2 ^ (k % 64) : Nat) : Int))) := by
  have e : (k + 1 + 63) / 64 = m := by rw [h.len]; omega
  have hg := (h.own.lt g rfl).1
  refine ⟨h.below.setCell (by simp; omega) _, h.res.off (by simp; omega) _, by rw [e]; exact h.box.off (by simp; omega) _, ?_⟩
  rw [e, words_take1 hx y hy, List.map_set]
  exact (h.own.stored (k / 64) _).1

theorem OfInv.drew {B : List Int} {w : World} {n k vc : Nat} {va : Option Addr} {wr : World} (h : OfInv B w n k va vc wr) : OfInv B w n k va vc wr.drew :=
  ⟨h.below.drew, h.res, h.box, h.own⟩
theorem mid_one' {B : List Int} {w : World} {n k g m cap q r p : Nat} {W : World} (h : MidInv B w n k g m cap W) (hx : B[k]? = some 1) {y : Nat}
    (hy : (if k % 64 = 0 then wordsOf (B.take k) ++ [0] else wordsOf (B.take k))[k / 64]? = some y) (hq : k / 64 = q) (hr : k % 64 = r) (hp : 2 ^ r = p) :
    OfInv B w n (k + 1) (some ⟨g, 0, none⟩) cap (W.setCell ⟨g, q, none⟩ (.int .u64 ((y : Int) + (p : Int)))).drew := by
  subst hq hr hp
  exact (mid_one h hx hy).drew

theorem mid_word {B : List Int} {w : World} {n k g m cap : Nat} {W : World} (h : MidInv B w n k g m cap W) : ∃ y, (if k % 64 = 0 then wordsOf (B.take k) ++ [0] else wordsOf (B.take k))[k / 64]? = some y ∧ W.cell? ⟨g, k / 64, none⟩ = some (.int .u64 y) := by
  have hm := h.len
  have hl : (if k % 64 = 0 then wordsOf (B.take k) ++ [0] else wordsOf (B.take k)).length = m := by have := h.own.1; simpa using this
  have hlt : k / 64 < (if k % 64 = 0 then wordsOf (B.take k) ++ [0] else wordsOf (B.take k)).length := by omega
  refine ⟨_, List.getElem?_eq_getElem hlt, ?_⟩
  rw [h.own.cellAt (k / 64) (by omega), List.getElem?_map, List.getElem?_eq_getElem hlt]
  rfl

theorem bits_snoc {B : List Int} {k : Nat} {x : Int} (h : IsBits (B.take k)) (hx : B[k]? = some x) (h01 : x = 0 ∨ x = 1) : IsBits (B.take (k + 1)) := by
  intro b hb
  rw [List.take_add_one, hx] at hb
  rcases List.mem_append.1 hb with hb | hb
  · exact h b hb
  · simp at hb
    subst hb
    exact h01

set_option maxRecDepth 100000 in
set_option maxHeartbeats 400000 in
theorem specOf_short (A : Option Addr) (n c : Nat) (B : List Int) (w : World) (hB : Lies w I A B) (hl : Hid (B.length = n)) (hn : n ≤ 5000) :
    Calls Tryd.prog 53 #[.slice A n c] w (BitsOfPost B w) := by
  obtain ⟨i0, hi, hz0, hz1, hz2⟩ := info_parts Tryd.infoU64
  have hn0 : decide ((5000 : Int) < (n : Int)) = false := by simp; omega
  go_enter Tryd.func53, Tryd.ntmps53
  go_wp2
  go_loopw [5] (fun i wr => ∃ (k : Nat) (va : Option Addr) (vc : Nat), k ≤ n ∧ i = .int .i64 k ∧ IsBits (B.take k) ∧ OfInv B w n k va vc wr) (fun i _ => n - (intOf i).toNat)
  case atStart => exact ⟨0, _, _, Nat.zero_le _, rfl, by intro b hb; simp at hb, OfInv.start B w n _ _ rfl rfl⟩
  case round =>
    obtain ⟨k, va, vc, hk, rfl, hbits, inv⟩ := hrel
    have HBits := Lib.hid hbits
    clear hbits
    have hb0 := inv.box.cell 0
    have hb1 := inv.box.cell 1
    have hf1 := inv.box.frozen 1
    have hr0 := inv.res.cell 0
    have hr1 := inv.res.cell 1
    have hrf0 := inv.res.frozen 0
    have hrf1 := inv.res.frozen 1
    simp only [List.getElem?_toArray, List.getElem?_cons_zero, List.getElem?_cons_succ] at hb0 hb1 hr0 hr1
    by_cases hlt : k < n
    · obtain ⟨b, o, x, rfl, hbl, hx, hc⟩ := hB.at_ (i := k) (by rw [hl.out]; exact hlt)
      have hc' : wr.cell? ⟨b, o + k, none⟩ = some (.int .i64 x) := (inv.below.cell (p := ⟨b, o + k, none⟩) hbl).trans hc
      by_cases hx01 : x = 0 ∨ x = 1
      · by_cases hk0 : k % 64 = 0
        · have t3 : ((k : Int) % 64 == 0) = true := by simp; omega
          rcases hx01 with rfl | rfl
          · clear hc hB
            go_wp2_with (at_builtin; refine wpList_append_lies _ rfl _ _ 27 rfl (w.heap.size + 2) 113 i0 (.int .u64 0) 1 8 Tryd.underlying27 hi hz0 hz1 hz2 rfl (by decide) _ _ _ rfl (inv.own.alloc _) ⟨wr.heap.size, 0, none⟩ 1 1 [.int .u64 0] rfl rfl (cell_one_new _ _ _) (ints_oneCell .u64 [_]) (by decide) (by unfold maxLen; omega) (by omega) (by have := inv.box.lt; simp; omega) _ rfl ?_)
            intro g cap w1 hown hgrow _ hgl
            have mi := mid_push inv hk0 hown hgrow
            have hq := ((inv.box.alloc _).grown hgrow (own_apart inv.own (by omega))).cell 1
            have hqf := ((inv.box.alloc _).grown hgrow (own_apart inv.own (by omega))).frozen 1
            simp only [List.getElem?_toArray, List.getElem?_cons_zero, List.getElem?_cons_succ] at hq
            have hbl1 : w1.cell? ⟨b, o + k, none⟩ = some (.int .i64 0) := by
              have hlt := inv.below.size
              have h1 : Below w.heap.size wr w1 := ((Below.refl _ _).alloc hlt _).grown hgrow (by simp; omega) (fun j hj => by have := (inv.own.lt j hj).1; omega)
              exact (h1.cell (p := ⟨b, o + k, none⟩) hbl).trans hc'
            clear hown hgrow hc' hb0 hb1 hf1 hr0 hr1 hrf0 hrf1
            have hne : b ≠ w.heap.size + 1 := by omega
            go_wp2
            go_roundw
            case rel => exact ⟨k + 1, _, _, by omega, by go_num, bits_snoc HBits.out hx (.inl rfl), mid_zero mi hx⟩
            case measure => simp [intOf]; omega
          · clear hc hB
            go_wp2_with (at_builtin; refine wpList_append_lies _ rfl _ _ 27 rfl (w.heap.size + 2) 113 i0 (.int .u64 0) 1 8 Tryd.underlying27 hi hz0 hz1 hz2 rfl (by decide) _ _ _ rfl (inv.own.alloc _) ⟨wr.heap.size, 0, none⟩ 1 1 [.int .u64 0] rfl rfl (cell_one_new _ _ _) (ints_oneCell .u64 [_]) (by decide) (by unfold maxLen; omega) (by omega) (by have := inv.box.lt; simp; omega) _ rfl ?_)
            intro g cap w1 hown hgrow _ hgl
            have mi := mid_push inv hk0 hown hgrow
            have hq := ((inv.box.alloc _).grown hgrow (own_apart inv.own (by omega))).cell 1
            have hqf := ((inv.box.alloc _).grown hgrow (own_apart inv.own (by omega))).frozen 1
            simp only [List.getElem?_toArray, List.getElem?_cons_zero, List.getElem?_cons_succ] at hq
            have hbl1 : w1.cell? ⟨b, o + k, none⟩ = some (.int .i64 1) := by
              have hlt := inv.below.size
              have h1 : Below w.heap.size wr w1 := ((Below.refl _ _).alloc hlt _).grown hgrow (by simp; omega) (fun j hj => by have := (inv.own.lt j hj).1; omega)
              exact (h1.cell (p := ⟨b, o + k, none⟩) hbl).trans hc'
            clear hown hgrow hc' hb0 hb1 hf1 hr0 hr1 hrf0 hrf1
            have hne : b ≠ w.heap.size + 1 := by omega
            go_wp2
            have hmb := mi.box.cell 1
            simp only [List.getElem?_toArray, List.getElem?_cons_zero, List.getElem?_cons_succ] at hmb
            obtain ⟨y, hy, hyc⟩ := mid_word mi
            have hyf := mi.own.frozenAt (k / 64)
            have hyb := word_bound HBits.out y (by rw [hl.out]; exact hlt) hy
            have MI := Lib.hid mi
            have HY := Lib.hid hy
            have HX := Lib.hid hx
            clear mi hy hx hq hqf hbl1 hgl
            generalize w1.setCell { block := w.heap.size + 1, off := 1 } (Value.slice (some { block := g, off := 0 }) ((k + 63) / 64 + 1) cap) = W at *
            obtain ⟨q, hq⟩ : ∃ q, k / 64 = q := ⟨_, rfl⟩
            have hqi : (k : Int) / 64 = (q : Int) := by omega
            have e1 : IntKind.i64.wrap ((k : Int) / 64) = (q : Int) := by rw [hqi]; exact IntWalk.i64_in _ (by omega)
            have hql : q < (k + 63) / 64 + 1 := by omega
            rw [hq] at hyc hyf
            have HQ := Lib.hid hq
            clear hq hqi
            generalize (k + 63) / 64 + 1 = m at *
            obtain ⟨r, hr⟩ : ∃ r, k % 64 = r := ⟨_, rfl⟩
            obtain ⟨p, hp⟩ : ∃ p, 2 ^ r = p := ⟨_, rfl⟩
            have e2 : (k : Int).tmod 64 = (r : Int) := by rw [IntWalk.rem_in _ _ (by omega)]; omega
            have CP : ∀ W : World, Calls Tryd.prog 90 #[.int .i64 r] W fun e w' => e = .returned (.int .u64 p) ∧ w' = W := fun W =>
              (power_any r W (by omega)).mono fun e w' h => ⟨by rw [h.1, hp], h.2.symm⟩
            rw [hr, hp] at hyb
            have e6 : IntKind.u64.wrap ((y : Int) + (p : Int)) = (y : Int) + (p : Int) := IntWalk.u64_in _ (by omega)
            have HC := Lib.hid CP
            have HR := Lib.hid hr
            have HP := Lib.hid hp
            clear CP hr hp
            go_still_tail 15, (by kernel_rfl)
            still_call (HC.out _)
            repeat still_step
            refine wpStill_nil ?_
            change wpList _ _ _ _ _ W.drew
            go_wp2
            go_roundw
            case rel => exact ⟨k + 1, _, _, by omega, by go_num, bits_snoc HBits.out HX.out (.inr rfl), mid_one' MI.out HX.out HY.out HQ.out HR.out HP.out⟩
            case measure => simp [intOf]; omega
        · have t3 : ((k : Int) % 64 == 0) = false := by rw [beq_eq_false_iff_ne]; omega
          obtain ⟨g, cap, hv, _, _⟩ := inv.own.form (by omega)
          injection hv with hva hvn hvc
          subst hva hvc
          have mi := mid_keep inv hk0
          rcases hx01 with rfl | rfl
          · clear hc hB hvn
            go_wp2
            go_roundw
            case rel => exact ⟨k + 1, _, _, by omega, by go_num, bits_snoc HBits.out hx (.inl rfl), mid_zero mi hx⟩
            case measure => simp [intOf]; omega
          · clear hc hB hvn
            go_wp2
            have hmb := mi.box.cell 1
            simp only [List.getElem?_toArray, List.getElem?_cons_zero, List.getElem?_cons_succ] at hmb
            obtain ⟨y, hy, hyc⟩ := mid_word mi
            have hyf := mi.own.frozenAt (k / 64)
            have hyb := word_bound HBits.out y (by rw [hl.out]; exact hlt) hy
            have MI := Lib.hid mi
            have HY := Lib.hid hy
            have HX := Lib.hid hx
            clear mi hy hx
            obtain ⟨q, hq⟩ : ∃ q, k / 64 = q := ⟨_, rfl⟩
            have hqi : (k : Int) / 64 = (q : Int) := by omega
            have e1 : IntKind.i64.wrap ((k : Int) / 64) = (q : Int) := by rw [hqi]; exact IntWalk.i64_in _ (by omega)
            have hql : q < (k + 63) / 64 := by omega
            rw [hq] at hyc hyf
            have HQ := Lib.hid hq
            clear hq hqi
            have hm0 : 0 < (k + 63) / 64 := by omega
            generalize (k + 63) / 64 = m at *
            obtain ⟨r, hr⟩ : ∃ r, k % 64 = r := ⟨_, rfl⟩
            obtain ⟨p, hp⟩ : ∃ p, 2 ^ r = p := ⟨_, rfl⟩
            have e2 : (k : Int).tmod 64 = (r : Int) := by rw [IntWalk.rem_in _ _ (by omega)]; omega
            have CP : ∀ W : World, Calls Tryd.prog 90 #[.int .i64 r] W fun e w' => e = .returned (.int .u64 p) ∧ w' = W := fun W =>
              (power_any r W (by omega)).mono fun e w' h => ⟨by rw [h.1, hp], h.2.symm⟩
            rw [hr, hp] at hyb
            have e6 : IntKind.u64.wrap ((y : Int) + (p : Int)) = (y : Int) + (p : Int) := IntWalk.u64_in _ (by omega)
            have HC := Lib.hid CP
            have HR := Lib.hid hr
            have HP := Lib.hid hp
            clear CP hr hp
            go_still_tail 15, (by kernel_rfl)
            still_call (HC.out _)
            repeat still_step
            refine wpStill_nil ?_
            change wpList _ _ _ _ _ wr.drew
            go_wp2
            go_roundw
            case rel => exact ⟨k + 1, _, _, by omega, by go_num, bits_snoc HBits.out HX.out (.inr rfl), mid_one' MI.out HX.out HY.out HQ.out HR.out HP.out⟩
            case measure => simp [intOf]; omega
      · have t0 : (x != 0) = true := by rw [bne_iff_ne]; omega
        have t1 : (x != 1) = true := by rw [bne_iff_ne]; omega
        clear hc hB
        go_wp2
        refine bodyPost_ret (v := .tuple #[.agg #[.int .i64 0, .slice none 0 0], .bool false]) (by simp [results, Tryd.results53, go_sem, hr0, hr1]) rfl ?_
        refine .inr ⟨fun h => hx01 (h.2 x (List.mem_of_getElem? hx)), ?_, rfl⟩
        exact (inv.below.setCell (Nat.le_refl _) _).setCell (Nat.le_refl _) _
    · clear hB
      go_wp2
      have e : k = n := by omega
      subst e
      refine bodyPost_ret (v := .tuple #[.agg #[.int .i64 k, .slice va ((k + 63) / 64) vc], .bool true]) (by simp [results, Tryd.results53, go_sem, hr0, hr1]) rfl ?_
      have hlk := hl.out
      have hbits := HBits.out
      have hown := inv.own
      rw [List.take_of_length_le (by omega)] at hbits hown
      refine .inl ⟨by omega, hbits, (inv.below.setCell (Nat.le_refl _) _).setCell (Nat.le_refl _) _, _, by rw [hlk], ?_⟩
      rw [hlk]
      exact own_mono (ownsRow_setCell_below (ownsRow_setCell_below hown (by go_size) _) (by go_size) _) (by go_size)

end Go.Proofs.YtlbnngolcoefdaaDoor

/- The specification's BitsOk. -/
namespace Go.Proofs.YtlbnngolcoefdaaDoor
open Go.RowKit
set_option maxRecDepth 100000

theorem specOf_any (A : Option Addr) (c : Nat) (B : List Int) (w : World) (hB : Lies w I A B) (hn : B.length ≤ 17592186044416) :
    Calls Tryd.prog 53 #[.slice A B.length c] w (BitsOfPost B w) := by
  by_cases h : B.length ≤ 5000
  · exact specOf_short A B.length c B w hB (Lib.hid rfl) h
  · exact (specOf_long A B.length c w hn (by omega)).mono fun e w' ⟨he, hb⟩ => .inr ⟨fun h' => h h'.1, hb, he⟩

set_option maxHeartbeats 400000 in
theorem specOk_neg (N : Int) (A : Option Addr) (n c : Nat) (w : World) (h : N < 0) :
    Calls Tryd.prog 132 #[.agg #[.int .i64 N, .slice A n c]] w fun e w' => e = .returned (.bool false) ∧ Below w.heap.size w w' := by
  go_enter Tryd.func132, Tryd.ntmps132
  go_wp2
  go_ret
  exact ⟨rfl, by go_grown⟩

set_option maxHeartbeats 400000 in
theorem specOk_big (N : Int) (A : Option Addr) (n c : Nat) (w : World) (h : 5000 < N) :
    Calls Tryd.prog 132 #[.agg #[.int .i64 N, .slice A n c]] w fun e w' => e = .returned (.bool false) ∧ Below w.heap.size w w' := by
  have h0 : ¬ N < 0 := by omega
  go_enter Tryd.func132, Tryd.ntmps132
  go_wp2
  go_ret
  exact ⟨rfl, by go_grown⟩

set_option maxHeartbeats 400000 in
theorem specOk_len (N : Nat) (A : Option Addr) (n c : Nat) (w : World) (h : N ≤ 5000) (hl : n ≠ (N + 63) / 64) :
    Calls Tryd.prog 132 #[.agg #[.int .i64 N, .slice A n c]] w fun e w' => e = .returned (.bool false) ∧ Below w.heap.size w w' := by
  have h1 : ((n : Int) != ((N : Int) + 63) / 64) = true := by rw [bne_iff_ne]; omega
  go_enter Tryd.func132, Tryd.ntmps132
  go_wp2
  go_ret
  exact ⟨rfl, by go_grown⟩

set_option maxHeartbeats 400000 in
theorem specOk_full (n : Nat) (A : Option Addr) (m c : Nat) (L : List Nat) (w : World) (hL : Lies w U A L) (hl : Hid (L.length = m)) (hn : n ≤ 5000) (hm : Hid (m = (n + 63) / 64)) (hw : ∀ x ∈ L, x < 2 ^ 64) :
    Calls Tryd.prog 132 #[.agg #[.int .i64 n, .slice A m c]] w fun e w' => e = .returned (.bool (tailB n L)) ∧ Below w.heap.size w w' := by
  have h1 : ((m : Int) != ((n : Int) + 63) / 64) = false := by have := hm.out; rw [bne_eq_false_iff_eq]; omega
  have d0 : decide ((n : Int) < 0) = false := by simp
  have d1 : decide ((5000 : Int) < (n : Int)) = false := by simp; omega
  have hm5 : m ≤ 5000 := by have := hm.out; omega
  have HW := Lib.hid hw
  clear hw
  go_enter Tryd.func132, Tryd.ntmps132
  go_wp2_with fail
  generalize hW0 : w.alloc (Obj.cells #[Value.int IntKind.i64 ↑n, Value.slice A m c] 29) = W0
  have hx0 : Box W0 w.heap.size 29 #[.int .i64 n, .slice A m c] := by rw [← hW0]; exact Box.made _ _ _
  have hb0 : Below w.heap.size w W0 := by rw [← hW0]; go_grown
  have hL0 := hL.below hb0
  clear hL
  have c1 := list_any n A c L W0 hL0 (by rw [hl.out, hm.out]; exact Nat.le_refl _) hn (by rw [hl.out]; exact hm5) HW.out
  rw [hl.out] at c1
  refine c1.mono ?_
  rintro e w1 ⟨v, rfl, hown, hb1⟩
  obtain ⟨A1, c1', rfl⟩ := own_slice hown
  have hx1 := hx0.below hb1 hx0.lt
  have hL1 := hL0.below hb1
  have hb01 := hb0.trans (hb1.mono hb0.size)
  have hB1 : Lies w1 I A1 (bitsOf n L) := Lies.of_own hown
  clear c1 hb1 hL0 hx0 hb0 hW0 hown
  go_wp2_with fail
  have c2 := specOf_any A1 c1' (bitsOf n L) w1 hB1 (by rw [bitsOf_len]; omega)
  rw [bitsOf_len] at c2
  refine c2.mono ?_
  rintro e w2 (⟨_, _, hb2, v2, rfl, hown2⟩ | ⟨hno, _⟩)
  · have hx2 := hx1.below hb2 hx1.lt
    have hL2 := hL1.below hb2
    have hb02 := hb01.trans (hb2.mono hb01.size)
    rw [bitsOf_len, ← hm.out] at hown2
    rw [bitsOf_len]
    obtain ⟨A2, c2', rfl⟩ := own_slice hown2
    have hM2 : Lies w2 U A2 (wordsOf (bitsOf n L)) := Lies.of_own hown2
    clear c2 hb2 hL1 hx1 hb01 hB1 hown2
    go_wp2
    generalize hW3 : w2.alloc (Obj.cells #[Value.int IntKind.i64 ↑n, Value.slice A2 m c2'] 29) = W3
    have hx3 : Box W3 w.heap.size 29 #[.int .i64 n, .slice A m c] := by rw [← hW3]; exact hx2.alloc _
    have hy3 : Box W3 w2.heap.size 29 #[.int .i64 n, .slice A2 m c2'] := by rw [← hW3]; exact Box.made _ _ _
    have hb3 : Below w2.heap.size w2 W3 := by rw [← hW3]; go_grown
    have hL3 := hL2.below hb3
    have hM3 := hM2.below hb3
    have hb03 := hb02.trans (hb3.mono hb02.size)
    have hv := hx3.cell 1
    have hz := hy3.cell 1
    simp only [List.getElem?_toArray, List.getElem?_cons_zero, List.getElem?_cons_succ] at hv hz
    have HLen : Hid ((wordsOf (bitsOf n L)).length = m) := Lib.hid (by rw [wordsOf_len, bitsOf_len, hm.out])
    have HT : Hid (tailB n L = decide (L = wordsOf (bitsOf n L))) := Lib.hid (by
      rw [Bool.eq_iff_iff, decide_eq_true_iff, ← words_back n L (by rw [hl.out, hm.out]) HW.out]
      exact eq_comm)
    clear hW3 hL2 hM2 hb3 hx2 hx3 hy3 HW hb02
    generalize wordsOf (bitsOf n L) = M at *
    go_loopw [5] (fun i wr => ∃ k : Nat, k ≤ m ∧ i = .int .i64 k ∧ L.take k = M.take k ∧ Drawn W3 wr) (fun i _ => m - (intOf i).toNat)
    case atStart => exact ⟨0, Nat.zero_le _, rfl, by simp, Drawn.refl _⟩
    case round =>
      obtain ⟨k, hk, rfl, htk, q, rfl⟩ := hrel
      have HK := Lib.hid htk
      clear htk
      by_cases hlt : k < m
      · obtain ⟨b, o, x, rfl, hbl, hx, hc⟩ := hL3.at_ (i := k) (by rw [hl.out]; exact hlt)
        obtain ⟨b', o', y, rfl, hbl', hy, hc'⟩ := hM3.at_ (i := k) (by rw [HLen.out]; exact hlt)
        have HX := Lib.hid hx
        have HY := Lib.hid hy
        clear hx hy hL3 hM3
        by_cases hxy : x = y
        · subst hxy
          go_wp2
          go_quiet (fail)
          go_wp2
          go_roundw
          case rel => exact ⟨k + 1, by omega, by go_num, take_same_succ HK.out HX.out HY.out, ⟨_, rfl⟩⟩
          case measure => simp [intOf]; omega
        · have hne : (x != y) = true := by simpa using hxy
          have hne2 : ((x : Int) != (y : Int)) = true := by rw [bne_iff_ne]; omega
          have hne3 : ¬ ((x : Int) = (y : Int)) := by omega
          have HF := Lib.hid (decide_eq_false (ne_of_at HX.out HY.out hxy))
          go_wp2
          go_quiet (fail)
          go_wp2
          go_ret
          exact ⟨ret_bool (by rw [HT.out, HF.out]), hb03.trans ((Drawn.two _ _ _).below _)⟩
      · go_wp2
        go_ret
        have e : L = M := by
          have h := HK.out
          rwa [List.take_of_length_le (by rw [hl.out]; omega), List.take_of_length_le (by rw [HLen.out]; omega)] at h
        exact ⟨ret_bool (by rw [HT.out, decide_eq_true e]), hb03.trans ((Drawn.more (Drawn.refl _) _).below _)⟩
  · exact absurd ⟨by rw [bitsOf_len]; exact hn, bitsOf_bits _ _⟩ hno

theorem specOk_any (N : Int) (A : Option Addr) (c : Nat) (L : List Nat) (w : World) (hL : Lies w U A L) (hw : ∀ x ∈ L, x < 2 ^ 64) :
    Calls Tryd.prog 132 #[.agg #[.int .i64 N, .slice A L.length c]] w fun e w' => e = .returned (.bool (okB N L)) ∧ Below w.heap.size w w' := by
  unfold okB
  by_cases h : 0 ≤ N ∧ N ≤ 5000 ∧ L.length = (N.toNat + 63) / 64
  · obtain ⟨n, rfl⟩ := Int.eq_ofNat_of_zero_le h.1
    rw [decide_eq_true h, Bool.true_and]
    exact specOk_full n A L.length c L w hL (Lib.hid rfl) (by omega) (Lib.hid h.2.2) hw
  · rw [decide_eq_false h, Bool.false_and]
    by_cases h0 : N < 0
    · exact specOk_neg N A _ c w h0
    · by_cases h1 : 5000 < N
      · exact specOk_big N A _ c w h1
      · obtain ⟨n, rfl⟩ := Int.eq_ofNat_of_zero_le (show 0 ≤ N by omega)
        exact specOk_len n A _ c w (by omega) (fun e => h ⟨by omega, by omega, by rw [e]; rfl⟩)

end Go.Proofs.YtlbnngolcoefdaaDoor

/- What BitsOf is to return, and new bit vectors. -/
namespace Go.Proofs.YtlbnngolcoefdaaDoor
open Go.RowKit

/-- Which lists are bits. -/
def okBits (B : List Int) : Bool := decide (B.length ≤ 5000) && B.all fun b => decide (b = 0 ∨ b = 1)
theorem okBits_iff (B : List Int) : okBits B = true ↔ B.length ≤ 5000 ∧ IsBits B := by
  unfold okBits IsBits
  rw [Bool.and_eq_true, decide_eq_true_iff, List.all_eq_true]
  simp only [decide_eq_true_iff]
/-- What BitsOf is to return. -/
def resN (B : List Int) : Int := if okBits B = true then (B.length : Int) else 0
def resW (B : List Int) : List Nat := if okBits B = true then wordsOf B else []

/-- A new bit vector is returned, and nothing that was there is touched. -/
def NewBits (w : World) (N : Int) (Ws : List Nat) (ok : Bool) (e : Ending) (w' : World) : Prop :=
  ∃ A c, e = .returned (.tuple #[.agg #[.int .i64 N, .slice A Ws.length c], .bool ok]) ∧ w'.ownsRow w.heap.size 113 1 (.slice A Ws.length c) Ws.length (Ws.map U) ∧ Below w.heap.size w w'

theorem newBits_of {B : List Int} {w : World} {e : Ending} {w' : World} (h : BitsOfPost B w e w') : NewBits w (resN B) (resW B) (okBits B) e w' := by
  unfold NewBits resN resW
  rcases h with ⟨h1, h2, hb, v, he, ho⟩ | ⟨hno, hb, he⟩
  · have hok : okBits B = true := (okBits_iff B).2 ⟨h1, h2⟩
    rw [if_pos hok, if_pos hok, hok]
    rw [← wordsOf_len] at ho
    obtain ⟨A, c, rfl⟩ := own_slice ho
    exact ⟨A, c, he, ho, hb⟩
  · have hok : okBits B = false := by
      cases h : okBits B
      · rfl
      · exact absurd ((okBits_iff B).1 h) hno
    rw [hok, if_neg (by simp), if_neg (by simp)]
    exact ⟨none, 0, he, World.ownsRow_nil _ _ _ _, hb⟩

theorem resW_len (B : List Int) : (resW B).length ≤ 79 := by
  unfold resW
  split
  · rename_i h
    rw [wordsOf_len]
    have := ((okBits_iff B).1 h).1
    omega
  · simp

/-- A new bit vector is returned, alone. -/
def NewBits1 (w : World) (N : Int) (Ws : List Nat) (e : Ending) (w' : World) : Prop :=
  ∃ A c, e = .returned (.agg #[.int .i64 N, .slice A Ws.length c]) ∧ w'.ownsRow w.heap.size 113 1 (.slice A Ws.length c) Ws.length (Ws.map U) ∧ Below w.heap.size w w'

end Go.Proofs.YtlbnngolcoefdaaDoor
