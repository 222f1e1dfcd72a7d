import Derived.Test.YtlbnngolcoefdaaDoorImpl2
import Derived.Test.YtlbnngolcoefdaaDoorSelMath2
import Derived.Test.YtlbnngolcoefdaaDoorMem3
import Derived.Test.YtlbnngolcoefdaaDoorNewB
/- The program's word methods that BitsOf calls, and one word of bits. -/
namespace Go.Proofs.YtlbnngolcoefdaaDoor
open Go.RowKit
set_option maxRecDepth 100000

set_option maxHeartbeats 400000 in
theorem isBit_any (b : Int) (w : World) :
    Calls Tryd.prog 100 #[.int .i64 b] w fun e w' => e = .returned (.bool (decide (b = 0 ∨ b = 1))) ∧ w = w' := by
  by_cases h0 : b = 0
  · subst h0
    go_enter Tryd.func100, Tryd.ntmps100
    go_wp2
    go_ret
    exact ⟨rfl, rfl⟩
  · have t0 : (b == 0) = false := by rw [beq_eq_false_iff_ne]; exact h0
    by_cases h1 : b = 1
    · subst h1
      go_enter Tryd.func100, Tryd.ntmps100
      go_wp2
      go_ret
      exact ⟨rfl, rfl⟩
    · have t1 : (b == 1) = false := by rw [beq_eq_false_iff_ne]; exact h1
      have HF := Lib.hid (decide_eq_false (show ¬ (b = 0 ∨ b = 1) by omega))
      clear h0 h1
      go_enter Tryd.func100, Tryd.ntmps100
      go_wp2
      go_ret
      exact ⟨ret_bool HF.out.symm, rfl⟩

theorem or_bit (x i : Nat) (h : x < 2 ^ i) : x ||| 2 ^ i = x + 2 ^ i := by
  rw [Nat.or_comm, nat_join i (2 ^ i) x (Nat.mod_self _) h, Nat.add_comm]

/-- A bit set in a word, as the walk spells it. -/
theorem set_form (x i : Nat) (hx : x < 2 ^ i) (hi : i < 64) : bits .or .u64 (x : Int) (IntKind.u64.wrap (2 ^ i)) = ((x + 2 ^ i : Nat) : Int) := by
  have hp : 2 ^ i < 2 ^ 64 := Nat.pow_lt_pow_right (by omega) hi
  have e : (2 : Int) ^ i = ((2 ^ i : Nat) : Int) := by simp
  have hw : IntKind.u64.wrap (2 ^ i) = ((2 ^ i : Nat) : Int) := by rw [e]; exact IntWalk.u64_in _ (by omega)
  rw [hw, u64_or_nat x (2 ^ i) (by omega) hp, or_bit x i hx]

set_option maxHeartbeats 400000 in
theorem wordSet_any (g : Nat) (x i : Nat) (w : World) (hc : w.cell? ⟨g, 0, none⟩ = some (U x)) (hf : w.frozen? ⟨g, 0, none⟩ = false) (hx : x < 2 ^ i) (hi : i < 64) :
    Calls Tryd.prog 120 #[.pointer (some ⟨g, 0, none⟩), .int .i64 i] w fun e w' => e = .returned (.tuple #[]) ∧ (w.setCell ⟨g, 0, none⟩ (U (x + 2 ^ i))).drew = w' := by
  have HS := Lib.hid (set_form x i hx hi)
  clear hx
  go_enter Tryd.func120, Tryd.ntmps120
  go_wp2
  go_still_tail 7, (by kernel_rfl)
  change wpList _ _ _ _ _ w.drew
  go_wp2
  go_end0
  exact ⟨rfl, by rw [HS.out]⟩

theorem val_take_succ {B : List Int} {k : Nat} {x : Int} (hx : B[k]? = some x) (h01 : x = 0 ∨ x = 1) : val (B.take (k + 1)) = if x = 1 then val (B.take k) + 2 ^ k else val (B.take k) := by
  obtain ⟨hk, rfl⟩ := List.getElem?_eq_some_iff.1 hx
  have hl : (B.take k).length = k := by rw [List.length_take]; omega
  rw [List.take_succ_eq_append_getElem hk, val_append, hl]
  rcases h01 with h | h <;> simp [h, val]

theorem bits_more {B : List Int} {k : Nat} {x : Int} (h : IsBits (B.take k)) (hx : B[k]? = some x) (h01 : x = 0 ∨ x = 1) : IsBits (B.take (k + 1)) := by
  intro b hb
  rw [List.take_add_one, hx] at hb
  rcases List.mem_append.1 hb with hb | hb
  · exact h b hb
  · simp at hb
    subst hb
    exact h01

/-- What one word of bits is to be. -/
def WordPost (B : List Int) (w : World) (e : Ending) (w' : World) : Prop :=
  Below w.heap.size w w' ∧ ((IsBits B ∧ e = .returned (.tuple #[U (val B), .bool true])) ∨ (¬ IsBits B ∧ e = .returned (.tuple #[U 0, .bool false])))

set_option maxHeartbeats 400000 in
theorem wordOf_any (A : Option Addr) (n c : Nat) (B : List Int) (w : World) (hB : Lies w I A B) (hl : Hid (B.length = n)) (hn : n ≤ 64) :
    Calls Tryd.prog 96 #[.slice A n c] w (WordPost B w) := by
  go_enter Tryd.func96, Tryd.ntmps96
  go_wp2
  go_loopw [9] (fun i wr => ∃ k : Nat, k ≤ n ∧ i = .int .i64 k ∧ IsBits (B.take k) ∧ Box wr w.heap.size 143 #[U (val (B.take k))] ∧ Below w.heap.size w wr) (fun i _ => n - (intOf i).toNat)
  case atStart => exact ⟨0, Nat.zero_le _, rfl, by intro b hb; simp at hb, Box.made _ _ _, by go_grown⟩
  case round =>
    obtain ⟨k, hk, rfl, hbits, hbox, hb⟩ := hrel
    have HBits := Lib.hid hbits
    have f0 := hbox.cell 0
    have ff := hbox.frozen 0
    simp only [List.getElem?_toArray, List.getElem?_cons_zero] at f0
    have hval := val_lt _ hbits
    rw [List.length_take, hl.out, Nat.min_eq_left hk] at hval
    clear hbits
    by_cases hlt : k < n
    · obtain ⟨b, o, x, rfl, hbl, hx, hc⟩ := hB.at_ (i := k) (by rw [hl.out]; exact hlt)
      have hc' : wr.cell? ⟨b, o + k, none⟩ = some (.int .i64 x) := (hb.cell (p := ⟨b, o + k, none⟩) hbl).trans hc
      have HX := Lib.hid hx
      have Hbox := Lib.hid hbox
      have HBl := Lib.hid hb
      clear hx hc hB hbox hb
      have CB := Lib.hid (fun W => isBit_any x W)
      by_cases h01 : x = 0 ∨ x = 1
      · have HM := Lib.hid (bits_more HBits.out HX.out h01)
        have HV := Lib.hid (val_take_succ HX.out h01)
        have HD := Lib.hid (decide_eq_true h01)
        rcases h01 with rfl | rfl
        · go_wp2_with fail
          refine (CB.out _).mono ?_
          rintro e w2 ⟨rfl, rfl⟩
          rw [HD.out]
          go_wp2
          go_roundw
          case rel => exact ⟨k + 1, by omega, by go_num, HM.out, by rw [HV.out]; exact Hbox.out, HBl.out⟩
          case measure => simp [intOf]; omega
        · go_wp2_with fail
          refine (CB.out _).mono ?_
          rintro e w2 ⟨rfl, rfl⟩
          rw [HD.out]
          go_wp2_with fail
          refine (wordSet_any w.heap.size (val (B.take k)) k _ f0 ff hval (by omega)).mono ?_
          rintro e w3 ⟨rfl, rfl⟩
          go_wp2
          go_roundw
          case rel =>
            refine ⟨k + 1, by omega, by go_num, HM.out, ?_, (HBl.out.setCell (Nat.le_refl _) _).drew⟩
            rw [HV.out, if_pos trivial]
            exact Hbox.out.put 0 _
          case measure => simp [intOf]; omega
      · have HD := Lib.hid (decide_eq_false h01)
        have HN : Hid (¬ IsBits B) := Lib.hid fun h => h01 (h x (List.mem_of_getElem? HX.out))
        clear h01
        go_wp2_with fail
        refine (CB.out _).mono ?_
        rintro e w2 ⟨rfl, rfl⟩
        rw [HD.out]
        go_wp2
        go_ret2
        exact ⟨HBl.out, .inr ⟨HN.out, rfl⟩⟩
    · go_wp2
      go_ret2
      have e : B.take k = B := List.take_of_length_le (by rw [hl.out]; omega)
      refine ⟨hb, .inl ⟨?_, ?_⟩⟩
      · rw [← e]; exact HBits.out
      · rw [e]; rfl

end Go.Proofs.YtlbnngolcoefdaaDoor

/- The program's BitsOf. -/
namespace Go.Proofs.YtlbnngolcoefdaaDoor
open Go.RowKit
set_option maxRecDepth 100000

set_option maxHeartbeats 400000 in
theorem implOf_long (A : Option Addr) (n c : Nat) (w : World) (hn : n ≤ 17592186044416) (h : 5000 < n) :
    Calls Tryd.prog 60 #[.slice A n c] w fun e w' => e = .returned (.tuple #[.agg #[.int .i64 0, .slice none 0 0], .bool false]) ∧ Below w.heap.size w w' := by
  go_enter Tryd.func60, Tryd.ntmps60
  go_wp2
  go_returns
  exact ⟨rfl, by go_grown⟩

/-- What holds of the world after k rounds. -/
structure FillInv (B : List Int) (w : World) (n m k : Nat) (wr : World) : Prop where
  below : Below w.heap.size w wr
  res : Box wr w.heap.size 29 #[.int .i64 0, .slice none 0 0]
  row : wr.ownsRow (w.heap.size + 1) 113 1 (.slice (some ⟨w.heap.size + 1, 0, none⟩) m m) m (copied U (U 0) (wordsOf B) k)
  box : Box wr (w.heap.size + 2) 29 #[.int .i64 n, .slice (some ⟨w.heap.size + 1, 0, none⟩) m m]

theorem FillInv.start (B : List Int) (w : World) (n m : Nat) (hm : (wordsOf B).length = m) (hm79 : m ≤ 79) (a b c : Obj) (ha : a = Obj.cells #[Value.int IntKind.i64 0, Value.slice none 0 0] 29)
    (hb : b = Obj.cells (madeCells #[Value.int IntKind.u64 0] m) 113) (hc : c = Obj.cells #[Value.int IntKind.i64 ↑n, Value.slice (some ⟨w.heap.size + 1, 0, none⟩) m m] 29) :
    FillInv B w n m 0 (((w.alloc a).alloc b).alloc c) := by
  subst ha hb hc
  refine ⟨by go_grown, ((Box.made _ _ _).alloc _).alloc _, ?_, ?_⟩
  · refine World.ownsRow.alloc ?_ _
    rw [copied_zero, hm, ← toList_madeCells_one]
    have h := World.ownsRow_lit (base := w.heap.size + 1) (e := 113) (size := 1) (w.alloc (Obj.cells #[Value.int IntKind.i64 0, Value.slice none 0 0] 29)) (madeCells #[Value.int IntKind.u64 0] m) m (by simp) (by unfold maxLen; omega) (by simp [size_madeCells])
    rw [World.size_alloc] at h
    exact h
  · have h := Box.made ((w.alloc (Obj.cells #[Value.int IntKind.i64 0, Value.slice none 0 0] 29)).alloc (Obj.cells (madeCells #[Value.int IntKind.u64 0] m) 113)) 29 #[Value.int IntKind.i64 ↑n, Value.slice (some ⟨w.heap.size + 1, 0, none⟩) m m]
    rwa [World.size_alloc, World.size_alloc] at h

theorem FillInv.next {B : List Int} {w : World} {n m k : Nat} {wr w1 : World} (h : FillInv B w n m k wr) (hb : Below wr.heap.size wr w1) (hk : (wordsOf B)[k]? = some (val ((B.drop (64 * k)).take 64))) :
    FillInv B w n m (k + 1) (w1.setCell ⟨w.heap.size + 1, k, none⟩ (U (val ((B.drop (64 * k)).take 64)))) := by
  have hlt := h.box.lt
  have ho := own_below h.row hb (Nat.le_refl _)
  refine ⟨(below_then h.below hb).setCell (by simp) _, (h.res.below hb h.res.lt).off (by simp) _, ?_, (h.box.below hb h.box.lt).off (by simp) _⟩
  rw [copied_succ (f := U) (U 0) (wordsOf B) k _ hk]
  exact (ho.stored k _).1

theorem bits_chunk {B : List Int} {k : Nat} (h : IsBits (B.take (64 * k))) (h2 : IsBits ((B.drop (64 * k)).take 64)) : IsBits (B.take (64 * (k + 1))) := by
  intro b hb
  rw [show 64 * (k + 1) = 64 * k + 64 by omega, List.take_add] at hb
  rcases List.mem_append.1 hb with hb | hb
  · exact h b hb
  · exact h2 b hb

set_option maxHeartbeats 400000 in
theorem implOf_short (A : Option Addr) (n c : Nat) (B : List Int) (w : World) (hB : Lies w I A B) (hl : Hid (B.length = n)) (hn : n ≤ 5000) (hnc : n ≤ c) (hcm : c ≤ 9223372036854775807) :
    Calls Tryd.prog 60 #[.slice A n c] w (BitsOfPost B w) := by
  have hn0 : decide ((5000 : Int) < (n : Int)) = false := by simp; omega
  obtain ⟨m, hm⟩ : ∃ m, (n + 63) / 64 = m := ⟨_, rfl⟩
  have hm79 : m ≤ 79 := by omega
  have hmk := fun W => run_make_row' (P := Tryd.prog) 27 113 (.int .u64 0) 8 Tryd.underlying27 Tryd.infoU64 rfl .i64 .i64 m (by omega) (by omega) W
  have C : ∀ W : World, Calls Tryd.prog 94 #[.int .i64 n] W fun e w' => e = .returned (.int .i64 m) ∧ W = w' := fun W =>
    (wordsFor_any n W hn).mono fun e w' h => ⟨by rw [h.1, hm], h.2⟩
  have HC := Lib.hid C
  have Hm := Lib.hid hm
  clear C hm
  go_enter Tryd.func60, Tryd.ntmps60
  go_wp2_with fail
  refine (HC.out _).mono ?_
  rintro e w1 ⟨rfl, rfl⟩
  go_wp2
  have Hw : Hid ((wordsOf B).length = m) := Lib.hid (by rw [wordsOf_len, hl.out, Hm.out])
  go_loopw [23] (fun i wr => ∃ k : Nat, k ≤ m ∧ i = .int .i64 k ∧ IsBits (B.take (64 * k)) ∧ FillInv B w n m k wr) (fun i _ => m - (intOf i).toNat)
  case atStart => exact ⟨0, Nat.zero_le _, rfl, by intro b hb; simp at hb, FillInv.start B w n m Hw.out hm79 _ _ _ rfl rfl rfl⟩
  case round =>
    obtain ⟨k, hk, rfl, hbits, inv⟩ := hrel
    have HBits := Lib.hid hbits
    clear hbits hmk
    have f0 := inv.box.cell 0
    have f1 := inv.box.cell 1
    have r0 := inv.res.cell 0
    have r1 := inv.res.cell 1
    have rf0 := inv.res.frozen 0
    have rf1 := inv.res.frozen 1
    simp only [List.getElem?_toArray, List.getElem?_cons_zero, List.getElem?_cons_succ] at f0 f1 r0 r1
    by_cases hlt : k < m
    · have hkn : 64 * k < n := by have := Hm.out; omega
      obtain ⟨b, o, x0, rfl, hbl, hx0, _⟩ := hB.at_ (i := 64 * k) (by rw [hl.out]; exact hkn)
      have HP : Hid (Lies wr I (some ⟨b, o + k * 64, none⟩) ((B.drop (64 * k)).take 64)) := Lib.hid (by rw [Nat.mul_comm k 64]; exact (hB.below inv.below).piece (64 * k) 64)
      have HG : Hid ((wordsOf B)[k]? = some (val ((B.drop (64 * k)).take 64))) := Lib.hid (wordsOf_get B k (by rw [hl.out, Hm.out]; exact hlt))
      have HI := Lib.hid inv
      clear hB inv hx0
      have hc1 : ¬ c = k * 64 := by omega
      by_cases hfull : ((k : Int) + 1) * 64 ≤ n
      · go_wp2_with fail
        refine (wordOf_any (some ⟨b, o + k * 64, none⟩) _ _ ((B.drop (64 * k)).take 64) _ HP.out (Lib.hid (by rw [List.length_take, List.length_drop, hl.out]; omega)) (by omega)).mono ?_
        rintro e w2 ⟨hb2, ⟨hbits2, rfl⟩ | ⟨hno, rfl⟩⟩
        · have inv := HI.out
          have ho := own_below inv.row hb2 (Nat.le_refl _)
          have g1 := (inv.box.below hb2 inv.box.lt).cell 1
          simp only [List.getElem?_toArray, List.getElem?_cons_zero, List.getElem?_cons_succ] at g1
          have hd := (ho.cellAt k (by omega)).trans (copied_get (f := U) (U 0) (wordsOf B) k (by rw [Hw.out]; exact hlt))
          have hf := ho.frozenAt k
          have HN := Lib.hid (inv.next hb2 HG.out)
          have HM : Hid (IsBits (B.take (64 * (k + 1)))) := Lib.hid (bits_chunk HBits.out hbits2)
          clear inv ho HI hbits2 hb2 f0 f1 r0 r1 rf0 rf1
          go_wp2
          go_roundw
          case rel => exact ⟨k + 1, by omega, by go_num, HM.out, HN.out⟩
          case measure => simp [intOf]; omega
        · have inv := HI.out
          have hr := inv.res.below hb2 inv.res.lt
          have q0 := hr.cell 0
          have q1 := hr.cell 1
          have qf0 := hr.frozen 0
          have qf1 := hr.frozen 1
          simp only [List.getElem?_toArray, List.getElem?_cons_zero, List.getElem?_cons_succ] at q0 q1
          have HNo : Hid (¬ (B.length ≤ 5000 ∧ IsBits B)) := Lib.hid fun h => hno ((h.2.drop _).take _)
          have HBl := Lib.hid (below_then inv.below hb2)
          clear inv hr HI hno hb2 f0 f1 r0 r1 rf0 rf1
          go_wp2
          refine bodyPost_ret (v := .tuple #[.agg #[.int .i64 0, .slice none 0 0], .bool false]) (by simp [results, Tryd.results60, go_sem, q0, q1]) rfl ?_
          exact .inr ⟨HNo.out, (HBl.out.setCell (Nat.le_refl _) _).setCell (Nat.le_refl _) _, rfl⟩
      · go_wp2_with fail
        refine (wordOf_any (some ⟨b, o + k * 64, none⟩) _ _ ((B.drop (64 * k)).take 64) _ HP.out (Lib.hid (by rw [List.length_take, List.length_drop, hl.out]; omega)) (by omega)).mono ?_
        rintro e w2 ⟨hb2, ⟨hbits2, rfl⟩ | ⟨hno, rfl⟩⟩
        · have inv := HI.out
          have ho := own_below inv.row hb2 (Nat.le_refl _)
          have g1 := (inv.box.below hb2 inv.box.lt).cell 1
          simp only [List.getElem?_toArray, List.getElem?_cons_zero, List.getElem?_cons_succ] at g1
          have hd := (ho.cellAt k (by omega)).trans (copied_get (f := U) (U 0) (wordsOf B) k (by rw [Hw.out]; exact hlt))
          have hf := ho.frozenAt k
          have HN := Lib.hid (inv.next hb2 HG.out)
          have HM : Hid (IsBits (B.take (64 * (k + 1)))) := Lib.hid (bits_chunk HBits.out hbits2)
          clear inv ho HI hbits2 hb2 f0 f1 r0 r1 rf0 rf1
          go_wp2
          go_roundw
          case rel => exact ⟨k + 1, by omega, by go_num, HM.out, HN.out⟩
          case measure => simp [intOf]; omega
        · have inv := HI.out
          have hr := inv.res.below hb2 inv.res.lt
          have q0 := hr.cell 0
          have q1 := hr.cell 1
          have qf0 := hr.frozen 0
          have qf1 := hr.frozen 1
          simp only [List.getElem?_toArray, List.getElem?_cons_zero, List.getElem?_cons_succ] at q0 q1
          have HNo : Hid (¬ (B.length ≤ 5000 ∧ IsBits B)) := Lib.hid fun h => hno ((h.2.drop _).take _)
          have HBl := Lib.hid (below_then inv.below hb2)
          clear inv hr HI hno hb2 f0 f1 r0 r1 rf0 rf1
          go_wp2
          refine bodyPost_ret (v := .tuple #[.agg #[.int .i64 0, .slice none 0 0], .bool false]) (by simp [results, Tryd.results60, go_sem, q0, q1]) rfl ?_
          exact .inr ⟨HNo.out, (HBl.out.setCell (Nat.le_refl _) _).setCell (Nat.le_refl _) _, rfl⟩
    · clear hB
      go_wp2
      have e : k = m := by omega
      subst e
      have hlk := hl.out
      have hbits := HBits.out
      have hmk := Hm.out
      have hown := inv.row
      have ea := copied_all (f := U) (U 0) (wordsOf B)
      rw [Hw.out] at ea
      rw [ea] at hown
      rw [List.take_of_length_le (by omega)] at hbits
      refine bodyPost_ret (v := .tuple #[.agg #[.int .i64 n, .slice (some ⟨w.heap.size + 1, 0, none⟩) k k], .bool true]) (by simp [results, Tryd.results60, go_sem, r0, r1]) rfl ?_
      refine .inl ⟨by omega, hbits, (inv.below.setCell (Nat.le_refl _) _).setCell (Nat.le_refl _) _, _, by rw [hlk], ?_⟩
      rw [hlk, hmk]
      exact own_mono (ownsRow_setCell_below (ownsRow_setCell_below hown (by go_size) _) (by go_size) _) (by go_size)

theorem implOf_any (A : Option Addr) (c : Nat) (B : List Int) (w : World) (hB : Lies w I A B) (hn : B.length ≤ 17592186044416) (hnc : B.length ≤ c) (hcm : c ≤ 9223372036854775807) :
    Calls Tryd.prog 60 #[.slice A B.length c] w (BitsOfPost B w) := by
  by_cases h : B.length ≤ 5000
  · exact implOf_short A B.length c B w hB (Lib.hid rfl) h hnc hcm
  · exact (implOf_long A B.length c w hn (by omega)).mono fun e w' ⟨he, hb⟩ => .inr ⟨fun h' => h h'.1, hb, he⟩

end Go.Proofs.YtlbnngolcoefdaaDoor
