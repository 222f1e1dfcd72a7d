/- The program's BitsOf. -/
import Derived.Test.YtoehgcakfblblaaSpec3
import Derived.Test.YtoehgcakfblblaaOf1
namespace Go.Proofs.Ytoehgcakfblblaa
open Go.RowKit
set_option maxRecDepth 100000

set_option maxHeartbeats 400000 in
theorem implOf_long (A : Option Addr) (n c : Nat) (w : World) (hn : n ≤ 17592186044416) (h : 5000 < n) :
    Calls Try.prog 67 #[.slice A n c] w fun e w' => e = .returned (.tuple #[.agg #[.int .i64 0, .slice none 0 0], .bool false]) ∧ Below w.heap.size w w' := by
  go_enter Try.func67, Try.ntmps67
  go_wp2
  go_returns
  exact ⟨rfl, by go_grown⟩

/-- What holds of the world after k rounds. -/
structure FillInv (B : List Int) (w : World) (n m k : Nat) (wr : World) : Prop where
  below : Below w.heap.size w wr
  res : Box wr w.heap.size 44 #[.int .i64 0, .slice none 0 0]
  row : wr.ownsRow (w.heap.size + 1) 123 1 (.slice (some ⟨w.heap.size + 1, 0, none⟩) m m) m (copied U (U 0) (wordsOf B) k)
  box : Box wr (w.heap.size + 2) 44 #[.int .i64 n, .slice (some ⟨w.heap.size + 1, 0, none⟩) m m]

theorem FillInv.start (B : List Int) (w : World) (n m : Nat) (hm : (wordsOf B).length = m) (hm79 : m ≤ 79) (a b c : Obj) (ha : a = Obj.cells #[Value.int IntKind.i64 0, Value.slice none 0 0] 44)
    (hb : b = Obj.cells (madeCells #[Value.int IntKind.u64 0] m) 123) (hc : c = Obj.cells #[Value.int IntKind.i64 ↑n, Value.slice (some ⟨w.heap.size + 1, 0, none⟩) m m] 44) :
    FillInv B w n m 0 (((w.alloc a).alloc b).alloc c) := by
  subst ha hb hc
  refine ⟨by go_grown, ((Box.made _ _ _).alloc _).alloc _, ?_, ?_⟩
  · refine World.ownsRow.alloc ?_ _
    rw [copied_zero, hm, ← toList_madeCells_one]
    have h := World.ownsRow_lit (base := w.heap.size + 1) (e := 123) (size := 1) (w.alloc (Obj.cells #[Value.int IntKind.i64 0, Value.slice none 0 0] 44)) (madeCells #[Value.int IntKind.u64 0] m) m (by simp) (by unfold maxLen; omega) (by simp [size_madeCells])
    rw [World.size_alloc] at h
    exact h
  · have h := Box.made ((w.alloc (Obj.cells #[Value.int IntKind.i64 0, Value.slice none 0 0] 44)).alloc (Obj.cells (madeCells #[Value.int IntKind.u64 0] m) 123)) 44 #[Value.int IntKind.i64 ↑n, Value.slice (some ⟨w.heap.size + 1, 0, none⟩) m m]
    rwa [World.size_alloc, World.size_alloc] at h

theorem FillInv.next {B : List Int} {w : World} {n m k : Nat} {wr w1 : World} (h : FillInv B w n m k wr) (hb : Below wr.heap.size wr w1) (hk : (wordsOf B)[k]? = some (val ((B.drop (64 * k)).take 64))) :
    FillInv B w n m (k + 1) (w1.setCell ⟨w.heap.size + 1, k, none⟩ (U (val ((B.drop (64 * k)).take 64)))) := by
  have hlt := h.box.lt
  have ho := own_below h.row hb (Nat.le_refl _)
  refine ⟨(below_then h.below hb).setCell (by simp) _, (h.res.below hb h.res.lt).off (by simp) _, ?_, (h.box.below hb h.box.lt).off (by simp) _⟩
  rw [copied_succ (f := U) (U 0) (wordsOf B) k _ hk]
  exact (ho.stored k _).1

theorem bits_chunk {B : List Int} {k : Nat} (h : IsBits (B.take (64 * k))) (h2 : IsBits ((B.drop (64 * k)).take 64)) : IsBits (B.take (64 * (k + 1))) := by
  intro b hb
  rw [show 64 * (k + 1) = 64 * k + 64 by omega, List.take_add] at hb
  rcases List.mem_append.1 hb with hb | hb
  · exact h b hb
  · exact h2 b hb

set_option maxHeartbeats 400000 in
theorem implOf_short (A : Option Addr) (n c : Nat) (B : List Int) (w : World) (hB : Lies w I A B) (hl : Hid (B.length = n)) (hn : n ≤ 5000) (hnc : n ≤ c) (hcm : c ≤ 9223372036854775807) :
    Calls Try.prog 67 #[.slice A n c] w (BitsOfPost B w) := by
  have hn0 : decide ((5000 : Int) < (n : Int)) = false := by simp; omega
  obtain ⟨m, hm⟩ : ∃ m, (n + 63) / 64 = m := ⟨_, rfl⟩
  have hm79 : m ≤ 79 := by omega
  have hmk := fun W => run_make_row' (P := Try.prog) 42 123 (.int .u64 0) 8 Try.underlying42 Try.infoU64 rfl .i64 .i64 m (by omega) (by omega) W
  have C : ∀ W : World, Calls Try.prog 109 #[.int .i64 n] W fun e w' => e = .returned (.int .i64 m) ∧ W = w' := fun W =>
    (wordsFor_any n W hn).mono fun e w' h => ⟨by rw [h.1, hm], h.2⟩
  have HC := Lib.hid C
  have Hm := Lib.hid hm
  clear C hm
  go_enter Try.func67, Try.ntmps67
  go_wp2_with fail
  refine (HC.out _).mono ?_
  rintro e w1 ⟨rfl, rfl⟩
  go_wp2
  have Hw : Hid ((wordsOf B).length = m) := Lib.hid (by rw [wordsOf_len, hl.out, Hm.out])
  go_loopw [23] (fun i wr => ∃ k : Nat, k ≤ m ∧ i = .int .i64 k ∧ IsBits (B.take (64 * k)) ∧ FillInv B w n m k wr) (fun i _ => m - (intOf i).toNat)
  case atStart => exact ⟨0, Nat.zero_le _, rfl, by intro b hb; simp at hb, FillInv.start B w n m Hw.out hm79 _ _ _ rfl rfl rfl⟩
  case round =>
    obtain ⟨k, hk, rfl, hbits, inv⟩ := hrel
    have HBits := Lib.hid hbits
    clear hbits hmk
    have f0 := inv.box.cell 0
    have f1 := inv.box.cell 1
    have r0 := inv.res.cell 0
    have r1 := inv.res.cell 1
    have rf0 := inv.res.frozen 0
    have rf1 := inv.res.frozen 1
    simp only [List.getElem?_toArray, List.getElem?_cons_zero, List.getElem?_cons_succ] at f0 f1 r0 r1
    by_cases hlt : k < m
    · have hkn : 64 * k < n := by have := Hm.out; omega
      obtain ⟨b, o, x0, rfl, hbl, hx0, _⟩ := hB.at_ (i := 64 * k) (by rw [hl.out]; exact hkn)
      have HP : Hid (Lies wr I (some ⟨b, o + k * 64, none⟩) ((B.drop (64 * k)).take 64)) := Lib.hid (by rw [Nat.mul_comm k 64]; exact (hB.below inv.below).piece (64 * k) 64)
      have HG : Hid ((wordsOf B)[k]? = some (val ((B.drop (64 * k)).take 64))) := Lib.hid (wordsOf_get B k (by rw [hl.out, Hm.out]; exact hlt))
      have HI := Lib.hid inv
      clear hB inv hx0
      have hc1 : ¬ c = k * 64 := by omega
      by_cases hfull : ((k : Int) + 1) * 64 ≤ n
      · go_wp2_with fail
        refine (wordOf_any (some ⟨b, o + k * 64, none⟩) _ _ ((B.drop (64 * k)).take 64) _ HP.out (Lib.hid (by rw [List.length_take, List.length_drop, hl.out]; omega)) (by omega)).mono ?_
        rintro e w2 ⟨hb2, ⟨hbits2, rfl⟩ | ⟨hno, rfl⟩⟩
        · have inv := HI.out
          have ho := own_below inv.row hb2 (Nat.le_refl _)
          have g1 := (inv.box.below hb2 inv.box.lt).cell 1
          simp only [List.getElem?_toArray, List.getElem?_cons_zero, List.getElem?_cons_succ] at g1
          have hd := (ho.cellAt k (by omega)).trans (copied_get (f := U) (U 0) (wordsOf B) k (by rw [Hw.out]; exact hlt))
          have hf := ho.frozenAt k
          have HN := Lib.hid (inv.next hb2 HG.out)
          have HM : Hid (IsBits (B.take (64 * (k + 1)))) := Lib.hid (bits_chunk HBits.out hbits2)
          clear inv ho HI hbits2 hb2 f0 f1 r0 r1 rf0 rf1
          go_wp2
          go_roundw
          case rel => exact ⟨k + 1, by omega, by go_num, HM.out, HN.out⟩
          case measure => simp [intOf]; omega
        · have inv := HI.out
          have hr := inv.res.below hb2 inv.res.lt
          have q0 := hr.cell 0
          have q1 := hr.cell 1
          have qf0 := hr.frozen 0
          have qf1 := hr.frozen 1
          simp only [List.getElem?_toArray, List.getElem?_cons_zero, List.getElem?_cons_succ] at q0 q1
          have HNo : Hid (¬ (B.length ≤ 5000 ∧ IsBits B)) := Lib.hid fun h => hno ((h.2.drop _).take _)
          have HBl := Lib.hid (below_then inv.below hb2)
          clear inv hr HI hno hb2 f0 f1 r0 r1 rf0 rf1
          go_wp2
          refine bodyPost_ret (v := .tuple #[.agg #[.int .i64 0, .slice none 0 0], .bool false]) (by simp [results, Try.results67, go_sem, q0, q1]) rfl ?_
          exact .inr ⟨HNo.out, (HBl.out.setCell (Nat.le_refl _) _).setCell (Nat.le_refl _) _, rfl⟩
      · go_wp2_with fail
        refine (wordOf_any (some ⟨b, o + k * 64, none⟩) _ _ ((B.drop (64 * k)).take 64) _ HP.out (Lib.hid (by rw [List.length_take, List.length_drop, hl.out]; omega)) (by omega)).mono ?_
        rintro e w2 ⟨hb2, ⟨hbits2, rfl⟩ | ⟨hno, rfl⟩⟩
        · have inv := HI.out
          have ho := own_below inv.row hb2 (Nat.le_refl _)
          have g1 := (inv.box.below hb2 inv.box.lt).cell 1
          simp only [List.getElem?_toArray, List.getElem?_cons_zero, List.getElem?_cons_succ] at g1
          have hd := (ho.cellAt k (by omega)).trans (copied_get (f := U) (U 0) (wordsOf B) k (by rw [Hw.out]; exact hlt))
          have hf := ho.frozenAt k
          have HN := Lib.hid (inv.next hb2 HG.out)
          have HM : Hid (IsBits (B.take (64 * (k + 1)))) := Lib.hid (bits_chunk HBits.out hbits2)
          clear inv ho HI hbits2 hb2 f0 f1 r0 r1 rf0 rf1
          go_wp2
          go_roundw
          case rel => exact ⟨k + 1, by omega, by go_num, HM.out, HN.out⟩
          case measure => simp [intOf]; omega
        · have inv := HI.out
          have hr := inv.res.below hb2 inv.res.lt
          have q0 := hr.cell 0
          have q1 := hr.cell 1
          have qf0 := hr.frozen 0
          have qf1 := hr.frozen 1
          simp only [List.getElem?_toArray, List.getElem?_cons_zero, List.getElem?_cons_succ] at q0 q1
          have HNo : Hid (¬ (B.length ≤ 5000 ∧ IsBits B)) := Lib.hid fun h => hno ((h.2.drop _).take _)
          have HBl := Lib.hid (below_then inv.below hb2)
          clear inv hr HI hno hb2 f0 f1 r0 r1 rf0 rf1
          go_wp2
          refine bodyPost_ret (v := .tuple #[.agg #[.int .i64 0, .slice none 0 0], .bool false]) (by simp [results, Try.results67, go_sem, q0, q1]) rfl ?_
          exact .inr ⟨HNo.out, (HBl.out.setCell (Nat.le_refl _) _).setCell (Nat.le_refl _) _, rfl⟩
    · clear hB
      go_wp2
      have e : k = m := by omega
      subst e
      have hlk := hl.out
      have hbits := HBits.out
      have hmk := Hm.out
      have hown := inv.row
      have ea := copied_all (f := U) (U 0) (wordsOf B)
      rw [Hw.out] at ea
      rw [ea] at hown
      rw [List.take_of_length_le (by omega)] at hbits
      refine bodyPost_ret (v := .tuple #[.agg #[.int .i64 n, .slice (some ⟨w.heap.size + 1, 0, none⟩) k k], .bool true]) (by simp [results, Try.results67, go_sem, r0, r1]) rfl ?_
      refine .inl ⟨by omega, hbits, (inv.below.setCell (Nat.le_refl _) _).setCell (Nat.le_refl _) _, _, by rw [hlk], ?_⟩
      rw [hlk, hmk]
      exact own_mono (ownsRow_setCell_below (ownsRow_setCell_below hown (by go_size) _) (by go_size) _) (by go_size)

theorem implOf_any (A : Option Addr) (c : Nat) (B : List Int) (w : World) (hB : Lies w I A B) (hn : B.length ≤ 17592186044416) (hnc : B.length ≤ c) (hcm : c ≤ 9223372036854775807) :
    Calls Try.prog 67 #[.slice A B.length c] w (BitsOfPost B w) := by
  by_cases h : B.length ≤ 5000
  · exact implOf_short A B.length c B w hB (Lib.hid rfl) h hnc hcm
  · exact (implOf_long A B.length c w hn (by omega)).mono fun e w' ⟨he, hb⟩ => .inr ⟨fun h' => h h'.1, hb, he⟩

end Go.Proofs.Ytoehgcakfblblaa
