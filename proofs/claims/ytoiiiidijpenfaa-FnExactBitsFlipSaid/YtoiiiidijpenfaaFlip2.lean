/- The specification's BitsFlip. -/
import Derived.Test.YtoiiiidijpenfaaNewB
import Derived.Test.YtoiiiidijpenfaaList1
import Derived.Test.YtoiiiidijpenfaaFlipMath
namespace Go.Proofs.Ytoiiiidijpenfaa
open Go.RowKit

theorem listV_bits (N : Int) (L : List Nat) : IsBits (listV N L) := by
  unfold listV
  split
  · exact bitsOf_bits _ _
  · intro b hb; simp at hb
theorem listV_le (N : Int) (L : List Nat) : (listV N L).length ≤ 5000 := by
  unfold listV
  split
  · rename_i h
    obtain ⟨n, rfl, hn, _⟩ := okB_nat h
    rw [bitsOf_len]
    exact hn
  · simp

/-- A list of which the first k numbers are flipped. -/
def flipTo (M : List Int) (k : Nat) : List Value := (flipped (M.take k) ++ M.drop k).map I
theorem flipTo_zero (M : List Int) : flipTo M 0 = M.map I := by simp [flipTo, flipped]
theorem flipTo_all (M : List Int) : flipTo M M.length = (flipped M).map I := by simp [flipTo]
theorem flipTo_get (M : List Int) (k : Nat) (x : Int) (h : M[k]? = some x) : (flipTo M k)[k]? = some (I x) := by
  obtain ⟨hk, rfl⟩ := List.getElem?_eq_some_iff.1 h
  have hl : (flipped (M.take k)).length = k := by simp [flipped]; omega
  unfold flipTo
  rw [List.getElem?_map, List.getElem?_append_right (by omega), hl, Nat.sub_self, List.drop_eq_getElem_cons hk]
  rfl
theorem flipTo_succ (M : List Int) (k : Nat) (x : Int) (h : M[k]? = some x) : flipTo M (k + 1) = (flipTo M k).set k (I (1 - x)) := by
  obtain ⟨hk, rfl⟩ := List.getElem?_eq_some_iff.1 h
  have hl : (flipped (M.take k)).length = k := by simp [flipped]; omega
  have e : flipped (M.take (k + 1)) = flipped (M.take k) ++ [1 - M[k]] := by
    unfold flipped
    rw [List.take_succ_eq_append_getElem hk, List.map_append]
    rfl
  unfold flipTo
  rw [List.drop_eq_getElem_cons hk, e, List.map_append, List.map_append, List.map_append, List.set_append_right _ _ (by simp [hl]), List.length_map, hl, Nat.sub_self, List.append_assoc]
  rfl

set_option maxHeartbeats 400000 in
theorem specFlip_any (N : Int) (A : Option Addr) (c : Nat) (L : List Nat) (w : World) (hL : Lies w U A L) (hw : ∀ x ∈ L, x < 2 ^ 64) :
    Calls Try.prog 37 #[.agg #[.int .i64 N, .slice A L.length c]] w (NewBits1 w ((listV N L).length) (wordsOf (flipped (listV N L)))) := by
  have HW := Lib.hid hw
  clear hw
  have hMl := listV_le N L
  have HMb := Lib.hid (listV_bits N L)
  go_enter Try.func37, Try.ntmps37
  go_wp2_with fail
  generalize hW0 : (w.alloc (Obj.cells #[Value.int IntKind.i64 N, Value.slice A L.length c] 26)).alloc (Obj.cells #[Value.int IntKind.i64 0, Value.slice none 0 0] 26) = W0
  have hr0 : Box W0 (w.heap.size + 1) 26 #[.int .i64 0, .slice none 0 0] := by
    have h := Box.made (w.alloc (Obj.cells #[Value.int IntKind.i64 N, Value.slice A L.length c] 26)) 26 #[Value.int IntKind.i64 0, Value.slice none 0 0]
    rw [World.size_alloc] at h
    rw [← hW0]; exact h
  have hb0 : Below w.heap.size w W0 := by rw [← hW0]; go_grown
  clear hW0
  refine (specList_any N A c L _ (hL.below hb0) HW.out).mono ?_
  rintro e w1 ⟨v, rfl, hown, hb⟩
  have hr1 := hr0.below hb hr0.lt
  have hb1 := below_then hb0 hb
  have hS0 := hr0.lt
  clear hL hb hr0
  generalize listV N L = M at *
  obtain ⟨AV, cV, rfl⟩ := own_slice hown
  have Hown := Lib.hid hown
  clear hown
  go_wp2
  go_loopw [4] (fun i wr => ∃ k : Nat, k ≤ M.length ∧ i = .int .i64 k ∧ wr.ownsRow W0.heap.size 3 1 (.slice AV M.length cV) M.length (flipTo M k) ∧ Below W0.heap.size w1 wr) (fun i _ => M.length - (intOf i).toNat)
  case atStart => exact ⟨0, Nat.zero_le _, rfl, by rw [flipTo_zero]; exact Hown.out, Below.refl _ _⟩
  case round =>
    obtain ⟨k, hk, rfl, hown, hb⟩ := hrel
    by_cases hlt : k < M.length
    · obtain ⟨g, cap, hv, hg, _⟩ := hown.form (by omega)
      injection hv with hA _ hc
      subst hA hc
      obtain ⟨x, hx⟩ : ∃ x, M[k]? = some x := ⟨_, List.getElem?_eq_getElem hlt⟩
      have hx01 := HMb.out x (List.mem_of_getElem? hx)
      have hxl : 0 ≤ x := by omega
      have hxh : x ≤ 1 := by omega
      have hd := (hown.cellAt k (by omega)).trans (flipTo_get M k x hx)
      have hf := hown.frozenAt k
      have HS := Lib.hid ((hown.stored k (I (1 - x))).1)
      have HB := Lib.hid (hb.setCell (p := ⟨g, k, none⟩) hg (I (1 - x)))
      have HX := Lib.hid (flipTo_succ M k x hx)
      clear hown hb hx hx01
      go_wp2
      go_roundw
      case rel => exact ⟨k + 1, by omega, by go_num, by rw [HX.out]; exact HS.out, HB.out⟩
      case measure => simp [intOf]; omega
    · have e : k = M.length := by omega
      subst e
      rw [flipTo_all] at hown
      have hfl : (flipped M).length = M.length := by simp [flipped]
      have hB : Lies wr I AV (flipped M) := by
        refine Lies.of_own (n := M.length) (c := cV) (base := W0.heap.size) (e := 3) hown
      have hr2 := hr1.below hb hS0
      have hb2 := hb1.trans (hb.mono hb0.size)
      have HQ : Hid (∀ e w', BitsOfPost (flipped M) wr e w' → ∃ A c, e = .returned (.tuple #[.agg #[.int .i64 M.length, .slice A (wordsOf (flipped M)).length c], .bool true]) ∧ w'.ownsRow wr.heap.size 55 1 (.slice A (wordsOf (flipped M)).length c) (wordsOf (flipped M)).length ((wordsOf (flipped M)).map U) ∧ Below wr.heap.size wr w') := Lib.hid (by
        intro e w' h
        have h := newBits_of h
        have hok : okBits (flipped M) = true := (okBits_iff _).2 ⟨by rw [hfl]; exact hMl, flipped_bits HMb.out⟩
        unfold NewBits resN resW at h
        rw [if_pos hok, if_pos hok, hok, hfl] at h
        exact h)
      have c2 := specOf_any AV cV (flipped M) wr hB (by rw [hfl]; omega)
      rw [hfl] at c2
      have HC2 := Lib.hid c2
      clear c2 hB hown hb hb1 hr1 hb0
      go_wp2_with fail
      refine HC2.out.mono ?_
      intro e w3 hp
      obtain ⟨AW, cW, rfl, oW3, hb3⟩ := HQ.out e w3 hp
      have hr3 := hr2.below hb3 hr2.lt
      have hb03 := below_then hb2 hb3
      have q0 := hr3.cell 0
      have q1 := hr3.cell 1
      have qf0 := hr3.frozen 0
      have qf1 := hr3.frozen 1
      have hS3 := hr3.lt
      simp only [List.getElem?_toArray, List.getElem?_cons_zero, List.getElem?_cons_succ] at q0 q1
      have HO := Lib.hid oW3
      have HB := Lib.hid hb03
      have HB2 := Lib.hid hb2
      have HS2 := Lib.hid hr2.lt
      clear hp HQ HC2 hr2 hb2 hb3 hr3 oW3 hb03
      generalize wordsOf (flipped M) = Ws at *
      go_wp2
      refine bodyPost_ret (v := .agg #[.int .i64 M.length, .slice AW Ws.length cW]) (by simp [results, Try.results37, go_sem, q0, q1, hS3]) rfl ?_
      refine ⟨AW, cW, rfl, ?_, ?_⟩
      · exact own_mono ((ownsRow_setCell_below (ownsRow_setCell_below HO.out (a := ⟨w.heap.size + 1, 0, none⟩) HS2.out _) (a := ⟨w.heap.size + 1, 1, none⟩) HS2.out _).alloc _) HB2.out.size
      · exact ((HB.out.setCell (p := ⟨w.heap.size + 1, 0, none⟩) (by simp) _).setCell (p := ⟨w.heap.size + 1, 1, none⟩) (by simp) _).alloc (by have := HB.out.size; simp; omega) _

end Go.Proofs.Ytoiiiidijpenfaa
