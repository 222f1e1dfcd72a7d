import Derived.Test.YtoehgcakfblblaaSpec4
import Derived.Test.YtoehgcakfblblaaAt2
/- BitsList, the specification's and the program's. -/
namespace Go.Proofs.Ytoehgcakfblblaa
open Go.RowKit
set_option maxRecDepth 100000

/-- What BitsList is to return. -/
def listV (N : Int) (L : List Nat) : List Int := if okB N L = true then bitsOf N.toNat L else []

/-- A new list of numbers is returned, and nothing that was there is touched. -/
def NewInts (w : World) (M : List Int) (e : Ending) (w' : World) : Prop :=
  ∃ v, e = .returned v ∧ w'.ownsRow w.heap.size 3 1 v M.length (M.map I) ∧ Below w.heap.size w w'

end Go.Proofs.Ytoehgcakfblblaa

/- The program's BitsList. -/
namespace Go.Proofs.Ytoehgcakfblblaa
open Go.RowKit
set_option maxRecDepth 100000

set_option maxHeartbeats 400000 in
theorem implList_bad (N : Int) (A : Option Addr) (c : Nat) (L : List Nat) (w : World) (hL : Lies w U A L) (hw : ∀ x ∈ L, x < 2 ^ 64) (hok : okB N L = false) :
    Calls Try.prog 77 #[.agg #[.int .i64 N, .slice A L.length c]] w (NewInts w []) := by
  have HW := Lib.hid hw
  clear hw
  go_enter Try.func77, Try.ntmps77
  go_wp2_with fail
  refine (implOk_any N A c L _ (hL.below (by go_grown)) HW.out).mono ?_
  rintro e w1 ⟨rfl, hb⟩
  rw [hok]
  have HB := Lib.hid hb
  clear hb hL hok
  go_wp2
  go_ret
  exact ⟨_, rfl, World.ownsRow_nil _ _ _ _, below_then (by go_grown) HB.out⟩

set_option maxHeartbeats 400000 in
theorem implList_ok (n : Nat) (A : Option Addr) (c : Nat) (L : List Nat) (w : World) (hL : Lies w U A L) (hw : ∀ x ∈ L, x < 2 ^ 64) (hok : okB n L = true) (hn : n ≤ 5000) (Hl : Hid (L.length = (n + 63) / 64)) :
    Calls Try.prog 77 #[.agg #[.int .i64 n, .slice A L.length c]] w (NewInts w (bitsOf n L)) := by
  have HW := Lib.hid hw
  clear hw
  have hmk := fun W => run_make_row' (P := Try.prog) 24 3 (.int .i64 0) 8 Try.underlying24 Try.infoInt rfl .i64 .i64 n (by omega) (by omega) W
  go_enter Try.func77, Try.ntmps77
  go_wp2_with fail
  have hx0 := Box.made w 44 #[.int .i64 n, .slice A L.length c]
  have hb0 : Below w.heap.size w (w.alloc (.cells #[.int .i64 n, .slice A L.length c] 44)) := by go_grown
  have hL0 := hL.below hb0
  refine (implOk_any n A c L _ hL0 HW.out).mono ?_
  rintro e w1 ⟨rfl, hb⟩
  rw [hok]
  have hx1 := hx0.below hb hx0.lt
  have hL1 := hL0.below hb
  have hb1 := below_then hb0 hb
  have f0 := hx1.cell 0
  have f1 := hx1.cell 1
  have hS := hx1.lt
  simp only [List.getElem?_toArray, List.getElem?_cons_zero, List.getElem?_cons_succ] at f0 f1
  have HB1 := Lib.hid hb1
  clear hb hL hok hx0 hx1 hb0 hL0 hb1
  go_wp2
  go_loopw [14] (fun i wr => ∃ k : Nat, k ≤ n ∧ i = .int .i64 k ∧ wr.ownsRow w1.heap.size 3 1 (.slice (some ⟨w1.heap.size, 0, none⟩) n n) n (copied I (I 0) (bitsOf n L) k) ∧ Below w1.heap.size w1 wr) (fun i _ => n - (intOf i).toNat)
  case atStart =>
    refine ⟨0, Nat.zero_le _, rfl, ?_, (Below.refl _ _).alloc (Nat.le_refl _) _⟩
    rw [copied_zero, bitsOf_len, ← toList_madeCells_one]
    exact World.ownsRow_lit w1 _ _ (Nat.le_refl _) (by unfold maxLen; omega) (by simp [size_madeCells])
  case round =>
    obtain ⟨k, hk, rfl, hown, hb⟩ := hrel
    clear hmk
    by_cases hlt : k < n
    · have hil : k / 64 < L.length := by rw [Hl.out]; omega
      obtain ⟨b, o, x, rfl, hbl, hx, hc⟩ := hL1.at_ hil
      have hx64 := HW.out x (List.mem_of_getElem? hx)
      have HV : Hid (bitN L k = x / 2 ^ (k % 64) % 2) := Lib.hid (by unfold bitN; rw [List.getD_eq_getElem?_getD, hx, Option.getD_some])
      have g1 := (hb.cell (p := ⟨w.heap.size, 1, none⟩) hS).trans f1
      have hc' : wr.cell? ⟨b, o + k / 64, none⟩ = some (.int .u64 x) := (hb.cell (p := ⟨b, o + k / 64, none⟩) hbl).trans hc
      have hd : wr.cell? ⟨w1.heap.size, k, none⟩ = some (I 0) := (hown.cellAt k (by omega)).trans (copied_get _ _ _ (by rw [bitsOf_len]; exact hlt))
      have hf := hown.frozenAt k
      have hz : w1.heap.size < wr.heap.size := (hown.lt w1.heap.size rfl).2
      have HO := Lib.hid hown
      have HB := Lib.hid hb
      have HX := Lib.hid (copied_succ (f := I) (I 0) (bitsOf n L) k _ (bitsOf_get _ _ _ hlt))
      clear hx hc hown hb
      go_wp2_with fail
      refine (wordAt_any wr.heap.size x (k % 64) _ (by simp) hx64 (by omega)).mono ?_
      rintro e w2 ⟨rfl, rfl⟩
      rw [← HV.out]
      go_wp2
      go_roundw
      case rel =>
        refine ⟨k + 1, by omega, by go_num, ?_, ?_⟩
        · rw [HX.out]
          exact ((HO.out.stored k _).1).alloc _
        · exact (HB.out.setCell (p := ⟨w1.heap.size, k, none⟩) (Nat.le_refl _) _).alloc (by go_size) _
      case measure => simp [intOf]; omega
    · go_wp2
      go_ret
      have e : k = n := by omega
      subst e
      have ea := copied_all (f := I) (I 0) (bitsOf k L)
      rw [bitsOf_len] at ea
      rw [ea] at hown
      refine ⟨_, rfl, ?_, below_then HB1.out hb⟩
      rw [bitsOf_len]
      exact own_mono hown HB1.out.size

theorem implList_any (N : Int) (A : Option Addr) (c : Nat) (L : List Nat) (w : World) (hL : Lies w U A L) (hw : ∀ x ∈ L, x < 2 ^ 64) :
    Calls Try.prog 77 #[.agg #[.int .i64 N, .slice A L.length c]] w (NewInts w (listV N L)) := by
  unfold listV
  cases hok : okB N L
  · rw [if_neg (by simp)]
    exact implList_bad N A c L w hL hw hok
  · rw [if_pos rfl]
    obtain ⟨n, rfl, hn, hl, _⟩ := okB_nat hok
    exact implList_ok n A c L w hL hw hok hn (Lib.hid hl)

end Go.Proofs.Ytoehgcakfblblaa
