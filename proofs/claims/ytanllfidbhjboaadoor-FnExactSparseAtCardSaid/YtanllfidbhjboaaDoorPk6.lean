/- The program's putField. -/
import Derived.Test.YtanllfidbhjboaaDoorSelMath2
import Derived.Test.YtanllfidbhjboaaDoorMem3
import Derived.Test.YtanllfidbhjboaaDoorProg
import Derived.StillTailTactics
namespace Go.Proofs.YtanllfidbhjboaaDoor
open Go.RowKit
set_option maxRecDepth 100000

theorem lay_or (y x s : Nat) (hy : y < 2 ^ 64) : bits .or .u64 (y : Int) (IntKind.u64.wrap ((x : Int) * 2 ^ s)) = ((y ||| x * 2 ^ s % 2 ^ 64 : Nat) : Int) := by
  have e : (x : Int) * 2 ^ s = ((x * 2 ^ s : Nat) : Int) := by simp
  have hw : IntKind.u64.wrap ((x : Int) * 2 ^ s) = ((x * 2 ^ s % 2 ^ 64 : Nat) : Int) := by rw [e, IntKind.wrap_u64]; omega
  rw [hw, u64_or_nat y _ hy (Nat.mod_lt _ (by decide))]
theorem lay_or0 (x r : Nat) (hx : x < 2 ^ 64) : bits .or .u64 0 ((x : Int) / 2 ^ r) = ((x / 2 ^ r : Nat) : Int) := by
  have e : (x : Int) / 2 ^ r = ((x / 2 ^ r : Nat) : Int) := by simp
  have h := u64_or_nat 0 (x / 2 ^ r) (by decide) (Nat.lt_of_le_of_lt (Nat.div_le_self _ _) hx)
  rw [Nat.zero_or] at h
  rw [e]
  exact h
theorem lay_shr (x s : Nat) (hs : s ≤ 64) : x * 2 ^ s / 2 ^ 64 = x / 2 ^ (64 - s) := by
  rw [show 2 ^ 64 = 2 ^ (64 - s) * 2 ^ s by rw [← Nat.pow_add, show 64 - s + s = 64 by omega], Nat.mul_div_mul_right _ _ (Nat.two_pow_pos _)]
theorem lay_set (D : List Nat) (i v : Nat) : (D.map U).toArray.setIfInBounds i (U v) = ((D.set i v).map U).toArray := by
  simp [List.map_set]

/-- The words of block S are the digits of a number, and nothing below it is touched. -/
def Laid (W : World) (S T v : Nat) (w' : World) : Prop := Box w' S 64 ((digits T v).map U).toArray ∧ Below S W w'

set_option maxHeartbeats 400000 in
theorem putField_zero (S T a : Nat) (W : World) : Calls Tryd.prog 81 #[.slice (some ⟨S, 0, none⟩) T T, .int .i64 a, .int .i64 0] W fun e w' => e = .returned (.tuple #[]) ∧ W = w' := by
  go_enter Tryd.func81, Tryd.ntmps81
  go_wp2
  refine bodyPost_ret (results_none rfl _ _ _) rfl ?_
  exact ⟨rfl, rfl⟩

set_option maxRecDepth 100000 in
set_option maxHeartbeats 400000 in
theorem putField_some (S T v a n : Nat) (W : World) (row : Box W S 64 ((digits T v).map U).toArray) (hv : v < 2 ^ a) (hn : n < 2 ^ 32) (hn0 : n ≠ 0) (ha : a ≤ 5000) (hfT : a / 64 < T) (hroom : n * 2 ^ (a % 64) / 2 ^ 64 ≠ 0 → a / 64 + 1 < T) (hT : T ≤ 5000) :
    Calls Tryd.prog 81 #[.slice (some ⟨S, 0, none⟩) T T, .int .i64 a, .int .i64 n] W fun e w' => e = .returned (.tuple #[]) ∧ Laid W S T (v + 2 ^ a * n) w' := by
  have e0 : ((n : Int) == 0) = false := by rw [beq_eq_false_iff_ne]; omega
  obtain ⟨f, hf⟩ : ∃ f, a / 64 = f := ⟨_, rfl⟩
  obtain ⟨s, hs⟩ : ∃ s, a % 64 = s := ⟨_, rfl⟩
  have haf : a = 64 * f + s := by omega
  rw [hf] at hfT
  rw [hf, hs] at hroom
  have e1 : IntKind.i64.wrap ((a : Int) / 64) = (f : Int) := by rw [show (a : Int) / 64 = (f : Int) by omega]; exact IntWalk.i64_in _ (by omega)
  have e1b : (a : Int) / 64 = (f : Int) := by omega
  have e2 : (a : Int).tmod 64 = (s : Int) := by rw [IntWalk.rem_in _ _ (by omega)]; omega
  have e2b : (a : Int) % 64 = (s : Int) := by omega
  have hs64 : s < 64 := by omega
  rw [haf] at hv
  obtain ⟨h1, h2, h3⟩ := digits_lay T v f s n hs64 hv hn hfT
  rw [← haf] at h1 h2
  have hge := digits_get T v f hfT
  obtain ⟨y, hy⟩ : ∃ y, v / 2 ^ (64 * f) % 2 ^ 64 = y := ⟨_, rfl⟩
  have hy64 : y < 2 ^ 64 := by rw [← hy]; exact Nat.mod_lt _ (by decide)
  rw [hy] at hge h1 h2
  have hd : W.cell? ⟨S, f, none⟩ = some (U y) := by
    rw [row.cell, List.getElem?_toArray, List.getElem?_map, hge]; rfl
  have hfz := row.frozen f
  have HOr := Lib.hid (lay_or y n s hy64)
  obtain ⟨r, hr⟩ : ∃ r, 64 - s = r := ⟨_, rfl⟩
  rw [lay_shr n s (by omega), hr] at h1 h2 hroom
  have e5 : IntKind.i64.wrap (64 - (s : Int)) = (r : Int) := by rw [IntWalk.i64_in _ (by omega)]; omega
  have e5b : 64 - (s : Int) = (r : Int) := by omega
  have hr64 : r ≤ 64 := by omega
  have s1 := fun W => run_shr_u64 (P := Tryd.prog) 64 n r hr64 W
  have hSl := row.lt
  have HRow := Lib.hid row
  by_cases hrest : n / 2 ^ r = 0
  · have HE := Lib.hid (h1 hrest)
    have t1 : (((n : Int) / 2 ^ r) != 0) = false := by
      have e : (n : Int) / 2 ^ r = ((n / 2 ^ r : Nat) : Int) := by simp
      rw [e, hrest]; rfl
    clear h1 h2 h3 hge hy row haf hf hs hr hrest hroom e1b e2b e5b
    go_enter Tryd.func81, Tryd.ntmps81
    go_wp2_with fail
    go_still_tail 10, (by kernel_rfl)
    change wpList _ _ _ _ _ W.drew
    go_wp2
    go_end0
    refine ⟨rfl, ?_, ?_⟩
    · rw [HE.out, ← lay_set, HOr.out]
      exact HRow.out.put f _
    · exact ((Below.refl S W).setCell (p := ⟨S, f, none⟩) (Nat.le_refl _) _).drew
  · have HE := Lib.hid h2
    have t1 : (((n : Int) / 2 ^ r) != 0) = true := by
      have e : (n : Int) / 2 ^ r = ((n / 2 ^ r : Nat) : Int) := by simp
      rw [e, bne_iff_ne]
      intro h
      exact hrest (by omega)
    have hf1 := hroom hrest
    have hd2 : W.cell? ⟨S, f + 1, none⟩ = some (U 0) := by
      rw [row.cell, List.getElem?_toArray, List.getElem?_map, h3 hf1]; rfl
    have HOr2 := Lib.hid (lay_or0 n r (by omega))
    have hfz2 := row.frozen (f + 1)
    clear h1 h2 h3 hge hy row haf hf hs hr hrest hroom e1b e2b e5b
    go_enter Tryd.func81, Tryd.ntmps81
    go_wp2_with fail
    go_still_tail 10, (by kernel_rfl)
    change wpList _ _ _ _ _ W.drew
    go_wp2
    go_end0
    refine ⟨rfl, ?_, ?_⟩
    · rw [HE.out, HOr2.out, ← lay_set, ← lay_set, HOr.out]
      exact (HRow.out.put f _).put (f + 1) _
    · exact (((Below.refl S W).setCell (p := ⟨S, f, none⟩) (Nat.le_refl _) _).setCell (p := ⟨S, f + 1, none⟩) (Nat.le_refl _) _).drew

end Go.Proofs.YtanllfidbhjboaaDoor
