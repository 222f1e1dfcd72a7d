/- The program's remainders and highList. -/
import Derived.Test.YtanllfidbhjboaaSp1
import Derived.Test.YtanllfidbhjboaaNewI
namespace Go.Proofs.Ytanllfidbhjboaa
open Go.RowKit
set_option maxRecDepth 100000

/-- The remainders of the numbers. -/
def rems (wd : Nat) (B : List Int) : List Int := B.map fun x => x % 2 ^ wd

theorem pow_int (wd : Nat) : ((2 ^ wd : Nat) : Int) = (2 : Int) ^ wd := by simp
theorem mod_int (x wd : Nat) : (x : Int) % 2 ^ wd = ((x % 2 ^ wd : Nat) : Int) := by rw [← pow_int]; simp
theorem div_int (x wd : Nat) : (x : Int) / 2 ^ wd = ((x / 2 ^ wd : Nat) : Int) := by rw [← pow_int]; simp

theorem mask64 (x wd : Nat) (hx : x < 2 ^ 62) (hwd : wd ≤ 32) : bits .and .i64 (x : Int) (wrap64 (wrap64 (2 ^ wd) - 1)) = ((x % 2 ^ wd : Nat) : Int) := by
  have hp : 2 ^ wd ≤ 2 ^ 32 := Nat.pow_le_pow_right (by omega) hwd
  have hp0 := Nat.two_pow_pos wd
  have e1 : wrap64 ((2 : Int) ^ wd) = ((2 ^ wd : Nat) : Int) := by
    rw [← pow_int]
    exact IntWalk.wrap64_in _ (by omega)
  have e2 : wrap64 (((2 ^ wd : Nat) : Int) - 1) = ((2 ^ wd - 1 : Nat) : Int) := by
    rw [show ((2 ^ wd : Nat) : Int) - 1 = ((2 ^ wd - 1 : Nat) : Int) by omega]
    exact IntWalk.wrap64_in _ (by omega)
  have h3 : x % 2 ^ wd < 2 ^ wd := Nat.mod_lt _ hp0
  rw [e1, e2]
  show IntKind.i64.wrap ((x % 2 ^ 64 &&& (2 ^ wd - 1) % 2 ^ 64 : Nat) : Int) = _
  rw [Nat.mod_eq_of_lt (show x < 2 ^ 64 by omega), Nat.mod_eq_of_lt (show 2 ^ wd - 1 < 2 ^ 64 by omega), Nat.and_two_pow_sub_one_eq_mod]
  exact IntWalk.i64_in _ (by omega)

set_option maxHeartbeats 800000 in
theorem remainders_any (A : Option Addr) (n c : Nat) (B : List Int) (wd : Nat) (w : World) (hB : Lies w I A B) (hbb : ∀ x ∈ B, 0 ≤ x ∧ x < 1000000) (Hn : Hid (B.length = n)) (hn : n ≤ 5000) (hwd : wd ≤ 20) :
    Calls Try.prog 33 #[.slice A n c, .int .i64 wd] w (NewI w (rems wd B)) := by
  have HBB := Lib.hid hbb
  clear hbb
  have hmk := fun W => run_make_row' (P := Try.prog) 22 3 (.int .i64 0) 8 Try.underlying22 Try.infoInt rfl .i64 .i64 n (by omega) (by omega) W
  go_enter Try.func33, Try.ntmps33
  go_wp2
  go_loopw [13] (fun i wr => ∃ k : Nat, k ≤ n ∧ i = .int .i64 k ∧ wr.ownsRow w.heap.size 3 1 (.slice (some ⟨w.heap.size, 0, none⟩) n n) n (copied (fun x => I (x % 2 ^ wd)) (I 0) B k) ∧ Below w.heap.size w wr) (fun i _ => n - (intOf i).toNat)
  case atStart =>
    refine ⟨0, Nat.zero_le _, rfl, ?_, (Below.refl _ _).alloc (Nat.le_refl _) _⟩
    rw [copied_zero, Hn.out, ← toList_madeCells_one]
    exact World.ownsRow_lit w _ _ (Nat.le_refl _) (by unfold maxLen; omega) (by simp [size_madeCells])
  case round =>
    obtain ⟨k, hk, rfl, hown, hb⟩ := hrel
    clear hmk
    by_cases hlt : k < n
    · obtain ⟨b, o, x, rfl, hbl, hx, hc⟩ := hB.at_ (i := k) (by rw [Hn.out]; exact hlt)
      have hxx := HBB.out x (List.mem_of_getElem? hx)
      obtain ⟨y, rfl⟩ := Int.eq_ofNat_of_zero_le hxx.1
      have HX := Lib.hid (copied_succ (f := fun x => I (x % 2 ^ wd)) (I 0) B k _ hx)
      have hcx : wr.cell? ⟨b, o + k, none⟩ = some (.int .i64 y) := (hb.cell (p := ⟨b, o + k, none⟩) hbl).trans hc
      have hd : wr.cell? ⟨w.heap.size, k, none⟩ = some (I 0) := (hown.cellAt k (by omega)).trans (copied_get _ _ _ (by rw [Hn.out]; exact hlt))
      have hf := hown.frozenAt k
      have hbn : b ≠ w.heap.size := by omega
      have hm : bits .and .i64 (y : Int) (wrap64 (wrap64 (2 ^ wd) - 1)) = ((y % 2 ^ wd : Nat) : Int) := mask64 y wd (by omega) (by omega)
      have HM := Lib.hid (mod_int y wd)
      have HO := Lib.hid hown
      have HB := Lib.hid hb
      generalize y % 2 ^ wd = r at *
      clear hown hb hx hc
      go_wp2
      go_roundw
      case rel =>
        refine ⟨k + 1, by omega, by go_num, ?_, ?_⟩
        · rw [HX.out]
          simp only [HM.out]
          exact (World.ownsRow.stored HO.out k _).1
        · exact HB.out.setCell (p := ⟨w.heap.size, k, none⟩) (Nat.le_refl _) _
      case measure => simp [intOf]; omega
    · go_wp2
      go_ret
      have e : k = n := by omega
      subst e
      have ea := copied_all (f := fun x => I (x % 2 ^ wd)) (I 0) B
      rw [Hn.out] at ea
      rw [ea] at hown
      refine newI_own (n := k) ?_ (by unfold rems; rw [List.length_map, Hn.out]) hb
      unfold rems
      rw [List.map_map]
      exact hown

set_option maxHeartbeats 800000 in
theorem highList_any (A : Option Addr) (n c : Nat) (B : List Int) (u : Nat) (w : World) (hB : Lies w I A B) (hs : srt u 0 B = true) (Hn : Hid (B.length = n)) (hu : u ≤ 1000000) (hn : hiV n u ≤ 5000) :
    Calls Try.prog 35 #[.slice A n c, .int .i64 u, .int .i64 (lowV n u)] w (NewI w (hb B (lowV n u) n (hiV n u))) := by
  have HS := Lib.hid hs
  have hwd := lowV_le n u hu
  have hn5 : n ≤ 5000 := Nat.le_trans (Nat.le_trans (Nat.le_add_right _ _) (Nat.le_add_right _ _)) hn
  have C := Lib.hid fun W : World => highSize_any n u W hu (by omega)
  have HZ : Hid (hiV n u = n + u / 2 ^ lowV n u + 1) := Lib.hid rfl
  generalize lowV n u = wd at *
  generalize hiV n u = z at *
  have hmk := fun W => run_make_row' (P := Try.prog) 22 3 (.int .i64 0) 8 Try.underlying22 Try.infoInt rfl .i64 .i64 z (by omega) (by omega) W
  clear hs
  go_enter Try.func35, Try.ntmps35
  go_wp2_with (go_at_call 52; refine (C.out _).mono ?_; rintro e w' ⟨rfl, rfl⟩)
  go_loopw [17] (fun i wr => ∃ k : Nat, k ≤ n ∧ i = .int .i64 k ∧ wr.ownsRow w.heap.size 3 1 (.slice (some ⟨w.heap.size, 0, none⟩) z z) z ((hb B wd k z).map I) ∧ Below w.heap.size w wr) (fun i _ => n - (intOf i).toNat)
  case atStart =>
    refine ⟨0, Nat.zero_le _, rfl, ?_, (Below.refl _ _).alloc (Nat.le_refl _) _⟩
    rw [hb_zero, List.map_replicate, ← toList_madeCells_one]
    exact World.ownsRow_lit w _ _ (Nat.le_refl _) (by unfold maxLen; omega) (by simp [size_madeCells])
  case round =>
    obtain ⟨k, hk, rfl, hown, hbw⟩ := hrel
    clear hmk
    by_cases hlt : k < n
    · obtain ⟨b, o, x, rfl, hbl, hx, hc⟩ := hB.at_ (i := k) (by rw [Hn.out]; exact hlt)
      have hxx := srt_get HS.out k x hx
      obtain ⟨y, rfl⟩ := Int.eq_ofNat_of_zero_le hxx.1
      have hcx : wr.cell? ⟨b, o + k, none⟩ = some (.int .i64 y) := (hbw.cell (p := ⟨b, o + k, none⟩) hbl).trans hc
      have hbn : b ≠ w.heap.size := by omega
      have hq : qt B wd k = y / 2 ^ wd := by rw [qt_at hx, div_int, Int.toNat_natCast]
      have HX := Lib.hid (hb_set B wd k z)
      rw [hq] at HX
      have hqd := div_int y wd
      have hle : y / 2 ^ wd ≤ u / 2 ^ wd := Nat.div_le_div_right (by omega)
      have hzz := HZ.out
      generalize y / 2 ^ wd = q at *
      generalize u / 2 ^ wd = uu at *
      have hd : wr.cell? ⟨w.heap.size, k + q, none⟩ = some (((hb B wd k z).map I)[k + q]'(by rw [List.length_map, hb_len]; omega)) := (hown.cellAt (k + q) (by omega)).trans (List.getElem?_eq_getElem _)
      have hf := hown.frozenAt (k + q)
      have HO := Lib.hid hown
      have HB := Lib.hid hbw
      clear hown hbw hx hc hq
      generalize ((hb B wd k z).map I)[k + q]'(by rw [List.length_map, hb_len]; omega) = old at *
      go_wp2
      go_roundw
      case rel =>
        refine ⟨k + 1, by omega, by go_num, ?_, ?_⟩
        · rw [HX.out, List.map_set]
          exact (World.ownsRow.stored HO.out (k + q) _).1
        · exact HB.out.setCell (p := ⟨w.heap.size, k + q, none⟩) (Nat.le_refl _) _
      case measure => simp [intOf]; omega
    · go_wp2
      go_ret
      have e : k = n := by omega
      subst e
      exact newI_own hown (hb_len _ _ _ _) hbw

end Go.Proofs.Ytanllfidbhjboaa
