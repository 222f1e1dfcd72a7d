import Derived.Test.YtlbnngolcoefdaaDoorLaws2
import Derived.Test.YtlbnngolcoefdaaDoorPk1
import Derived.Test.YtlbnngolcoefdaaDoorSp1
import Derived.Test.YtlbnngolcoefdaaDoorPackMath
import Derived.Test.YtlbnngolcoefdaaDoorDraw1
import Derived.Test.YtlbnngolcoefdaaDoorProg
import Derived.StillTailTactics
/- The laws' own copy of a list of numbers. -/
namespace Go.Proofs.YtlbnngolcoefdaaDoor
open Go.RowKit
set_option maxRecDepth 100000

end Go.Proofs.YtlbnngolcoefdaaDoor

/- New lists of numbers, and the laws' copy of one. -/
namespace Go.Proofs.YtlbnngolcoefdaaDoor
open Go.RowKit
set_option maxRecDepth 100000

/-- A new list of numbers is returned. -/
def NewI (w : World) (M : List Int) (e : Ending) (w' : World) : Prop :=
  ∃ A c, e = .returned (.slice A M.length c) ∧ w'.ownsRow w.heap.size 3 1 (.slice A M.length c) M.length (M.map I) ∧ Below w.heap.size w w'

theorem newI_own {w w' : World} {v : Value} {M : List Int} {n : Nat} (h : w'.ownsRow w.heap.size 3 1 v n (M.map I)) (hn : M.length = n) (hb : Below w.heap.size w w') : NewI w M (.returned v) w' := by
  subst hn
  obtain ⟨A, c, rfl⟩ := own_slice h
  exact ⟨A, c, rfl, h, hb⟩

end Go.Proofs.YtlbnngolcoefdaaDoor

/- The program's remainders and highList. -/
namespace Go.Proofs.YtlbnngolcoefdaaDoor
open Go.RowKit
set_option maxRecDepth 100000

/-- The remainders of the numbers. -/
def rems (wd : Nat) (B : List Int) : List Int := B.map fun x => x % 2 ^ wd

theorem pow_int (wd : Nat) : ((2 ^ wd : Nat) : Int) = (2 : Int) ^ wd := by simp
theorem mod_int (x wd : Nat) : (x : Int) % 2 ^ wd = ((x % 2 ^ wd : Nat) : Int) := by rw [← pow_int]; simp
theorem div_int (x wd : Nat) : (x : Int) / 2 ^ wd = ((x / 2 ^ wd : Nat) : Int) := by rw [← pow_int]; simp

theorem mask64 (x wd : Nat) (hx : x < 2 ^ 62) (hwd : wd ≤ 32) : bits .and .i64 (x : Int) (wrap64 (wrap64 (2 ^ wd) - 1)) = ((x % 2 ^ wd : Nat) : Int) := by
  have hp : 2 ^ wd ≤ 2 ^ 32 := Nat.pow_le_pow_right (by omega) hwd
  have hp0 := Nat.two_pow_pos wd
  have e1 : wrap64 ((2 : Int) ^ wd) = ((2 ^ wd : Nat) : Int) := by
    rw [← pow_int]
    exact IntWalk.wrap64_in _ (by omega)
  have e2 : wrap64 (((2 ^ wd : Nat) : Int) - 1) = ((2 ^ wd - 1 : Nat) : Int) := by
    rw [show ((2 ^ wd : Nat) : Int) - 1 = ((2 ^ wd - 1 : Nat) : Int) by omega]
    exact IntWalk.wrap64_in _ (by omega)
  have h3 : x % 2 ^ wd < 2 ^ wd := Nat.mod_lt _ hp0
  rw [e1, e2]
  show IntKind.i64.wrap ((x % 2 ^ 64 &&& (2 ^ wd - 1) % 2 ^ 64 : Nat) : Int) = _
  rw [Nat.mod_eq_of_lt (show x < 2 ^ 64 by omega), Nat.mod_eq_of_lt (show 2 ^ wd - 1 < 2 ^ 64 by omega), Nat.and_two_pow_sub_one_eq_mod]
  exact IntWalk.i64_in _ (by omega)

set_option maxHeartbeats 800000 in
theorem remainders_any (A : Option Addr) (n c : Nat) (B : List Int) (wd : Nat) (w : World) (hB : Lies w I A B) (hbb : ∀ x ∈ B, 0 ≤ x ∧ x < 1000000) (Hn : Hid (B.length = n)) (hn : n ≤ 5000) (hwd : wd ≤ 20) :
    Calls Tryd.prog 59 #[.slice A n c, .int .i64 wd] w (NewI w (rems wd B)) := by
  have HBB := Lib.hid hbb
  clear hbb
  have hmk := fun W => run_make_row' (P := Tryd.prog) 24 3 (.int .i64 0) 8 Tryd.underlying24 Tryd.infoInt rfl .i64 .i64 n (by omega) (by omega) W
  go_enter Tryd.func59, Tryd.ntmps59
  go_wp2
  go_loopw [13] (fun i wr => ∃ k : Nat, k ≤ n ∧ i = .int .i64 k ∧ wr.ownsRow w.heap.size 3 1 (.slice (some ⟨w.heap.size, 0, none⟩) n n) n (copied (fun x => I (x % 2 ^ wd)) (I 0) B k) ∧ Below w.heap.size w wr) (fun i _ => n - (intOf i).toNat)
  case atStart =>
    refine ⟨0, Nat.zero_le _, rfl, ?_, (Below.refl _ _).alloc (Nat.le_refl _) _⟩
    rw [copied_zero, Hn.out, ← toList_madeCells_one]
    exact World.ownsRow_lit w _ _ (Nat.le_refl _) (by unfold maxLen; omega) (by simp [size_madeCells])
  case round =>
    obtain ⟨k, hk, rfl, hown, hb⟩ := hrel
    clear hmk
    by_cases hlt : k < n
    · obtain ⟨b, o, x, rfl, hbl, hx, hc⟩ := hB.at_ (i := k) (by rw [Hn.out]; exact hlt)
      have hxx := HBB.out x (List.mem_of_getElem? hx)
      obtain ⟨y, rfl⟩ := Int.eq_ofNat_of_zero_le hxx.1
      have HX := Lib.hid (copied_succ (f := fun x => I (x % 2 ^ wd)) (I 0) B k _ hx)
      have hcx : wr.cell? ⟨b, o + k, none⟩ = some (.int .i64 y) := (hb.cell (p := ⟨b, o + k, none⟩) hbl).trans hc
      have hd : wr.cell? ⟨w.heap.size, k, none⟩ = some (I 0) := (hown.cellAt k (by omega)).trans (copied_get _ _ _ (by rw [Hn.out]; exact hlt))
      have hf := hown.frozenAt k
      have hbn : b ≠ w.heap.size := by omega
      have hm : bits .and .i64 (y : Int) (wrap64 (wrap64 (2 ^ wd) - 1)) = ((y % 2 ^ wd : Nat) : Int) := mask64 y wd (by omega) (by omega)
      have HM := Lib.hid (mod_int y wd)
      have HO := Lib.hid hown
      have HB := Lib.hid hb
      generalize y % 2 ^ wd = r at *
      clear hown hb hx hc
      go_wp2
      go_roundw
      case rel =>
        refine ⟨k + 1, by omega, by go_num, ?_, ?_⟩
        · rw [HX.out]
          simp only [HM.out]
          exact (World.ownsRow.stored HO.out k _).1
        · exact HB.out.setCell (p := ⟨w.heap.size, k, none⟩) (Nat.le_refl _) _
      case measure => simp [intOf]; omega
    · go_wp2
      go_ret
      have e : k = n := by omega
      subst e
      have ea := copied_all (f := fun x => I (x % 2 ^ wd)) (I 0) B
      rw [Hn.out] at ea
      rw [ea] at hown
      refine newI_own (n := k) ?_ (by unfold rems; rw [List.length_map, Hn.out]) hb
      unfold rems
      rw [List.map_map]
      exact hown

set_option maxHeartbeats 800000 in
theorem highList_any (A : Option Addr) (n c : Nat) (B : List Int) (u : Nat) (w : World) (hB : Lies w I A B) (hs : srt u 0 B = true) (Hn : Hid (B.length = n)) (hu : u ≤ 1000000) (hn : hiV n u ≤ 5000) :
    Calls Tryd.prog 61 #[.slice A n c, .int .i64 u, .int .i64 (lowV n u)] w (NewI w (hb B (lowV n u) n (hiV n u))) := by
  have HS := Lib.hid hs
  have hwd := lowV_le n u hu
  have hn5 : n ≤ 5000 := Nat.le_trans (Nat.le_trans (Nat.le_add_right _ _) (Nat.le_add_right _ _)) hn
  have C := Lib.hid fun W : World => highSize_any n u W hu (by omega)
  have HZ : Hid (hiV n u = n + u / 2 ^ lowV n u + 1) := Lib.hid rfl
  generalize lowV n u = wd at *
  generalize hiV n u = z at *
  have hmk := fun W => run_make_row' (P := Tryd.prog) 24 3 (.int .i64 0) 8 Tryd.underlying24 Tryd.infoInt rfl .i64 .i64 z (by omega) (by omega) W
  clear hs
  go_enter Tryd.func61, Tryd.ntmps61
  go_wp2_with (go_at_call 66; refine (C.out _).mono ?_; rintro e w' ⟨rfl, rfl⟩)
  go_loopw [17] (fun i wr => ∃ k : Nat, k ≤ n ∧ i = .int .i64 k ∧ wr.ownsRow w.heap.size 3 1 (.slice (some ⟨w.heap.size, 0, none⟩) z z) z ((hb B wd k z).map I) ∧ Below w.heap.size w wr) (fun i _ => n - (intOf i).toNat)
  case atStart =>
    refine ⟨0, Nat.zero_le _, rfl, ?_, (Below.refl _ _).alloc (Nat.le_refl _) _⟩
    rw [hb_zero, List.map_replicate, ← toList_madeCells_one]
    exact World.ownsRow_lit w _ _ (Nat.le_refl _) (by unfold maxLen; omega) (by simp [size_madeCells])
  case round =>
    obtain ⟨k, hk, rfl, hown, hbw⟩ := hrel
    clear hmk
    by_cases hlt : k < n
    · obtain ⟨b, o, x, rfl, hbl, hx, hc⟩ := hB.at_ (i := k) (by rw [Hn.out]; exact hlt)
      have hxx := srt_get HS.out k x hx
      obtain ⟨y, rfl⟩ := Int.eq_ofNat_of_zero_le hxx.1
      have hcx : wr.cell? ⟨b, o + k, none⟩ = some (.int .i64 y) := (hbw.cell (p := ⟨b, o + k, none⟩) hbl).trans hc
      have hbn : b ≠ w.heap.size := by omega
      have hq : qt B wd k = y / 2 ^ wd := by rw [qt_at hx, div_int, Int.toNat_natCast]
      have HX := Lib.hid (hb_set B wd k z)
      rw [hq] at HX
      have hqd := div_int y wd
      have hle : y / 2 ^ wd ≤ u / 2 ^ wd := Nat.div_le_div_right (by omega)
      have hzz := HZ.out
      generalize y / 2 ^ wd = q at *
      generalize u / 2 ^ wd = uu at *
      have hd : wr.cell? ⟨w.heap.size, k + q, none⟩ = some (((hb B wd k z).map I)[k + q]'(by rw [List.length_map, hb_len]; omega)) := (hown.cellAt (k + q) (by omega)).trans (List.getElem?_eq_getElem _)
      have hf := hown.frozenAt (k + q)
      have HO := Lib.hid hown
      have HB := Lib.hid hbw
      clear hown hbw hx hc hq
      generalize ((hb B wd k z).map I)[k + q]'(by rw [List.length_map, hb_len]; omega) = old at *
      go_wp2
      go_roundw
      case rel =>
        refine ⟨k + 1, by omega, by go_num, ?_, ?_⟩
        · rw [HX.out, List.map_set]
          exact (World.ownsRow.stored HO.out (k + q) _).1
        · exact HB.out.setCell (p := ⟨w.heap.size, k + q, none⟩) (Nat.le_refl _) _
      case measure => simp [intOf]; omega
    · go_wp2
      go_ret
      have e : k = n := by omega
      subst e
      exact newI_own hown (hb_len _ _ _ _) hbw

end Go.Proofs.YtlbnngolcoefdaaDoor

/- The program's putField. -/
namespace Go.Proofs.YtlbnngolcoefdaaDoor
open Go.RowKit
set_option maxRecDepth 100000

theorem lay_or (y x s : Nat) (hy : y < 2 ^ 64) : bits .or .u64 (y : Int) (IntKind.u64.wrap ((x : Int) * 2 ^ s)) = ((y ||| x * 2 ^ s % 2 ^ 64 : Nat) : Int) := by
  have e : (x : Int) * 2 ^ s = ((x * 2 ^ s : Nat) : Int) := by simp
  have hw : IntKind.u64.wrap ((x : Int) * 2 ^ s) = ((x * 2 ^ s % 2 ^ 64 : Nat) : Int) := by rw [e, IntKind.wrap_u64]; omega
  rw [hw, u64_or_nat y _ hy (Nat.mod_lt _ (by decide))]
theorem lay_or0 (x r : Nat) (hx : x < 2 ^ 64) : bits .or .u64 0 ((x : Int) / 2 ^ r) = ((x / 2 ^ r : Nat) : Int) := by
  have e : (x : Int) / 2 ^ r = ((x / 2 ^ r : Nat) : Int) := by simp
  have h := u64_or_nat 0 (x / 2 ^ r) (by decide) (Nat.lt_of_le_of_lt (Nat.div_le_self _ _) hx)
  rw [Nat.zero_or] at h
  rw [e]
  exact h
theorem lay_shr (x s : Nat) (hs : s ≤ 64) : x * 2 ^ s / 2 ^ 64 = x / 2 ^ (64 - s) := by
  rw [show 2 ^ 64 = 2 ^ (64 - s) * 2 ^ s by rw [← Nat.pow_add, show 64 - s + s = 64 by omega], Nat.mul_div_mul_right _ _ (Nat.two_pow_pos _)]
theorem lay_set (D : List Nat) (i v : Nat) : (D.map U).toArray.setIfInBounds i (U v) = ((D.set i v).map U).toArray := by
  simp [List.map_set]

/-- The words of block S are the digits of a number, and nothing below it is touched. -/
def Laid (W : World) (S T v : Nat) (w' : World) : Prop := Box w' S 113 ((digits T v).map U).toArray ∧ Below S W w'

set_option maxHeartbeats 400000 in
theorem putField_zero (S T a : Nat) (W : World) : Calls Tryd.prog 95 #[.slice (some ⟨S, 0, none⟩) T T, .int .i64 a, .int .i64 0] W fun e w' => e = .returned (.tuple #[]) ∧ W = w' := by
  go_enter Tryd.func95, Tryd.ntmps95
  go_wp2
  refine bodyPost_ret (results_none rfl _ _ _) rfl ?_
  exact ⟨rfl, rfl⟩

set_option maxRecDepth 100000 in
set_option maxHeartbeats 400000 in
theorem putField_some (S T v a n : Nat) (W : World) (row : Box W S 113 ((digits T v).map U).toArray) (hv : v < 2 ^ a) (hn : n < 2 ^ 32) (hn0 : n ≠ 0) (ha : a ≤ 5000) (hfT : a / 64 < T) (hroom : n * 2 ^ (a % 64) / 2 ^ 64 ≠ 0 → a / 64 + 1 < T) (hT : T ≤ 5000) :
    Calls Tryd.prog 95 #[.slice (some ⟨S, 0, none⟩) T T, .int .i64 a, .int .i64 n] W fun e w' => e = .returned (.tuple #[]) ∧ Laid W S T (v + 2 ^ a * n) w' := by
  have e0 : ((n : Int) == 0) = false := by rw [beq_eq_false_iff_ne]; omega
  obtain ⟨f, hf⟩ : ∃ f, a / 64 = f := ⟨_, rfl⟩
  obtain ⟨s, hs⟩ : ∃ s, a % 64 = s := ⟨_, rfl⟩
  have haf : a = 64 * f + s := by omega
  rw [hf] at hfT
  rw [hf, hs] at hroom
  have e1 : IntKind.i64.wrap ((a : Int) / 64) = (f : Int) := by rw [show (a : Int) / 64 = (f : Int) by omega]; exact IntWalk.i64_in _ (by omega)
  have e1b : (a : Int) / 64 = (f : Int) := by omega
  have e2 : (a : Int).tmod 64 = (s : Int) := by rw [IntWalk.rem_in _ _ (by omega)]; omega
  have e2b : (a : Int) % 64 = (s : Int) := by omega
  have hs64 : s < 64 := by omega
  rw [haf] at hv
  obtain ⟨h1, h2, h3⟩ := digits_lay T v f s n hs64 hv hn hfT
  rw [← haf] at h1 h2
  have hge := digits_get T v f hfT
  obtain ⟨y, hy⟩ : ∃ y, v / 2 ^ (64 * f) % 2 ^ 64 = y := ⟨_, rfl⟩
  have hy64 : y < 2 ^ 64 := by rw [← hy]; exact Nat.mod_lt _ (by decide)
  rw [hy] at hge h1 h2
  have hd : W.cell? ⟨S, f, none⟩ = some (U y) := by
    rw [row.cell, List.getElem?_toArray, List.getElem?_map, hge]; rfl
  have hfz := row.frozen f
  have HOr := Lib.hid (lay_or y n s hy64)
  obtain ⟨r, hr⟩ : ∃ r, 64 - s = r := ⟨_, rfl⟩
  rw [lay_shr n s (by omega), hr] at h1 h2 hroom
  have e5 : IntKind.i64.wrap (64 - (s : Int)) = (r : Int) := by rw [IntWalk.i64_in _ (by omega)]; omega
  have e5b : 64 - (s : Int) = (r : Int) := by omega
  have hr64 : r ≤ 64 := by omega
  have s1 := fun W => run_shr_u64 (P := Tryd.prog) 113 n r hr64 W
  have hSl := row.lt
  have HRow := Lib.hid row
  by_cases hrest : n / 2 ^ r = 0
  · have HE := Lib.hid (h1 hrest)
    have t1 : (((n : Int) / 2 ^ r) != 0) = false := by
      have e : (n : Int) / 2 ^ r = ((n / 2 ^ r : Nat) : Int) := by simp
      rw [e, hrest]; rfl
    clear h1 h2 h3 hge hy row haf hf hs hr hrest hroom e1b e2b e5b
    go_enter Tryd.func95, Tryd.ntmps95
    go_wp2_with fail
    go_still_tail 10, (by kernel_rfl)
    change wpList _ _ _ _ _ W.drew
    go_wp2
    go_end0
    refine ⟨rfl, ?_, ?_⟩
    · rw [HE.out, ← lay_set, HOr.out]
      exact HRow.out.put f _
    · exact ((Below.refl S W).setCell (p := ⟨S, f, none⟩) (Nat.le_refl _) _).drew
  · have HE := Lib.hid h2
    have t1 : (((n : Int) / 2 ^ r) != 0) = true := by
      have e : (n : Int) / 2 ^ r = ((n / 2 ^ r : Nat) : Int) := by simp
      rw [e, bne_iff_ne]
      intro h
      exact hrest (by omega)
    have hf1 := hroom hrest
    have hd2 : W.cell? ⟨S, f + 1, none⟩ = some (U 0) := by
      rw [row.cell, List.getElem?_toArray, List.getElem?_map, h3 hf1]; rfl
    have HOr2 := Lib.hid (lay_or0 n r (by omega))
    have hfz2 := row.frozen (f + 1)
    clear h1 h2 h3 hge hy row haf hf hs hr hrest hroom e1b e2b e5b
    go_enter Tryd.func95, Tryd.ntmps95
    go_wp2_with fail
    go_still_tail 10, (by kernel_rfl)
    change wpList _ _ _ _ _ W.drew
    go_wp2
    go_end0
    refine ⟨rfl, ?_, ?_⟩
    · rw [HE.out, HOr2.out, ← lay_set, ← lay_set, HOr.out]
      exact (HRow.out.put f _).put (f + 1) _
    · exact (((Below.refl S W).setCell (p := ⟨S, f, none⟩) (Nat.le_refl _) _).setCell (p := ⟨S, f + 1, none⟩) (Nat.le_refl _) _).drew

end Go.Proofs.YtlbnngolcoefdaaDoor
