import Derived.Test.YtlbnngolcoefdaaDoorWid2
import Derived.Test.YtlbnngolcoefdaaDoorPk2
import Derived.Test.YtlbnngolcoefdaaDoorSelMath2
import Derived.Test.YtlbnngolcoefdaaDoorMem3
import Derived.Test.YtlbnngolcoefdaaDoorNewI
/- Widths and sizes of sparse lists: the specification's and the program's. -/
namespace Go.Proofs.YtlbnngolcoefdaaDoor
open Go.RowKit
set_option maxRecDepth 100000

theorem run_shr_i64 {P : Program} (t : TypeId) (x r : Nat) (hr : r ≤ 64) (W : World) : (binOp .shr t (.int .i64 (x : Int)) (.int .i64 (r : Int))).run P W = .ok (.int .i64 ((x / 2 ^ r : Nat) : Int)) W := by
  have h : min r 64 = r := by omega
  simp [binOp, Op.shift, IntKind.bits, h]
theorem run_shl1_i64 {P : Program} (t : TypeId) (r : Nat) (hr : r ≤ 62) (W : World) : (binOp .shl t (.int .i64 1) (.int .i64 (r : Int))).run P W = .ok (.int .i64 ((2 ^ r : Nat) : Int)) W := by
  have h : min r 64 = r := by omega
  have h2 : (2 : Nat) ^ r ≤ 2 ^ 62 := Nat.pow_le_pow_right (by omega) hr
  have h3 : ((2 ^ r : Nat) : Int) = (2 : Int) ^ r := by simp
  simp [binOp, Op.shift, IntKind.bits, h]
  rw [← h3]
  generalize 2 ^ r = p at *
  exact IntWalk.i64_in _ (by omega)
theorem run_mask_i64 {P : Program} (t : TypeId) (x r : Nat) (hx : x < 2 ^ 62) (hr : r ≤ 62) (W : World) : (binOp .and t (.int .i64 (x : Int)) (.int .i64 (((2 ^ r : Nat) : Int) - 1))).run P W = .ok (.int .i64 ((x % 2 ^ r : Nat) : Int)) W := by
  have h2 : (2 : Nat) ^ r ≤ 2 ^ 62 := Nat.pow_le_pow_right (by omega) hr
  have h1 : 0 < (2 : Nat) ^ r := Nat.two_pow_pos r
  have e : (((2 ^ r : Nat) : Int) - 1) = ((2 ^ r - 1 : Nat) : Int) := by omega
  rw [e]
  simp only [binOp, Op.intBits]
  show Sem.run P (pure (Value.int IntKind.i64 (IntKind.i64.wrap ((x % 2 ^ 64 &&& (2 ^ r - 1) % 2 ^ 64 : Nat) : Int)))) W = _
  rw [Nat.mod_eq_of_lt (show x < 2 ^ 64 by omega), Nat.mod_eq_of_lt (show 2 ^ r - 1 < 2 ^ 64 by omega), Nat.and_two_pow_sub_one_eq_mod]
  have h3 : x % 2 ^ r ≤ x := Nat.mod_le _ _
  rw [IntWalk.i64_in _ (by omega)]
  rfl

/-- The low width of n numbers below u. -/
def lowV (n u : Nat) : Nat := lowN n u Lib.bitLen

theorem lowV_le (n u : Nat) (hu : u ≤ 1000000) : lowV n u ≤ 20 := by
  unfold lowV lowN
  split
  · omega
  · have h : u / n ≤ u := Nat.div_le_self _ _
    have := Lib.bitLen_le (u / n) 20 (by omega) (by omega)
    omega

theorem quo_nat (u n : Nat) : (u : Int).tdiv (n : Int) = ((u / n : Nat) : Int) := by
  rw [Int.tdiv_eq_ediv_of_nonneg (by omega)]
  simp

set_option maxHeartbeats 400000 in
theorem implLow_any (n u : Nat) (w : World) (hu : u ≤ 1000000) (hn : n ≤ 9223372036854775807) :
    Calls Tryd.prog 57 #[.int .i64 n, .int .i64 u] w fun e w' => e = .returned (.int .i64 (lowV n u)) ∧ w = w' := by
  by_cases h : n = 0
  · subst h
    go_enter Tryd.func57, Tryd.ntmps57
    go_wp2
    go_ret
    exact ⟨rfl, rfl⟩
  · have h0i : ((n : Int) == 0) = false := by rw [beq_eq_false_iff_ne]; omega
    have hq := quo_nat u n
    have hle : u / n ≤ u := Nat.div_le_self _ _
    obtain ⟨b, hb⟩ : ∃ b, Lib.bitLen (u / n) = b := ⟨_, rfl⟩
    have hb64 : b ≤ 64 := by rw [← hb]; exact bitLen_64 _ (by omega)
    have C : ∀ W : World, Calls Tryd.prog 93 #[.int .i64 ((u / n : Nat) : Int)] W fun e w' => e = .returned (.int .i64 b) ∧ W = w' := fun W =>
      (implWid_any ((u / n : Nat) : Int) W (by omega)).mono fun e w' hh => ⟨hh.1.trans (ret_int (by unfold widV; rw [if_neg (Int.not_lt.2 (Int.natCast_nonneg _)), Int.toNat_natCast, hb])), hh.2⟩
    have hv : lowV n u = b - 1 := by unfold lowV lowN; rw [if_neg h, hb]
    rw [hv]
    have HC := Lib.hid C
    obtain ⟨q, hqq⟩ : ∃ q, u / n = q := ⟨_, rfl⟩
    rw [hqq] at hq HC hle
    have hmx : (if (0 : Int) < (b : Int) - 1 then (b : Int) - 1 else 0) = ((b - 1 : Nat) : Int) := by split <;> omega
    clear C hv hb hqq
    go_enter Tryd.func57, Tryd.ntmps57
    go_wp2_with (go_at_call 93; refine (HC.out _).mono ?_; rintro e w' ⟨rfl, rfl⟩)
    go_ret
    exact ⟨ret_int (by first | exact hmx | omega), rfl⟩

set_option maxHeartbeats 400000 in
theorem specLow_any (n u : Nat) (w : World) (hu : u ≤ 1000000) (hn : n ≤ 9223372036854775807) :
    Calls Tryd.prog 51 #[.int .i64 n, .int .i64 u] w fun e w' => e = .returned (.int .i64 (lowV n u)) ∧ w = w' := by
  by_cases h : n = 0
  · subst h
    go_enter Tryd.func51, Tryd.ntmps51
    go_wp2
    go_ret
    exact ⟨rfl, rfl⟩
  · have h0i : ((n : Int) == 0) = false := by rw [beq_eq_false_iff_ne]; omega
    have hq := quo_nat u n
    have hle : u / n ≤ u := Nat.div_le_self _ _
    obtain ⟨b, hb⟩ : ∃ b, Lib.bitLen (u / n) = b := ⟨_, rfl⟩
    have hb64 : b ≤ 64 := by rw [← hb]; exact bitLen_64 _ (by omega)
    have C : ∀ W : World, Calls Tryd.prog 89 #[.int .i64 ((u / n : Nat) : Int)] W fun e w' => e = .returned (.int .i64 b) ∧ W = w' := fun W =>
      (specWid_any ((u / n : Nat) : Int) W (by omega)).mono fun e w' hh => ⟨hh.1.trans (ret_int (by unfold widV; rw [if_neg (Int.not_lt.2 (Int.natCast_nonneg _)), Int.toNat_natCast, hb])), hh.2⟩
    have hv : lowV n u = b - 1 := by unfold lowV lowN; rw [if_neg h, hb]
    rw [hv]
    have HC := Lib.hid C
    obtain ⟨q, hqq⟩ : ∃ q, u / n = q := ⟨_, rfl⟩
    rw [hqq] at hq HC hle
    have hmx : (if (0 : Int) < (b : Int) - 1 then (b : Int) - 1 else 0) = ((b - 1 : Nat) : Int) := by split <;> omega
    clear C hv hb hqq
    go_enter Tryd.func51, Tryd.ntmps51
    go_wp2_with (go_at_call 89; refine (HC.out _).mono ?_; rintro e w' ⟨rfl, rfl⟩)
    go_ret
    exact ⟨ret_int (by first | exact hmx | omega), rfl⟩

/-- The number of bits of High. -/
def hiV (n u : Nat) : Nat := n + u / 2 ^ lowV n u + 1

set_option maxHeartbeats 400000 in
theorem highSize_any (n u : Nat) (w : World) (hu : u ≤ 1000000) (hn : n ≤ 1000000000000000000) :
    Calls Tryd.prog 66 #[.int .i64 n, .int .i64 u] w fun e w' => e = .returned (.int .i64 (hiV n u)) ∧ w = w' := by
  have hl := lowV_le n u hu
  have C : ∀ W : World, Calls Tryd.prog 57 #[.int .i64 n, .int .i64 u] W fun e w' => e = .returned (.int .i64 (lowV n u)) ∧ W = w' := fun W => implLow_any n u W hu (by omega)
  have hle : u / 2 ^ lowV n u ≤ u := Nat.div_le_self _ _
  have hdi : (u : Int) / 2 ^ lowV n u = ((u / 2 ^ lowV n u : Nat) : Int) := by simp
  unfold hiV
  obtain ⟨d, hd⟩ : ∃ d, u / 2 ^ lowV n u = d := ⟨_, rfl⟩
  rw [hd] at hdi hle ⊢
  have HC := Lib.hid C
  clear C hd
  generalize lowV n u = l at *
  go_enter Tryd.func66, Tryd.ntmps66
  go_wp2_with (go_at_call 57; refine (HC.out _).mono ?_; rintro e w' ⟨rfl, rfl⟩)
  go_ret
  exact ⟨ret_int (by omega), rfl⟩

/-- Are the sizes within the limits? -/
def spFits (n : Nat) (u : Int) : Bool := decide (0 ≤ u ∧ u ≤ 1000000) && (fitsB n (lowV n u.toNat) && decide (hiV n u.toNat ≤ 5000))

set_option maxHeartbeats 800000 in
theorem sparseFits_any (n : Nat) (u : Int) (w : World) (hn : n ≤ 1000000000000000000) :
    Calls Tryd.prog 54 #[.int .i64 n, .int .i64 u] w fun e w' => e = .returned (.bool (spFits n u)) ∧ w = w' := by
  unfold spFits
  by_cases h : 0 ≤ u ∧ u ≤ 1000000
  · rw [decide_eq_true h, Bool.true_and]
    obtain ⟨v, rfl⟩ := Int.eq_ofNat_of_zero_le h.1
    rw [Int.toNat_natCast]
    have C1 := Lib.hid fun W : World => implLow_any n v W (by omega) (by omega)
    have C2 := Lib.hid fun W : World => highSize_any n v W (by omega) (by omega)
    have C3 := Lib.hid fun W : World => packFits_any n (lowV n v) W
    have hl := lowV_le n v (by omega)
    have hh : hiV n v ≤ n + v + 1 := by unfold hiV; have := Nat.div_le_self v (2 ^ lowV n v); omega
    generalize lowV n v = l at *
    generalize hiV n v = z at *
    generalize fitsB (n : Int) (l : Int) = ok at *
    have hz : decide ((z : Int) ≤ 5000) = decide (z ≤ 5000) := by by_cases hq : z ≤ 5000 <;> simp [hq] <;> omega
    cases ok
    all_goals (
      go_enter Tryd.func54, Tryd.ntmps54
      go_wp2_with (first | (go_at_call 57; refine (C1.out _).mono ?_; rintro e w' ⟨rfl, rfl⟩) | (go_at_call 91; refine (C3.out _).mono ?_; rintro e w' ⟨rfl, rfl⟩) | (go_at_call 66; refine (C2.out _).mono ?_; rintro e w' ⟨rfl, rfl⟩))
      go_ret
      exact ⟨ret_bool (by simp), rfl⟩)
  · rw [decide_eq_false h, Bool.false_and]
    by_cases h0 : u < 0
    all_goals (
      have hx : ¬ u < 0 → 1000000 < u := by omega
      go_enter Tryd.func54, Tryd.ntmps54
      go_wp2
      go_ret
      exact ⟨rfl, rfl⟩)

end Go.Proofs.YtlbnngolcoefdaaDoor

/- The program's remainders and highList. -/
namespace Go.Proofs.YtlbnngolcoefdaaDoor
open Go.RowKit
set_option maxRecDepth 100000

/-- The remainders of the numbers. -/
def rems (wd : Nat) (B : List Int) : List Int := B.map fun x => x % 2 ^ wd

theorem pow_int (wd : Nat) : ((2 ^ wd : Nat) : Int) = (2 : Int) ^ wd := by simp
theorem mod_int (x wd : Nat) : (x : Int) % 2 ^ wd = ((x % 2 ^ wd : Nat) : Int) := by rw [← pow_int]; simp
theorem div_int (x wd : Nat) : (x : Int) / 2 ^ wd = ((x / 2 ^ wd : Nat) : Int) := by rw [← pow_int]; simp

theorem mask64 (x wd : Nat) (hx : x < 2 ^ 62) (hwd : wd ≤ 32) : bits .and .i64 (x : Int) (wrap64 (wrap64 (2 ^ wd) - 1)) = ((x % 2 ^ wd : Nat) : Int) := by
  have hp : 2 ^ wd ≤ 2 ^ 32 := Nat.pow_le_pow_right (by omega) hwd
  have hp0 := Nat.two_pow_pos wd
  have e1 : wrap64 ((2 : Int) ^ wd) = ((2 ^ wd : Nat) : Int) := by
    rw [← pow_int]
    exact IntWalk.wrap64_in _ (by omega)
  have e2 : wrap64 (((2 ^ wd : Nat) : Int) - 1) = ((2 ^ wd - 1 : Nat) : Int) := by
    rw [show ((2 ^ wd : Nat) : Int) - 1 = ((2 ^ wd - 1 : Nat) : Int) by omega]
    exact IntWalk.wrap64_in _ (by omega)
  have h3 : x % 2 ^ wd < 2 ^ wd := Nat.mod_lt _ hp0
  rw [e1, e2]
  show IntKind.i64.wrap ((x % 2 ^ 64 &&& (2 ^ wd - 1) % 2 ^ 64 : Nat) : Int) = _
  rw [Nat.mod_eq_of_lt (show x < 2 ^ 64 by omega), Nat.mod_eq_of_lt (show 2 ^ wd - 1 < 2 ^ 64 by omega), Nat.and_two_pow_sub_one_eq_mod]
  exact IntWalk.i64_in _ (by omega)

set_option maxHeartbeats 800000 in
theorem remainders_any (A : Option Addr) (n c : Nat) (B : List Int) (wd : Nat) (w : World) (hB : Lies w I A B) (hbb : ∀ x ∈ B, 0 ≤ x ∧ x < 1000000) (Hn : Hid (B.length = n)) (hn : n ≤ 5000) (hwd : wd ≤ 20) :
    Calls Tryd.prog 59 #[.slice A n c, .int .i64 wd] w (NewI w (rems wd B)) := by
  have HBB := Lib.hid hbb
  clear hbb
  have hmk := fun W => run_make_row' (P := Tryd.prog) 24 3 (.int .i64 0) 8 Tryd.underlying24 Tryd.infoInt rfl .i64 .i64 n (by omega) (by omega) W
  go_enter Tryd.func59, Tryd.ntmps59
  go_wp2
  go_loopw [13] (fun i wr => ∃ k : Nat, k ≤ n ∧ i = .int .i64 k ∧ wr.ownsRow w.heap.size 3 1 (.slice (some ⟨w.heap.size, 0, none⟩) n n) n (copied (fun x => I (x % 2 ^ wd)) (I 0) B k) ∧ Below w.heap.size w wr) (fun i _ => n - (intOf i).toNat)
  case atStart =>
    refine ⟨0, Nat.zero_le _, rfl, ?_, (Below.refl _ _).alloc (Nat.le_refl _) _⟩
    rw [copied_zero, Hn.out, ← toList_madeCells_one]
    exact World.ownsRow_lit w _ _ (Nat.le_refl _) (by unfold maxLen; omega) (by simp [size_madeCells])
  case round =>
    obtain ⟨k, hk, rfl, hown, hb⟩ := hrel
    clear hmk
    by_cases hlt : k < n
    · obtain ⟨b, o, x, rfl, hbl, hx, hc⟩ := hB.at_ (i := k) (by rw [Hn.out]; exact hlt)
      have hxx := HBB.out x (List.mem_of_getElem? hx)
      obtain ⟨y, rfl⟩ := Int.eq_ofNat_of_zero_le hxx.1
      have HX := Lib.hid (copied_succ (f := fun x => I (x % 2 ^ wd)) (I 0) B k _ hx)
      have hcx : wr.cell? ⟨b, o + k, none⟩ = some (.int .i64 y) := (hb.cell (p := ⟨b, o + k, none⟩) hbl).trans hc
      have hd : wr.cell? ⟨w.heap.size, k, none⟩ = some (I 0) := (hown.cellAt k (by omega)).trans (copied_get _ _ _ (by rw [Hn.out]; exact hlt))
      have hf := hown.frozenAt k
      have hbn : b ≠ w.heap.size := by omega
      have hm : bits .and .i64 (y : Int) (wrap64 (wrap64 (2 ^ wd) - 1)) = ((y % 2 ^ wd : Nat) : Int) := mask64 y wd (by omega) (by omega)
      have HM := Lib.hid (mod_int y wd)
      have HO := Lib.hid hown
      have HB := Lib.hid hb
      generalize y % 2 ^ wd = r at *
      clear hown hb hx hc
      go_wp2
      go_roundw
      case rel =>
        refine ⟨k + 1, by omega, by go_num, ?_, ?_⟩
        · rw [HX.out]
          simp only [HM.out]
          exact (World.ownsRow.stored HO.out k _).1
        · exact HB.out.setCell (p := ⟨w.heap.size, k, none⟩) (Nat.le_refl _) _
      case measure => simp [intOf]; omega
    · go_wp2
      go_ret
      have e : k = n := by omega
      subst e
      have ea := copied_all (f := fun x => I (x % 2 ^ wd)) (I 0) B
      rw [Hn.out] at ea
      rw [ea] at hown
      refine newI_own (n := k) ?_ (by unfold rems; rw [List.length_map, Hn.out]) hb
      unfold rems
      rw [List.map_map]
      exact hown

set_option maxHeartbeats 800000 in
theorem highList_any (A : Option Addr) (n c : Nat) (B : List Int) (u : Nat) (w : World) (hB : Lies w I A B) (hs : srt u 0 B = true) (Hn : Hid (B.length = n)) (hu : u ≤ 1000000) (hn : hiV n u ≤ 5000) :
    Calls Tryd.prog 61 #[.slice A n c, .int .i64 u, .int .i64 (lowV n u)] w (NewI w (hb B (lowV n u) n (hiV n u))) := by
  have HS := Lib.hid hs
  have hwd := lowV_le n u hu
  have hn5 : n ≤ 5000 := Nat.le_trans (Nat.le_trans (Nat.le_add_right _ _) (Nat.le_add_right _ _)) hn
  have C := Lib.hid fun W : World => highSize_any n u W hu (by omega)
  have HZ : Hid (hiV n u = n + u / 2 ^ lowV n u + 1) := Lib.hid rfl
  generalize lowV n u = wd at *
  generalize hiV n u = z at *
  have hmk := fun W => run_make_row' (P := Tryd.prog) 24 3 (.int .i64 0) 8 Tryd.underlying24 Tryd.infoInt rfl .i64 .i64 z (by omega) (by omega) W
  clear hs
  go_enter Tryd.func61, Tryd.ntmps61
  go_wp2_with (go_at_call 66; refine (C.out _).mono ?_; rintro e w' ⟨rfl, rfl⟩)
  go_loopw [17] (fun i wr => ∃ k : Nat, k ≤ n ∧ i = .int .i64 k ∧ wr.ownsRow w.heap.size 3 1 (.slice (some ⟨w.heap.size, 0, none⟩) z z) z ((hb B wd k z).map I) ∧ Below w.heap.size w wr) (fun i _ => n - (intOf i).toNat)
  case atStart =>
    refine ⟨0, Nat.zero_le _, rfl, ?_, (Below.refl _ _).alloc (Nat.le_refl _) _⟩
    rw [hb_zero, List.map_replicate, ← toList_madeCells_one]
    exact World.ownsRow_lit w _ _ (Nat.le_refl _) (by unfold maxLen; omega) (by simp [size_madeCells])
  case round =>
    obtain ⟨k, hk, rfl, hown, hbw⟩ := hrel
    clear hmk
    by_cases hlt : k < n
    · obtain ⟨b, o, x, rfl, hbl, hx, hc⟩ := hB.at_ (i := k) (by rw [Hn.out]; exact hlt)
      have hxx := srt_get HS.out k x hx
      obtain ⟨y, rfl⟩ := Int.eq_ofNat_of_zero_le hxx.1
      have hcx : wr.cell? ⟨b, o + k, none⟩ = some (.int .i64 y) := (hbw.cell (p := ⟨b, o + k, none⟩) hbl).trans hc
      have hbn : b ≠ w.heap.size := by omega
      have hq : qt B wd k = y / 2 ^ wd := by rw [qt_at hx, div_int, Int.toNat_natCast]
      have HX := Lib.hid (hb_set B wd k z)
      rw [hq] at HX
      have hqd := div_int y wd
      have hle : y / 2 ^ wd ≤ u / 2 ^ wd := Nat.div_le_div_right (by omega)
      have hzz := HZ.out
      generalize y / 2 ^ wd = q at *
      generalize u / 2 ^ wd = uu at *
      have hd : wr.cell? ⟨w.heap.size, k + q, none⟩ = some (((hb B wd k z).map I)[k + q]'(by rw [List.length_map, hb_len]; omega)) := (hown.cellAt (k + q) (by omega)).trans (List.getElem?_eq_getElem _)
      have hf := hown.frozenAt (k + q)
      have HO := Lib.hid hown
      have HB := Lib.hid hbw
      clear hown hbw hx hc hq
      generalize ((hb B wd k z).map I)[k + q]'(by rw [List.length_map, hb_len]; omega) = old at *
      go_wp2
      go_roundw
      case rel =>
        refine ⟨k + 1, by omega, by go_num, ?_, ?_⟩
        · rw [HX.out, List.map_set]
          exact (World.ownsRow.stored HO.out (k + q) _).1
        · exact HB.out.setCell (p := ⟨w.heap.size, k + q, none⟩) (Nat.le_refl _) _
      case measure => simp [intOf]; omega
    · go_wp2
      go_ret
      have e : k = n := by omega
      subst e
      exact newI_own hown (hb_len _ _ _ _) hbw

end Go.Proofs.YtlbnngolcoefdaaDoor
