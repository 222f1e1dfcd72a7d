import Derived.Test.YtlbnngolcoefdaaDoorSpec2
import Derived.Test.YtlbnngolcoefdaaDoorPackMath
import Derived.Test.YtlbnngolcoefdaaDoorDraw1
import Derived.Test.YtlbnngolcoefdaaDoorPk2
import Derived.Test.YtlbnngolcoefdaaDoorPk6
/- The program's field, at words: the number in a row of bits. -/
namespace Go.Proofs.YtlbnngolcoefdaaDoor
open Go.RowKit
set_option maxRecDepth 100000

/-- How the walk spells the round's or, and the last mask. -/
theorem field_form (m x r k : Nat) (hm : m < 2 ^ 64) (_hx : x < 2 ^ 64) : bits .or .u64 (m : Int) (IntKind.u64.wrap ((x : Int) / 2 ^ r * 2 ^ k)) = ((m ||| x / 2 ^ r * 2 ^ k % 2 ^ 64 : Nat) : Int) := by
  have e : (x : Int) / 2 ^ r * 2 ^ k = ((x / 2 ^ r * 2 ^ k : Nat) : Int) := by simp
  have hw : IntKind.u64.wrap ((x : Int) / 2 ^ r * 2 ^ k) = ((x / 2 ^ r * 2 ^ k % 2 ^ 64 : Nat) : Int) := by rw [e, IntKind.wrap_u64]; omega
  rw [hw, u64_or_nat m _ hm (Nat.mod_lt _ (by decide))]
theorem mask_form (m wd : Nat) (hm : m < 2 ^ 64) (hwd : wd ≤ 32) : wrap64 (bits .and .u64 (m : Int) (IntKind.u64.wrap (IntKind.u64.wrap (2 ^ wd) - 1))) = ((m % 2 ^ wd : Nat) : Int) := by
  have hp : 2 ^ wd ≤ 2 ^ 32 := Nat.pow_le_pow_right (by omega) hwd
  have hp0 := Nat.two_pow_pos wd
  have e1 : IntKind.u64.wrap ((2 : Int) ^ wd) = ((2 ^ wd : Nat) : Int) := by
    rw [show (2 : Int) ^ wd = ((2 ^ wd : Nat) : Int) by simp]
    exact IntWalk.u64_in _ (by omega)
  have e2 : IntKind.u64.wrap (((2 ^ wd : Nat) : Int) - 1) = ((2 ^ wd - 1 : Nat) : Int) := by
    rw [show ((2 ^ wd : Nat) : Int) - 1 = ((2 ^ wd - 1 : Nat) : Int) by omega]
    exact IntWalk.u64_in _ (by omega)
  have h3 : m % 2 ^ wd < 2 ^ wd := Nat.mod_lt _ hp0
  rw [e1, e2, u64_and_nat m _ hm (by omega), Nat.and_two_pow_sub_one_eq_mod]
  exact IntWalk.wrap64_in _ (by omega)

set_option maxHeartbeats 400000 in
theorem fieldW_any (A : Option Addr) (n c : Nat) (L : List Nat) (V a wd : Nat) (w : World) (hL : Lies w U A L) (Hn : Hid (L.length = n)) (hV : ∀ (j : Nat) (x : Nat), L[j]? = some x → x = V / 2 ^ (64 * j) % 2 ^ 64) (hwd : wd ≤ 32) (hfit : a + wd ≤ 64 * n) (hn : n ≤ 17592186044416) :
    Calls Tryd.prog 104 #[.slice A n c, .int .i64 a, .int .i64 wd] w fun e w' => e = .returned (.int .i64 (V / 2 ^ a % 2 ^ wd : Nat)) ∧ Drawn w w' := by
  have C : ∀ W : World, Calls Tryd.prog 128 #[.int .u64 18446744073709551615] W fun e w' => e = .returned (.int .i64 64) ∧ W = w' := fun W => len64_int 18446744073709551615 W (by omega) (by omega)
  have HC := Lib.hid C
  have HV := Lib.hid hV
  clear C hV
  go_enter Tryd.func104, Tryd.ntmps104
  go_wp2_with (go_at_call 128; refine (HC.out _).mono ?_; rintro e w' ⟨rfl, rfl⟩)
  go_loopw [8, 9] (fun q g wr => ∃ m k : Nat, k ≤ 96 ∧ q = .int .u64 m ∧ g = .int .i64 k ∧ Hid (m = V / 2 ^ a % 2 ^ (min k 64)) ∧ Drawn w wr) (fun _ g _ => wd - (intOf g).toNat)
  case atStart => exact ⟨0, 0, by omega, rfl, rfl, Lib.hid (by simp [Nat.mod_one]), Drawn.refl _⟩
  case round =>
    obtain ⟨m, k, hk96, rfl, rfl, hm, z, rfl⟩ := hrel
    have hm64 : m < 2 ^ 64 := by
      rw [hm.out]
      exact Nat.lt_of_lt_of_le (Nat.mod_lt _ (Nat.two_pow_pos _)) (Nat.pow_le_pow_right (by omega) (by omega))
    by_cases hlt : k < wd
    · have hqn : (a + k) / 64 < n := by omega
      obtain ⟨r, hr⟩ : ∃ r, (a + k) % 64 = r := ⟨_, rfl⟩
      obtain ⟨b, o, x, rfl, hbl, hx, hc⟩ := hL.at_ (i := (a + k) / 64) (by rw [Hn.out]; exact hqn)
      have hxv := HV.out _ x hx
      have hx64 : x < 2 ^ 64 := by rw [hxv]; exact Nat.mod_lt _ (Nat.two_pow_pos _)
      have e2 : ((a : Int) + (k : Int)).tmod 64 = (r : Int) := by rw [IntWalk.rem_in _ _ (by omega)]; omega
      have hrS : r < 64 := by omega
      obtain ⟨u, hu⟩ : ∃ u, m ||| x / 2 ^ r * 2 ^ k % 2 ^ 64 = u := ⟨_, rfl⟩
      have HF : Hid (bits .or .u64 (m : Int) (IntKind.u64.wrap ((x : Int) / 2 ^ r * 2 ^ k)) = (u : Int)) := Lib.hid (by rw [← hu]; exact field_form m x r k hm64 (Nat.lt_of_lt_of_le hx64 (by decide)))
      have s1 := fun W => run_shr_u64 (P := Tryd.prog) 113 x r (by omega) W
      have HN : Hid (u = V / 2 ^ a % 2 ^ (min (k + (64 - r)) 64)) := Lib.hid (by
        have h := field_round V a k 64 x m (by decide) hxv hm.out
        rw [hr, hu] at h
        exact h)
      clear hr hu hx hxv hL HV HC hm hbl
      go_wp2
      go_quiet (fail)
      go_wp2
      go_roundw
      case rel => exact ⟨u, k + (64 - r), by omega, congrArg (Value.int .u64) HF.out, by go_num, HN, ⟨_, rfl⟩⟩
      case measure => simp [intOf]; omega
    · have HU : Hid (wrap64 (bits .and .u64 (m : Int) (IntKind.u64.wrap (IntKind.u64.wrap (2 ^ wd) - 1))) = ((V / 2 ^ a % 2 ^ wd : Nat) : Int)) := Lib.hid (by
        rw [mask_form m wd hm64 hwd, hm.out]
        exact congrArg Nat.cast (field_end V a k wd (by omega) (by omega)))
      clear hL HV HC hm
      go_wp2
      go_ret
      exact ⟨ret_int HU.out, ⟨_, rfl⟩⟩

end Go.Proofs.YtlbnngolcoefdaaDoor

/- The program's PackList and PackAt. -/
namespace Go.Proofs.YtlbnngolcoefdaaDoor
open Go.RowKit
set_option maxRecDepth 100000

/-- What PackList and PackAt are to return. -/
def plV (P N M : Int) (L : List Nat) : List Int := if okP P N M L = true then unpack P.toNat N.toNat (val (bitsOf M.toNat L)) else []
def paV (P N M : Int) (L : List Nat) (i : Int) : Int := if okP P N M L = true ∧ 0 ≤ i ∧ i < N then ((val (bitsOf M.toNat L) / 2 ^ (i.toNat * P.toNat) % 2 ^ P.toNat : Nat) : Int) else -1

theorem okP_nat {P N M : Int} {L : List Nat} (h : okP P N M L = true) : ∃ wd n m : Nat, P = wd ∧ N = n ∧ M = m ∧ m = n * wd ∧ wd ≤ 32 ∧ n ≤ 5000 ∧ m ≤ 5000 ∧ okB m L = true ∧ L.length = (m + 63) / 64 ∧ tailB m L = true := by
  unfold okP at h
  rw [Bool.and_eq_true, decide_eq_true_iff] at h
  obtain ⟨⟨h1, h2, h3, h4, h5⟩, h6⟩ := h
  obtain ⟨m, rfl, hm, hl, ht⟩ := okB_nat h6
  obtain ⟨wd, rfl⟩ := Int.eq_ofNat_of_zero_le h1
  obtain ⟨n, rfl⟩ := Int.eq_ofNat_of_zero_le h3
  refine ⟨wd, n, m, rfl, rfl, rfl, ?_, by omega, by omega, hm, h6, hl, ht⟩
  exact Int.ofNat_inj.1 (by simpa using h5)

theorem words_of {m : Nat} {L : List Nat} (hl : L.length = (m + 63) / 64) (hw : ∀ x ∈ L, x < 2 ^ 64) (ht : tailB m L = true) : ∀ (j x : Nat), L[j]? = some x → x = val (bitsOf m L) / 2 ^ (64 * j) % 2 ^ 64 := fun j x hx => by
  have hj := (List.getElem?_eq_some_iff.1 hx).1
  have h := valid_digits m L hl hw ht
  have h1 : L[j]? = (digits L.length (val (bitsOf m L)))[j]? := by rw [← h]
  rw [hx, digits_get _ _ _ hj] at h1
  exact Option.some.inj h1

theorem part_le {i n wd m : Nat} (h : i < n) (hm : m = n * wd) : i * wd + wd ≤ m := by
  have h5 : (i + 1) * wd ≤ n * wd := Nat.mul_le_mul_right _ h
  rw [Nat.succ_mul] at h5
  omega

set_option maxHeartbeats 400000 in
theorem implPackAt_bad (P N M : Int) (A : Option Addr) (c : Nat) (L : List Nat) (i : Int) (w : World) (hL : Lies w U A L) (hw : ∀ x ∈ L, x < 2 ^ 64) (hok : okP P N M L = false) :
    Calls Tryd.prog 69 #[PK P N M (.slice A L.length c), .int .i64 i] w fun e w' => e = .returned (.int .i64 (-1)) ∧ Below w.heap.size w w' := by
  have HW := Lib.hid hw
  clear hw
  go_enter Tryd.func69, Tryd.ntmps69
  go_wp2_with fail
  refine (implPackOk_any P N M A c L _ (hL.below (by go_grown)) HW.out).mono ?_
  rintro e w1 ⟨rfl, hb⟩
  rw [hok]
  have HB := Lib.hid hb
  clear hb hL hok
  go_wp2
  go_ret
  exact ⟨rfl, below_then (by go_grown) HB.out⟩

set_option maxHeartbeats 400000 in
theorem implPackAt_out (P N M : Int) (A : Option Addr) (c : Nat) (L : List Nat) (i : Int) (w : World) (hL : Lies w U A L) (hw : ∀ x ∈ L, x < 2 ^ 64) (hok : okP P N M L = true) (hi : i < 0 ∨ N ≤ i) :
    Calls Tryd.prog 69 #[PK P N M (.slice A L.length c), .int .i64 i] w fun e w' => e = .returned (.int .i64 (-1)) ∧ Below w.heap.size w w' := by
  have HW := Lib.hid hw
  clear hw
  by_cases h0 : i < 0
  · have d0 : decide (i < 0) = true := by simpa using h0
    go_enter Tryd.func69, Tryd.ntmps69
    go_wp2_with fail
    refine (implPackOk_any P N M A c L _ (hL.below (by go_grown)) HW.out).mono ?_
    rintro e w1 ⟨rfl, hb⟩
    rw [hok]
    have HB := Lib.hid hb
    clear hb hL hok hi
    go_wp2
    go_ret
    exact ⟨rfl, below_then (by go_grown) HB.out⟩
  · have d0 : decide (i < 0) = false := by simpa using h0
    have hn : N ≤ i := by omega
    have d1 : decide (N ≤ i) = true := by simpa using hn
    go_enter Tryd.func69, Tryd.ntmps69
    go_wp2_with fail
    have hx0 := Box.made w 31 #[.int .i64 P, .int .i64 N, .int .i64 M, .slice A L.length c]
    refine (implPackOk_any P N M A c L _ (hL.below (by go_grown)) HW.out).mono ?_
    rintro e w1 ⟨rfl, hb⟩
    rw [hok]
    have f1 := (hx0.below hb hx0.lt).cell 1
    simp only [List.getElem?_toArray, List.getElem?_cons_zero, List.getElem?_cons_succ] at f1
    have HB := Lib.hid hb
    clear hb hL hok hi hx0
    go_wp2
    go_ret
    exact ⟨rfl, below_then (by go_grown) HB.out⟩

set_option maxHeartbeats 400000 in
theorem implPackAt_in (wd n m : Nat) (A : Option Addr) (c : Nat) (L : List Nat) (i : Nat) (w : World) (hL : Lies w U A L) (hw : ∀ x ∈ L, x < 2 ^ 64) (hok : okP wd n m L = true) (Hm : Hid (m = n * wd)) (hwd : wd ≤ 32) (hn : n ≤ 5000) (hm5 : m ≤ 5000) (Hl : Hid (L.length = (m + 63) / 64)) (Ht : Hid (tailB m L = true)) (hi : i < n) :
    Calls Tryd.prog 69 #[PK wd n m (.slice A L.length c), .int .i64 i] w fun e w' => e = .returned (.int .i64 (val (bitsOf m L) / 2 ^ (i * wd) % 2 ^ wd : Nat)) ∧ Below w.heap.size w w' := by
  have HW := Lib.hid hw
  have HV := Lib.hid (words_of Hl.out hw Ht.out)
  clear hw
  have d0 : decide ((i : Int) < 0) = false := by simp
  have d1 : decide ((n : Int) ≤ (i : Int)) = false := by simp; omega
  have hpl := part_le hi Hm.out
  obtain ⟨a, ha⟩ : ∃ a, i * wd = a := ⟨_, rfl⟩
  rw [ha] at hpl
  have hmul : (i : Int) * (wd : Int) = (a : Int) := by rw [← ha]; simp
  rw [ha]
  clear ha
  generalize val (bitsOf m L) = V at *
  have CF : Hid (∀ W : World, Lies W U A L → Calls Tryd.prog 104 #[.slice A L.length c, .int .i64 a, .int .i64 wd] W fun e w' => e = .returned (.int .i64 (V / 2 ^ a % 2 ^ wd : Nat)) ∧ Drawn W w') :=
    Lib.hid fun W hLW => fieldW_any A L.length c L V a wd W hLW (Lib.hid rfl) HV.out hwd (by rw [Hl.out]; omega) (by rw [Hl.out]; omega)
  clear HV
  generalize V / 2 ^ a % 2 ^ wd = y at *
  go_enter Tryd.func69, Tryd.ntmps69
  go_wp2_with fail
  have hx0 := Box.made w 31 #[.int .i64 wd, .int .i64 n, .int .i64 m, .slice A L.length c]
  have hb0 : Below w.heap.size w (w.alloc (.cells #[.int .i64 wd, .int .i64 n, .int .i64 m, .slice A L.length c] 31)) := by go_grown
  have hL0 := hL.below hb0
  refine (implPackOk_any wd n m A c L _ hL0 HW.out).mono ?_
  rintro e w1 ⟨rfl, hb⟩
  rw [hok]
  have hx1 := hx0.below hb hx0.lt
  have hL1 := hL0.below hb
  have hb1 := below_then hb0 hb
  have f0 := hx1.cell 0
  have f1 := hx1.cell 1
  have f3 := hx1.cell 3
  simp only [List.getElem?_toArray, List.getElem?_cons_zero, List.getElem?_cons_succ] at f0 f1 f3
  have HB1 := Lib.hid hb1
  clear hb hL hok hx0 hx1 hb0 hL0 hb1
  have HL1 := Lib.hid hL1
  clear hL1
  go_wp2_with (go_at_call 104; refine (CF.out _ HL1.out).mono ?_; rintro e w' ⟨rfl, z, rfl⟩)
  go_ret
  exact ⟨rfl, below_dN HB1.out z⟩

theorem implPackAt_any (P N M : Int) (A : Option Addr) (c : Nat) (L : List Nat) (i : Int) (w : World) (hL : Lies w U A L) (hw : ∀ x ∈ L, x < 2 ^ 64) :
    Calls Tryd.prog 69 #[PK P N M (.slice A L.length c), .int .i64 i] w fun e w' => e = .returned (.int .i64 (paV P N M L i)) ∧ Below w.heap.size w w' := by
  unfold paV
  cases hok : okP P N M L
  · rw [if_neg (fun h => by cases h.1)]
    exact implPackAt_bad P N M A c L i w hL hw hok
  · by_cases hi : 0 ≤ i ∧ i < N
    · obtain ⟨wd, n, m, rfl, rfl, rfl, hm, hwd, hn, hm5, _, hl, ht⟩ := okP_nat hok
      obtain ⟨j, rfl⟩ := Int.eq_ofNat_of_zero_le hi.1
      rw [if_pos ⟨rfl, hi⟩]
      exact implPackAt_in wd n m A c L j w hL hw hok (Lib.hid hm) hwd hn hm5 (Lib.hid hl) (Lib.hid ht) (by omega)
    · rw [if_neg (fun h => hi h.2)]
      exact implPackAt_out P N M A c L i w hL hw hok (by omega)

end Go.Proofs.YtlbnngolcoefdaaDoor
