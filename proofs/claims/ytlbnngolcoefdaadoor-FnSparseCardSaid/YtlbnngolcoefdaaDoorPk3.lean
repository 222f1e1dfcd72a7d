/- The program's PackList and PackAt. -/
import Derived.Test.YtlbnngolcoefdaaDoorPk2
import Derived.Test.YtlbnngolcoefdaaDoorField64
import Derived.Test.YtlbnngolcoefdaaDoorNewI
namespace Go.Proofs.YtlbnngolcoefdaaDoor
open Go.RowKit
set_option maxRecDepth 100000

/-- What PackList and PackAt are to return. -/
def plV (P N M : Int) (L : List Nat) : List Int := if okP P N M L = true then unpack P.toNat N.toNat (val (bitsOf M.toNat L)) else []
def paV (P N M : Int) (L : List Nat) (i : Int) : Int := if okP P N M L = true ∧ 0 ≤ i ∧ i < N then ((val (bitsOf M.toNat L) / 2 ^ (i.toNat * P.toNat) % 2 ^ P.toNat : Nat) : Int) else -1

theorem okP_nat {P N M : Int} {L : List Nat} (h : okP P N M L = true) : ∃ wd n m : Nat, P = wd ∧ N = n ∧ M = m ∧ m = n * wd ∧ wd ≤ 32 ∧ n ≤ 5000 ∧ m ≤ 5000 ∧ okB m L = true ∧ L.length = (m + 63) / 64 ∧ tailB m L = true := by
  unfold okP at h
  rw [Bool.and_eq_true, decide_eq_true_iff] at h
  obtain ⟨⟨h1, h2, h3, h4, h5⟩, h6⟩ := h
  obtain ⟨m, rfl, hm, hl, ht⟩ := okB_nat h6
  obtain ⟨wd, rfl⟩ := Int.eq_ofNat_of_zero_le h1
  obtain ⟨n, rfl⟩ := Int.eq_ofNat_of_zero_le h3
  refine ⟨wd, n, m, rfl, rfl, rfl, ?_, by omega, by omega, hm, h6, hl, ht⟩
  exact Int.ofNat_inj.1 (by simpa using h5)

theorem words_of {m : Nat} {L : List Nat} (hl : L.length = (m + 63) / 64) (hw : ∀ x ∈ L, x < 2 ^ 64) (ht : tailB m L = true) : ∀ (j x : Nat), L[j]? = some x → x = val (bitsOf m L) / 2 ^ (64 * j) % 2 ^ 64 := fun j x hx => by
  have hj := (List.getElem?_eq_some_iff.1 hx).1
  have h := valid_digits m L hl hw ht
  have h1 : L[j]? = (digits L.length (val (bitsOf m L)))[j]? := by rw [← h]
  rw [hx, digits_get _ _ _ hj] at h1
  exact Option.some.inj h1

theorem part_le {i n wd m : Nat} (h : i < n) (hm : m = n * wd) : i * wd + wd ≤ m := by
  have h5 : (i + 1) * wd ≤ n * wd := Nat.mul_le_mul_right _ h
  rw [Nat.succ_mul] at h5
  omega

set_option maxHeartbeats 400000 in
theorem implPackAt_bad (P N M : Int) (A : Option Addr) (c : Nat) (L : List Nat) (i : Int) (w : World) (hL : Lies w U A L) (hw : ∀ x ∈ L, x < 2 ^ 64) (hok : okP P N M L = false) :
    Calls Tryd.prog 69 #[PK P N M (.slice A L.length c), .int .i64 i] w fun e w' => e = .returned (.int .i64 (-1)) ∧ Below w.heap.size w w' := by
  have HW := Lib.hid hw
  clear hw
  go_enter Tryd.func69, Tryd.ntmps69
  go_wp2_with fail
  refine (implPackOk_any P N M A c L _ (hL.below (by go_grown)) HW.out).mono ?_
  rintro e w1 ⟨rfl, hb⟩
  rw [hok]
  have HB := Lib.hid hb
  clear hb hL hok
  go_wp2
  go_ret
  exact ⟨rfl, below_then (by go_grown) HB.out⟩

set_option maxHeartbeats 400000 in
theorem implPackAt_out (P N M : Int) (A : Option Addr) (c : Nat) (L : List Nat) (i : Int) (w : World) (hL : Lies w U A L) (hw : ∀ x ∈ L, x < 2 ^ 64) (hok : okP P N M L = true) (hi : i < 0 ∨ N ≤ i) :
    Calls Tryd.prog 69 #[PK P N M (.slice A L.length c), .int .i64 i] w fun e w' => e = .returned (.int .i64 (-1)) ∧ Below w.heap.size w w' := by
  have HW := Lib.hid hw
  clear hw
  by_cases h0 : i < 0
  · have d0 : decide (i < 0) = true := by simpa using h0
    go_enter Tryd.func69, Tryd.ntmps69
    go_wp2_with fail
    refine (implPackOk_any P N M A c L _ (hL.below (by go_grown)) HW.out).mono ?_
    rintro e w1 ⟨rfl, hb⟩
    rw [hok]
    have HB := Lib.hid hb
    clear hb hL hok hi
    go_wp2
    go_ret
    exact ⟨rfl, below_then (by go_grown) HB.out⟩
  · have d0 : decide (i < 0) = false := by simpa using h0
    have hn : N ≤ i := by omega
    have d1 : decide (N ≤ i) = true := by simpa using hn
    go_enter Tryd.func69, Tryd.ntmps69
    go_wp2_with fail
    have hx0 := Box.made w 31 #[.int .i64 P, .int .i64 N, .int .i64 M, .slice A L.length c]
    refine (implPackOk_any P N M A c L _ (hL.below (by go_grown)) HW.out).mono ?_
    rintro e w1 ⟨rfl, hb⟩
    rw [hok]
    have f1 := (hx0.below hb hx0.lt).cell 1
    simp only [List.getElem?_toArray, List.getElem?_cons_zero, List.getElem?_cons_succ] at f1
    have HB := Lib.hid hb
    clear hb hL hok hi hx0
    go_wp2
    go_ret
    exact ⟨rfl, below_then (by go_grown) HB.out⟩

set_option maxHeartbeats 400000 in
theorem implPackAt_in (wd n m : Nat) (A : Option Addr) (c : Nat) (L : List Nat) (i : Nat) (w : World) (hL : Lies w U A L) (hw : ∀ x ∈ L, x < 2 ^ 64) (hok : okP wd n m L = true) (Hm : Hid (m = n * wd)) (hwd : wd ≤ 32) (hn : n ≤ 5000) (hm5 : m ≤ 5000) (Hl : Hid (L.length = (m + 63) / 64)) (Ht : Hid (tailB m L = true)) (hi : i < n) :
    Calls Tryd.prog 69 #[PK wd n m (.slice A L.length c), .int .i64 i] w fun e w' => e = .returned (.int .i64 (val (bitsOf m L) / 2 ^ (i * wd) % 2 ^ wd : Nat)) ∧ Below w.heap.size w w' := by
  have HW := Lib.hid hw
  have HV := Lib.hid (words_of Hl.out hw Ht.out)
  clear hw
  have d0 : decide ((i : Int) < 0) = false := by simp
  have d1 : decide ((n : Int) ≤ (i : Int)) = false := by simp; omega
  have hpl := part_le hi Hm.out
  obtain ⟨a, ha⟩ : ∃ a, i * wd = a := ⟨_, rfl⟩
  rw [ha] at hpl
  have hmul : (i : Int) * (wd : Int) = (a : Int) := by rw [← ha]; simp
  rw [ha]
  clear ha
  generalize val (bitsOf m L) = V at *
  have CF : Hid (∀ W : World, Lies W U A L → Calls Tryd.prog 104 #[.slice A L.length c, .int .i64 a, .int .i64 wd] W fun e w' => e = .returned (.int .i64 (V / 2 ^ a % 2 ^ wd : Nat)) ∧ Drawn W w') :=
    Lib.hid fun W hLW => fieldW_any A L.length c L V a wd W hLW (Lib.hid rfl) HV.out hwd (by rw [Hl.out]; omega) (by rw [Hl.out]; omega)
  clear HV
  generalize V / 2 ^ a % 2 ^ wd = y at *
  go_enter Tryd.func69, Tryd.ntmps69
  go_wp2_with fail
  have hx0 := Box.made w 31 #[.int .i64 wd, .int .i64 n, .int .i64 m, .slice A L.length c]
  have hb0 : Below w.heap.size w (w.alloc (.cells #[.int .i64 wd, .int .i64 n, .int .i64 m, .slice A L.length c] 31)) := by go_grown
  have hL0 := hL.below hb0
  refine (implPackOk_any wd n m A c L _ hL0 HW.out).mono ?_
  rintro e w1 ⟨rfl, hb⟩
  rw [hok]
  have hx1 := hx0.below hb hx0.lt
  have hL1 := hL0.below hb
  have hb1 := below_then hb0 hb
  have f0 := hx1.cell 0
  have f1 := hx1.cell 1
  have f3 := hx1.cell 3
  simp only [List.getElem?_toArray, List.getElem?_cons_zero, List.getElem?_cons_succ] at f0 f1 f3
  have HB1 := Lib.hid hb1
  clear hb hL hok hx0 hx1 hb0 hL0 hb1
  have HL1 := Lib.hid hL1
  clear hL1
  go_wp2_with (go_at_call 104; refine (CF.out _ HL1.out).mono ?_; rintro e w' ⟨rfl, z, rfl⟩)
  go_ret
  exact ⟨rfl, below_dN HB1.out z⟩

theorem implPackAt_any (P N M : Int) (A : Option Addr) (c : Nat) (L : List Nat) (i : Int) (w : World) (hL : Lies w U A L) (hw : ∀ x ∈ L, x < 2 ^ 64) :
    Calls Tryd.prog 69 #[PK P N M (.slice A L.length c), .int .i64 i] w fun e w' => e = .returned (.int .i64 (paV P N M L i)) ∧ Below w.heap.size w w' := by
  unfold paV
  cases hok : okP P N M L
  · rw [if_neg (fun h => by cases h.1)]
    exact implPackAt_bad P N M A c L i w hL hw hok
  · by_cases hi : 0 ≤ i ∧ i < N
    · obtain ⟨wd, n, m, rfl, rfl, rfl, hm, hwd, hn, hm5, _, hl, ht⟩ := okP_nat hok
      obtain ⟨j, rfl⟩ := Int.eq_ofNat_of_zero_le hi.1
      rw [if_pos ⟨rfl, hi⟩]
      exact implPackAt_in wd n m A c L j w hL hw hok (Lib.hid hm) hwd hn hm5 (Lib.hid hl) (Lib.hid ht) (by omega)
    · rw [if_neg (fun h => hi h.2)]
      exact implPackAt_out P N M A c L i w hL hw hok (by omega)

end Go.Proofs.YtlbnngolcoefdaaDoor
