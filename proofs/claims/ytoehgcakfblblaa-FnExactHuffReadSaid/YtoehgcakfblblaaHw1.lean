/- HuffWrite: the digits of a code; the specification's. -/
import Derived.Test.YtoehgcakfblblaaHf4
import Derived.Test.YtoehgcakfblblaaAppI
import Derived.Test.YtoehgcakfblblaaNewB
import Derived.Test.YtoehgcakfblblaaSpec4
import Derived.Test.YtoehgcakfblblaaSlCut
import Derived.Deep.RegionWith
import Derived.Deep.RegionHeld3
import Derived.Deep.RegionLaw
namespace Go.Proofs.Ytoehgcakfblblaa
open Go.RowKit
set_option maxRecDepth 100000

/-- The low digits of a code, the most significant one first. -/
def hbit (c k : Nat) : Int := ((c / 2 ^ k % 2 : Nat) : Int)
def hbits (c : Nat) : Nat → List Int
  | 0 => []
  | k + 1 => hbit c k :: hbits c k
theorem hbits_len (c k : Nat) : (hbits c k).length = k := by
  induction k with
  | zero => rfl
  | succ k ih => rw [hbits, List.length_cons, ih]
theorem hbits_is (c k : Nat) : IsBits (hbits c k) := by
  induction k with
  | zero => intro b hb; cases hb
  | succ k ih =>
    intro b hb
    rw [hbits] at hb
    rcases List.mem_cons.1 hb with rfl | h
    · unfold hbit; omega
    · exact ih b h

/-- Whether x is a symbol that has a code. -/
def hsym (L : List Int) (x : Int) : Bool := decide (0 ≤ x ∧ x < (L.length : Int) ∧ gl L x.toNat ≠ 0)
/-- The digits of symbols. -/
def hwr (L : List Int) : List Int → List Int
  | [] => []
  | x :: X => hbits (hcode L x.toNat) (gl L x.toNat).toNat ++ hwr L X
theorem hwr_app (L X Y : List Int) : hwr L (X ++ Y) = hwr L X ++ hwr L Y := by
  induction X with
  | nil => rfl
  | cons x X ih => rw [List.cons_append, hwr, hwr, ih, List.append_assoc]
theorem hwr_is (L X : List Int) : IsBits (hwr L X) := by
  induction X with
  | nil => intro b hb; cases hb
  | cons x X ih =>
    intro b hb
    rw [hwr] at hb
    rcases List.mem_append.1 hb with h | h
    · exact hbits_is _ _ b h
    · exact ih b h
theorem hwr_take {L X : List Int} {k : Nat} {x : Int} (h : X[k]? = some x) : hwr L (X.take (k + 1)) = hwr L (X.take k) ++ hbits (hcode L x.toNat) (gl L x.toNat).toNat := by
  obtain ⟨h1, h2⟩ := List.getElem?_eq_some_iff.mp h
  rw [List.take_succ_eq_append_getElem h1, hwr_app, h2]
  simp [hwr]
theorem hwr_take_le (L X : List Int) (k : Nat) : (hwr L (X.take k)).length ≤ (hwr L X).length := by
  have h := hwr_app L (X.take k) (X.drop k)
  rw [List.take_append_drop] at h
  rw [h, List.length_append]
  omega
/-- What HuffWrite hands to BitsOf: the digits, or what BitsOf refuses. -/
def hwV (X L : List Int) : List Int := if okH L = true ∧ X.all (hsym L) = true then hwr L X else [2]
theorem hwV_ok {X L : List Int} (h : okH L = true) (h2 : ∀ x ∈ X, hsym L x = true) : hwV X L = hwr L X := if_pos ⟨h, by simpa [List.all_eq_true] using h2⟩
theorem hwV_bad {X L : List Int} (h : okH L = false) : hwV X L = [2] := if_neg fun e => by rw [h] at e; exact absurd e.1 (by decide)
theorem hwV_sym {X L : List Int} {k : Nat} {x : Int} (h : X[k]? = some x) (hx : hsym L x = false) : hwV X L = [2] := if_neg fun e => by
  have := (List.all_eq_true.mp e.2) x (List.mem_of_getElem? h)
  rw [hx] at this
  cases this
theorem no2 : okBits [2] = false := by decide
theorem res_no {B : List Int} (h : okBits B = false) : resN B = 0 ∧ resW B = [] := by
  unfold resN resW
  rw [h]
  exact ⟨rfl, rfl⟩
theorem long_no {B : List Int} (h : 5000 < B.length) : okBits B = false := by
  cases e : okBits B with
  | false => rfl
  | true => have := ((okBits_iff B).1 e).1; omega
theorem hwV_over {X L : List Int} {k : Nat} (h : 5000 < (hwr L (X.take k)).length) : okBits (hwV X L) = false := by
  unfold hwV
  split
  · exact long_no (Nat.lt_of_lt_of_le h (hwr_take_le L X k))
  · exact no2
theorem hsym_len {L : List Int} (ok : okH L = true) {x : Int} (h : hsym L x = true) : 1 ≤ (gl L x.toNat).toNat ∧ (gl L x.toNat).toNat ≤ 60 ∧ x.toNat < L.length ∧ 0 ≤ x ∧ 0 < gl L x.toNat := by
  unfold hsym at h
  simp only [decide_eq_true_eq] at h
  have h1 : x.toNat < L.length := by omega
  have h2 := okH_all ok _ (gl_mem h1)
  omega
theorem hwr_ge {L : List Int} (ok : okH L = true) : ∀ (X : List Int), (∀ x ∈ X, hsym L x = true) → X.length ≤ (hwr L X).length
  | [], _ => Nat.le_refl _
  | x :: X, h => by
    have h1 := hwr_ge ok X fun y hy => h y (by simp [hy])
    have h2 := hsym_len ok (h x (by simp))
    rw [hwr, List.length_append, List.length_cons, hbits_len]
    omega
theorem hwV_many {X L : List Int} (ok : okH L = true) (h : 5000 < X.length) : okBits (hwV X L) = false := by
  unfold hwV
  split
  · rename_i e
    exact long_no (Nat.lt_of_lt_of_le h (hwr_ge ok X fun x hx => (List.all_eq_true.mp e.2) x hx))
  · exact no2
/-- What HuffWrite returns. -/
def HwPost (X L : List Int) (w : World) (e : Ending) (w' : World) : Prop := NewBits w (resN (hwV X L)) (resW (hwV X L)) (okBits (hwV X L)) e w'
theorem hwPost_no {X L : List Int} {w w' : World} (h : okBits (hwV X L) = false) (hb : Below w.heap.size w w') : HwPost X L w (.returned (.tuple #[.agg #[.int .i64 0, .slice none 0 0], .bool false])) w' := by
  unfold HwPost
  rw [h, (res_no h).1, (res_no h).2]
  exact ⟨none, 0, rfl, ⟨rfl, .inl ⟨rfl, rfl⟩⟩, hb⟩

theorem quo_h (u n : Nat) : (u : Int).tdiv (n : Int) = ((u / n : Nat) : Int) := by
  rw [Int.tdiv_eq_ediv_of_nonneg (by omega)]
  simp

set_option maxHeartbeats 1600000 in
theorem specCode8_any (cd n : Nat) (w : World) (hc : cd < 1152921504606846976) (hn : n ≤ 60) :
    Calls Try.prog 74 #[.int .i64 cd, .int .i64 n] w (NewI w (hbits cd n)) := by
  have hlen := hbits_len cd n
  have HLen := Lib.hid hlen
  obtain ⟨T, hT⟩ : ∃ T, hbits cd n = T := ⟨_, rfl⟩
  have HT := Lib.hid hT
  rw [hT] at HLen ⊢
  have CP := Lib.hid fun (i : Nat) (W : World) (h : i < 62) => powW_any i W h
  have HO0 : Hid ((w.alloc (.cells #[] 3)).ownsRow w.heap.size 3 1 (.slice (some ⟨w.heap.size, 0, none⟩) ([] : List Int).length 0) ([] : List Int).length (([] : List Int).map I)) := Lib.hid (World.ownsRow_made w (e := 3) (size := 1) #[] 0 (Nat.le_refl _) (by unfold maxLen; omega) rfl)
  have HB0 : Hid (Below w.heap.size w (w.alloc (.cells #[] 3))) := Lib.hid ((Below.refl _ _).alloc (Nat.le_refl _) _)
  clear hlen hT
  go_enter Try.func74, Try.ntmps74
  go_wp2_with fail
  generalize w.alloc (.cells #[] 3) = w0 at *
  go_loopw [5, 6] (fun v k wr => ∃ (r : Nat) (D : List Int), r ≤ n ∧ k = .int .i64 ((r : Int) - 1) ∧ D.length ≤ 60 ∧ Hid (D ++ hbits cd r = T) ∧ Hid (wr.ownsRow w.heap.size 3 1 v D.length (D.map I)) ∧ Hid (Below w.heap.size w wr)) (fun _ k _ => (intOf k + 1).toNat)
  case atStart => exact ⟨n, [], Nat.le_refl _, by go_num, by simp, Lib.hid (by rw [List.nil_append]; exact HT.out), HO0, HB0⟩
  case round =>
    clear HO0 HB0
    obtain ⟨r, D, hr, rfl, hD, HE, HO, HB⟩ := hrel
    rcases Nat.eq_zero_or_pos r with h0 | h0
    · subst h0
      have HDT : Hid (D = T) := Lib.hid (by have := HE.out; rw [hbits, List.append_nil] at this; exact this)
      have d0 : decide ((0 : Int) ≤ ((0 : Nat) : Int) - 1) = false := by decide
      clear HE
      go_wp2
      go_ret
      obtain ⟨A5, c5, rfl⟩ := own_slice HO.out
      refine ⟨A5, c5, by rw [← HDT.out]; rfl, ?_, HB.out⟩
      rw [← HDT.out]
      exact HO.out
    · obtain ⟨k, rfl⟩ : ∃ k, r = k + 1 := ⟨r - 1, by omega⟩
      have ek : ((k + 1 : Nat) : Int) - 1 = (k : Int) := by omega
      rw [ek]
      have d0 : decide ((0 : Int) ≤ (k : Int)) = true := by simp
      have C1 := Lib.hid (CP.out k wr (by omega))
      obtain ⟨P, hP⟩ : ∃ P, 2 ^ k = P := ⟨_, rfl⟩
      have hP1 : 1 ≤ P := by rw [← hP]; exact Nat.two_pow_pos _
      obtain ⟨q, hq⟩ : ∃ q, cd / P = q := ⟨_, rfl⟩
      have hqc : q ≤ cd := by rw [← hq]; exact Nat.div_le_self _ _
      obtain ⟨b, hb⟩ : ∃ b, q % 2 = b := ⟨_, rfl⟩
      have hb2 : b ≤ 1 := by omega
      have HE2 : Hid (D ++ [(b : Int)] ++ hbits cd k = T) := Lib.hid (by
        rw [← HE.out, hbits, hbit, hP, hq, hb]; simp)
      rw [hP] at C1
      have f1 : (cd : Int).tdiv (P : Int) = (q : Int) := by rw [quo_h, hq]
      have f2 : IntKind.i64.wrap (q : Int) = (q : Int) := IntWalk.i64_in _ (by omega)
      have f3 : (q : Int).tmod 2 = (b : Int) := by rw [Int.tmod_eq_emod_of_nonneg (by omega), ← hb]; simp
      have f4 : IntKind.i64.wrap (b : Int) = (b : Int) := IntWalk.i64_in _ (by omega)
      have f5 : ((P : Int) == 0) = false := by simp; omega
      have f6 : ¬ (P : Int) = 0 := by omega
      have f6n : ¬ P = 0 := by omega
      obtain ⟨E, hE⟩ : ∃ E, D ++ [(b : Int)] = E := ⟨_, rfl⟩
      have hEl : E.length = D.length + 1 := by rw [← hE]; simp
      have hT60 : E.length ≤ 60 := by
        have h1 := congrArg List.length HE2.out
        rw [List.length_append, hE, HLen.out] at h1
        omega
      rw [hE] at HE2
      have HEe := Lib.hid hE
      have HS := HB.out.size
      clear hP hq hb hE HE ek hEl
      go_wp2_with fail
      refine C1.out.mono ?_
      rintro e w2 ⟨rfl, rfl⟩
      clear C1
      go_wp2_with (at_builtin; refine wpList_pushI rfl _ _ rfl w.heap.size _ _ _ rfl HO.out (b : Int) rfl HS (by omega) _ HEe.out ?_)
      intro A4 c4 w4 ho4 hg4
      have HO4 := Lib.hid ho4
      have HB4 := Lib.hid (HB.out.trans (grown_below HO.out hg4 (Nat.le_refl _) HS))
      clear ho4 hg4 HO HB
      go_wp2
      go_roundw
      case rel => exact ⟨k, E, by omega, by first | rfl | go_num, hT60, HE2, HO4, HB4⟩
      case measure => first | (simp [intOf]; done) | (simp [intOf]; omega)

end Go.Proofs.Ytoehgcakfblblaa
