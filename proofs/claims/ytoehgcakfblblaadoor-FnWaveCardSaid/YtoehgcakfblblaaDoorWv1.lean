/- The levels of a wavelet matrix as they lie, and the small functions of one level. -/
import Derived.Test.YtoehgcakfblblaaDoorWvMath2
import Derived.Test.YtoehgcakfblblaaDoorRank4d
import Derived.Deep.RegionHeld3
namespace Go.Proofs.YtoehgcakfblblaaDoor
open Go.RowKit
set_option maxRecDepth 100000

theorem bit_form (x r : Nat) (hx : x < 2 ^ 62) : bits .and .i64 ((x : Int) / 2 ^ r) 1 = ((x / 2 ^ r % 2 : Nat) : Int) := by
  have hq : x / 2 ^ r < 2 ^ 62 := Nat.lt_of_le_of_lt (Nat.div_le_self _ _) hx
  rw [show (x : Int) / 2 ^ r = ((x / 2 ^ r : Nat) : Int) by simp]
  generalize x / 2 ^ r = a at *
  have e : (a : Int).toNat % 2 ^ 64 = a := by rw [Int.toNat_natCast]; exact Nat.mod_eq_of_lt (by omega)
  have h : bits .and .i64 (a : Int) 1 = IntKind.i64.wrap (((a : Int) % 2 ^ 64).toNat &&& ((1 : Int) % 2 ^ 64).toNat : Nat) := rfl
  rw [h, show (a : Int) % 2 ^ 64 = (a : Int) by omega, show (1 : Int) % 2 ^ 64 = ((1 : Nat) : Int) by decide, Int.toNat_natCast, Int.toNat_natCast, nat_mask1]
  exact IntWalk.i64_in _ (by omega)
theorem run_shr_i64 {P : Program} (t : TypeId) (x r : Nat) (hr : r ≤ 64) (W : World) : (binOp .shr t (.int .i64 (x : Int)) (.int .i64 (r : Int))).run P W = .ok (.int .i64 ((x / 2 ^ r : Nat) : Int)) W := by
  have h : min r 64 = r := by omega
  simp [binOp, Op.shift, IntKind.bits, h]

/-- A level as it lies: its number of bits, and where its words are. -/
structure LvA where
  K : Int
  A : Option Addr
  c : Nat
  L : List Nat
abbrev LvA.val (p : LvA) : Int × List Nat := (p.K, p.L)
abbrev LvA.body (p : LvA) : Value := .slice p.A p.L.length p.c

/-- What a level's words must be for Rank. -/
structure LvOk (w : World) (n : Nat) (p : LvA) : Prop where
  lies : Lies w U p.A p.L
  word : ∀ x ∈ p.L, x < 2 ^ 64
  ok : okB n p.L = true
  cap : p.L.length ≤ p.c ∧ p.c ≤ 9223372036854775807
theorem LvOk.below {w w' : World} {n : Nat} {p : LvA} (h : LvOk w n p) (hb : Below w.heap.size w w') : LvOk w' n p := ⟨h.lies.below hb, h.word, h.ok, h.cap⟩

/-- One level lies at an address: its bits, and its number of zeros. -/
structure LvAt (w : World) (g o n : Nat) (p : LvA) : Prop where
  c0 : w.cell? ⟨g, o, none⟩ = some (.int .i64 n)
  c1 : w.cell? ⟨g, o + 1, none⟩ = some p.body
  c2 : w.cell? ⟨g, o + 2, none⟩ = some (.int .i64 (cnt p.L 0 n))
  lt : g < w.heap.size
theorem LvAt.below {w w' : World} {g o n : Nat} {p : LvA} (h : LvAt w g o n p) (hb : Below w.heap.size w w') : LvAt w' g o n p :=
  ⟨(hb.cell (p := ⟨g, o, none⟩) h.lt).trans h.c0, (hb.cell (p := ⟨g, o + 1, none⟩) h.lt).trans h.c1, (hb.cell (p := ⟨g, o + 2, none⟩) h.lt).trans h.c2, Nat.lt_of_lt_of_le h.lt hb.size⟩

theorem bit_val (n : Nat) (L : List Nat) (b i : Nat) (hb : b < 2) (hn : okB n L = true) (hi : i ≤ n) : rankV n L (b : Int) (i : Int) = (cnt L (b : Int) i : Int) := by
  unfold rankV
  rw [if_pos ⟨hn, by omega, by omega, by omega⟩, Int.toNat_natCast]

set_option maxHeartbeats 800000 in
theorem waveBit_any (x k : Nat) (w : World) (hx : x < 2 ^ 62) (hk : k ≤ 8) :
    Calls Tryd.prog 35 #[.int .i64 x, .int .i64 k] w fun e w' => e = .returned (.int .i64 ((x / 2 ^ (8 - k) % 2 : Nat) : Int)) ∧ w = w' := by
  obtain ⟨r, hr⟩ : ∃ r, 8 - k = r := ⟨_, rfl⟩
  have e1 : IntKind.i64.wrap (8 - (k : Int)) = (r : Int) := by rw [IntWalk.i64_in _ (by omega)]; omega
  have e2 : 8 - (k : Int) = (r : Int) := by omega
  rw [hr]
  have hr8 : r ≤ 8 := by omega
  have HD := Lib.hid (bit_form x r hx)
  have hs := fun W => run_shr_i64 (P := Tryd.prog) 3 x r (by omega) W
  clear hr
  go_enter Tryd.func35, Tryd.ntmps35
  go_wp2
  go_ret
  exact ⟨ret_int HD.out, rfl⟩

set_option maxHeartbeats 1600000 in
theorem down_any (g o n b i : Nat) (p : LvA) (w : World) (h : LvAt w g o n p) (hp : LvOk w n p) (hb : b < 2) (hi : i ≤ n) (hn : n ≤ 1000) :
    Calls Tryd.prog 43 #[.pointer (some ⟨g, o, none⟩), .int .i64 b, .int .i64 i] w fun e w' => e = .returned (.int .i64 (dn n p.L b i)) ∧ Below w.heap.size w w' := by
  obtain ⟨z, hz⟩ : ∃ z, cnt p.L 0 n = z := ⟨_, rfl⟩
  have hzn : z ≤ n := by rw [← hz]; exact cnt_le _ _ _
  obtain ⟨r, hr⟩ : ∃ r, cnt p.L (b : Int) i = r := ⟨_, rfl⟩
  have hri : r ≤ i := by rw [← hr]; exact cnt_le _ _ _
  have HD : Hid (dn n p.L b i = b * z + r) := Lib.hid (by unfold dn; rw [hz, hr])
  have CR := Lib.hid fun (W : World) (hW : Below w.heap.size w W) => implRank_any (n : Int) p.A p.c p.L (b : Int) (i : Int) W (hp.lies.below hW) hp.word hp.cap.1 hp.cap.2
  rw [bit_val n p.L b i hb hp.ok hi, hr] at CR
  have HL := Lib.hid fun (W : World) (hW : Below w.heap.size w W) => h.below hW
  obtain ⟨c0, c1, c2, hl⟩ := h
  unfold LvA.body at c1
  rw [hz] at c2
  obtain ⟨m, hm⟩ : ∃ m, b * z = m := ⟨_, rfl⟩
  have hm1 : m ≤ 1000 := by
    rcases (show b = 0 ∨ b = 1 by omega) with rfl | rfl <;> omega
  rw [hm] at HD
  have e1 : IntKind.i64.wrap ((b : Int) * (z : Int)) = (m : Int) := by rw [show (b : Int) * (z : Int) = (m : Int) by rw [← hm]; simp]; exact IntWalk.i64_in _ (by omega)
  have e2 : (b : Int) * (z : Int) = (m : Int) := by rw [← hm]; simp
  have e3 : IntKind.i64.wrap (IntKind.i64.wrap (m : Int) + (r : Int)) = (m : Int) + (r : Int) := by rw [IntWalk.i64_in (m : Int) (by omega)]; exact IntWalk.i64_in _ (by omega)
  have HB := Lib.hid (Below.refl w.heap.size w)
  have HZ := Lib.hid hz
  clear hz hr hp hm
  go_enter Tryd.func43, Tryd.ntmps43
  go_wp2
  go_region_held3 (fun w' => w'.cell? ⟨g, o, none⟩ = some (.int .i64 n) ∧ w'.cell? ⟨g, o + 1, none⟩ = some (.slice p.A p.L.length p.c) ∧ w'.cell? ⟨g, o + 2, none⟩ = some (.int .i64 z)) (first | (go_keep; done) | (refine ⟨?_, ?_, ?_⟩ <;> assumption)) (first | (go_at_call 26; refine Calls.mono (CR.out _ (HB.out.drew)) ?_; rintro e w5 ⟨rfl, hb5⟩; have HB5 := Lib.hid (below_then HB.out.drew hb5); clear hb5; obtain ⟨d0, d1, d2, _⟩ := HL.out _ HB5.out; unfold LvA.body at d1; rw [HZ.out] at d2))
  all_goals go_wp2
  all_goals go_ret
  all_goals exact ⟨ret_int (by rw [HD.out]; simp), HB5.out⟩

end Go.Proofs.YtoehgcakfblblaaDoor
