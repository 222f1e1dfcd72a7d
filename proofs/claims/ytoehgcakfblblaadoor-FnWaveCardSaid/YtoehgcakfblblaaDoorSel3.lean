/- The program's nthOne. -/
import Derived.Test.YtoehgcakfblblaaDoorSel2
import Derived.Test.YtoehgcakfblblaaDoorFlip1
import Derived.StillTailTactics
namespace Go.Proofs.YtoehgcakfblblaaDoor
open Go.RowKit
set_option maxRecDepth 100000

set_option maxHeartbeats 400000 in
theorem nthOne_any (g x k : Nat) (w : World) (hb : Box w g 76 #[U x]) (hx : x < 2 ^ 64) (hk : k < popN 64 x) (hT : Tab w) (hg : 0 < g) :
    Calls Tryd.prog 56 #[.pointer (some ⟨g, 0, none⟩), .int .i64 k] w fun e w' => ∃ i, e = .returned (.int .i64 (i : Nat)) ∧ i < 64 ∧ popN i x = k ∧ x / 2 ^ i % 2 = 1 ∧ Below g w w' := by
  have hk64 := popN_le 64 x
  have HX := Lib.hid hb
  have HT := Lib.hid hT
  have HK := Lib.hid hk
  have hk2 : k ≤ 64 := by omega
  clear hb hT hk hk64
  go_enter Tryd.func56, Tryd.ntmps56
  go_wp2
  go_loopw [6] (fun j wr => ∃ m y : Nat, m ≤ k ∧ j = .int .i64 m ∧ Cleared x m y ∧ Box wr g 76 #[U y] ∧ Below g w wr) (fun j _ => k - (intOf j).toNat)
  case atStart => exact ⟨0, x, Nat.zero_le _, rfl, cleared_zero x, HX.out, Below.refl _ _⟩
  case round =>
    obtain ⟨m, y, hm, rfl, hcl, hb, hbl⟩ := hrel
    clear HX
    obtain ⟨hy0, hy64⟩ := cleared_some hcl hx (Nat.lt_of_le_of_lt hm HK.out)
    obtain ⟨a, q, ha, hy⟩ := odd_part 64 y hy0 hy64
    obtain ⟨h1, h2, h3⟩ := cleared_low hcl hy
    by_cases hlt : m < k
    · have hc := hb.cell 0
      have hf := hb.frozen 0
      have hl := hb.lt
      simp only [List.getElem?_toArray, List.getElem?_cons_zero] at hc
      obtain ⟨z, hz⟩ : ∃ z, 2 ^ (a + 1) * q = z := ⟨_, rfl⟩
      obtain ⟨y1, hy1⟩ : ∃ y1, y - 1 = y1 := ⟨_, rfl⟩
      have e1 : IntKind.u64.wrap ((y : Int) - 1) = (y1 : Int) := by rw [IntKind.wrap_u64]; omega
      have e2 : bits .and .u64 (y : Int) (y1 : Int) = (z : Int) := by
        rw [u64_and_nat y y1 hy64 (by omega), ← hy1, hy, and_pred, hz]
      rw [hz] at h3
      have HC := Lib.hid h3
      have HB := Lib.hid hb
      have HBl := Lib.hid hbl
      clear hcl hb hbl hy h1 h2 h3 hz hy1
      go_wp2_with fail
      go_still_tail 9, (by kernel_rfl)
      change wpList _ _ _ _ _ wr.drew
      go_wp2
      go_roundw
      case rel => exact ⟨m + 1, z, by omega, by go_num, HC.out, HB.out.put 0 (U z), (HBl.out.setCell (p := ⟨g, 0, none⟩) (Nat.le_refl _) _).drew⟩
      case measure => simp [intOf]; omega
    · have e : m = k := by omega
      subst e
      have hc := hb.cell 0
      simp only [List.getElem?_toArray, List.getElem?_cons_zero] at hc
      have hTr : Tab wr := ⟨Nat.lt_of_lt_of_le HT.out.1 hbl.size, fun i hi => (hbl.cell (p := ⟨0, deb i, none⟩) hg).trans (HT.out.2 i hi)⟩
      have HC := Lib.hid (trailing_any y a q wr hy64 hy ha hTr)
      have H1 := Lib.hid h1
      have H2 := Lib.hid h2
      have HBl := Lib.hid hbl
      clear hcl hb hbl hy h1 h2 h3 hTr
      go_wp2_with fail
      refine HC.out.mono ?_
      rintro e w2 ⟨rfl, rfl⟩
      go_wp2
      go_ret
      exact ⟨a, rfl, ha, H1.out, H2.out, HBl.out⟩

end Go.Proofs.YtoehgcakfblblaaDoor
