import Derived.Test.YtlbnngolcoefdaaDoorSelMath2
import Derived.Test.YtlbnngolcoefdaaDoorNewB
import Derived.Test.YtlbnngolcoefdaaDoorStage
import Derived.Test.YtlbnngolcoefdaaDoorImpl2
import Derived.Test.YtlbnngolcoefdaaDoorMem3
import Derived.Test.YtlbnngolcoefdaaDoorFlip1
import Derived.StillTailTactics
import Derived.Test.YtlbnngolcoefdaaDoorRank3d
/- The specification's Select. -/
namespace Go.Proofs.YtlbnngolcoefdaaDoor
open Go.RowKit
set_option maxRecDepth 100000

theorem list_new2 (n : Nat) (A : Option Addr) (c : Nat) (L : List Nat) (w : World) (hL : Lies w U A L) (hl : L.length = (n + 63) / 64) (hn : n ≤ 5000) (hw : ∀ x ∈ L, x < 2 ^ 64) :
    Calls Tryd.prog 135 #[.agg #[.int .i64 n, .slice A L.length c]] w fun e w' => ∃ A' c', e = .returned (.slice A' n c') ∧ w'.ownsRow w.heap.size 3 1 (.slice A' n c') n ((bitsOf n L).map I) ∧ Below w.heap.size w w' :=
  (list_any n A c L w hL (by omega) hn (by omega) hw).mono fun e w' h => by
    obtain ⟨v, he, ho, hb⟩ := h
    obtain ⟨A', c', rfl⟩ := own_slice ho
    exact ⟨A', c', he, ho, hb⟩

/-- The answer of Select as a number. -/
def selI (L : List Nat) (b : Int) (n k : Nat) : Int := match selN L b n k with | some i => (i : Int) | none => -1
theorem selI_some (L : List Nat) (b : Int) (n k i : Nat) (hi : i < n) (hb : (bitN L i : Int) = b) (hc : cnt L b i = k) : selI L b n k = i := by unfold selI; rw [selN_some L b n k i hi hb hc]
theorem selI_none (L : List Nat) (b : Int) (n k : Nat) (h : cnt L b n ≤ k) : selI L b n k = -1 := by unfold selI; rw [selN_none L b n k h]

end Go.Proofs.YtlbnngolcoefdaaDoor

/- The program's TrailingZeros64, where the table of math/bits lies as its text lays it. -/
namespace Go.Proofs.YtlbnngolcoefdaaDoor
open Go.RowKit
set_option maxRecDepth 100000

/-- The place of 2^i in the table. -/
def deb (i : Nat) : Nat := 2 ^ i * 285870213051353865 % 2 ^ 64 / 2 ^ 58
theorem deb_lt (i : Nat) : deb i < 64 := by
  unfold deb
  have := Nat.mod_lt (2 ^ i * 285870213051353865) (show 0 < 2 ^ 64 by decide)
  omega
/-- The table lies in the first block. -/
def Tab (w : World) : Prop := 1 < w.heap.size ∧ ∀ i, i < 64 → w.cell? ⟨1, deb i, none⟩ = some (.int .u8 i)
theorem Tab.below {w w' : World} (h : Tab w) (hb : Below w.heap.size w w') : Tab w' :=
  ⟨Nat.lt_of_lt_of_le h.1 hb.size, fun i hi => (hb.cell (p := ⟨1, deb i, none⟩) h.1).trans (h.2 i hi)⟩

set_option maxHeartbeats 400000 in
theorem trailing_any (x i q : Nat) (w : World) (hx : x < 2 ^ 64) (he : x = 2 ^ (i + 1) * q + 2 ^ i) (hi : i < 64) (hT : Tab w) :
    Calls Tryd.prog 139 #[U x] w fun e w' => e = .returned (.int .i64 i) ∧ w = w' := by
  have hp := Nat.two_pow_pos i
  have h0 : 0 < x := by omega
  have t0 : ((x : Int) == 0) = false := by rw [beq_eq_false_iff_ne]; omega
  obtain ⟨y, hy⟩ : ∃ y, 2 ^ 64 - x = y := ⟨_, rfl⟩
  have e1 : IntKind.u64.wrap (-(x : Int)) = (y : Int) := by rw [IntKind.wrap_u64]; omega
  have e2 : bits .and .u64 (x : Int) (y : Int) = ((2 ^ i : Nat) : Int) := by
    rw [u64_and_nat x y hx (by omega), ← hy, he, and_neg 64 i q hi (by rw [← he]; exact hx)]
  obtain ⟨p, hpp⟩ : ∃ p, 2 ^ i = p := ⟨_, rfl⟩
  rw [hpp] at e2
  obtain ⟨m, hm⟩ : ∃ m, p * 285870213051353865 % 2 ^ 64 = m := ⟨_, rfl⟩
  have e3 : IntKind.u64.wrap ((p : Int) * 285870213051353865) = (m : Int) := by rw [IntKind.wrap_u64]; omega
  obtain ⟨d, hd⟩ : ∃ d, deb i = d := ⟨_, rfl⟩
  have e4 : (m : Int) / 288230376151711744 = (d : Int) := by
    have : m / 2 ^ 58 = d := by rw [← hm, ← hpp]; exact hd
    omega
  have hd64 : (d : Int) < 64 := by have := deb_lt i; omega
  have hc := hT.2 i hi
  rw [hd] at hc
  clear he hp hy hpp hm hd hT
  go_enter Tryd.func139, Tryd.ntmps139
  go_wp2
  go_ret
  exact ⟨rfl, rfl⟩

end Go.Proofs.YtlbnngolcoefdaaDoor

/- The program's nthOne. -/
namespace Go.Proofs.YtlbnngolcoefdaaDoor
open Go.RowKit
set_option maxRecDepth 100000

set_option maxHeartbeats 400000 in
theorem nthOne_any (g x k : Nat) (w : World) (hb : Box w g 143 #[U x]) (hx : x < 2 ^ 64) (hk : k < popN 64 x) (hT : Tab w) (hg : 1 < g) :
    Calls Tryd.prog 127 #[.pointer (some ⟨g, 0, none⟩), .int .i64 k] w fun e w' => ∃ i, e = .returned (.int .i64 (i : Nat)) ∧ i < 64 ∧ popN i x = k ∧ x / 2 ^ i % 2 = 1 ∧ Below g w w' := by
  have hk64 := popN_le 64 x
  have HX := Lib.hid hb
  have HT := Lib.hid hT
  have HK := Lib.hid hk
  have hk2 : k ≤ 64 := by omega
  clear hb hT hk hk64
  go_enter Tryd.func127, Tryd.ntmps127
  go_wp2
  go_loopw [6] (fun j wr => ∃ m y : Nat, m ≤ k ∧ j = .int .i64 m ∧ Cleared x m y ∧ Box wr g 143 #[U y] ∧ Below g w wr) (fun j _ => k - (intOf j).toNat)
  case atStart => exact ⟨0, x, Nat.zero_le _, rfl, cleared_zero x, HX.out, Below.refl _ _⟩
  case round =>
    obtain ⟨m, y, hm, rfl, hcl, hb, hbl⟩ := hrel
    clear HX
    obtain ⟨hy0, hy64⟩ := cleared_some hcl hx (Nat.lt_of_le_of_lt hm HK.out)
    obtain ⟨a, q, ha, hy⟩ := odd_part 64 y hy0 hy64
    obtain ⟨h1, h2, h3⟩ := cleared_low hcl hy
    by_cases hlt : m < k
    · have hc := hb.cell 0
      have hf := hb.frozen 0
      have hl := hb.lt
      simp only [List.getElem?_toArray, List.getElem?_cons_zero] at hc
      obtain ⟨z, hz⟩ : ∃ z, 2 ^ (a + 1) * q = z := ⟨_, rfl⟩
      obtain ⟨y1, hy1⟩ : ∃ y1, y - 1 = y1 := ⟨_, rfl⟩
      have e1 : IntKind.u64.wrap ((y : Int) - 1) = (y1 : Int) := by rw [IntKind.wrap_u64]; omega
      have e2 : bits .and .u64 (y : Int) (y1 : Int) = (z : Int) := by
        rw [u64_and_nat y y1 hy64 (by omega), ← hy1, hy, and_pred, hz]
      rw [hz] at h3
      have HC := Lib.hid h3
      have HB := Lib.hid hb
      have HBl := Lib.hid hbl
      clear hcl hb hbl hy h1 h2 h3 hz hy1
      go_wp2_with fail
      go_still_tail 9, (by kernel_rfl)
      change wpList _ _ _ _ _ wr.drew
      go_wp2
      go_roundw
      case rel => exact ⟨m + 1, z, by omega, by go_num, HC.out, HB.out.put 0 (U z), (HBl.out.setCell (p := ⟨g, 0, none⟩) (Nat.le_refl _) _).drew⟩
      case measure => simp [intOf]; omega
    · have e : m = k := by omega
      subst e
      have hc := hb.cell 0
      simp only [List.getElem?_toArray, List.getElem?_cons_zero] at hc
      have hTr : Tab wr := ⟨Nat.lt_of_lt_of_le HT.out.1 hbl.size, fun i hi => (hbl.cell (p := ⟨1, deb i, none⟩) hg).trans (HT.out.2 i hi)⟩
      have HC := Lib.hid (trailing_any y a q wr hy64 hy ha hTr)
      have H1 := Lib.hid h1
      have H2 := Lib.hid h2
      have HBl := Lib.hid hbl
      clear hcl hb hbl hy h1 h2 h3 hTr
      go_wp2_with fail
      refine HC.out.mono ?_
      rintro e w2 ⟨rfl, rfl⟩
      go_wp2
      go_ret
      exact ⟨a, rfl, ha, H1.out, H2.out, HBl.out⟩

end Go.Proofs.YtlbnngolcoefdaaDoor

/- The program's selectOne. -/
namespace Go.Proofs.YtlbnngolcoefdaaDoor
open Go.RowKit
set_option maxRecDepth 100000

theorem bit_word (L : List Nat) (m a x : Nat) (hx : L[m]? = some x) (ha : a < 64) : bitN L (64 * m + a) = x / 2 ^ a % 2 := by
  unfold bitN
  rw [show (64 * m + a) / 64 = m by omega, show (64 * m + a) % 64 = a by omega, List.getD_eq_getElem?_getD, hx]
  rfl

set_option maxHeartbeats 400000 in
theorem selectOne_any (A : Option Addr) (c : Nat) (L : List Nat) (k : Nat) (w : World) (hL : Lies w U A L) (hw : ∀ x ∈ L, x < 2 ^ 64) (hl : L.length ≤ 79) (hk : k ≤ 9223372036854775807) (hT : Tab w) :
    Calls Tryd.prog 103 #[.slice A L.length c, .int .i64 k] w fun e w' =>
      ((∃ i : Nat, i < 64 * L.length ∧ bitN L i = 1 ∧ cnt L 1 i = k ∧ e = .returned (.int .i64 i)) ∨ (cnt L 1 (64 * L.length) ≤ k ∧ e = .returned (.int .i64 (-1)))) ∧ Below w.heap.size w w' := by
  have HL := Lib.hid hL
  have HW := Lib.hid hw
  have HT := Lib.hid hT
  have HF := Lib.hid fun (w' : World) (h1 : Box w' w.heap.size 147 (cells L 0)) h2 => fill_any A c L w w' hL hw hl h1 h2
  clear hL hw hT
  have hz := zc_zero
  have hzn := zc_ne
  have hzs := zc_size
  go_enter Tryd.func103, Tryd.ntmps103
  go_wp2_with fail
  refine (HF.out _ ?_ ?_).mono ?_
  · rw [cells_zero]; exact Box.made _ _ _
  · exact (Below.refl _ _).alloc (Nat.le_refl _) _
  rintro e w1 ⟨rfl, hx, hb⟩
  have HX := Lib.hid hx
  have HB := Lib.hid hb
  have hlt0 := hx.lt
  clear hx hb HF hz hzn hzs
  go_wp2
  go_loop [13] (fun i => ∃ m : Nat, m ≤ L.length ∧ i = .int .i64 m ∧ popL L m ≤ k) (fun i => L.length - (intOf i).toNat)
  case atStart => exact ⟨0, Nat.zero_le _, rfl, Nat.zero_le _⟩
  case round =>
    obtain ⟨m, hm, rfl, hpk⟩ := hrel
    by_cases hlt : m < L.length
    · obtain ⟨b, o, x, rfl, hbl, hxx, hc⟩ := (HL.out.below HB.out).at_ hlt
      have hx64 := HW.out x (List.mem_of_getElem? hxx)
      have hd0 : w1.cell? ⟨w.heap.size, m, none⟩ = some (.int .i64 (popL L m)) := (HX.out.cell m).trans (cells_get L L.length m hm (by omega))
      have hd1 : w1.cell? ⟨w.heap.size, m + 1, none⟩ = some (.int .i64 (popL L (m + 1))) := (HX.out.cell (m + 1)).trans (cells_get L L.length (m + 1) hlt (by omega))
      have hpl := popL_le L m
      have hs : popL L (m + 1) = popL L m + popN 64 x := by rw [popL, hxx]; rfl
      have hpn := popN_le 64 x
      have hm80 : (m : Int) < 80 := by omega
      have hm81 : (m : Int) + 1 < 80 := by omega
      have HXX := Lib.hid hxx
      clear hxx
      obtain ⟨p1, hp1⟩ : ∃ p1, popL L (m + 1) = p1 := ⟨_, rfl⟩
      rw [hp1] at hd1 hs
      by_cases hkp : k < p1
      · have hkd : decide ((k : Int) < (p1 : Int)) = true := decide_eq_true (by omega)
        have HP := Lib.hid hp1
        clear hp1
        have hA := HX.out.alloc (Obj.cells #[Value.int IntKind.u64 (x : Int)] 143)
        have hdA : (w1.alloc (Obj.cells #[Value.int IntKind.u64 (x : Int)] 143)).cell? ⟨w.heap.size, m, none⟩ = some (.int .i64 (popL L m)) := (hA.cell m).trans (cells_get L L.length m hm (by omega))
        have hbx := Box.made w1 143 #[Value.int IntKind.u64 (x : Int)]
        have hbA := HB.out.alloc HB.out.size (Obj.cells #[Value.int IntKind.u64 (x : Int)] 143)
        have hTA : Tab (w1.alloc (Obj.cells #[Value.int IntKind.u64 (x : Int)] 143)) := HT.out.below hbA
        have HBx := Lib.hid hbx
        have HBA := Lib.hid hbA
        have HTA := Lib.hid hTA
        have hltA := hA.lt
        clear hA hbx hbA hTA hd0
        obtain ⟨p0, hp0⟩ : ∃ p0, popL L m = p0 := ⟨_, rfl⟩
        rw [hp0] at hdA hs hpk hpl
        obtain ⟨z, hz⟩ : ∃ z, k - p0 = z := ⟨_, rfl⟩
        have hsub : (k : Int) - (p0 : Int) = (z : Int) := by omega
        have hzp : z < popN 64 x := by omega
        have HP0 := Lib.hid hp0
        have HZ := Lib.hid hz
        have HZP := Lib.hid hzp
        clear hp0 hz hzp hs
        have hd0 : w1.cell? ⟨w.heap.size, m, none⟩ = some (.int .i64 p0) := by rw [← HP0.out]; exact (HX.out.cell m).trans (cells_get L L.length m hm (by omega))
        go_wp2_with fail
        refine (nthOne_any w1.heap.size x z _ HBx.out hx64 HZP.out HTA.out (Nat.lt_of_lt_of_le HT.out.1 HB.out.size)).mono ?_
        rintro e w2 ⟨a, rfl, ha, hpa, hba, hb2⟩
        have HPA := Lib.hid hpa
        have HBI := Lib.hid ((bit_word L m a x HXX.out ha).trans hba)
        have HCN : Hid (cnt L 1 (64 * m + a) = k) := Lib.hid (by rw [cnt_word L m a (by omega), cnt_pop, HXX.out, HP0.out]; show p0 + popN a x = k; rw [hpa, ← HZ.out]; omega)
        have HB2 := Lib.hid (HBA.out.trans (hb2.mono HB.out.size))
        clear hpa hba hb2
        go_wp2
        go_ret
        exact ⟨.inl ⟨64 * m + a, by omega, HBI.out, HCN.out, ret_int (by omega)⟩, HB2.out⟩
      · have hkd : decide ((k : Int) < (p1 : Int)) = false := decide_eq_false (by omega)
        have HP := Lib.hid hp1
        have HKP : Hid (p1 ≤ k) := Lib.hid (by omega)
        clear hp1 hs hpn hpl hd0 hpk
        go_wp2
        go_round
        case rel => exact ⟨m + 1, by omega, by go_num, by rw [HP.out]; exact HKP.out⟩
        case measure => simp [intOf]; omega
    · have e : m = L.length := by omega
      subst e
      go_wp2
      go_ret
      exact ⟨.inr ⟨by rw [cnt_pop]; exact hpk, rfl⟩, HB.out⟩

end Go.Proofs.YtlbnngolcoefdaaDoor
