/- The program's selectOne. -/
import Derived.Test.YtoehgcakfblblaaDoorSel3
import Derived.Test.YtoehgcakfblblaaDoorRank3d
namespace Go.Proofs.YtoehgcakfblblaaDoor
open Go.RowKit
set_option maxRecDepth 100000

theorem bit_word (L : List Nat) (m a x : Nat) (hx : L[m]? = some x) (ha : a < 64) : bitN L (64 * m + a) = x / 2 ^ a % 2 := by
  unfold bitN
  rw [show (64 * m + a) / 64 = m by omega, show (64 * m + a) % 64 = a by omega, List.getD_eq_getElem?_getD, hx]
  rfl

set_option maxHeartbeats 400000 in
theorem selectOne_any (A : Option Addr) (c : Nat) (L : List Nat) (k : Nat) (w : World) (hL : Lies w U A L) (hw : ∀ x ∈ L, x < 2 ^ 64) (hl : L.length ≤ 79) (hk : k ≤ 9223372036854775807) (hT : Tab w) :
    Calls Tryd.prog 54 #[.slice A L.length c, .int .i64 k] w fun e w' =>
      ((∃ i : Nat, i < 64 * L.length ∧ bitN L i = 1 ∧ cnt L 1 i = k ∧ e = .returned (.int .i64 i)) ∨ (cnt L 1 (64 * L.length) ≤ k ∧ e = .returned (.int .i64 (-1)))) ∧ Below w.heap.size w w' := by
  have HL := Lib.hid hL
  have HW := Lib.hid hw
  have HT := Lib.hid hT
  have HF := Lib.hid fun (w' : World) (h1 : Box w' w.heap.size 79 (cells L 0)) h2 => fill_any A c L w w' hL hw hl h1 h2
  clear hL hw hT
  have hz := zc_zero
  have hzn := zc_ne
  have hzs := zc_size
  go_enter Tryd.func54, Tryd.ntmps54
  go_wp2_with fail
  refine (HF.out _ ?_ ?_).mono ?_
  · rw [cells_zero]; exact Box.made _ _ _
  · exact (Below.refl _ _).alloc (Nat.le_refl _) _
  rintro e w1 ⟨rfl, hx, hb⟩
  have HX := Lib.hid hx
  have HB := Lib.hid hb
  have hlt0 := hx.lt
  clear hx hb HF hz hzn hzs
  go_wp2
  go_loop [13] (fun i => ∃ m : Nat, m ≤ L.length ∧ i = .int .i64 m ∧ popL L m ≤ k) (fun i => L.length - (intOf i).toNat)
  case atStart => exact ⟨0, Nat.zero_le _, rfl, Nat.zero_le _⟩
  case round =>
    obtain ⟨m, hm, rfl, hpk⟩ := hrel
    by_cases hlt : m < L.length
    · obtain ⟨b, o, x, rfl, hbl, hxx, hc⟩ := (HL.out.below HB.out).at_ hlt
      have hx64 := HW.out x (List.mem_of_getElem? hxx)
      have hd0 : w1.cell? ⟨w.heap.size, m, none⟩ = some (.int .i64 (popL L m)) := (HX.out.cell m).trans (cells_get L L.length m hm (by omega))
      have hd1 : w1.cell? ⟨w.heap.size, m + 1, none⟩ = some (.int .i64 (popL L (m + 1))) := (HX.out.cell (m + 1)).trans (cells_get L L.length (m + 1) hlt (by omega))
      have hpl := popL_le L m
      have hs : popL L (m + 1) = popL L m + popN 64 x := by rw [popL, hxx]; rfl
      have hpn := popN_le 64 x
      have hm80 : (m : Int) < 80 := by omega
      have hm81 : (m : Int) + 1 < 80 := by omega
      have HXX := Lib.hid hxx
      clear hxx
      obtain ⟨p1, hp1⟩ : ∃ p1, popL L (m + 1) = p1 := ⟨_, rfl⟩
      rw [hp1] at hd1 hs
      by_cases hkp : k < p1
      · have hkd : decide ((k : Int) < (p1 : Int)) = true := decide_eq_true (by omega)
        have HP := Lib.hid hp1
        clear hp1
        have hA := HX.out.alloc (Obj.cells #[Value.int IntKind.u64 (x : Int)] 76)
        have hdA : (w1.alloc (Obj.cells #[Value.int IntKind.u64 (x : Int)] 76)).cell? ⟨w.heap.size, m, none⟩ = some (.int .i64 (popL L m)) := (hA.cell m).trans (cells_get L L.length m hm (by omega))
        have hbx := Box.made w1 76 #[Value.int IntKind.u64 (x : Int)]
        have hbA := HB.out.alloc HB.out.size (Obj.cells #[Value.int IntKind.u64 (x : Int)] 76)
        have hTA : Tab (w1.alloc (Obj.cells #[Value.int IntKind.u64 (x : Int)] 76)) := HT.out.below hbA
        have HBx := Lib.hid hbx
        have HBA := Lib.hid hbA
        have HTA := Lib.hid hTA
        have hltA := hA.lt
        clear hA hbx hbA hTA hd0
        obtain ⟨p0, hp0⟩ : ∃ p0, popL L m = p0 := ⟨_, rfl⟩
        rw [hp0] at hdA hs hpk hpl
        obtain ⟨z, hz⟩ : ∃ z, k - p0 = z := ⟨_, rfl⟩
        have hsub : (k : Int) - (p0 : Int) = (z : Int) := by omega
        have hzp : z < popN 64 x := by omega
        have HP0 := Lib.hid hp0
        have HZ := Lib.hid hz
        have HZP := Lib.hid hzp
        clear hp0 hz hzp hs
        have hd0 : w1.cell? ⟨w.heap.size, m, none⟩ = some (.int .i64 p0) := by rw [← HP0.out]; exact (HX.out.cell m).trans (cells_get L L.length m hm (by omega))
        go_wp2_with fail
        refine (nthOne_any w1.heap.size x z _ HBx.out hx64 HZP.out HTA.out (Nat.lt_of_lt_of_le HT.out.1 HB.out.size)).mono ?_
        rintro e w2 ⟨a, rfl, ha, hpa, hba, hb2⟩
        have HPA := Lib.hid hpa
        have HBI := Lib.hid ((bit_word L m a x HXX.out ha).trans hba)
        have HCN : Hid (cnt L 1 (64 * m + a) = k) := Lib.hid (by rw [cnt_word L m a (by omega), cnt_pop, HXX.out, HP0.out]; show p0 + popN a x = k; rw [hpa, ← HZ.out]; omega)
        have HB2 := Lib.hid (HBA.out.trans (hb2.mono HB.out.size))
        clear hpa hba hb2
        go_wp2
        go_ret
        exact ⟨.inl ⟨64 * m + a, by omega, HBI.out, HCN.out, ret_int (by omega)⟩, HB2.out⟩
      · have hkd : decide ((k : Int) < (p1 : Int)) = false := decide_eq_false (by omega)
        have HP := Lib.hid hp1
        have HKP : Hid (p1 ≤ k) := Lib.hid (by omega)
        clear hp1 hs hpn hpl hd0 hpk
        go_wp2
        go_round
        case rel => exact ⟨m + 1, by omega, by go_num, by rw [HP.out]; exact HKP.out⟩
        case measure => simp [intOf]; omega
    · have e : m = L.length := by omega
      subst e
      go_wp2
      go_ret
      exact ⟨.inr ⟨by rw [cnt_pop]; exact hpk, rfl⟩, HB.out⟩

end Go.Proofs.YtoehgcakfblblaaDoor
