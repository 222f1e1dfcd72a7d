/- The specification's list of bits. -/
import Derived.Test.YtoehgcakfblblaaSpec1
namespace Go.Proofs.Ytoehgcakfblblaa
open Go.RowKit
set_option maxRecDepth 100000

set_option maxHeartbeats 400000 in
theorem list_any (n : Nat) (A : Option Addr) (c : Nat) (L : List Nat) (w : World) (hL : Lies w U A L) (hl : (n + 63) / 64 ≤ L.length) (hn : n ≤ 5000) (hm : L.length ≤ 5000) (hw : ∀ x ∈ L, x < 2 ^ 64) :
    Calls Try.prog 96 #[.agg #[.int .i64 n, .slice A L.length c]] w fun e w' => ∃ v, e = .returned v ∧
      w'.ownsRow w.heap.size 3 1 v n ((bitsOf n L).map I) ∧ Below w.heap.size w w' := by
  obtain ⟨i0, hi, hz0, hz1, hz2⟩ := info_parts Try.infoInt
  go_enter Try.func96, Try.ntmps96
  go_wp2
  generalize hW0 : w.alloc (Obj.cells #[Value.int IntKind.i64 ↑n, Value.slice A L.length c] 44) = W0
  have hs0 : W0.heap.size = w.heap.size + 1 := by rw [← hW0]; simp
  have hb0 : Below w.heap.size w W0 := by rw [← hW0]; go_grown
  have hc0 : W0.cell? ⟨w.heap.size, 0, none⟩ = some (.int .i64 n) := by rw [← hW0]; simp
  have hc1 : W0.cell? ⟨w.heap.size, 1, none⟩ = some (.slice A L.length c) := by rw [← hW0]; simp
  have hL0 := hL.below hb0
  have HS := Lib.hid hs0
  have HB := Lib.hid hb0
  have HC0 := Lib.hid hc0
  have HC1 := Lib.hid hc1
  clear hW0 hs0 hb0 hc0 hc1 hL
  go_loopw [3, 4] (fun v i wr => ∃ k : Nat, k ≤ n ∧ i = .int .i64 k ∧ wr.ownsRow W0.heap.size 3 1 v k ((bitsOf k L).map I) ∧ Below W0.heap.size W0 wr) (fun _ i _ => n - (intOf i).toNat)
  case atStart => 
    refine ⟨0, Nat.zero_le _, rfl, ?_, (Below.refl _ _).alloc (Nat.le_refl _) _⟩
    rw [← HS.out]
    exact World.ownsRow_made W0 #[] 0 (Nat.le_refl _) (by unfold maxLen; omega) rfl
  case round =>
    obtain ⟨k, hk, rfl, hown, hb⟩ := hrel
    have hd0 : wr.cell? ⟨w.heap.size, 0, none⟩ = some (.int .i64 n) := (hb.cell (p := ⟨w.heap.size, 0, none⟩) (by rw [HS.out]; simp)).trans HC0.out
    have hd1 : wr.cell? ⟨w.heap.size, 1, none⟩ = some (.slice A L.length c) := (hb.cell (p := ⟨w.heap.size, 1, none⟩) (by rw [HS.out]; simp)).trans HC1.out
    by_cases hlt : k < n
    · obtain ⟨b, o, x, rfl, hbl, hx, hc⟩ := hL0.at_ (i := k / 64) (by omega)
      have hc' : wr.cell? ⟨b, o + k / 64, none⟩ = some (.int .u64 x) := (hb.cell (p := ⟨b, o + k / 64, none⟩) hbl).trans hc
      have hxl : x < 18446744073709551616 := hw x (List.mem_of_getElem? hx)
      have HX := Lib.hid hx
      clear hx hc hw
      go_wp2
      go_loop [5, 6] (fun p j => ∃ q m : Nat, m ≤ k % 64 ∧ q ≤ x ∧ j = .int .i64 m ∧ p = .int .u64 q ∧ Hid (q / 2 ^ m = x / 2 ^ (k % 64))) (fun _ j => (intOf j).toNat)
      case atStart => exact ⟨x, k % 64, Nat.le_refl _, Nat.le_refl _, by go_num, rfl, Lib.hid rfl⟩
      case round =>
        obtain ⟨q, m, hm, hqx, rfl, rfl, hq⟩ := hrel
        rcases Nat.eq_zero_or_pos m with h0 | h0
        · subst h0
          have HN := Lib.hid hown
          have HB1 := Lib.hid hb
          clear hown hb
          go_wp2_with (at_builtin; refine wpList_append_own _ rfl _ _ 24 rfl W0.heap.size 3 i0 (.int .i64 0) 1 8 Try.underlying24 hi hz0 hz1 hz2 rfl (by decide) _ _ _ rfl (HN.out.alloc _) ⟨wr.heap.size, 0, none⟩ 1 1 [.int .i64 ((q : Int) % 2)] rfl rfl (cell_one_new _ _ _) (ints_oneCell .i64 [_]) (by unfold maxLen; omega) (by omega) (by have := HB1.out.size; simp; omega) ?_)
          intro v' w1 hown' hgrow _
          have HO := Lib.hid hown'
          have HG := Lib.hid hgrow
          clear hown' hgrow
          go_wp2
          go_roundw
          case rel =>
            refine ⟨k + 1, by omega, by go_num, ?_, ?_⟩
            · have e : bitN L k = q % 2 := by
                have h := hq.out
                rw [Nat.pow_zero, Nat.div_one] at h
                unfold bitN
                rw [List.getD_eq_getElem?_getD, HX.out, Option.getD_some, h]
              rw [bitsOf_succ, List.map_append, e]
              exact HO.out
            · exact HB1.out.trans (((Below.refl _ _).alloc HB1.out.size _).grown HG.out (by have := HB1.out.size; simp; omega) (fun g hg => (HN.out.lt g hg).1))
          case measure => simp [intOf]; omega
        · obtain ⟨m, rfl⟩ : ∃ m', m = m' + 1 := ⟨m - 1, by omega⟩
          go_wp2
          go_round
          case rel => exact ⟨q / 2, m, by omega, by omega, by go_num, by go_num, Lib.hid (by rw [← hq.out, Nat.pow_succ, Nat.mul_comm, Nat.div_div_eq_div_mul])⟩
          case measure => simp [intOf]
    · go_wp2
      go_ret
      have e : k = n := by omega
      subst e
      exact ⟨_, rfl, own_mono hown (by rw [HS.out]; omega), HB.out.trans (hb.mono (by rw [HS.out]; omega))⟩

end Go.Proofs.Ytoehgcakfblblaa
