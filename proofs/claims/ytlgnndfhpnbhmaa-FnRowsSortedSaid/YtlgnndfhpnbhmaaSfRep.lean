/- slices.Repeat of one number. -/
import Derived.Test.YtlgnndfhpnbhmaaShelf5
import Derived.Test.YtlgnndfhpnbhmaaNewI
import Derived.Test.YtlgnndfhpnbhmaaSlCut
import Derived.Laws.CopyOwn
import Derived.Deep.RegionLaw
namespace Go.Proofs.Ytlgnndfhpnbhmaa
open Go.RowKit
set_option maxRecDepth 100000

/-- What the new slice holds when k places are filled. -/
def repK (y : Int) (n k : Nat) : List Value := (List.replicate k y).map I ++ List.replicate (n - k) (I 0)
theorem repK_zero (y : Int) (n : Nat) : repK y n 0 = List.replicate n (I 0) := by simp [repK]
theorem repK_all (y : Int) (n : Nat) : repK y n n = (List.replicate n y).map I := by simp [repK]
theorem repK_len (y : Int) (n k : Nat) (h : k ≤ n) : (repK y n k).length = n := by simp [repK]; omega
theorem repK_splice (y : Int) (n k m : Nat) (h : k + m ≤ n) : splice (repK y n k) k ((List.replicate m y).map I) = repK y n (k + m) := by
  have e1 : ((List.replicate k y).map I).length = k := by simp
  unfold splice repK
  rw [List.take_left' e1, List.drop_append, List.drop_of_length_le (by simp), List.nil_append]
  simp only [List.length_map, List.length_replicate, List.drop_replicate]
  rw [← List.append_assoc, ← List.map_append, List.replicate_append_replicate]
  congr 2
  omega
theorem repK_get (y : Int) (n k j : Nat) (h : j < k) : (repK y n k)[j]? = some (I y) := by
  unfold repK
  rw [List.getElem?_append_left (by simp; omega)]
  simp [h]

theorem Try.sizeOneInt : (Try.prog.info? 3).map (·.size) = some 1 := by
  obtain ⟨i0, hi, hz0, hz1, hz2⟩ := info_parts Try.infoInt
  rw [hi, Option.map_some, hz1]

theorem row_of_heap {w : World} {g n : Nat} {base : Nat} {xs : List Value} (h : w.heap[g]? = some (.cells xs.toArray 3 (0, 0))) (hb : base ≤ g) (hn : xs.length = n) (hl : n ≤ 1000000) :
    w.ownsRow base 3 1 (.slice (some ⟨g, 0, none⟩) n n) n xs := by
  refine ⟨by simpa using hn, .inr ⟨g, n, xs.toArray, rfl, hb, h, ?_⟩⟩
  refine ⟨Nat.le_refl _, by unfold maxLen; omega, ?_⟩
  exact ⟨by simpa using hn, by rw [Nat.mul_one]; exact List.take_of_length_le (by simp; omega)⟩

theorem repMul (n : Nat) (hn : n ≤ 1000000) (W : World) : Calls Try.prog 66 #[.int .u64 1, .int .u64 n] W fun e w' => e = .returned (.tuple #[.int .u64 0, .int .u64 n]) ∧ w' = W :=
  (Try.bits_Mul 1 n (by decide) (by omega) W).mono fun e w' h => ⟨by
    have h1 : 1 * n / 18446744073709551616 = 0 := by omega
    have h2 : 1 * n % 18446744073709551616 = n := by omega
    rw [h.1, h1, h2]
    rfl, h.2⟩

set_option maxHeartbeats 1600000 in
theorem repeatI (A : Option Addr) (c : Nat) (y : Int) (n : Nat) (w : World) (hL : Lies w I A [y]) (hn : n ≤ 1000000) :
    Calls Try.prog 46 #[.slice A 1 c, .int .i64 n] w (NewI w (List.replicate n y)) := by
  have hmk := fun W => run_make_row' (P := Try.prog) 25 3 (.int .i64 0) 8 Try.underlying25 Try.infoInt rfl .i64 .i64 n (by omega) (by omega) W
  have w1 : IntKind.u64.wrap (n : Int) = (n : Int) := IntWalk.u64_in _ (by omega)
  have w2 : IntKind.i64.wrap (n : Int) = (n : Int) := IntWalk.i64_in _ (by omega)
  have HM := Lib.hid (repMul n hn)
  obtain ⟨b, o, x, rfl, hbl, hx, hc⟩ := hL.at_ (i := 0) (by simp)
  obtain rfl : y = x := by simpa using hx
  clear hx hL
  go_enter Try.func46, Try.ntmps46
  go_wp2_with fail
  refine (HM.out _).mono ?_
  rintro e W1 ⟨rfl, rfl⟩
  obtain ⟨k0, hk0⟩ : ∃ k0, min 1 n = k0 := ⟨_, rfl⟩
  obtain ⟨X, hX⟩ : ∃ X, X = (List.replicate k0 y).map I := ⟨_, rfl⟩
  have HXl : Hid (X.length = k0) := Lib.hid (by rw [hX]; simp)
  have HX := Lib.hid hX
  have HX1 : Hid (∀ v ∈ X, v.oneCell' = true) := Lib.hid (by rw [hX]; intro v hv; obtain ⟨x, _, rfl⟩ := List.mem_map.1 hv; rfl)
  have HRow : Hid ((W1.alloc (Obj.cells (madeCells #[Value.int .i64 0] n) 3)).heap[W1.heap.size]? = some (.cells (repK y n 0).toArray 3 (0, 0))) := Lib.hid (by
    rw [repK_zero, ← toList_madeCells_one, Array.toArray_toList]
    exact heap_alloc_new W1 _)
  have HB0 := Lib.hid ((Below.refl W1.heap.size W1).alloc (Nat.le_refl _) (Obj.cells (madeCells #[Value.int .i64 0] n) 3))
  have HSrc : Hid (∀ j v, X[j]? = some v → (W1.alloc (Obj.cells (madeCells #[Value.int .i64 0] n) 3)).cell? ((⟨b, o, none⟩ : Addr).add j) = some v) := Lib.hid (by
    intro j v hv
    have hj : j < X.length := (List.getElem?_eq_some_iff.1 hv).1
    rw [HXl.out] at hj
    obtain rfl : j = 0 := by omega
    rw [hX] at hv
    have h1 : v = I y := by
      rw [List.getElem?_map, List.getElem?_replicate, if_pos (by omega)] at hv
      exact (Option.some.inj hv).symm
    rw [h1]
    have ha : (⟨b, o, none⟩ : Addr).add 0 = ⟨b, o + 0, none⟩ := by unfold Addr.add; split <;> simp_all
    rw [ha]
    exact (HB0.out.cell (p := ⟨b, o + 0, none⟩) hbl).trans hc)
  clear hX hc
  go_wp2_with ((with_reducible show wpList _ _ _ (⟨some 33, _, _, _, _, _⟩ :: _) _ _); with_reducible refine Hid.out ?_)
  refine Lib.hid ?_
  refine wpList_copy_splice ?_ (.tmp 31) (.tmp 32) 25 25 ?_ 3 Try.underlying25 Try.sizeOneInt (some ⟨W1.heap.size, 0, none⟩) (some ⟨b, o, none⟩) n n 1 c ?_ ?_ W1.heap.size 0 (repK y n 0) 3 HRow.out X ?_ (fun h => ⟨rfl, _, rfl, HSrc.out⟩) ?_ HX1.out W1.heap.size W1 HB0.out (Nat.le_refl _) ?_
  · rfl
  · rfl
  · rfl
  · rfl
  · rw [HXl.out, ← hk0]
  · rw [HXl.out, repK_len _ _ _ (Nat.zero_le _)]; omega
  intro w3 h3 hb3
  rw [HXl.out]
  have H3 : Hid (w3.heap[W1.heap.size]? = some (.cells (repK y n k0).toArray 3 (0, 0))) := Lib.hid (by
    have := h3.out
    rw [HX.out, repK_splice y n 0 k0 (by omega), Nat.zero_add] at this
    exact this)
  have HB3 := Lib.hid hb3
  clear h3 hb3 HSrc HX1 HX HXl HB0 HRow hmk
  obtain ⟨g, hg⟩ : ∃ g, W1.heap.size = g := ⟨_, rfl⟩
  have hg0 : W1.heap.size ≤ g := by omega
  rw [hg] at H3 HB3 hbl
  have Hg := Lib.hid hg
  clear hg
  rw [Hg.out]
  go_wp2
  go_loopw [8] (fun i wr => ∃ k : Nat, k0 ≤ k ∧ k ≤ n ∧ i = .int .i64 k ∧ Hid (wr.heap[g]? = some (.cells (repK y n k).toArray 3 (0, 0))) ∧ Hid (Below g W1 wr)) (fun i _ => n - (intOf i).toNat)
  case atStart => exact ⟨k0, Nat.le_refl _, by omega, rfl, H3, HB3⟩
  case round =>
    obtain ⟨k, hk1, hk, rfl, HR, HB⟩ := hrel
    clear H3 HB3
    by_cases hlt : k < n
    · have h0 : 0 < k := by omega
      obtain ⟨r, hr⟩ : ∃ r, n - k = r := ⟨_, rfl⟩
      obtain ⟨m, hm⟩ : ∃ m, min k r = m := ⟨_, rfl⟩
      obtain ⟨j, hj⟩ : ∃ j, k + m = j := ⟨_, rfl⟩
      have hs1 : ∀ W : World, (Instr.slice 25 (.slice (some ⟨g, 0, none⟩) n n) (some (.int .i64 (k : Int))) none none).run Try.prog W = .ok (.slice (some ⟨g, k, none⟩) r r) W := fun W => by
        rw [run_slice_l (P := Try.prog) W 25 _ n n Try.elemInts .i64 (k : Int) (by omega) (by omega), Try.sizeInt, Int.toNat_natCast]
        have : n ≠ k := by omega
        simp [Result.andThen, sliced, this, Addr.add, hr]
        omega
      have hs2 : ∀ W : World, (Instr.slice 25 (.slice (some ⟨g, 0, none⟩) n n) none (some (.int .i64 (k : Int))) none).run Try.prog W = .ok (.slice (some ⟨g, 0, none⟩) k n) W := fun W => by
        rw [run_slice_h (P := Try.prog) W 25 _ n n Try.elemInts .i64 (k : Int) (by omega) (by omega), Try.sizeInt, Int.toNat_natCast]
        simp [Result.andThen, sliced, Addr.add]
      obtain ⟨Y, hY⟩ : ∃ Y, Y = (List.replicate m y).map I := ⟨_, rfl⟩
      have HYl : Hid (Y.length = m) := Lib.hid (by rw [hY]; simp)
      have HY := Lib.hid hY
      have HY1 : Hid (∀ v ∈ Y, v.oneCell' = true) := Lib.hid (by rw [hY]; intro v hv; obtain ⟨x, _, rfl⟩ := List.mem_map.1 hv; rfl)
      have HSrc : Hid (∀ j v, Y[j]? = some v → wr.cell? ((⟨g, 0, none⟩ : Addr).add j) = some v) := Lib.hid (by
        intro j v hv
        have hjl : j < Y.length := (List.getElem?_eq_some_iff.1 hv).1
        rw [HYl.out] at hjl
        have h1 : v = I y := by
          rw [hY, List.getElem?_map, List.getElem?_replicate, if_pos (by omega)] at hv
          exact (Option.some.inj hv).symm
        rw [h1]
        have ha : (⟨g, 0, none⟩ : Addr).add j = ⟨g, j, none⟩ := by unfold Addr.add; split <;> simp_all
        rw [ha, cell_of_row wr g j _ _ _ HR.out, List.getElem?_toArray]
        exact repK_get y n k j (by omega))
      have HLen : Hid (k + Y.length ≤ (repK y n k).length) := Lib.hid (by rw [HYl.out, repK_len _ _ _ hk]; omega)
      have HMin : Hid (Y.length = Nat.min k r) := Lib.hid (by rw [HYl.out, ← hm])
      have hw3 : IntKind.i64.wrap ((k : Int) + (m : Int)) = (j : Int) := by rw [IntWalk.i64_in _ (by omega)]; omega
      clear hY
      go_wp2
      have HBd := HB.out.drew
      go_region_held3 (fun w' => Below g W1 w') (first | assumption | go_keep) (first | (refine step_copy_splice rfl (.tmp 41) (.tmp 44) 25 25 rfl 3 Try.underlying25 Try.sizeOneInt (some ⟨g, k, none⟩) (some ⟨g, 0, none⟩) r r k n rfl rfl g k (repK y n k) 3 HR.out Y HMin.out (fun _ => ⟨rfl, _, rfl, HSrc.out⟩) HLen.out HY1.out g W1 HBd (Nat.le_refl _) ?_; intro w5 h5 hb5; rw [HYl.out]))
      have H5 : Hid (w5.heap[g]? = some (.cells (repK y n j).toArray 3 (0, 0))) := Lib.hid (by
        have := h5.out
        rw [HY.out, repK_splice y n k m (by omega), hj] at this
        exact this)
      have HB5 := Lib.hid hb5
      clear h5 hb5
      go_wp2
      go_roundw
      case rel => exact ⟨j, by omega, by omega, rfl, H5, HB5⟩
      case measure => simp [intOf]; omega
    · obtain rfl : k = n := by omega
      have HO : Hid (wr.ownsRow W1.heap.size 3 1 (.slice (some ⟨g, 0, none⟩) k k) k (repK y k k)) := Lib.hid (row_of_heap HR.out hg0 (repK_len y k k (Nat.le_refl _)) hn)
      have HB4 : Hid (Below W1.heap.size W1 wr) := Lib.hid (HB.out.mono hg0)
      clear HR HB HM w1 w2
      go_wp2
      go_ret
      rw [repK_all] at HO
      have HO := HO.out
      refine newI_own HO (by simp) HB4.out

end Go.Proofs.Ytlgnndfhpnbhmaa
