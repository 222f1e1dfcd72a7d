/- Marking a sparse list whose second row begins at a great number. -/
import Derived.Test.YtlbnngolcoefdaaSpTo
namespace Go.Proofs.Ytlbnngolcoefdaa
open Go.RowKit
set_option maxRecDepth 100000

set_option maxHeartbeats 400000 in
theorem markU64w (A : Option Addr) (n c base : Nat) (k : Int) (xs : List Value) (w : World) (ho : w.ownsRow base 106 1 (.slice A n c) n xs) (hn : n ≤ 1048576) (hk0 : 0 ≤ k) (hk1 : k ≤ 2097152) :
    Calls Try.prog 77 #[.slice A n c, .int .i64 k] w fun e w' => e = .returned (.int .i64 (k + n)) ∧
      w'.ownsRow base 106 1 (.slice A n c) n ((List.range n).map fun (j : Nat) => Value.int .u64 (k + j)) ∧ w.grownBy w' (Value.slice A n c).ownBlock := by
  have hlen : xs.length = n := by have := ho.1; omega
  have HL := Lib.hid hlen
  have HO := Lib.hid ho
  clear hlen ho
  go_enter Try.func77, Try.ntmps77
  go_wp2
  go_loopw [1, 5] (fun q i wr => ∃ m : Nat, m ≤ n ∧ i = .int .i64 m ∧ q = .int .i64 (k + m) ∧ wr.ownsRow base 106 1 (.slice A n c) n (marked (Value.int .u64) k xs m) ∧ w.grownBy wr (Value.slice A n c).ownBlock) (fun _ i _ => n - (intOf i).toNat)
  case atStart => exact ⟨0, Nat.zero_le _, rfl, by simp, by rw [marked_zero]; exact HO.out, World.grownBy.refl _ _⟩
  case round =>
    obtain ⟨m, hm, rfl, rfl, hown, hg⟩ := hrel
    by_cases hlt : m < n
    · obtain ⟨g, cap, hv, _, _⟩ := hown.form (by omega)
      injection hv with hA _ hc
      subst hA hc
      obtain ⟨u, hu⟩ := marked_get (Value.int .u64) k xs m (by rw [HL.out]; exact hlt)
      have hd := (hown.cellAt m (by omega)).trans hu
      have hf := hown.frozenAt m
      have hst := hown.stored m (Value.int .u64 (k + m))
      have HS := Lib.hid hst.1
      have HG := Lib.hid (hg.trans hst.2)
      have HX := Lib.hid (marked_succ (Value.int .u64) k xs m (by rw [HL.out]; exact hlt))
      clear hown hg hu hst
      go_wp2
      go_roundw
      case rel => exact ⟨m + 1, by omega, by go_num, by go_num, by rw [HX.out]; exact HS.out, HG.out⟩
      case measure => simp [intOf]; omega
    · go_wp2
      go_ret
      have e : m = n := by omega
      subst e
      rw [marked_all _ _ _ _ HL.out] at hown
      exact ⟨rfl, hown, hg⟩

set_option maxHeartbeats 400000 in
theorem markBitsw (N : Int) (A : Option Addr) (n c base : Nat) (k : Int) (xs : List Value) (w : World) (ho : w.ownsRow base 106 1 (.slice A n c) n xs) (hn : n ≤ 1048576) (hk0 : 0 ≤ k) (hk1 : k ≤ 2097152) :
    Calls Try.prog 49 #[.agg #[.int .i64 N, .slice A n c], .int .i64 k] w fun e w' => e = .returned (.int .i64 (k + n)) ∧
      w'.ownsRow base 106 1 (.slice A n c) n ((List.range n).map fun (j : Nat) => Value.int .u64 (k + j)) ∧ w.grownBy w' (Value.slice A n c).ownBlock := by
  have HO := Lib.hid ho
  clear ho
  go_enter Try.func49, Try.ntmps49
  go_wp2_with fail
  refine (markU64w A n c base k xs _ (HO.out.alloc _) hn hk0 hk1).mono ?_
  rintro e w1 ⟨rfl, h1, h2⟩
  have H1 := Lib.hid h1
  have H2 := Lib.hid h2
  clear h1 h2
  go_wp2
  go_ret
  exact ⟨rfl, H1.out, (World.grownBy_alloc _ _ _).trans H2.out⟩

set_option maxHeartbeats 800000 in
theorem markSparse_wide (V N P M K H : Int) (A A' : Option Addr) (n c n' c' : Nat) (k : Int) (xs ys : List Value) (w0 w : World) (its : List Item) (i i' : Nat) (hii : i ≠ i') (sc : Scene w0 w its) (h1 : its[i]? = some (.row 106 (.slice A n c) n xs)) (h2 : its[i']? = some (.row 106 (.slice A' n' c') n' ys))
    (hn : n ≤ 1048576) (hn' : n' ≤ 1048576) (hs : k + n ≤ 2097152) (hk0 : 0 ≤ k) (hk1 : k ≤ 1048576) :
    Calls Try.prog 14 #[SP V N P M K (.slice A n c) H (.slice A' n' c'), .int .i64 k] w fun e w' => e = .returned (.int .i64 (k + n + n')) ∧ Scene w0 w' ((its.set i (.row 106 (.slice A n c) n (marksAt k n))).set i' (.row 106 (.slice A' n' c') n' (marksAt (k + n) n'))) := by
  have HS := Lib.hid sc
  clear sc
  go_enter Try.func14, Try.ntmps14
  go_wp2_with fail
  have sc := HS.out.box 36 #[.int .i64 V, .int .i64 N, .int .i64 P, .int .i64 M, .int .i64 K, .slice A n c, .int .i64 H, .slice A' n' c']
  clear HS
  have h1' : (Item.box w.heap.size 36 #[.int .i64 V, .int .i64 N, .int .i64 P, .int .i64 M, .int .i64 K, .slice A n c, .int .i64 H, .slice A' n' c'] :: its)[i + 1]? = some (.row 106 (.slice A n c) n xs) := by rw [List.getElem?_cons_succ]; exact h1
  refine (markPacked_any P M K A n c 0 k xs _ (sc.getRow (i + 1) h1') hn hk0 hk1).mono ?_
  rintro e w1 ⟨rfl, ho, hg⟩
  replace sc := sc.mark (i + 1) h1' hg ho
  clear ho hg h1'
  rw [List.set_cons_succ] at sc
  obtain ⟨⟨p0, p1, p2, p3, p4, p5, p6, p7⟩, _, hp⟩ := box_eight (sc.getBox 0 rfl)
  have h2' : (Item.box w.heap.size 36 #[.int .i64 V, .int .i64 N, .int .i64 P, .int .i64 M, .int .i64 K, .slice A n c, .int .i64 H, .slice A' n' c'] :: its.set i (.row 106 (.slice A n c) n (marksAt k n)))[i' + 1]? = some (.row 106 (.slice A' n' c') n' ys) := by
    rw [List.getElem?_cons_succ, List.getElem?_set_ne hii]
    exact h2
  go_wp2_with fail
  refine (markBitsw H A' n' c' 0 (k + n) ys _ (sc.getRow (i' + 1) h2') hn' (by omega) (by omega)).mono ?_
  rintro e w2 ⟨rfl, ho, hg⟩
  replace sc := sc.mark (i' + 1) h2' hg ho
  rw [List.set_cons_succ] at sc
  have HS := Lib.hid sc.top
  clear ho hg h2' sc p0 p1 p2 p3 p4 p5 p6 p7 h1 h2
  go_wp2
  go_ret
  exact ⟨rfl, HS.out⟩

end Go.Proofs.Ytlbnngolcoefdaa
