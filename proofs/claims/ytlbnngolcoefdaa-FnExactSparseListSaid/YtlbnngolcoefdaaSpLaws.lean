/- Contracts of the laws' own helpers on sparse lists: comparing, marking, holding. -/
import Derived.Test.YtlbnngolcoefdaaSp4
import Derived.Test.YtlbnngolcoefdaaStage
namespace Go.Proofs.Ytlbnngolcoefdaa
open Go.RowKit
set_option maxRecDepth 100000

set_option maxHeartbeats 800000 in
theorem eqSparse_true (V N P M K H : Int) (A B A' B' : Option Addr) (c d c' d' : Nat) (L L' : List Nat) (w : World) (hL : Lies w U A L) (hK : Lies w U B L) (hL' : Lies w U A' L') (hK' : Lies w U B' L') (hn : L.length ≤ 17592186044416) (hn' : L'.length ≤ 17592186044416) :
    Calls Try.prog 13 #[SP V N P M K (.slice A L.length c) H (.slice A' L'.length c'), SP V N P M K (.slice B L.length d) H (.slice B' L'.length d')] w fun e w' => e = .returned (.bool true) ∧ Below w.heap.size w w' := by
  have t1 : (V != V) = false := by simp
  have t2 : (N != N) = false := by simp
  have HL := Lib.hid hL
  have HK := Lib.hid hK
  have HL' := Lib.hid hL'
  have HK' := Lib.hid hK'
  clear hL hK hL' hK'
  go_enter Try.func13, Try.ntmps13
  go_wp2_with fail
  have sc := ((Scene.start w).box 36 #[.int .i64 V, .int .i64 N, .int .i64 P, .int .i64 M, .int .i64 K, .slice A L.length c, .int .i64 H, .slice A' L'.length c']).box 36 #[.int .i64 V, .int .i64 N, .int .i64 P, .int .i64 M, .int .i64 K, .slice B L.length d, .int .i64 H, .slice B' L'.length d']
  simp only [World.size_alloc] at sc
  refine (eqPacked_true P M K A B c d L _ (sc.liesOld HL.out) (sc.liesOld HK.out) hn).mono ?_
  rintro e w1 ⟨rfl, hb⟩
  replace sc := sc.step hb
  clear hb
  obtain ⟨⟨p0, p1, p2, p3, p4, p5, p6, p7⟩, _, hp⟩ := box_eight (sc.getBox 0 rfl)
  obtain ⟨⟨q0, q1, q2, q3, q4, q5, q6, q7⟩, _, hq⟩ := box_eight (sc.getBox 1 rfl)
  go_wp2_with fail
  refine (eqBits_any H H A' B' c' d' L' L' _ (sc.liesOld HL'.out) (sc.liesOld HK'.out) hn').mono ?_
  rintro e w2 ⟨rfl, hb⟩
  rw [decide_eq_true ⟨rfl, rfl⟩]
  replace sc := sc.step hb
  have HB := Lib.hid sc.below
  clear hb sc p0 p1 p2 p3 p4 p5 p6 p7 q0 q1 q2 q3 q4 q5 q6 q7
  go_wp2
  go_ret
  exact ⟨rfl, HB.out⟩

theorem Scene.top {w0 w w' : World} {its : List Item} {t : TypeId} {cs : Array Value} (h : Scene w0 w' (.box w.heap.size t cs :: its)) : Scene w0 w' its := h.drop 1

/-- A row of marks. -/
abbrev marksAt (k : Int) (n : Nat) : List Value := (List.range n).map fun (j : Nat) => Value.int .u64 (k + j)

set_option maxHeartbeats 800000 in
theorem markSparse_any (V N P M K H : Int) (A A' : Option Addr) (n c n' c' : Nat) (k : Int) (xs ys : List Value) (w0 w : World) (its : List Item) (i i' : Nat) (hii : i ≠ i') (sc : Scene w0 w its) (h1 : its[i]? = some (.row 106 (.slice A n c) n xs)) (h2 : its[i']? = some (.row 106 (.slice A' n' c') n' ys))
    (hn : n ≤ 1048576) (hn' : n' ≤ 1048576) (hs : k + n ≤ 1048576) (hk0 : 0 ≤ k) :
    Calls Try.prog 14 #[SP V N P M K (.slice A n c) H (.slice A' n' c'), .int .i64 k] w fun e w' => e = .returned (.int .i64 (k + n + n')) ∧ Scene w0 w' ((its.set i (.row 106 (.slice A n c) n (marksAt k n))).set i' (.row 106 (.slice A' n' c') n' (marksAt (k + n) n'))) := by
  have HS := Lib.hid sc
  clear sc
  go_enter Try.func14, Try.ntmps14
  go_wp2_with fail
  have sc := HS.out.box 36 #[.int .i64 V, .int .i64 N, .int .i64 P, .int .i64 M, .int .i64 K, .slice A n c, .int .i64 H, .slice A' n' c']
  clear HS
  have h1' : (Item.box w.heap.size 36 #[.int .i64 V, .int .i64 N, .int .i64 P, .int .i64 M, .int .i64 K, .slice A n c, .int .i64 H, .slice A' n' c'] :: its)[i + 1]? = some (.row 106 (.slice A n c) n xs) := by rw [List.getElem?_cons_succ]; exact h1
  refine (markPacked_any P M K A n c 0 k xs _ (sc.getRow (i + 1) h1') hn hk0 (by omega)).mono ?_
  rintro e w1 ⟨rfl, ho, hg⟩
  replace sc := sc.mark (i + 1) h1' hg ho
  clear ho hg h1'
  rw [List.set_cons_succ] at sc
  obtain ⟨⟨p0, p1, p2, p3, p4, p5, p6, p7⟩, _, hp⟩ := box_eight (sc.getBox 0 rfl)
  have h2' : (Item.box w.heap.size 36 #[.int .i64 V, .int .i64 N, .int .i64 P, .int .i64 M, .int .i64 K, .slice A n c, .int .i64 H, .slice A' n' c'] :: its.set i (.row 106 (.slice A n c) n (marksAt k n)))[i' + 1]? = some (.row 106 (.slice A' n' c') n' ys) := by
    rw [List.getElem?_cons_succ, List.getElem?_set_ne hii]
    exact h2
  go_wp2_with fail
  refine (markBits_any H A' n' c' 0 (k + n) ys _ (sc.getRow (i' + 1) h2') hn' (by omega) (by omega)).mono ?_
  rintro e w2 ⟨rfl, ho, hg⟩
  replace sc := sc.mark (i' + 1) h2' hg ho
  rw [List.set_cons_succ] at sc
  have HS := Lib.hid sc.top
  clear ho hg h2' sc p0 p1 p2 p3 p4 p5 p6 p7 h1 h2
  go_wp2
  go_ret
  exact ⟨rfl, HS.out⟩

end Go.Proofs.Ytlbnngolcoefdaa
