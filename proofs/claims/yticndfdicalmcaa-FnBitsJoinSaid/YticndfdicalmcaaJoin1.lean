/- The specification's BitsJoin. -/
import Derived.Test.YticndfdicalmcaaNewB
import Derived.Test.YticndfdicalmcaaScene2
import Derived.Test.YticndfdicalmcaaAppend2
import Derived.Test.YticndfdicalmcaaSelMath2
import Derived.Test.YticndfdicalmcaaSpec4
namespace Go.Proofs.Yticndfdicalmcaa
open Go.RowKit
set_option maxRecDepth 100000

/-- What BitsJoin is to return. -/
def jOk (N : Int) (L : List Nat) (M : Int) (K : List Nat) : Bool := okB N L && okB M K && decide (N + M ≤ 5000)
def jN (N : Int) (L : List Nat) (M : Int) (K : List Nat) : Int := if jOk N L M K = true then N + M else 0
def jW (N : Int) (L : List Nat) (M : Int) (K : List Nat) : List Nat := if jOk N L M K = true then wordsOf (bitsOf N.toNat L ++ bitsOf M.toNat K) else []

theorem newBits_no (N : Int) (L : List Nat) (M : Int) (K : List Nat) (h : jOk N L M K = false) {w w' : World} (hb : Below w.heap.size w w') :
    NewBits w (jN N L M K) (jW N L M K) (jOk N L M K) (.returned (.tuple #[.agg #[.int .i64 0, .slice none 0 0], .bool false])) w' := by
  unfold NewBits jN jW
  rw [h, if_neg (by simp), if_neg (by simp)]
  exact ⟨none, 0, rfl, World.ownsRow_nil _ _ _ _, hb⟩

set_option maxHeartbeats 400000 in
theorem specJoin_bad1 (N : Int) (A : Option Addr) (c : Nat) (L : List Nat) (M : Int) (B : Option Addr) (d : Nat) (K : List Nat) (w : World) (hL : Lies w U A L) (hw : ∀ x ∈ L, x < 2 ^ 64) (hok : okB N L = false) :
    Calls Try.prog 17 #[.agg #[.int .i64 N, .slice A L.length c], .agg #[.int .i64 M, .slice B K.length d]] w fun e w' => e = .returned (.tuple #[.agg #[.int .i64 0, .slice none 0 0], .bool false]) ∧ Below w.heap.size w w' := by
  have HW := Lib.hid hw
  have HL := Lib.hid hL
  clear hw hL
  go_enter Try.func17, Try.ntmps17
  have sc : Scene w w [] := Scene.start w
  go_wp2_with fail
  replace sc := sc.box 26 #[.int .i64 N, .slice A L.length c]
  replace sc := sc.box 26 #[.int .i64 M, .slice B K.length d]
  replace sc := sc.box 26 #[.int .i64 0, .slice none 0 0]
  generalize ((w.alloc (Obj.cells #[.int .i64 N, .slice A L.length c] 26)).alloc (Obj.cells #[.int .i64 M, .slice B K.length d] 26)).alloc (Obj.cells #[.int .i64 0, .slice none 0 0] 26) = W0 at *
  simp only [World.size_alloc] at sc
  refine (specOk_any N A c L _ (sc.liesOld HL.out) HW.out).mono ?_
  rintro e w1 ⟨rfl, hb⟩
  replace sc := sc.step hb
  rw [hok]
  clear hb hok
  obtain ⟨q0, q1, _⟩ := sc.two 0 rfl
  have qf0 := (sc.getBox 0 rfl).frozen 0
  have qf1 := (sc.getBox 0 rfl).frozen 1
  have HB := Lib.hid sc.below
  clear sc
  go_wp2
  refine bodyPost_ret (v := .tuple #[.agg #[.int .i64 0, .slice none 0 0], .bool false]) (by simp [results, Try.results17, go_sem, q0, q1]) rfl ?_
  exact ⟨rfl, (HB.out.setCell (by go_size) _).setCell (by go_size) _⟩

set_option maxHeartbeats 400000 in
theorem specJoin_bad2 (N : Int) (A : Option Addr) (c : Nat) (L : List Nat) (M : Int) (B : Option Addr) (d : Nat) (K : List Nat) (w : World) (hL : Lies w U A L) (hw : ∀ x ∈ L, x < 2 ^ 64) (hK : Lies w U B K) (hw2 : ∀ x ∈ K, x < 2 ^ 64) (hok : okB N L = true) (hok2 : okB M K = false) :
    Calls Try.prog 17 #[.agg #[.int .i64 N, .slice A L.length c], .agg #[.int .i64 M, .slice B K.length d]] w fun e w' => e = .returned (.tuple #[.agg #[.int .i64 0, .slice none 0 0], .bool false]) ∧ Below w.heap.size w w' := by
  have HW := Lib.hid hw
  have HL := Lib.hid hL
  have HW2 := Lib.hid hw2
  have HK := Lib.hid hK
  clear hw hL hw2 hK
  go_enter Try.func17, Try.ntmps17
  have sc : Scene w w [] := Scene.start w
  go_wp2_with fail
  replace sc := sc.box 26 #[.int .i64 N, .slice A L.length c]
  replace sc := sc.box 26 #[.int .i64 M, .slice B K.length d]
  replace sc := sc.box 26 #[.int .i64 0, .slice none 0 0]
  generalize ((w.alloc (Obj.cells #[.int .i64 N, .slice A L.length c] 26)).alloc (Obj.cells #[.int .i64 M, .slice B K.length d] 26)).alloc (Obj.cells #[.int .i64 0, .slice none 0 0] 26) = W0 at *
  simp only [World.size_alloc] at sc
  refine (specOk_any N A c L _ (sc.liesOld HL.out) HW.out).mono ?_
  rintro e w1 ⟨rfl, hb⟩
  replace sc := sc.step hb
  rw [hok]
  clear hb hok
  obtain ⟨p0, p1, _⟩ := sc.two 1 rfl
  go_wp2_with fail
  clear p0 p1
  refine (specOk_any M B d K _ (sc.liesOld HK.out) HW2.out).mono ?_
  rintro e w2 ⟨rfl, hb⟩
  replace sc := sc.step hb
  rw [hok2]
  clear hb hok2
  obtain ⟨q0, q1, _⟩ := sc.two 0 rfl
  have qf0 := (sc.getBox 0 rfl).frozen 0
  have qf1 := (sc.getBox 0 rfl).frozen 1
  have HB := Lib.hid sc.below
  clear sc
  go_wp2
  refine bodyPost_ret (v := .tuple #[.agg #[.int .i64 0, .slice none 0 0], .bool false]) (by simp [results, Try.results17, go_sem, q0, q1]) rfl ?_
  exact ⟨rfl, (HB.out.setCell (by go_size) _).setCell (by go_size) _⟩

end Go.Proofs.Yticndfdicalmcaa
