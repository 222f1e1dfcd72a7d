import Derived.Test.YtlbnngolcoefdaaDoorDraw2d
import Derived.Test.YtlbnngolcoefdaaDoorChecked
import Derived.WalkKit
import Derived.LaidEql
import Derived.Stop.Asserts
import Derived.RowKitTokens
import Derived.Test.YtlbnngolcoefdaaDoorMem2
/- The cursor opened, the draw of VarOf, and the laws' own pick. -/
namespace Go.Proofs.YtlbnngolcoefdaaDoor
open Go.RowKit
set_option maxRecDepth 100000

set_option maxHeartbeats 400000 in
theorem open_any (A : Option Addr) (c : Nat) (D : List Nat) (w : World) (hD : Lies w B8 A D) (hw : ∀ x ∈ D, x < 2 ^ 8) (hl : D.length ≤ 1048576) :
    Calls Tryd.prog 46 #[.slice A D.length c] w fun e w' => e = .returned (.pointer (some ⟨w.heap.size, 0, none⟩)) ∧ Cur w' w.heap.size A c D 0 ∧ Below w.heap.size w w' := by
  obtain ⟨q, hq⟩ : ∃ q, 89 + D.length % 1000 = q := ⟨_, rfl⟩
  have hqi : 89 + (D.length : Int) % 1000 = (q : Int) := by omega
  have hq5 : q < 65521 := by omega
  have HD := Lib.hid hD
  have HW := Lib.hid hw
  clear hD hw hq
  go_enter Tryd.func46, Tryd.ntmps46
  go_wp2
  go_ret
  have hb : Below w.heap.size w (w.alloc (.cells #[.slice A D.length c, .int .i64 0, .int .i64 q] 112)) := (Below.refl _ _).alloc (Nat.le_refl _) _
  refine ⟨rfl, ⟨HD.out.below hb, ?_, HW.out, hl, 0, q, Nat.le_refl _, hq5, Box.made _ _ _⟩, hb⟩
  intro b o hl0 hA e
  obtain ⟨b', o', _, hA', hb', _⟩ := HD.out.at_ hl0
  rw [hA] at hA'
  injection hA' with hA'
  injection hA' with e1 e2
  omega

theorem grown_below2 {w w1 w2 : World} {g : Nat} (hb : Below w.heap.size w w1) (hg : w1.grownBy w2 (some g)) (hge : w.heap.size ≤ g) : Below w.heap.size w w2 :=
  ⟨hg.os.trans hb.os, hg.tape.trans hb.tape, hg.output.trans hb.output, Nat.le_trans hb.size hg.size, fun k hk => (hg.block k (Nat.lt_of_lt_of_le hk hb.size) (fun e => by have := Option.some.inj e; omega)).trans (hb.block k hk)⟩

set_option maxHeartbeats 400000 in
theorem big_any (A : Option Addr) (n c : Nat) (w : World) :
    Calls Tryd.prog 10 #[.slice A n c] w fun e w' => e = .returned (.bool (decide (1048576 < n))) ∧ w = w' := by
  go_enter Tryd.func10, Tryd.ntmps10
  go_wp2
  go_ret
  exact ⟨ret_bool (by rw [Bool.eq_iff_iff]; simp; omega), rfl⟩

end Go.Proofs.YtlbnngolcoefdaaDoor

/- errors.Is by contracts, at what the program hands it: nil, or a frameError that wraps the sentinel. -/
namespace Go.Proofs.YtlbnngolcoefdaaDoor
open Go.RowKit Go.Extern.Stop Go.Stop Go.Extern
set_option maxRecDepth 100000

theorem Tryd.isTypeOf (v : Value) (w : World) : (Extern.ReflectliteType.typeOf #[.iface 167 v]).run Tryd.prog w = .ok (.iface 151 (.agg #[.pointer (some ⟨2, 167, none⟩)])) w := by kernel_rfl
def compM : Array Value → Sem Value := Extern.ReflectliteType.method fun t => do Go.Extern.Rtype.noPackHeld "Comparable" t; pure (.bool (← typeInfo t).comparable)
theorem Tryd.isComparable (w : World) : (compM #[.agg #[.pointer (some ⟨2, 167, none⟩)]]).run Tryd.prog w = .ok (.bool true) w := by kernel_rfl
theorem Tryd.isMethodComparable (v : Value) (w : World) : (Go.method 203 151 v "Comparable").run Tryd.prog w = .ok (163, v) w := by kernel_rfl
theorem Tryd.isComp : (Tryd.prog.info? 167).map (·.comparable) = some true := by kernel_rfl
theorem Tryd.isSize : (Tryd.prog.info? 191).map (·.size) = some 1 := by kernel_rfl
theorem Tryd.noIsF (v : Value) (xT : TypeId) (w : World) : (Instr.typeAssert (.iface 132 v) xT 153 true).run Tryd.prog w = .ok (.tuple #[.nilIface, .bool false]) w := run_typeAssert_lacksB Tryd.underlying153 (by kernel_rfl) (by kernel_rfl) v xT w
theorem Tryd.hasUnwrapF (v : Value) (xT : TypeId) (w : World) : (Instr.typeAssert (.iface 132 v) xT 156 true).run Tryd.prog w = .ok (.tuple #[.iface 132 v, .bool true]) w := run_typeAssert_hasB Tryd.underlying156 (by kernel_rfl) v xT w
theorem Tryd.methodUnwrap (v : Value) (w : World) : (Go.method 203 132 v "Unwrap").run Tryd.prog w = .ok (159, v) w := by kernel_rfl

/-- errors.Is(nil, x). -/
theorem is_nil (b : Addr) (w : World) :
    Calls Tryd.prog 77 #[.nilIface, .iface 167 (.pointer (some b))] w fun e w' => e = .returned (.bool false) ∧ w' = w := by
  have hn := run_eql_iface_nil_left (P := Tryd.prog) w 167 (.pointer (some b)) Tryd.underlying99
  go_enter Tryd.func77, Tryd.ntmps77
  go_wp2
  go_ret
  exact ⟨rfl, rfl⟩

/-- errors.Is(e, x), e a frameError that wraps x itself: one Unwrap, then equal. -/
theorem is_wrap_same (s : ByteArray) (b : Addr) (w : World) :
    Calls Tryd.prog 77 #[.iface 132 (.agg #[.string s, .iface 167 (.pointer (some b))]), .iface 167 (.pointer (some b))] w fun e w' => e = .returned (.bool true) ∧ Below w.heap.size w w' := by
  obtain ⟨i, hi, hcmp⟩ := Option.map_eq_some_iff.1 Tryd.isComp
  obtain ⟨j, hj, hjs⟩ := Option.map_eq_some_iff.1 Tryd.isSize
  have h8 := @run_callFunc_extern Tryd.prog 112 _ Extern.ReflectliteType.typeOf Tryd.func112 (by kernel_rfl) (by kernel_rfl) (by kernel_rfl) (by kernel_rfl)
  have h32 := @run_callFunc_extern Tryd.prog 163 _ compM Tryd.func163 (by kernel_rfl) (by kernel_rfl) (by kernel_rfl) (by kernel_rfl)
  have tT := Tryd.isTypeOf
  have cT := Tryd.isComparable
  have mR := Tryd.isMethodComparable
  have nW := Tryd.noIsF
  have uW := Tryd.hasUnwrapF
  have mU := Tryd.methodUnwrap
  have heq : ∀ W : World, _ := fun W => run_eql_iface_ptr_same (P := Tryd.prog) W b Tryd.underlying99 Tryd.underlying167 hi hcmp hj
  have hty : ∀ W : World, _ := fun W => run_eql_iface_types (P := Tryd.prog) 132 167 (.agg #[.string s, .iface 167 (.pointer (some b))]) (.pointer (some b)) Tryd.underlying99 (by decide) W
  go_enter Tryd.func77, Tryd.ntmps77
  go_wp2
  refine wp_loop_rounds 2 ?_
  rw [rounds_succ]
  go_wp2
  rw [rounds_succ]
  go_wp2
  go_ret
  exact ⟨rfl, by go_grown⟩

end Go.Proofs.YtlbnngolcoefdaaDoor
