import Derived.Test.YtoehgcakfblblaaDoorOpen1
import Derived.Test.YtoehgcakfblblaaDoorSel2
import Derived.Test.YtoehgcakfblblaaDoorCards
import Derived.Test.YtoehgcakfblblaaDoorTie
import Derived.Lib.LaidTab
import Derived.LaidMore
import Derived.Stop.Joined
/- From a walk to a tied card, for the laws of this seat whose rows list the library's table of trailing zeros. -/
namespace Go.Proofs.YtoehgcakfblblaaDoor
open Go.ChangeShapes Go.WideShapes Go.ChangeAt Go.RowKit Go.Joins
set_option maxRecDepth 100000

section
variable {H : Type} {enc : TypeId × Value → H}
/-- A law's row from its walk, where the row has a condition on the world. -/
theorem law_lifted_and {C : Checked} {os : Os} {F : FuncId} {fn : Func} {s : ChangeSpec} {B : TypeId} {X : World → Array Value → Prop} (hX : ∀ (w w' : World) (args : Array Value), w.heap = w'.heap → X w args → X w' args)
    (own : ownKnob C.prog.godebug = none) (started : os.Started) (noInit : C.prog.inits.idxOf? F = none) (hfn : C.prog.funcs[F]? = some fn)
    (witness : ∃ (w : World) (tape : Tape) (i : Input), w.os = os ∧ (w.forCall tape i).Shaped C.prog ∧ i.vars = [] ∧ Input.okWide C.prog (w.forCall tape i) .any w.heap.size F i ∧
      ((s.pre enc C.prog fn [] false (w.forCall tape i).memory i.args ∧ X (w.forCall tape i).memory i.args) ∧ sizedMet enc C.prog fn (OpenSpec.ofChange s) false (w.forCall tape i).memory i.args) ∧ ({} : Assume).holds C.prog (lone (Frame.enter C.prog F i.args .normal) [] (w.forCall tape i)))
    (hl : laidOutB C.prog = true) (hread0 : (fn.params.toList.all fun t => C.prog.readableRec t && decide (t < C.prog.types.size)) = true) (hvars : s.vars = [])
    (hrt : fn.resultTypes = #[B]) (hB : C.prog.underlying B = some .bool)
    (hspec : ∀ (H : Type) (ds : List (DataW H)), ds.length = fn.params.toList.length → (s.fn H ds).results = [.lit (.bool true)] ∧ (s.fn H ds).args = ds ∧ (s.fn H ds).vars = [])
    (hwalk : ∀ (W : World) (base : Nat) (args : Array Value) (ds : List (DataW H)) (p : List MemPlace),
      (∀ (j : Nat) t v, fn.params[j]? = some t → args[j]? = some v → Value.okWide C.prog W .any base t v) →
      DataW.TrodAll enc C.prog W 0 (fun _ => true) true fn.params.toList args.toList ds p → X W args →
      Calls C.prog F args W fun e W' => e = .returned (.bool true) ∧ Below W.heap.size W W') :
    ReturnsInHanded {} C os F .any (fun w args => (s.pre enc C.prog fn [] false w args ∧ X w args) ∧ sizedMet enc C.prog fn (OpenSpec.ofChange s) false w args) (s.post enc C.prog fn false true false false) := by
  have hread : ∀ t ∈ fn.params.toList, C.prog.readableRec t = true ∧ t < C.prog.types.size := fun t ht => by simpa using List.all_eq_true.1 hread0 t ht
  refine returnsInHanded_of_change_and hX own started noInit hfn witness ?_
  intro W base args ds gs before hval hW _ _ hx _
  have hW' := hW
  obtain ⟨p, q, hA, hV, rfl, _, _⟩ := hW
  rw [hvars] at hV
  obtain ⟨rfl, rfl⟩ := trodVars_none hV
  refine (hwalk W base args ds p hval hA hx).mono fun e W' ⟨he, hb⟩ => ?_
  have hlen : ds.length = fn.params.toList.length := trodAll_len _ _ _ _ hA
  obtain ⟨h1, h2, h3⟩ := hspec H (ds ++ []) (by simpa using hlen)
  refine ⟨_, he, ds, [], p ++ [], [], p, [], hW', ?_, ?_, ?_, ?_, fun h => by cases h⟩
  · rw [h1, hrt]
    exact trodAll_mk1 (shut_bool hB _)
  · rw [h2, List.append_nil]
    exact trodAll_kept hl hb _ _ _ _ hread hA (fun x hx => hW'.lt x (by simpa using hx))
  · rw [h3, hvars]
    rfl
  · exact hb.frame _
end

/-- What the rows list. -/
abbrev tabLaid : List (String × DataW Unit) := Rows.fnWaveRow.laid
def tabName : String := Rows.fnWaveRow.named.headD default
theorem Tryd.gTab : Tryd.prog.globalNamed tabName = some 0 := by kernel_rfl
theorem Tryd.gTabType : (Tryd.prog.globals[0]?).map (·.type) = some 87 := by kernel_rfl
theorem Tryd.cellsTab : Tryd.prog.cellsOf 87 = 64 := by kernel_rfl
theorem Tryd.cellsU8t : Tryd.prog.cellsOf 5 = 1 := by kernel_rfl

/-- The table's numbers: where 2 to the i stands, i. -/
def tabNums : List Int := (List.range 64).map fun d => (((List.range 64).find? fun i => deb i == d).getD 0 : Nat)
theorem tabNums_at : ∀ i : Fin 64, tabNums.getD (deb i.val) 0 = (i.val : Int) := by decide +kernel

theorem tab_of {W : World} (h : laidMetH Tryd.prog tabLaid W) : Tab W := by
  rw [MakeChecks.laidMetH_plain _ _ _ (by kernel_rfl)] at h
  have e : tabLaid = (tabName, Lib.tabData .u8 tabNums) :: [] := by kernel_rfl
  rw [e] at h
  have ht := Lib.tabIs_of_head (rest := []) Tryd.gTab Tryd.gTabType Tryd.underlying87 Tryd.underlying5 Tryd.cellsU8t Tryd.cellsTab h
  have hc : ∀ i, i < 64 → W.cell? ⟨0, deb i, none⟩ = some (.int .u8 i) := fun i hi => by
    have h1 := ht.cell Tryd.gTab (deb i) (by have := deb_lt i; simp [tabNums]; exact this)
    rw [tabNums_at ⟨i, hi⟩] at h1
    exact h1
  exact ⟨World.block_lt_of_cell? W _ (hc 0 (by decide)), hc⟩

/-- The door's own heap meets the condition. -/
theorem door_met (os : Os) (args : Array Value) : laidMetH Tryd.prog tabLaid ((World.doorLaid Tryd.prog 14 os).forCall (fun _ _ => 0) ⟨#[], args, []⟩).memory :=
  laidMetH_of_parts3 (fuel := 8) (laidMet_of_run' 8 (by kernel_rfl) (by kernel_rfl)) (by kernel_rfl) (by kernel_rfl)

end Go.Proofs.YtoehgcakfblblaaDoor

/- How more of this seat's arguments are opened: numbers with their bounds, packed integers, bytes. -/
namespace Go.Proofs.YtoehgcakfblblaaDoor
open Go.ChangeShapes Go.WideShapes Go.ChangeAt Go.RowKit Go.Joins
set_option maxRecDepth 100000

theorem int_le {n : Int} (h : (Lit.int .i64 n).wf = true) : n ≤ 9223372036854775807 := by
  simp [Lit.wf, IntKind.min, IntKind.max, IntKind.signed, IntKind.bits] at h
  omega
theorem int_ge {n : Int} (h : (Lit.int .i64 n).wf = true) : -9223372036854775808 ≤ n := by
  simp [Lit.wf, IntKind.min, IntKind.max, IntKind.signed, IntKind.bits] at h
  omega

theorem Tryd.cellsU8 : Tryd.prog.cellsOf 5 = 1 := by kernel_rfl
theorem open_bytesArg {H : Type} {enc : TypeId × Value → H} {W : World} {b0 base : Nat} {held : Bool} {v : Value} {d : DataW H} {p : List MemPlace} (hv : Value.okWide Tryd.prog W .any b0 22 v)
    (h : DataW.Trod enc Tryd.prog W base (fun _ => true) held 22 v d p) :
    ∃ (A : Option Addr) (c : Nat) (L : List Nat), v = .slice A L.length c ∧ L.length ≤ 9223372036854775807 ∧ Lies W B8 A L ∧ ∀ n ∈ L, n < 2 ^ 8 := by
  obtain ⟨a0, len, cap, rfl⟩ := okWide_slice Tryd.underlying22 hv
  obtain ⟨fuel, hf⟩ := h
  obtain ⟨A, c, L, e, hl, hL, hw⟩ := open_lies Tryd.underlying22 Tryd.underlying5 Tryd.cellsU8 (by simpa [Value.cells] using hf)
  have hb : ∀ n ∈ L, 0 ≤ n ∧ n < 2 ^ 8 := fun n hn => by
    have := hw n hn
    simp [Lit.wf, IntKind.min, IntKind.max, IntKind.signed, IntKind.bits] at this
    omega
  refine ⟨A, c, L.map Int.toNat, by simpa using e, by simpa using hl, lies_nat hL fun n hn => (hb n hn).1, ?_⟩
  intro n hn
  obtain ⟨y, hy, rfl⟩ := List.mem_map.1 hn
  have := hb y hy
  omega

end Go.Proofs.YtoehgcakfblblaaDoor
