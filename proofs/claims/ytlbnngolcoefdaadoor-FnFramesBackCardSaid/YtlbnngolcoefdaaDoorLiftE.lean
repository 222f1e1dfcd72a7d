/- From a walk to a tied card, for the laws of this seat whose rows list the sentinel of frames. -/
import Derived.Test.YtlbnngolcoefdaaDoorOpen2
import Derived.Test.YtlbnngolcoefdaaDoorFrRd1
import Derived.Test.YtlbnngolcoefdaaDoorCards
import Derived.Test.YtlbnngolcoefdaaDoorTie
import Derived.Stop.LaidErr
import Derived.OpenVars
import Derived.LaidMore
import Derived.Stop.Joined
namespace Go.Proofs.YtlbnngolcoefdaaDoor
open Go.ChangeShapes Go.WideShapes Go.ChangeAt Go.RowKit Go.Joins
set_option maxRecDepth 100000

section
variable {H : Type} {enc : TypeId × Value → H}
theorem trodVars_len {P : Program} {w : World} {sp : Nat → Bool} : ∀ {ns : List String} {gs : List (DataW H)} {ps : List MemPlace}, DataW.TrodVars enc P w sp ns gs ps → gs.length = ns.length
  | [], [], _, _ => rfl
  | [], _ :: _, _, h => h.elim
  | _ :: _, [], _, h => h.elim
  | n :: ns, d :: ds, ps, h => by
    obtain ⟨g, t, cs, fuel, p, q, h1, h2, h3, h4, hs, e⟩ := h
    simp only [List.length_cons, trodVars_len hs]

/-- A law's row from its walk, where the row has a condition on the world. -/
theorem law_lifted_x {C : Checked} {os : Os} {F : FuncId} {fn : Func} {s : ChangeSpec} {B : TypeId} {X : World → Array Value → Prop} (hX : ∀ (w w' : World) (args : Array Value), w.heap = w'.heap → X w args → X w' args)
    (own : ownKnob C.prog.godebug = none) (started : os.Started) (noInit : C.prog.inits.idxOf? F = none) (hfn : C.prog.funcs[F]? = some fn)
    (witness : ∃ (w : World) (tape : Tape) (i : Input), w.os = os ∧ (w.forCall tape i).Shaped C.prog ∧ i.vars = [] ∧ Input.okWide C.prog (w.forCall tape i) .any w.heap.size F i ∧
      ((s.pre enc C.prog fn [] false (w.forCall tape i).memory i.args ∧ X (w.forCall tape i).memory i.args) ∧ sizedMet enc C.prog fn (OpenSpec.ofChange s) false (w.forCall tape i).memory i.args) ∧ ({} : Assume).holds C.prog (lone (Frame.enter C.prog F i.args .normal) [] (w.forCall tape i)))
    (hl : laidOutB C.prog = true) (hread0 : (fn.params.toList.all fun t => C.prog.readableRec t && decide (t < C.prog.types.size)) = true) (hvars : varsRowed C.prog s.vars = true)
    (hrt : fn.resultTypes = #[B]) (hB : C.prog.underlying B = some .bool)
    (hspec : ∀ (H : Type) (ds gs : List (DataW H)), ds.length = fn.params.toList.length → gs.length = s.vars.length → (s.fn H (ds ++ gs)).results = [.lit (.bool true)] ∧ (s.fn H (ds ++ gs)).args = ds ∧ (s.fn H (ds ++ gs)).vars = gs)
    (hwalk : ∀ (W : World) (base : Nat) (args : Array Value) (ds : List (DataW H)) (p : List MemPlace),
      (∀ (j : Nat) t v, fn.params[j]? = some t → args[j]? = some v → Value.okWide C.prog W .any base t v) →
      DataW.TrodAll enc C.prog W 0 (fun _ => true) true fn.params.toList args.toList ds p → X W args →
      Calls C.prog F args W fun e W' => e = .returned (.bool true) ∧ Below W.heap.size W W') :
    ReturnsInHanded {} C os F .any (fun w args => (s.pre enc C.prog fn [] false w args ∧ X w args) ∧ sizedMet enc C.prog fn (OpenSpec.ofChange s) false w args) (s.post enc C.prog fn false true false false) := by
  have hread : ∀ t ∈ fn.params.toList, C.prog.readableRec t = true ∧ t < C.prog.types.size := fun t ht => by simpa using List.all_eq_true.1 hread0 t ht
  refine returnsInHanded_of_change_and hX own started noInit hfn witness ?_
  intro W base args ds gs before hval hW _ _ hx _
  have hW' := hW
  obtain ⟨p, q, hA, hV, rfl, _, _⟩ := hW
  refine (hwalk W base args ds p hval hA hx).mono fun e W' ⟨he, hb⟩ => ?_
  have hlen : ds.length = fn.params.toList.length := trodAll_len _ _ _ _ hA
  obtain ⟨h1, h2, h3⟩ := hspec H ds gs hlen (trodVars_len hV)
  refine ⟨_, he, ds, gs, p ++ q, [], p, q, hW', ?_, ?_, ?_, ?_, fun h => by cases h⟩
  · rw [h1, hrt]
    exact trodAll_mk1 (shut_bool hB _)
  · rw [h2]
    exact trodAll_kept hl hb _ _ _ _ hread hA (fun x hx => hW'.lt x (by simp [hx]))
  · rw [h3]
    exact Below.trodVars hl hb hvars hV
  · exact hb.frame _
end

/-- What the rows list. -/
abbrev errLaid : List (String × DataW Unit) := Rows.fnFramesBackRow.laid
def errName : String := Rows.fnFramesBackRow.named.headD default
theorem Tryd.gErr : Tryd.prog.globalNamed errName = some 0 := by kernel_rfl
theorem Tryd.gErrType : (Tryd.prog.globals[0]?).map (·.type) = some 99 := by kernel_rfl
theorem Tryd.rowErr (u : TypeId) (h : Tryd.prog.typeName? 3 u = some "*errors.errorString") : u = 167 :=
  typeName_ptr_named (nm := "errors.errorString") (by kernel_rfl) (by kernel_rfl) (by decide) u h
theorem Tryd.cellsErr : Tryd.prog.cellsOf 191 = 1 := by kernel_rfl
theorem Tryd.cellsStr : Tryd.prog.cellsOf 9 = 1 := by kernel_rfl

theorem noFrame_of {W : World} (h : laidMetH Tryd.prog errLaid W) : ∃ b, NoFrame W b := by
  rw [MakeChecks.laidMetH_plain _ _ _ (by kernel_rfl)] at h
  have e : errLaid = (errName, .iface "*errors.errorString" (.ptr (.agg [.lit (.string [110, 111, 32, 102, 114, 97, 109, 101])]))) :: [] := by kernel_rfl
  rw [e] at h
  obtain ⟨a, s, hv, _, _, _⟩ := laid_sentinel h Tryd.gErr Tryd.gErrType Tryd.underlying99 Tryd.rowErr Tryd.underlying167 Tryd.underlying191 rfl rfl Tryd.underlying9 Tryd.cellsErr Tryd.cellsStr
  have hc : W.cell? ⟨0, 0, none⟩ = some (EN a) := by simpa using World.var?_cell Tryd.gErr hv 0
  exact ⟨a, hc, World.block_lt_of_cell? W _ hc⟩

/-- The door's own heap meets the condition. -/
theorem err_met (os : Os) (args : Array Value) : laidMetH Tryd.prog errLaid ((World.doorLaid Tryd.prog 33 os).forCall (fun _ _ => 0) ⟨#[], args, []⟩).memory :=
  laidMetH_of_parts3 (fuel := 8) (laidMet_of_run' 8 (by kernel_rfl) (by kernel_rfl)) (by kernel_rfl) (by kernel_rfl)

end Go.Proofs.YtlbnngolcoefdaaDoor
