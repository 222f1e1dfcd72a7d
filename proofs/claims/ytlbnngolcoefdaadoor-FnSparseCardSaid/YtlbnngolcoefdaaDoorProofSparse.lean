import Derived.Test.YtlbnngolcoefdaaDoorOpen1
import Derived.Test.YtlbnngolcoefdaaDoorSel2
import Derived.Test.YtlbnngolcoefdaaDoorCards
import Derived.Test.YtlbnngolcoefdaaDoorTie
import Derived.Lib.LaidTab
import Derived.LaidMore
import Derived.Stop.Joined
import Derived.Test.YtlbnngolcoefdaaDoorLawSparse
/- From a walk to a tied card, for the laws of this seat whose rows list the library's table of trailing zeros. -/
namespace Go.Proofs.YtlbnngolcoefdaaDoor
open Go.ChangeShapes Go.WideShapes Go.ChangeAt Go.RowKit Go.Joins
set_option maxRecDepth 100000

section
variable {H : Type} {enc : TypeId × Value → H}
/-- A law's row from its walk, where the row has a condition on the world. -/
theorem law_lifted_and {C : Checked} {os : Os} {F : FuncId} {fn : Func} {s : ChangeSpec} {B : TypeId} {X : World → Array Value → Prop} (hX : ∀ (w w' : World) (args : Array Value), w.heap = w'.heap → X w args → X w' args)
    (own : ownKnob C.prog.godebug = none) (started : os.Started) (noInit : C.prog.inits.idxOf? F = none) (hfn : C.prog.funcs[F]? = some fn)
    (witness : ∃ (w : World) (tape : Tape) (i : Input), w.os = os ∧ (w.forCall tape i).Shaped C.prog ∧ i.vars = [] ∧ Input.okWide C.prog (w.forCall tape i) .any w.heap.size F i ∧
      ((s.pre enc C.prog fn [] false (w.forCall tape i).memory i.args ∧ X (w.forCall tape i).memory i.args) ∧ sizedMet enc C.prog fn (OpenSpec.ofChange s) false (w.forCall tape i).memory i.args) ∧ ({} : Assume).holds C.prog (lone (Frame.enter C.prog F i.args .normal) [] (w.forCall tape i)))
    (hl : laidOutB C.prog = true) (hread0 : (fn.params.toList.all fun t => C.prog.readableRec t && decide (t < C.prog.types.size)) = true) (hvars : s.vars = [])
    (hrt : fn.resultTypes = #[B]) (hB : C.prog.underlying B = some .bool)
    (hspec : ∀ (H : Type) (ds : List (DataW H)), ds.length = fn.params.toList.length → (s.fn H ds).results = [.lit (.bool true)] ∧ (s.fn H ds).args = ds ∧ (s.fn H ds).vars = [])
    (hwalk : ∀ (W : World) (base : Nat) (args : Array Value) (ds : List (DataW H)) (p : List MemPlace),
      (∀ (j : Nat) t v, fn.params[j]? = some t → args[j]? = some v → Value.okWide C.prog W .any base t v) →
      DataW.TrodAll enc C.prog W 0 (fun _ => true) true fn.params.toList args.toList ds p → X W args →
      Calls C.prog F args W fun e W' => e = .returned (.bool true) ∧ Below W.heap.size W W') :
    ReturnsInHanded {} C os F .any (fun w args => (s.pre enc C.prog fn [] false w args ∧ X w args) ∧ sizedMet enc C.prog fn (OpenSpec.ofChange s) false w args) (s.post enc C.prog fn false true false false) := by
  have hread : ∀ t ∈ fn.params.toList, C.prog.readableRec t = true ∧ t < C.prog.types.size := fun t ht => by simpa using List.all_eq_true.1 hread0 t ht
  refine returnsInHanded_of_change_and hX own started noInit hfn witness ?_
  intro W base args ds gs before hval hW _ _ hx _
  have hW' := hW
  obtain ⟨p, q, hA, hV, rfl, _, _⟩ := hW
  rw [hvars] at hV
  obtain ⟨rfl, rfl⟩ := trodVars_none hV
  refine (hwalk W base args ds p hval hA hx).mono fun e W' ⟨he, hb⟩ => ?_
  have hlen : ds.length = fn.params.toList.length := trodAll_len _ _ _ _ hA
  obtain ⟨h1, h2, h3⟩ := hspec H (ds ++ []) (by simpa using hlen)
  refine ⟨_, he, ds, [], p ++ [], [], p, [], hW', ?_, ?_, ?_, ?_, fun h => by cases h⟩
  · rw [h1, hrt]
    exact trodAll_mk1 (shut_bool hB _)
  · rw [h2, List.append_nil]
    exact trodAll_kept hl hb _ _ _ _ hread hA (fun x hx => hW'.lt x (by simpa using hx))
  · rw [h3, hvars]
    rfl
  · exact hb.frame _
end

/-- What the rows list. -/
abbrev tabLaid : List (String × DataW Unit) := Rows.fnSparseRow.laid
def tabName : String := Rows.fnSparseRow.named.headD default
theorem Tryd.gTab : Tryd.prog.globalNamed tabName = some 1 := by kernel_rfl
theorem Tryd.gTabType : (Tryd.prog.globals[1]?).map (·.type) = some 166 := by kernel_rfl
theorem Tryd.cellsTab : Tryd.prog.cellsOf 166 = 64 := by kernel_rfl
theorem Tryd.cellsU8t : Tryd.prog.cellsOf 5 = 1 := by kernel_rfl

/-- The table's numbers: where 2 to the i stands, i. -/
def tabNums : List Int := (List.range 64).map fun d => (((List.range 64).find? fun i => deb i == d).getD 0 : Nat)
theorem tabNums_at : ∀ i : Fin 64, tabNums.getD (deb i.val) 0 = (i.val : Int) := by decide +kernel

theorem tab_of {W : World} (h : laidMetH Tryd.prog tabLaid W) : Tab W := by
  rw [MakeChecks.laidMetH_plain _ _ _ (by kernel_rfl)] at h
  have e : tabLaid = (tabName, Lib.tabData .u8 tabNums) :: [] := by kernel_rfl
  rw [e] at h
  have ht := Lib.tabIs_of_head (rest := []) Tryd.gTab Tryd.gTabType Tryd.underlying166 Tryd.underlying5 Tryd.cellsU8t Tryd.cellsTab h
  have hc : ∀ i, i < 64 → W.cell? ⟨1, deb i, none⟩ = some (.int .u8 i) := fun i hi => by
    have h1 := ht.cell Tryd.gTab (deb i) (by have := deb_lt i; simp [tabNums]; exact this)
    rw [tabNums_at ⟨i, hi⟩] at h1
    exact h1
  exact ⟨World.block_lt_of_cell? W _ (hc 0 (by decide)), hc⟩

/-- The door's own heap meets the condition. -/
theorem door_met (os : Os) (args : Array Value) : laidMetH Tryd.prog tabLaid ((World.doorLaid Tryd.prog 14 os).forCall (fun _ _ => 0) ⟨#[], args, []⟩).memory :=
  laidMetH_of_parts3 (fuel := 8) (laidMet_of_run' 8 (by kernel_rfl) (by kernel_rfl)) (by kernel_rfl) (by kernel_rfl)

end Go.Proofs.YtlbnngolcoefdaaDoor

/- How more of this seat's arguments are opened: numbers with their bounds, packed integers, bytes. -/
namespace Go.Proofs.YtlbnngolcoefdaaDoor
open Go.ChangeShapes Go.WideShapes Go.ChangeAt Go.RowKit Go.Joins
set_option maxRecDepth 100000

theorem int_le {n : Int} (h : (Lit.int .i64 n).wf = true) : n ≤ 9223372036854775807 := by
  simp [Lit.wf, IntKind.min, IntKind.max, IntKind.signed, IntKind.bits] at h
  omega
theorem int_ge {n : Int} (h : (Lit.int .i64 n).wf = true) : -9223372036854775808 ≤ n := by
  simp [Lit.wf, IntKind.min, IntKind.max, IntKind.signed, IntKind.bits] at h
  omega

theorem Tryd.cellsU8 : Tryd.prog.cellsOf 5 = 1 := by kernel_rfl
theorem open_bytesArg {H : Type} {enc : TypeId × Value → H} {W : World} {b0 base : Nat} {held : Bool} {v : Value} {d : DataW H} {p : List MemPlace} (hv : Value.okWide Tryd.prog W .any b0 22 v)
    (h : DataW.Trod enc Tryd.prog W base (fun _ => true) held 22 v d p) :
    ∃ (A : Option Addr) (c : Nat) (L : List Nat), v = .slice A L.length c ∧ L.length ≤ 9223372036854775807 ∧ Lies W B8 A L ∧ ∀ n ∈ L, n < 2 ^ 8 := by
  obtain ⟨a0, len, cap, rfl⟩ := okWide_slice Tryd.underlying22 hv
  obtain ⟨fuel, hf⟩ := h
  obtain ⟨A, c, L, e, hl, hL, hw⟩ := open_lies Tryd.underlying22 Tryd.underlying5 Tryd.cellsU8 (by simpa [Value.cells] using hf)
  have hb : ∀ n ∈ L, 0 ≤ n ∧ n < 2 ^ 8 := fun n hn => by
    have := hw n hn
    simp [Lit.wf, IntKind.min, IntKind.max, IntKind.signed, IntKind.bits] at this
    omega
  refine ⟨A, c, L.map Int.toNat, by simpa using e, by simpa using hl, lies_nat hL fun n hn => (hb n hn).1, ?_⟩
  intro n hn
  obtain ⟨y, hy, rfl⟩ := List.mem_map.1 hn
  have := hb y hy
  omega

theorem Tryd.cellsWords : Tryd.prog.cellsOf 27 = 1 := by kernel_rfl
theorem Tryd.cellsPacked : Tryd.prog.cellsOf 58 = 4 := by kernel_rfl
theorem open_packed {H : Type} {enc : TypeId × Value → H} {W : World} {b0 base : Nat} {held : Bool} {v : Value} {d : DataW H} {p : List MemPlace} (hv : Value.okWide Tryd.prog W .any b0 58 v)
    (h : DataW.Trod enc Tryd.prog W base (fun _ => true) held 58 v d p) :
    ∃ (P N M : Int) (A : Option Addr) (c : Nat) (L : List Nat), v = .agg #[.int .i64 P, .int .i64 N, .int .i64 M, .slice A L.length c] ∧ (Lit.int .i64 P).wf = true ∧ (Lit.int .i64 N).wf = true ∧ (Lit.int .i64 M).wf = true ∧ L.length ≤ 9223372036854775807 ∧ Lies W U A L ∧ ∀ n ∈ L, n < 2 ^ 64 := by
  obtain ⟨cs, rfl, hsz⟩ := okWide_struct Tryd.underlying58 hv
  obtain ⟨c0, c1, c2, c3, rfl⟩ := array4 (hsz.trans Tryd.cellsPacked)
  obtain ⟨fuel, hf⟩ := h
  obtain ⟨y0, y1, y2, n, _, _, h0, h1, h2⟩ := Go.Deep.trod_struct3 Tryd.underlying58 hf
  obtain ⟨z0, z1, m, _, _, h3, h4⟩ := trod_struct2 Tryd.underlying56 h2
  simp [Value.cells, Tryd.cellsInt, Tryd.cellsBits, Tryd.cellsWords] at h0 h1 h3 h4
  obtain ⟨P, e0, _, w0⟩ := DataW.trod_int Tryd.underlying3 h0
  obtain ⟨N, e1, _, w1⟩ := DataW.trod_int Tryd.underlying3 h1
  obtain ⟨M, e2, _, w2⟩ := DataW.trod_int Tryd.underlying3 h3
  obtain ⟨A, c, L, rfl, hl, hL, hw⟩ := open_words Tryd.underlying27 Tryd.underlying113 Tryd.cellsU64 h4
  simp at e0 e1 e2
  subst e0 e1 e2
  exact ⟨P, N, M, A, c, L, rfl, w0, w1, w2, hl, hL, hw⟩

end Go.Proofs.YtlbnngolcoefdaaDoor

/- Proved: laws.FnSparse returns true at every list of bytes that can be read, and leaves it as it was: the tied card. No condition but that the library's table of trailing zeros holds what the program's text lays (the card ties it). -/
namespace Go.Proofs.YtlbnngolcoefdaaDoor
open Go.ChangeShapes Go.WideShapes Go.ChangeAt Go.RowKit Go.Joins
set_option maxRecDepth 100000

set_option maxHeartbeats 400000 in
theorem lawSparse_big (A0 : Option Addr) (m0 c0 : Nat) (w : World) (hbig : 1048576 < m0) :
    Calls Tryd.prog 3 #[.slice A0 m0 c0] w fun e w' => e = .returned (.bool true) ∧ Below w.heap.size w w' := by
  have tb : decide (1048576 < m0) = true := by simpa using hbig
  go_enter Tryd.func3, Tryd.ntmps3
  go_wp2_with fail
  refine (big_any A0 m0 c0 w).mono ?_
  rintro e w1 ⟨rfl, rfl⟩
  rw [tb]
  go_wp2
  go_ret
  exact ⟨rfl, Below.refl _ _⟩

theorem fnSparse_lifted (os : Os) (started : os.Started) (H : Type) (enc : TypeId × Value → H) :
    ReturnsInHanded {} Tryd.checked os 3 .any (fun w args => (Rows.fnSparseSpec.pre enc Tryd.prog Tryd.f3 [] false w args ∧ laidMetH Tryd.prog tabLaid w) ∧ sizedMet enc Tryd.prog Tryd.f3 (OpenSpec.ofChange Rows.fnSparseSpec) false w args)
      (Rows.fnSparseSpec.post enc Tryd.prog Tryd.f3 false true false false) := by
  refine law_lifted_and (C := Tryd.checked) (X := fun w _ => laidMetH Tryd.prog tabLaid w) (fun _ _ _ hh h => h.of_heap hh) Tryd.own started (by kernel_rfl) Tryd.func3
    (ChangeSpec.witness_shaped (enc := enc) (C := Tryd.checked) (os := os) (X := fun w _ => laidMetH Tryd.prog tabLaid w) false (World.doorLaid Tryd.prog 14 os) #[.slice none 0 0] 8 rfl (World.shaped_of_RefB (by kernel_rfl) (by kernel_rfl)) (by kernel_rfl) (by kernel_rfl) (by kernel_rfl) (door_met os _))
    Tryd.laidOut (by kernel_rfl) rfl rfl Tryd.underlying4 ?_ ?_
  · intro H ds hds
    match ds, hds with
    | [d1], _ => exact ⟨rfl, rfl, rfl⟩
  · intro W base args ds p hval0 hA0 hlaid
    have hval : ∀ (j : Nat) t v, Tryd.f3.params[j]? = some t → args[j]? = some v → Value.okWide Tryd.prog W .any base t v := hval0
    have hA : DataW.TrodAll enc Tryd.prog W 0 (fun _ => true) true Tryd.f3.params.toList args.toList ds p := hA0
    rw [Tryd.params3] at hA hval
    obtain ⟨v0, d0, rfl, rfl, h0⟩ := trodAll_one hA
    obtain ⟨A0, c0, D0, rfl, hl0, hD0, hw0⟩ := open_bytesArg (hval 0 22 v0 rfl rfl) h0
    by_cases hb : 1048576 < D0.length
    · exact lawSparse_big A0 D0.length c0 W hb
    · exact lawSparse A0 c0 D0 W hD0 hw0 (by omega) (tab_of hlaid)

theorem fnSparse_holds : Rows.FnSparseSaid :=
  OpenClaim.holds_of_wide 3 Tryd.f3 rfl rfl rfl rfl rfl rfl rfl ⟨rfl, rfl, rfl, rfl, rfl⟩ rfl rfl rfl rfl rfl (by kernel_rfl) Tryd.func3 (by kernel_rfl)
    (of_decide_eq_true (by kernel_rfl)) (by unfold Func.isWrapper; first | (rw [if_pos (by decide +kernel)]; kernel_rfl) | (rw [if_neg (by decide +kernel)]; exact ⟨rfl, rfl⟩))
    (fun os started H enc _ => fnSparse_lifted os started H enc)

theorem fnSparse_plain (f : FuncId) (fn : Func) (hf : Tryd.pinned.checked.prog.funcNamed Rows.fnSparseRow.func = some f) (hfn : Tryd.pinned.checked.prog.funcs[f]? = some fn) :
    true = Tryd.pinned.checked.prog.looks [] ∧ ∀ (j : Nat) t, fn.params[j]? = some t → Tryd.pinned.checked.prog.wantsStandIn t = false := by
  obtain rfl : f = 3 := Option.some.inj ((show Tryd.prog.funcNamed Rows.fnSparseRow.func = some 3 by kernel_rfl).symm.trans hf) |>.symm
  obtain rfl : fn = Tryd.f3 := (Option.some.inj (Tryd.func3.symm.trans hfn)).symm
  refine ⟨by kernel_rfl, fun j t ht => ?_⟩
  rw [Tryd.params3] at ht
  have hm := Array.mem_of_getElem? ht
  obtain rfl : t = 22 := by simpa using hm
  exact (show Tryd.prog.wantsStandIn 22 = false by kernel_rfl)

theorem fnSparse_card : Rows.FnSparseCardSaid :=
  Claim7.holds_tied_plain_at .later [] _ _ _ _ fnSparse_holds (fun _ h => by cases h) (by kernel_rfl) (fun _ h => by cases h) fnSparse_row_tie rfl ⟨rfl, rfl⟩ (by kernel_rfl) rfl fnSparse_plain (by kernel_rfl)

end Go.Proofs.YtlbnngolcoefdaaDoor
