import Derived.Test.YtoehgcakfblblaaLaws2
import Derived.ProofKit
import Derived.OpenShut
import Derived.Lib.SmallJoins
import Derived.Test.YtoehgcakfblblaaRows
/- From a walk to a row, once for all laws: a law that returns true and leaves what was there before the call untouched. And how arguments of plain shapes are opened to my words for memory. Nothing of the program stands here. -/
namespace Go.Proofs.Ytoehgcakfblblaa
open Go.ChangeShapes Go.WideShapes Go.ChangeAt Go.RowKit Go.Joins

section
variable {H : Type} {enc : TypeId × Value → H} {P : Program}

theorem trodAll_kept (hl : laidOutB P = true) {W W' : World} (hb : Below W.heap.size W W') : ∀ (ts : List TypeId) (vs : List Value) (ds : List (DataW H)) (ps : List MemPlace),
    (∀ t ∈ ts, P.readableRec t = true ∧ t < P.types.size) → DataW.TrodAll enc P W 0 (fun _ => true) true ts vs ds ps → (∀ x ∈ ps, x.block < W.heap.size) →
    DataW.TrodAll enc P W' 0 (fun b => decide (b < W.heap.size)) true ts vs ds ps
  | [], [], [], ps, _, h, _ => h
  | t :: ts, v :: vs, d :: ds, ps, hr, h, hlt => by
    obtain ⟨p, q, h1, h2, rfl⟩ := h
    refine ⟨p, q, Below.trod hl (hr t (by simp)).1 (hr t (by simp)).2 h1 hb (fun x hx => hlt x (by simp [hx])), ?_, rfl⟩
    exact trodAll_kept hl hb ts vs ds q (fun t' ht' => hr t' (by simp [ht'])) h2 (fun x hx => hlt x (by simp [hx]))
  | [], _ :: _, _, _, _, h, _ => by simp [DataW.TrodAll] at h
  | [], [], _ :: _, _, _, h, _ => by simp [DataW.TrodAll] at h
  | _ :: _, [], _, _, _, h, _ => by simp [DataW.TrodAll] at h
  | _ :: _, _ :: _, [], _, _, h, _ => by simp [DataW.TrodAll] at h

theorem trodAll_len {W : World} {base : Nat} {spare : Nat → Bool} {held : Bool} : ∀ (ts : List TypeId) (vs : List Value) (ds : List (DataW H)) (ps : List MemPlace), DataW.TrodAll enc P W base spare held ts vs ds ps → ds.length = ts.length
  | [], vs, ds, ps, h => by cases vs <;> cases ds <;> simp [DataW.TrodAll] at h ⊢
  | t :: ts, vs, ds, ps, h => by
    obtain ⟨v, vs', d, ds', p', q', rfl, rfl, rfl, _, h2⟩ := trodAll_cons h
    simp [trodAll_len ts _ _ _ h2]

/-- A law's row from its walk. -/
theorem law_lifted {C : Checked} {os : Os} {F : FuncId} {fn : Func} {s : ChangeSpec} {B : TypeId}
    (own : ownKnob C.prog.godebug = none) (started : os.Started) (noInit : C.prog.inits.idxOf? F = none) (hfn : C.prog.funcs[F]? = some fn)
    (witness : ∃ (w : World) (tape : Tape) (i : Input), w.os = os ∧ (w.forCall tape i).Shaped C.prog ∧ i.vars = [] ∧ Input.okWide C.prog (w.forCall tape i) .any w.heap.size F i ∧
      s.pre6 enc C.prog fn [] false (w.forCall tape i).memory i.args ∧ ({} : Assume).holds C.prog (lone (Frame.enter C.prog F i.args .normal) [] (w.forCall tape i)))
    (hl : laidOutB C.prog = true) (hread0 : (fn.params.toList.all fun t => C.prog.readableRec t && decide (t < C.prog.types.size)) = true) (hvars : s.vars = [])
    (hrt : fn.resultTypes = #[B]) (hB : C.prog.underlying B = some .bool)
    (hspec : ∀ (H : Type) (ds : List (DataW H)), ds.length = fn.params.toList.length → (s.fn H ds).results = [.lit (.bool true)] ∧ (s.fn H ds).args = ds ∧ (s.fn H ds).vars = [])
    (hwalk : ∀ (W : World) (base : Nat) (args : Array Value) (ds : List (DataW H)) (p : List MemPlace),
      (∀ (j : Nat) t v, fn.params[j]? = some t → args[j]? = some v → Value.okWide C.prog W .any base t v) →
      DataW.TrodAll enc C.prog W 0 (fun _ => true) true fn.params.toList args.toList ds p →
      Calls C.prog F args W fun e W' => e = .returned (.bool true) ∧ Below W.heap.size W W') :
    ReturnsInHanded {} C os F .any (s.pre6 enc C.prog fn [] false) (s.post enc C.prog fn false true false false) := by
  have hread : ∀ t ∈ fn.params.toList, C.prog.readableRec t = true ∧ t < C.prog.types.size := fun t ht => by simpa using List.all_eq_true.1 hread0 t ht
  refine returnsInHanded_of_change own started noInit hfn witness ?_
  intro W base args ds gs before hval hW _ _
  have hW' := hW
  obtain ⟨p, q, hA, hV, rfl, _, _⟩ := hW
  rw [hvars] at hV
  obtain ⟨rfl, rfl⟩ := trodVars_none hV
  refine (hwalk W base args ds p hval hA).mono fun e W' ⟨he, hb⟩ => ?_
  have hlen : ds.length = fn.params.toList.length := trodAll_len _ _ _ _ hA
  obtain ⟨h1, h2, h3⟩ := hspec H (ds ++ []) (by simpa using hlen)
  refine ⟨_, he, ds, [], p ++ [], [], p, [], hW', ?_, ?_, ?_, ?_, fun h => by cases h⟩
  · rw [h1, hrt]
    exact trodAll_mk1 (shut_bool hB _)
  · rw [h2, List.append_nil]
    exact trodAll_kept hl hb _ _ _ _ hread hA (fun x hx => hW'.lt x (by simpa using hx))
  · rw [h3, hvars]
    rfl
  · exact hb.frame _

variable {w : World} {base : Nat} {spare : Nat → Bool} {held : Bool}

/-- A slice of integers that can be read, as a list that lies. -/
theorem open_lies {t e : TypeId} {k : IntKind} {fuel : Nat} {v : Value} {x : DataW H × List MemPlace} (ht : P.underlying t = some (.slice e)) (he : P.underlying e = some (.int k)) (hc : P.cellsOf e = 1)
    (h : DataW.trod enc P w base (fun _ => true) held fuel t [v] = some x) :
    ∃ (A : Option Addr) (c : Nat) (L : List Int), v = .slice A L.length c ∧ L.length ≤ 9223372036854775807 ∧ Lies w (Value.int k) A L ∧ ∀ n ∈ L, (Lit.int k n).wf = true := by
  rcases open_ints ht he hc h with ⟨hcs, _⟩ | ⟨a, len, cap, zs, hcs, _, hl, hm, hz, _, hcell, hwz⟩
  · refine ⟨none, 0, [], by simpa using hcs, by simp, Lies.nil_, by simp⟩
  · have hz' : zs.length = cap := by simpa using hz
    have hlen : (zs.take len).length = len := by rw [List.length_take]; omega
    have hv : v = .slice (some a) len cap := by simpa using hcs
    refine ⟨some a, cap, zs.take len, by rw [hlen, hv], by rw [hlen]; unfold maxLen at hm; omega, ?_, fun n hn => hwz n (List.mem_of_mem_take hn)⟩
    intro i y hy
    have hi : i < len := by have := (List.getElem?_eq_some_iff.1 hy).1; omega
    obtain ⟨b, o, rfl, hc'⟩ := ints_at hcell (by omega)
    have hcl := hc' i (by omega)
    refine ⟨b, o, rfl, World.block_lt_of_cell? w _ hcl, ?_⟩
    rw [hcl]
    rw [List.getElem?_take, if_pos hi] at hy
    simp [List.getD, hy]

theorem lies_nat {k : IntKind} {A : Option Addr} {L : List Int} (h : Lies w (Value.int k) A L) (h0 : ∀ n ∈ L, 0 ≤ n) : Lies w (fun x : Nat => Value.int k (x : Int)) A (L.map Int.toNat) := by
  intro i x hx
  rw [List.getElem?_map] at hx
  obtain ⟨y, hy, rfl⟩ := Option.map_eq_some_iff.1 hx
  obtain ⟨b, o, h1, h2, h3⟩ := h i y hy
  exact ⟨b, o, h1, h2, by rw [h3]; show _ = some (Value.int k (y.toNat : Int)); rw [Int.toNat_of_nonneg (h0 y (List.mem_of_getElem? hy))]⟩

theorem open_words {t e : TypeId} {fuel : Nat} {v : Value} {x : DataW H × List MemPlace} (ht : P.underlying t = some (.slice e)) (he : P.underlying e = some (.int .u64)) (hc : P.cellsOf e = 1)
    (h : DataW.trod enc P w base (fun _ => true) held fuel t [v] = some x) :
    ∃ (A : Option Addr) (c : Nat) (L : List Nat), v = .slice A L.length c ∧ L.length ≤ 9223372036854775807 ∧ Lies w U A L ∧ ∀ n ∈ L, n < 2 ^ 64 := by
  obtain ⟨A, c, L, rfl, hl, hL, hw⟩ := open_lies ht he hc h
  have hb : ∀ n ∈ L, 0 ≤ n ∧ n < 2 ^ 64 := fun n hn => by
    have := hw n hn
    simp [Lit.wf, IntKind.min, IntKind.max, IntKind.signed, IntKind.bits] at this
    omega
  refine ⟨A, c, L.map Int.toNat, by simp, by simpa using hl, lies_nat hL fun n hn => (hb n hn).1, ?_⟩
  intro n hn
  obtain ⟨y, hy, rfl⟩ := List.mem_map.1 hn
  have := hb y hy
  omega

end
end Go.Proofs.Ytoehgcakfblblaa

/- How this seat's plain arguments are opened. -/
namespace Go.Proofs.Ytoehgcakfblblaa
open Go.ChangeShapes Go.WideShapes Go.ChangeAt Go.RowKit Go.Joins
set_option maxRecDepth 100000

theorem Try.own : ownKnob Try.prog.godebug = none := by kernel_rfl
theorem Try.laidOut : laidOutB Try.prog = true := by kernel_rfl

theorem Try.cellsBits : Try.prog.cellsOf 54 = 2 := by kernel_rfl
theorem Try.cellsU64 : Try.prog.cellsOf 123 = 1 := by kernel_rfl

theorem open_bits {H : Type} {enc : TypeId × Value → H} {W : World} {b0 base : Nat} {held : Bool} {v : Value} {d : DataW H} {p : List MemPlace} (hv : Value.okWide Try.prog W .any b0 54 v)
    (h : DataW.Trod enc Try.prog W base (fun _ => true) held 54 v d p) :
    ∃ (N : Int) (A : Option Addr) (c : Nat) (L : List Nat), v = .agg #[.int .i64 N, .slice A L.length c] ∧ (Lit.int .i64 N).wf = true ∧ L.length ≤ 9223372036854775807 ∧ Lies W U A L ∧ ∀ n ∈ L, n < 2 ^ 64 := by
  obtain ⟨c0, c1, y0, y1, m, rfl, rfl, rfl, hy0, hy1⟩ := open_agg2 Try.underlying54 (by kernel_rfl) Try.cellsBits hv h
  obtain ⟨a, e0, rfl, wa⟩ := DataW.trod_int Try.underlying3 hy0
  obtain ⟨A, c, L, rfl, hl, hL, hw⟩ := open_words Try.underlying42 Try.underlying123 Try.cellsU64 hy1
  simp at e0
  subst e0
  exact ⟨a, A, c, L, rfl, wa, hl, hL, hw⟩

theorem Try.cellsInt : Try.prog.cellsOf 3 = 1 := by kernel_rfl
theorem open_intsArg {H : Type} {enc : TypeId × Value → H} {W : World} {b0 base : Nat} {held : Bool} {v : Value} {d : DataW H} {p : List MemPlace} (hv : Value.okWide Try.prog W .any b0 24 v)
    (h : DataW.Trod enc Try.prog W base (fun _ => true) held 24 v d p) :
    ∃ (A : Option Addr) (c : Nat) (L : List Int), v = .slice A L.length c ∧ L.length ≤ 9223372036854775807 ∧ Lies W I A L ∧ ∀ n ∈ L, (Lit.int .i64 n).wf = true := by
  obtain ⟨a0, len, cap, rfl⟩ := okWide_slice Try.underlying24 hv
  obtain ⟨fuel, hf⟩ := h
  exact open_lies Try.underlying24 Try.underlying3 Try.cellsInt (by simpa [Value.cells] using hf)

end Go.Proofs.Ytoehgcakfblblaa

/- How more of this seat's arguments are opened: numbers with their bounds, packed integers, bytes. -/
namespace Go.Proofs.Ytoehgcakfblblaa
open Go.ChangeShapes Go.WideShapes Go.ChangeAt Go.RowKit Go.Joins
set_option maxRecDepth 100000

theorem int_le {n : Int} (h : (Lit.int .i64 n).wf = true) : n ≤ 9223372036854775807 := by
  simp [Lit.wf, IntKind.min, IntKind.max, IntKind.signed, IntKind.bits] at h
  omega
theorem int_ge {n : Int} (h : (Lit.int .i64 n).wf = true) : -9223372036854775808 ≤ n := by
  simp [Lit.wf, IntKind.min, IntKind.max, IntKind.signed, IntKind.bits] at h
  omega

theorem Try.cellsU8 : Try.prog.cellsOf 5 = 1 := by kernel_rfl
theorem open_bytesArg {H : Type} {enc : TypeId × Value → H} {W : World} {b0 base : Nat} {held : Bool} {v : Value} {d : DataW H} {p : List MemPlace} (hv : Value.okWide Try.prog W .any b0 22 v)
    (h : DataW.Trod enc Try.prog W base (fun _ => true) held 22 v d p) :
    ∃ (A : Option Addr) (c : Nat) (L : List Nat), v = .slice A L.length c ∧ L.length ≤ 9223372036854775807 ∧ Lies W B8 A L ∧ ∀ n ∈ L, n < 2 ^ 8 := by
  obtain ⟨a0, len, cap, rfl⟩ := okWide_slice Try.underlying22 hv
  obtain ⟨fuel, hf⟩ := h
  obtain ⟨A, c, L, e, hl, hL, hw⟩ := open_lies Try.underlying22 Try.underlying5 Try.cellsU8 (by simpa [Value.cells] using hf)
  have hb : ∀ n ∈ L, 0 ≤ n ∧ n < 2 ^ 8 := fun n hn => by
    have := hw n hn
    simp [Lit.wf, IntKind.min, IntKind.max, IntKind.signed, IntKind.bits] at this
    omega
  refine ⟨A, c, L.map Int.toNat, by simpa using e, by simpa using hl, lies_nat hL fun n hn => (hb n hn).1, ?_⟩
  intro n hn
  obtain ⟨y, hy, rfl⟩ := List.mem_map.1 hn
  have := hb y hy
  omega

end Go.Proofs.Ytoehgcakfblblaa
