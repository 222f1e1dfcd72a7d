import Derived.RangeFuncNested
import Derived.RangeFuncBound
import Derived.RangeFuncCalls
import Derived.RangeFuncLeaves
import Derived.RangeFuncBox
import Derived.OrdersIn
/- A range over an iterator that itself ranges over another iterator. What the caller knows between two rounds must outlive the inner loop's own record; in return each round says that it keeps what is no cells from the iterator's call on. Nothing of the program stands here. -/
namespace Go.Proofs.YtlbnngolcoefdaaDoor
open Go.RowKit

/-- The contract of such an iterator. -/
def SeqO {α : Type} (P : Program) (g : Nat) (lb : Array Value) (encs : α → Array Value) (Kp : World → World → Prop) (S Sp : List α → Prop) (N : Nat) (w : World) : Prop :=
  ∀ (l : Nat) (J Jx : List α → World → Prop) (W : World), Below w.heap.size w W → OwnFrom W.heap.size J → OwnFrom W.heap.size Jx →
    (∀ pre x W1, J pre W1 → pre.length < N → YieldAt Fence.wide 0 P l (encs x) W1 fun e W' =>
      (e = .returned (.bool true) ∧ J (pre ++ [x]) W' ∧ Kp W1 W' ∧ KeepsFrom W.heap.size W1 W') ∨ (e = .returned (.bool false) ∧ Jx (pre ++ [x]) W' ∧ KeepsFrom W.heap.size W1 W')) →
    J [] W →
    CallsIn Fence.wide 0 P g (#[.func (.yield l) #[] #[]] ++ lb) W fun e W' => (∃ v, e = .returned v) ∧ ((∃ xs, S xs ∧ J xs W') ∨ (∃ pre, Sp pre ∧ Jx pre W'))

theorem yield_wide {m m' : Nat} {P : Program} {l : Nat} {args : Array Value} {W : World} {R : Ending → World → Prop} (h : YieldAt Fence.wide m P l args W R) : YieldAt Fence.wide m' P l args W R := by
  obtain ⟨fn, tmps, assign, body, hy, hf, hr⟩ := h
  exact ⟨fn, tmps, assign, body, hy, hf, fun c cs _ => hr c cs (room_wide _)⟩
theorem calls_wide {m m' : Nat} {P : Program} {f : FuncId} {args : Array Value} {W : World} {R : Ending → World → Prop} (h : CallsIn Fence.wide m P f args W R) : CallsIn Fence.wide m' P f args W R := callsIn_wide.2 (callsIn_wide.1 h)

variable {P : Program} {n : Nat}

theorem own_block {β : Type} {B k : Nat} {o : Obj} {X : β → World → Prop} {I : β → World → Prop} (hI : OwnFrom B I) (hX : ∀ s W, X s W ↔ I s W ∧ W.heap[k]? = some o) (hk : k < B) : OwnFrom B X := fun s W W' row hs hg hr => by
  rw [hX] at hs ⊢
  refine ⟨hI s W W' row hs.1 hg hr, (hg.block k (Array.getElem?_eq_some_iff.1 hs.2).1 fun e => ?_).trans hs.2⟩
  have := (hr k e.symm).1
  omega
theorem own_later {β : Type} {B B' : Nat} {I : β → World → Prop} (h : OwnFrom B I) (hb : B ≤ B') : OwnFrom B' I := fun s W W' row hs hg hr => h s W W' row hs hg fun r e => ⟨Nat.le_trans hb (hr r e).1, (hr r e).2⟩

/-- The range over such an iterator, in no round. -/
theorem wpIn_range_O {α : Type} {g : Operand} {ps : Array Tmp} {assign body : Code} {Q : Exit → Act → World → Prop} {a : Act} {w : World}
    {gf : Nat} {lb : Array Value} (hg : a.eval g = .func (.func gf) #[] lb) (eg : ∀ args w, (callFunc gf args).run P w = .ok (.enter gf args) w)
    {encs : α → Array Value} {Kp : World → World → Prop} {S Sp : List α → Prop} {N : Nat} {w0 : World} (hseq : SeqO P gf lb encs Kp S Sp N w0)
    (hKt : ∀ {A B C : World}, Kp A B → Kp B C → Kp A C) (hKb : ∀ (W : World) (l : Nat) (o o' : Obj), w.heap.size ≤ l → W.heap[l]? = some o → o.isCells = false → o.isWalk = false → Kp W (W.putObj l o')) (hb0 : Below w0.heap.size w0 w) (hps : ∀ x, (encs x).size = ps.size)
    (I : List α → World → Prop) (Ix : Code → List α → World → Prop) (hI : OwnFrom w.heap.size I) (hIx : ∀ c, OwnFrom w.heap.size (Ix c)) (h0 : I [] w) (a₁ : α → Act)
    (hassign : ∀ (l : Nat) (x : α) (W : World) (K : Act → World → Prop), K (a₁ x) W →
      assign.wpIn (Fence.wide.inRound l) n P (Exit.then K (fun _ _ _ => False)) { tmps := (ps.zip (encs x)).foldl (fun t (p, v) => t.setIfInBounds p v) a.tmps, defers := [] } W)
    (hbody : ∀ (l : Nat) (pre : List α) (x : α) (W : World), I pre W → pre.length < N → body.wpIn (Fence.wide.inRound l) n P (ownPostG w.heap.size Kp I Ix (pre ++ [x]) W) (a₁ x) W)
    (hdone : ∀ (D : Nat) (xs : List α) (W : World), w.heap.size ≤ D → S xs → I xs W → W.heap[D]? = some (.deferred (some [])) → Q .normal { a with defers := { target := .collected D, args := #[] } :: a.defers } W)
    (hstop : ∀ (D : Nat) (c : Code) (pre : List α) (W : World), w.heap.size ≤ D → Sp pre → Ix c pre W → W.heap[D]? = some (.deferred (some [])) → c.wpIn Fence.wide n P Q { a with defers := { target := .collected D, args := #[] } :: a.defers } W) :
    (Code.rangeFunc g ps assign body).wpIn Fence.wide n P Q a w := by
  refine wpIn_rangeFunc fun fn hfn => ?_
  obtain ⟨d, hd⟩ : ∃ d, w.heap.size = d := ⟨_, rfl⟩
  obtain ⟨rec, hrec⟩ : ∃ rec : LoopState → Option Code → Loop, rec = fun st pe => { state := st, pending := pe, fn, tmps := a.tmps, params := ps, assign, body, defers := d } := ⟨_, rfl⟩
  obtain ⟨V, hV⟩ : ∃ V, (w.alloc (.deferred (some []))).alloc (.loop (rec .ready none)) = V := ⟨_, rfl⟩
  have hVs : V.heap.size = d + 2 := by rw [← hV]; simp [hd]
  have hVl : V.heap[d + 1]? = some (.loop (rec .ready none)) := by
    rw [← hV, ← hd]; have := World.alloc_heap_new (w.alloc (.deferred (some []))) (.loop (rec .ready none)); rwa [World.size_alloc] at this
  have hVd : V.heap[d]? = some (.deferred (some [])) := by
    rw [← hV, ← hd]; exact (Below.heap_alloc _ _ _ (by simp)).trans (World.alloc_heap_new w _)
  have hVI : I [] V := by rw [← hV]; exact hI.alloc _ (hI.alloc _ h0)
  have hVb : Below w0.heap.size w0 V := by
    rw [← hV]; exact hb0.trans ((((Below.refl _ w).alloc (Nat.le_refl _) _).alloc (by simp) _).mono hb0.size)
  rw [hd] at hI hIx hKb hbody hdone hstop
  refine ⟨d + 1, [{ target := .collected d, args := #[] }], V, { target := .fn (.func gf) lb, args := #[.func (.yield (d + 1)) #[] #[]] }, V, gf, #[.func (.yield (d + 1)) #[] #[]] ++ lb, V, ?_, ?_, fun _ _ => trivial, ?_, fun h => by simp [Fence.wide] at h, ?_⟩
  · rw [← hV, hrec, ← hd]; exact run_enterLoop_outer _ _ _ _ _
  · simp only [resolve, hg]; simp [go_sem]
  · simp [invoke, go_sem, eg]
  · have o1 : OwnFrom V.heap.size fun pre W => I pre W ∧ W.heap[d + 1]? = some (.loop (rec .ready none)) ∧ W.heap[d]? = some (.deferred (some [])) :=
      own_block (k := d) (o := .deferred (some [])) (own_block (k := d + 1) (o := .loop (rec .ready none)) (I := I) (own_later hI (by omega)) (X := fun pre W => I pre W ∧ W.heap[d + 1]? = some (.loop (rec .ready none))) (fun _ _ => Iff.rfl) (by omega)) (fun _ _ => and_assoc.symm) (by omega)
    have o2 : ∀ c, OwnFrom V.heap.size fun pre W => Ix c pre W ∧ W.heap[d + 1]? = some (.loop (rec .done (some c))) ∧ W.heap[d]? = some (.deferred (some [])) := fun c =>
      own_block (k := d) (o := .deferred (some [])) (own_block (k := d + 1) (o := .loop (rec .done (some c))) (I := Ix c) (own_later (hIx c) (by omega)) (X := fun pre W => Ix c pre W ∧ W.heap[d + 1]? = some (.loop (rec .done (some c)))) (fun _ _ => Iff.rfl) (by omega)) (fun _ _ => and_assoc.symm) (by omega)
    refine (calls_wide (hseq (d + 1) (fun pre W => I pre W ∧ W.heap[d + 1]? = some (.loop (rec .ready none)) ∧ W.heap[d]? = some (.deferred (some [])))
      (fun pre W => ∃ c, Ix c pre W ∧ W.heap[d + 1]? = some (.loop (rec .done (some c))) ∧ W.heap[d]? = some (.deferred (some []))) V hVb o1
      (fun s A B row hs hgr hr => by obtain ⟨c, hc⟩ := hs; exact ⟨c, o2 c s A B row hc hgr hr⟩) ?_ ⟨hVI, hVl, hVd⟩)).mono ?_
    · rintro pre x W ⟨hi, hl, hk⟩ hlen
      have hlt := (Array.getElem?_eq_some_iff.1 hl).1
      have hy := run_yield (P := P) (args := encs x) hl (by rw [hrec]; exact hps x)
      rw [hrec] at hy
      refine yield_wide (m := n) ⟨fn, _, assign, body, hy, roundIn_of_wpIn hfn (hassign _ x W _ ?_)⟩
      clear hy
      obtain ⟨Wb, hWb⟩ : ∃ Wb, W.putObj (d + 1) (.loop { rec .ready none with state := .busy }) = Wb := ⟨_, rfl⟩
      have hbl : Wb.heap[d + 1]? = some (.loop { rec .ready none with state := .busy }) := by rw [← hWb]; exact World.putObj_heap_same hlt
      have hbd : Wb.heap[d]? = some (.deferred (some [])) := by rw [← hWb]; exact (World.putObj_heap_other (by omega)).trans hk
      have hbk : Kp W Wb := by rw [← hWb]; exact hKb _ _ _ _ (by omega) hl rfl rfl
      have hbi : I pre Wb := by rw [← hWb]; exact hI.putObj _ hi (by omega) hl rfl
      have hbf : KeepsFrom V.heap.size W Wb := ⟨by rw [← hWb]; simp [World.putObj], fun k o hk' ho _ => by rw [← hWb]; exact (World.putObj_heap_other (by omega)).trans ho⟩
      refine ⟨Wb, by rw [← hWb]; exact run_beginRound hl (by rw [hrec]), wpIn_mono (hbody _ pre x _ hbi hlen) ?_⟩
      have fin : ∀ (jump : Option Code) (W3 : World), KeepsFrom d Wb W3 →
          (Instr.endRound (d + 1) jump).run P W3 = .ok (.bool jump.isNone) (W3.putObj (d + 1) (.loop (rec (if jump.isNone then .ready else .done) jump))) ∧ W3.heap[d + 1]? = some (.loop { rec .ready none with state := .busy }) ∧
          (W3.putObj (d + 1) (.loop (rec (if jump.isNone then .ready else .done) jump))).heap[d + 1]? = some (.loop (rec (if jump.isNone then .ready else .done) jump)) ∧
          (W3.putObj (d + 1) (.loop (rec (if jump.isNone then .ready else .done) jump))).heap[d]? = some (.deferred (some [])) ∧
          KeepsFrom V.heap.size W (W3.putObj (d + 1) (.loop (rec (if jump.isNone then .ready else .done) jump))) := fun jump W3 h3 => by
        have hl3 := h3.same _ _ (by omega) hbl rfl
        have hr := run_endRound (P := P) jump hl3
        rw [hrec] at hr
        refine ⟨by rw [hrec]; exact hr, hl3, World.putObj_heap_same (Array.getElem?_eq_some_iff.1 hl3).1, (World.putObj_heap_other (by omega)).trans (h3.same _ _ (Nat.le_refl _) hbd rfl), ?_⟩
        refine ⟨Nat.le_trans hbf.size (Nat.le_trans h3.size (by simp [World.putObj])), fun k o hk' ho hc => ?_⟩
        exact (World.putObj_heap_other (by omega)).trans (h3.same k o (by omega) (hbf.same k o hk' ho hc) hc)
      rintro e a3 W3 hp
      cases e with
      | normal =>
        obtain ⟨h3, hk3, hi3⟩ := hp
        obtain ⟨hr, hl3, hl4, hd4, hf4⟩ := fin none W3 h3
        exact ⟨_, _, hr, .inl ⟨rfl, ⟨hI.putObj _ hi3 (by omega) hl3 rfl, hl4, hd4⟩, hKt (hKt hbk hk3) (hKb _ _ _ _ (by omega) hl3 rfl rfl), hf4⟩⟩
      | ret =>
        obtain ⟨h3, hi3⟩ := hp
        obtain ⟨hr, hl3, hl4, hd4, hf4⟩ := fin (some .ret) W3 h3
        exact ⟨_, _, hr, .inr ⟨rfl, ⟨.ret, (hIx _).putObj _ hi3 (by omega) hl3 rfl, hl4, hd4⟩, hf4⟩⟩
      | exit id =>
        obtain ⟨h3, hi3⟩ := hp
        obtain ⟨hr, hl3, hl4, hd4, hf4⟩ := fin (some (.exit id)) W3 h3
        exact ⟨_, _, hr, .inr ⟨rfl, ⟨.exit id, (hIx _).putObj _ hi3 (by omega) hl3 rfl, hl4, hd4⟩, hf4⟩⟩
      | goto t =>
        obtain ⟨h3, hi3⟩ := hp
        obtain ⟨hr, hl3, hl4, hd4, hf4⟩ := fin (some (.goto t)) W3 h3
        exact ⟨_, _, hr, .inr ⟨rfl, ⟨.goto t, (hIx _).putObj _ hi3 (by omega) hl3 rfl, hl4, hd4⟩, hf4⟩⟩
      | panic ch => exact hp.elim
      | outgrown => exact hp.elim
    · rintro e W2 ⟨⟨v, rfl⟩, (⟨xs, hS, hi, hl, hk⟩ | ⟨pre, hSp, c, hi, hl, hk⟩)⟩
      · exact ⟨none, _, by have := run_endLoop (P := P) hl (by rw [hrec]; simp); rw [hrec] at this; exact this, hdone _ xs _ (Nat.le_refl _) hS (hI.putObj _ hi (by omega) hl rfl) ((World.putObj_heap_other (by omega)).trans hk)⟩
      · exact ⟨some c, _, by have := run_endLoop (P := P) hl (by rw [hrec]; simp); rw [hrec] at this; exact this, hstop _ c pre _ (Nat.le_refl _) hSp ((hIx c).putObj _ hi (by omega) hl rfl) ((World.putObj_heap_other (by omega)).trans hk)⟩

end Go.Proofs.YtlbnngolcoefdaaDoor

/- A region that draws its order, by one invariant: whatever the order, each operation finds what it needs and keeps the invariant. Nothing of the program stands here. -/
namespace Go.Proofs.YtlbnngolcoefdaaDoor
open Go.RowKit

variable {F : Fence} {n : Nat} {P : Program} {ops : Array Oper} {Q : Exit → Act → World → Prop}

/-- May the operation i come up? -/
def mayCome (ops : Array Oper) (L : Array Bool) (i : Nat) : Bool := !L.getD i true && ((ops[i]?).map (·.after.all fun e => !Region.binds .any e || L.getD e.on false)).getD false

/-- How many are still to come. -/
def toCome (L : Array Bool) : Nat := (L.toList.filter fun b => !b).length

theorem toCome_set (L : Array Bool) (i : Nat) (h : L.getD i true = false) : toCome (L.setIfInBounds i true) + 1 = toCome L := by
  have hi : i < L.size := by
    by_cases hi : i < L.size
    · exact hi
    · simp [Array.getD, hi] at h
  have hb : L.toList[i]'(by simpa using hi) = false := by simpa [Array.getD, hi] using h
  unfold toCome
  rw [Array.toList_setIfInBounds]
  have key : ∀ (l : List Bool) (j : Nat) (hj : j < l.length), l[j] = false → ((l.set j true).filter fun b => !b).length + 1 = (l.filter fun b => !b).length := by
    intro l
    induction l with
    | nil => intro j hj; simp at hj
    | cons x xs ih =>
      intro j hj hx
      cases j with
      | zero =>
        simp at hx
        subst hx
        simp
      | succ j =>
        simp only [List.getElem_cons_succ] at hx
        have := ih j (by simpa using hj) hx
        simp only [List.set_cons_succ, List.filter_cons]
        split
        · simp only [List.length_cons]; omega
        · omega
  exact key _ _ _ hb

theorem anyIn_inv (Inv : Array Bool → Act → World → Prop)
    (hstep : ∀ L a w, L.size = ops.size → Inv L a w → ∀ i, i < ops.size → mayCome ops L i = true → wpOpIn F n P ops Q i (fun a' w' => Inv (L.setIfInBounds i true) a' w') a w)
    (hend : ∀ L a w, L.size = ops.size → Inv L a w → (∀ i, i < ops.size → mayCome ops L i = false) → Q .normal a w) :
    ∀ (fuel : Nat) (L : Array Bool) (a : Act) (w : World), L.size = ops.size → toCome L ≤ fuel → Inv L a w → wpAnyIn F n P .any ops Q fuel L a w
  | 0, L, a, w, hs, hf, hI => by
    have hno : ∀ i, i < ops.size → mayCome ops L i = false := fun i hi => by
      cases h : mayCome ops L i
      · rfl
      · unfold mayCome at h
        rw [Bool.and_eq_true] at h
        have := toCome_set L i (by simpa using h.1)
        omega
    refine ⟨?_, hend L a w hs hI hno⟩
    unfold Region.ready
    rw [List.filter_eq_nil_iff]
    intro i hi
    have := hno i (List.mem_range.1 hi)
    unfold mayCome at this
    rw [this]
    simp
  | fuel + 1, L, a, w, hs, hf, hI => by
    refine ⟨fun hr => hend L a w hs hI fun i hi => ?_, fun i hi => ?_⟩
    · unfold Region.ready at hr
      rw [List.filter_eq_nil_iff] at hr
      have := hr i (List.mem_range.2 hi)
      unfold mayCome
      simpa using this
    · unfold Region.ready at hi
      rw [List.mem_filter, List.mem_range] at hi
      have hm : mayCome ops L i = true := hi.2
      have hm' := hm
      unfold mayCome at hm'
      rw [Bool.and_eq_true] at hm'
      have hset := toCome_set L i (by simpa using hm'.1)
      exact wpOpIn_mono (fun a' w' h => anyIn_inv Inv hstep hend fuel _ a' w' (by simpa using hs) (by omega) h) (hstep L a w hs hI i hi.1 hm)

theorem toCome_all (m : Nat) : toCome (Array.replicate m false) ≤ m := by
  unfold toCome
  exact Nat.le_trans (List.length_filter_le _ _) (by simp)

/-- The region itself. -/
theorem region_inv {id : Nat} {a : Act} {w : World} (hm : P.follows .mixedOrders = true) (Inv : Array Bool → Act → World → Prop)
    (h0 : Inv (Array.replicate ops.size false) a w.drew)
    (hstep : ∀ L a w, L.size = ops.size → Inv L a w → ∀ i, i < ops.size → mayCome ops L i = true → wpOpIn F n P ops Q i (fun a' w' => Inv (L.setIfInBounds i true) a' w') a w)
    (hend : ∀ L a w, L.size = ops.size → Inv L a w → (∀ i, i < ops.size → mayCome ops L i = false) → Q .normal a w) : (Code.region id ops true).wpIn F n P Q a w :=
  wpIn_region_any hm (anyIn_inv Inv hstep hend _ _ a _ (by simp) (toCome_all _) h0)

end Go.Proofs.YtlbnngolcoefdaaDoor

/- The one drawn region of the iterator over the numbers, as an invariant over what has come. Nothing of the program stands here. -/
namespace Go.Proofs.YtlbnngolcoefdaaDoor
open Go.RowKit

/-- Has the operation j come? -/
def lst (L : Array Bool) (j : Nat) : Bool := L.getD j false
theorem lst_set {L : Array Bool} {i : Nat} (hi : i < L.size) (j : Nat) : lst (L.setIfInBounds i true) j = (decide (i = j) || lst L j) := by
  unfold lst
  by_cases h : i = j
  · subst h
    simp [Array.getD, hi]
  · by_cases hj : j < L.size
    · simp [Array.getD, hj, h, Array.getElem_setIfInBounds]
    · simp [Array.getD, hj, h]
theorem lst_start (m j : Nat) : lst (Array.replicate m false) j = false := by
  unfold lst
  by_cases h : j < m <;> simp [Array.getD, h]
theorem mayCome_deps {ops : Array Oper} {L : Array Bool} {i : Nat} {o : Oper} (ho : ops[i]? = some o) (hs : i < L.size) (h : mayCome ops L i = true) : lst L i = false ∧ ∀ e ∈ o.after, Region.binds .any e = true → lst L e.on = true := by
  unfold mayCome at h
  rw [ho, Bool.and_eq_true] at h
  refine ⟨?_, fun e he hb => ?_⟩
  · have := h.1
    unfold lst
    simp [Array.getD, hs] at this ⊢
    exact this
  · have h2 := h.2
    simp only [Option.map_some, Option.getD_some, Array.all_eq_true_iff_forall_mem] at h2
    have h3 := h2 e he
    rw [hb] at h3
    simpa [lst] using h3
theorem not_mayCome {ops : Array Oper} {L : Array Bool} {i : Nat} {o : Oper} (ho : ops[i]? = some o) (hs : i < L.size) (h : mayCome ops L i = false) (hd : ∀ e ∈ o.after, lst L e.on = true) : lst L i = true := by
  cases hl : lst L i
  · exfalso
    unfold mayCome at h
    rw [ho] at h
    have h1 : (!L.getD i true) = true := by
      unfold lst at hl
      simp [Array.getD, hs] at hl ⊢
      exact hl
    rw [h1, Bool.true_and] at h
    simp only [Option.map_some, Option.getD_some] at h
    have h2 : (o.after.all fun e => !Region.binds .any e || L.getD e.on false) = true := by
      rw [Array.all_eq_true_iff_forall_mem]
      intro e he
      have := hd e he
      unfold lst at this
      rw [this, Bool.or_true]
    rw [h2] at h
    cases h
  · rfl

/-- What each of the first eleven waits for. -/
def waits : Nat → List Nat
  | 3 => [2] | 4 => [3] | 5 => [1, 4] | 7 => [6] | 9 => [7, 8] | 10 => [5, 9] | _ => []

structure OrdInv (g : Nat → Value) (Wd : World → Prop) (Post : Bool → World → Prop) (L : Array Bool) (f : Nat → Value) (w : World) : Prop where
  size : L.size = 13
  vals : ∀ j, j < 11 → lst L j = true → f j = g j
  deps : ∀ j, j < 11 → lst L j = true → ∀ e ∈ waits j, lst L e = true
  pre : lst L 11 = false → lst L 12 = false ∧ Wd w
  post : lst L 11 = true → (∀ j, j < 11 → lst L j = true) ∧ ∃ ok : Bool, f 11 = .bool ok ∧ (lst L 12 = true → f 12 = .bool (!ok)) ∧ Post ok w

section
variable {g : Nat → Value} {Wd : World → Prop} {Post : Bool → World → Prop} {L : Array Bool} {f : Nat → Value} {w w' : World}
theorem OrdInv.start (f : Nat → Value) (h : Wd w) : OrdInv g Wd Post (Array.replicate 13 false) f w :=
  ⟨by simp, fun j _ h => (by rw [lst_start] at h; cases h), fun j _ h => (by rw [lst_start] at h; cases h), fun _ => ⟨lst_start _ _, h⟩, fun h => (by rw [lst_start] at h; cases h)⟩
theorem OrdInv.early (h : OrdInv g Wd Post L f w) {i : Nat} (hi : i < 11) (hn : lst L i = false) : lst L 11 = false := by
  cases h11 : lst L 11
  · rfl
  · rw [(h.post h11).1 i hi] at hn
    cases hn
theorem OrdInv.next (h : OrdInv g Wd Post L f w) {i : Nat} (hi : i < 11) (hn : lst L i = false) (hd : ∀ e ∈ waits i, lst L e = true) (hw : Wd w') (f' : Nat → Value) (hf : ∀ j, f' j = if j = i then g i else f j) : OrdInv g Wd Post (L.setIfInBounds i true) f' w' := by
  have h11 := h.early hi hn
  have hs := h.size
  have hset := fun j => lst_set (L := L) (i := i) (by omega) j
  refine ⟨by simp [hs], fun j hj hl => ?_, fun j hj hl e he => ?_, fun _ => ⟨?_, hw⟩, fun hl => ?_⟩
  · rw [hset] at hl
    rw [hf]
    by_cases e : j = i
    · rw [if_pos e, e]
    · rw [if_neg e]
      rw [decide_eq_false (fun e' => e e'.symm), Bool.false_or] at hl
      exact h.vals j hj hl
  · rw [hset] at hl ⊢
    by_cases e' : j = i
    · subst e'
      rw [hd e he, Bool.or_true]
    · rw [decide_eq_false (fun e'' => e' e''.symm), Bool.false_or] at hl
      rw [h.deps j hj hl e he, Bool.or_true]
  · rw [hset, decide_eq_false (by omega), Bool.false_or]
    exact (h.pre h11).1
  · rw [hset, decide_eq_false (by omega), Bool.false_or, h11] at hl
    cases hl
theorem OrdInv.all (h : OrdInv g Wd Post L f w) (h0 : lst L 0 = true) (h10 : lst L 10 = true) : ∀ j, j < 11 → lst L j = true := by
  have h5 := h.deps 10 (by omega) h10 5 (by simp [waits])
  have h9 := h.deps 10 (by omega) h10 9 (by simp [waits])
  have h1 := h.deps 5 (by omega) h5 1 (by simp [waits])
  have h4 := h.deps 5 (by omega) h5 4 (by simp [waits])
  have h3 := h.deps 4 (by omega) h4 3 (by simp [waits])
  have h2 := h.deps 3 (by omega) h3 2 (by simp [waits])
  have h7 := h.deps 9 (by omega) h9 7 (by simp [waits])
  have h8 := h.deps 9 (by omega) h9 8 (by simp [waits])
  have h6 := h.deps 7 (by omega) h7 6 (by simp [waits])
  intro j hj
  match j, hj with
  | 0, _ => exact h0
  | 1, _ => exact h1
  | 2, _ => exact h2
  | 3, _ => exact h3
  | 4, _ => exact h4
  | 5, _ => exact h5
  | 6, _ => exact h6
  | 7, _ => exact h7
  | 8, _ => exact h8
  | 9, _ => exact h9
  | 10, _ => exact h10
theorem OrdInv.call (h : OrdInv g Wd Post L f w) (hn : lst L 11 = false) (h0 : lst L 0 = true) (h10 : lst L 10 = true) (ok : Bool) (hp : Post ok w') (f' : Nat → Value) (hf : ∀ j, f' j = if j = 11 then .bool ok else f j) : OrdInv g Wd Post (L.setIfInBounds 11 true) f' w' := by
  have hs := h.size
  have hset := fun j => lst_set (L := L) (i := 11) (by omega) j
  have ha := h.all h0 h10
  refine ⟨by simp [hs], fun j hj hl => ?_, fun j hj hl e he => ?_, fun hl => ?_, fun _ => ⟨fun j hj => ?_, ok, by rw [hf, if_pos rfl], fun hl => ?_, hp⟩⟩
  · rw [hf, if_neg (by omega)]
    exact h.vals j hj (ha j hj)
  · rw [hset, h.deps j hj (ha j hj) e he, Bool.or_true]
  · rw [hset, decide_eq_true rfl, Bool.true_or] at hl
    cases hl
  · rw [hset, ha j hj, Bool.or_true]
  · rw [hset, decide_eq_false (by omega), Bool.false_or, (h.pre hn).1] at hl
    cases hl
theorem OrdInv.last (h : OrdInv g Wd Post L f w) (hn : lst L 12 = false) (h11 : lst L 11 = true) {ok : Bool} (hok : f 11 = .bool ok) (f' : Nat → Value) (hf : ∀ j, f' j = if j = 12 then .bool (!ok) else f j) : OrdInv g Wd Post (L.setIfInBounds 12 true) f' w := by
  have hs := h.size
  have hset := fun j => lst_set (L := L) (i := 12) (by omega) j
  obtain ⟨ha, ok', h1, h2, h3⟩ := h.post h11
  refine ⟨by simp [hs], fun j hj hl => ?_, fun j hj hl e he => ?_, fun hl => ?_, fun _ => ⟨fun j hj => ?_, ok', by rw [hf, if_neg (by omega)]; exact h1, fun hl => ?_, h3⟩⟩
  · rw [hf, if_neg (by omega)]
    exact h.vals j hj (ha j hj)
  · rw [hset, h.deps j hj (ha j hj) e he, Bool.or_true]
  · rw [hset, h11, Bool.or_true] at hl
    cases hl
  · rw [hset, ha j hj, Bool.or_true]
  · rw [hf, if_pos rfl]
    rw [h1] at hok
    cases hok
    rfl
end

end Go.Proofs.YtlbnngolcoefdaaDoor
