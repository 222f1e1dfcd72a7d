import Derived.Test.YtlbnngolcoefdaaDoorFrsOwn
import Derived.Deep.RegionHeld3
/- The laws' helpers on lists of frames: their size, and a copy. -/
namespace Go.Proofs.YtlbnngolcoefdaaDoor
open Go.RowKit
set_option maxRecDepth 100000

theorem Tryd.infoFrame : (Tryd.prog.info? 49).map (fun i => (i.zero, i.size, i.bytes)) = some (some (.agg #[.int .i64 0, .slice none 0 0]), 2, 32) := by kernel_rfl
theorem make_frames (n : Nat) (hn : n ≤ 1048576) (w : World) :
    (Instr.makeSlice 41 (.int .i64 (n : Int)) (.int .i64 (n : Int))).run Tryd.prog w = .ok (.slice (some ⟨w.heap.size, 0, none⟩) n n) (w.alloc (.cells (madeCells #[.int .i64 0, .slice none 0 0] (n * 2)) 49)) := by
  obtain ⟨i, hi, hzz⟩ := Option.map_eq_some_iff.1 Tryd.infoFrame
  simp only [Prod.mk.injEq] at hzz
  obtain ⟨hz, hs, hb⟩ := hzz
  have hr := run_make (P := Tryd.prog) w 41 49 i _ Tryd.underlying41 hi hz .i64 .i64 n n (by omega) (Int.le_refl _) (by rw [hb]; omega) (by omega)
  simp only [Int.toNat_natCast, hs] at hr
  exact hr

/-- A list of frames lies at A (whatever the room of their bytes). -/
def LiesG (w : World) (A : Option Addr) (P : List FrA) : Prop :=
  ∀ (j : Nat) (p : FrA), P[j]? = some p → (∃ b o, A = some ⟨b, o, none⟩ ∧ b < w.heap.size ∧ w.cell? ⟨b, o + j * 2, none⟩ = some (.int .i64 p.K) ∧ w.cell? ⟨b, o + j * 2 + 1, none⟩ = some (.slice p.A p.L.length p.c)) ∧
    Lies w B8 p.A p.L ∧ True ∧ ∀ x ∈ p.L, x < 2 ^ 8
theorem LiesG.below {w w' : World} {A : Option Addr} {P : List FrA} (h : LiesG w A P) (hb : Below w.heap.size w w') : LiesG w' A P := by
  intro j p hp
  obtain ⟨⟨b, o, h1, h2, h3, h4⟩, h5, h6, h7⟩ := h j p hp
  exact ⟨⟨b, o, h1, Nat.lt_of_lt_of_le h2 hb.size, (hb.cell (p := ⟨b, o + j * 2, none⟩) h2).trans h3, (hb.cell (p := ⟨b, o + j * 2 + 1, none⟩) h2).trans h4⟩, h5.below hb, h6, h7⟩

/-- How many numbers and bytes a list of frames holds. -/
def totF : List FrA → Nat
  | [] => 0
  | p :: r => 1 + p.L.length + totF r
theorem totF_at {P : List FrA} {k : Nat} {p : FrA} (h : P[k]? = some p) : totF (P.drop k) = 1 + p.L.length + totF (P.drop (k + 1)) := by
  obtain ⟨hj, rfl⟩ := List.getElem?_eq_some_iff.1 h
  rw [List.drop_eq_getElem_cons hj, totF]

theorem totF_le : ∀ (P : List FrA), P.length ≤ totF P
  | [] => Nat.le_refl _
  | p :: r => by
    have := totF_le r
    simp only [List.length_cons, totF]
    omega
theorem totF_mem : ∀ {P : List FrA} {k : Nat} {p : FrA}, P[k]? = some p → p.L.length ≤ totF P
  | [], k, p, h => by simp at h
  | q :: r, 0, p, h => by
    have : q = p := by simpa using h
    subst this
    simp only [totF]
    omega
  | q :: r, k + 1, p, h => by
    have := totF_mem (P := r) (k := k) (p := p) (by simpa using h)
    simp only [totF]
    omega

/-- What szFrameS leaves of 1048576. -/
def szV (n : Nat) : Int := if n ≤ 1048576 then 1048576 - (n : Int) else -1

/-- A new list of frames is returned. -/
def NewFrs (w : World) (V : List (Int × List Nat)) (e : Ending) (w' : World) : Prop :=
  ∃ (g d : Nat) (cs : Array Value) (Q : List FrV), e = .returned (.slice (some ⟨g, 0, none⟩) V.length d) ∧ FrsIn w' w.heap.size w'.heap.size g cs Q ∧ Q.map (fun q => (q.K, q.xs)) = V.map (fun v => (v.1, v.2.map B8)) ∧ Below w.heap.size w w'

end Go.Proofs.YtlbnngolcoefdaaDoor

/- Lists of frames: read as frames, compared, marked. -/
namespace Go.Proofs.YtlbnngolcoefdaaDoor
open Go.RowKit
set_option maxRecDepth 100000

/-- Frames with their bytes, as they lie. -/
def zipF (Q : List FrV) (V : List (Int × List Nat)) : List FrA := List.zipWith (fun q v => ⟨q.K, q.A, q.c, v.2⟩) Q V
theorem zipF_val : ∀ {Q : List FrV} {V : List (Int × List Nat)}, Q.map (fun q => (q.K, q.xs)) = V.map (fun v => (v.1, v.2.map B8)) → (zipF Q V).map FrA.val = V
  | [], [], _ => rfl
  | [], _ :: _, h => by simp at h
  | _ :: _, [], h => by simp at h
  | q :: Q, v :: V, h => by
    simp only [List.map_cons, List.cons.injEq, Prod.mk.injEq] at h
    have ih := zipF_val (Q := Q) (V := V) h.2
    unfold zipF at ih ⊢
    rw [List.zipWith_cons_cons, List.map_cons, ih]
    simp [FrA.val, h.1.1]
theorem zipF_at {Q : List FrV} {V : List (Int × List Nat)} (hm : Q.map (fun q => (q.K, q.xs)) = V.map (fun v => (v.1, v.2.map B8))) {j : Nat} {p : FrA} (h : (zipF Q V)[j]? = some p) :
    ∃ q v, Q[j]? = some q ∧ V[j]? = some v ∧ p = ⟨q.K, q.A, q.c, v.2⟩ ∧ q.K = v.1 ∧ q.xs = v.2.map B8 := by
  unfold zipF at h
  rw [List.getElem?_zipWith] at h
  cases hq : Q[j]? with
  | none => rw [hq] at h; cases h
  | some q =>
    cases hv : V[j]? with
    | none => rw [hq, hv] at h; cases h
    | some v =>
      rw [hq, hv] at h
      have h1 : (Q.map (fun q => (q.K, q.xs)))[j]? = some (q.K, q.xs) := by rw [List.getElem?_map, hq]; rfl
      rw [hm, List.getElem?_map, hv] at h1
      have h2 := Option.some.inj h1
      exact ⟨q, v, rfl, rfl, (Option.some.inj h).symm, (congrArg Prod.fst h2).symm, (congrArg Prod.snd h2).symm⟩

theorem FrsIn.lies {w : World} {lo hi g : Nat} {cs : Array Value} {Q : List FrV} {V : List (Int × List Nat)} (h : FrsIn w lo hi g cs Q) (hm : Q.map (fun q => (q.K, q.xs)) = V.map (fun v => (v.1, v.2.map B8))) (hb : ∀ v ∈ V, ∀ x ∈ v.2, x < 2 ^ 8) :
    LiesF w (some ⟨g, 0, none⟩) (zipF Q V) := by
  intro j p hp
  obtain ⟨q, v, hq, hv, rfl, hK, hx⟩ := zipF_at hm hp
  obtain ⟨c1, c2⟩ := h.cells j q hq
  obtain ⟨ho, _⟩ := h.own j q hq
  have hlen : q.xs.length = v.2.length := by rw [hx, List.length_map]
  unfold FrV.body at ho c2
  rw [hlen] at ho c2
  rw [hx] at ho
  refine ⟨⟨g, 0, rfl, h.box.lt, ?_, ?_⟩, Lies.of_own ho, own_tidy ho, hb v (List.mem_of_getElem? hv)⟩
  · rw [Nat.zero_add]
    exact (h.box.cell _).trans c1
  · rw [Nat.zero_add]
    exact (h.box.cell _).trans c2

set_option maxHeartbeats 1600000 in
/-- Two lists of the same frames are equal. -/
theorem eqFrames_true (A B : Option Addr) (c d : Nat) (P Q : List FrA) (w : World) (hP : LiesF w A P) (hQ : LiesF w B Q) (hv : P.map FrA.val = Q.map FrA.val) (hl : P.length ≤ 1048576) (hp : ∀ (k : Nat) (p : FrA), P[k]? = some p → p.L.length ≤ 1048576) :
    Calls Tryd.prog 43 #[.slice A P.length c, .slice B Q.length d] w fun e w' => e = .returned (.bool true) ∧ Below w.heap.size w w' := by
  have HP := Lib.hid hP
  have HQ := Lib.hid hQ
  have HV := Lib.hid hv
  have HL := Lib.hid hp
  have hlen : Q.length = P.length := by have := congrArg List.length hv; simpa using this.symm
  rw [hlen]
  clear hP hQ hv hp
  have n0 : ((P.length : Int) != (P.length : Int)) = false := by simp
  go_enter Tryd.func43, Tryd.ntmps43
  go_wp2
  go_loopw [5] (fun i wr => ∃ k : Nat, k ≤ P.length ∧ i = .int .i64 k ∧ Below w.heap.size w wr) (fun i _ => P.length - (intOf i).toNat)
  case atStart => exact ⟨0, Nat.zero_le _, rfl, Below.refl _ _⟩
  case round =>
    obtain ⟨k, hk, rfl, hb⟩ := hrel
    have HB := Lib.hid hb
    clear hb
    by_cases hlt : k < P.length
    · obtain ⟨p, hpp⟩ : ∃ p, P[k]? = some p := ⟨P[k], List.getElem?_eq_getElem hlt⟩
      obtain ⟨q, hqq⟩ : ∃ q, Q[k]? = some q := ⟨Q[k]'(by omega), List.getElem?_eq_getElem (by omega)⟩
      obtain ⟨⟨b, o, rfl, hbl, hc0, hc1⟩, hpl, hpt, hpb⟩ := (HP.out.below HB.out) k p hpp
      obtain ⟨⟨b', o', rfl, hbl', hd0, hd1⟩, hql, hqt, hqb⟩ := (HQ.out.below HB.out) k q hqq
      have hval : (p.K, p.L) = (q.K, q.L) := by
        have h1 : (P.map FrA.val)[k]? = some p.val := by rw [List.getElem?_map, hpp]; rfl
        rw [HV.out, List.getElem?_map, hqq] at h1
        exact (Option.some.inj h1).symm
      have hK : q.K = p.K := (congrArg Prod.fst hval).symm
      have hLL : q.L = p.L := (congrArg Prod.snd hval).symm
      rw [hK] at hd0
      rw [hLL] at hd1 hql
      have HC := Lib.hid fun W (h : Below wr.heap.size wr W) => eqFrame_true p.K p.A q.A p.c q.c p.L W (hpl.below h) (hql.below h) (by have := HL.out k p hpp; omega)
      have tl : decide ((k : Int) < (P.length : Int)) = true := by simp; omega
      have k0 : (0 : Int) ≤ (k : Int) := by omega
      have k1 : (k : Int) < (P.length : Int) := by omega
      clear hpp hqq hpl hpt hpb hql hqt hqb hval hK hLL
      go_wp2_with fail
      go_region_with (first | (go_at_call 37; refine Calls.mono (HC.out _ ?_) ?_; exact (Below.refl _ _).drew; rintro e w1 ⟨rfl, hb1⟩; have HB1 := Lib.hid (HB.out.trans ((((Below.refl wr.heap.size wr).drew).trans hb1).mono HB.out.size)); clear hb1))
      all_goals go_wp2
      all_goals go_roundw
      all_goals first
        | exact ⟨k + 1, by omega, by go_num, HB1.out⟩
        | (simp [intOf]; omega)
    · go_wp2
      go_ret
      exact ⟨rfl, HB.out⟩

end Go.Proofs.YtlbnngolcoefdaaDoor

/- Lists of frames: marked. -/
namespace Go.Proofs.YtlbnngolcoefdaaDoor
open Go.RowKit
set_option maxRecDepth 100000

/-- Only what lies between lo and hi is changed. -/
structure Inside (lo hi : Nat) (w w' : World) : Prop where
  os : w'.os = w.os
  tape : w'.tape = w.tape
  output : w'.output = w.output
  size : w.heap.size ≤ w'.heap.size
  block : ∀ k, k < w.heap.size → (k < lo ∨ hi ≤ k) → w'.heap[k]? = w.heap[k]?
theorem Inside.refl (lo hi : Nat) (w : World) : Inside lo hi w w := ⟨rfl, rfl, rfl, Nat.le_refl _, fun _ _ _ => rfl⟩
theorem Inside.trans {lo hi : Nat} {a b c : World} (h : Inside lo hi a b) (k : Inside lo hi b c) : Inside lo hi a c :=
  ⟨k.os.trans h.os, k.tape.trans h.tape, k.output.trans h.output, Nat.le_trans h.size k.size, fun j hj hc => (k.block j (Nat.lt_of_lt_of_le hj h.size) hc).trans (h.block j hj hc)⟩
theorem Inside.below {lo hi B : Nat} {a b c : World} (h : Below B a b) (k : Inside lo hi b c) (hB : B ≤ lo) (hs : B ≤ b.heap.size) : Below B a c :=
  ⟨k.os.trans h.os, k.tape.trans h.tape, k.output.trans h.output, Nat.le_trans h.size k.size, fun j hj => (k.block j (Nat.lt_of_lt_of_le hj hs) (.inl (Nat.lt_of_lt_of_le hj hB))).trans (h.block j hj)⟩

theorem set_at {α : Type} {R : List α} {i j : Nat} {x p : α} (h : (R.set i x)[j]? = some p) (hi : i < R.length) : (j = i ∧ p = x) ∨ (j ≠ i ∧ R[j]? = some p) := by
  rw [List.getElem?_set] at h
  split at h
  · rename_i e
    exact .inl ⟨e.symm, (Option.some.inj h).symm⟩
  · rename_i e
    exact .inr ⟨fun e' => e e'.symm, h⟩

section
variable {w w' : World} {lo hi g : Nat} {cs : Array Value} {R : List FrV} {i : Nat} {p : FrV}
/-- A kind is written. -/
theorem FrsIn.kind (h : FrsIn w lo hi g cs R) (hp : R[i]? = some p) (k : Int) : FrsIn (w.setCell ⟨g, i * 2, none⟩ (.int .i64 k)) lo hi g (cs.setIfInBounds (i * 2) (.int .i64 k)) (R.set i { p with K := k }) := by
  have hi' : i < R.length := (List.getElem?_eq_some_iff.1 hp).1
  have hc : i * 2 < cs.size := by
    have := (h.cells i p hp).1
    exact (Array.getElem?_eq_some_iff.1 this).1
  have keep : ∀ {v : Value} {n : Nat} {ys : List Value}, w.ownsRow lo 5 1 v n ys → (w.setCell ⟨g, i * 2, none⟩ (.int .i64 k)).ownsRow lo 5 1 v n ys := fun {v n ys} hv =>
    own_turn3 hv fun j e => Below.heap_setCell w ⟨g, i * 2, none⟩ _ j (fun e2 => own_ne_box hv h.box (by rw [e, e2]))
  refine ⟨h.box.put _ _, h.low, h.high, ?_, ?_, ?_⟩
  · intro j q hq
    rcases set_at hq hi' with ⟨rfl, rfl⟩ | ⟨hj, hq⟩
    · obtain ⟨c1, c2⟩ := h.cells j p hp
      refine ⟨Array.getElem?_setIfInBounds_self_of_lt hc, ?_⟩
      rw [Array.getElem?_setIfInBounds_ne (by omega)]
      exact c2
    · obtain ⟨c1, c2⟩ := h.cells j q hq
      rw [Array.getElem?_setIfInBounds_ne (by omega), Array.getElem?_setIfInBounds_ne (by omega)]
      exact ⟨c1, c2⟩
  · intro j q hq
    rcases set_at hq hi' with ⟨rfl, rfl⟩ | ⟨hj, hq⟩
    · exact ⟨keep (h.own j p hp).1, (h.own j p hp).2⟩
    · exact ⟨keep (h.own j q hq).1, (h.own j q hq).2⟩
  · intro a b x y m hab hx hy e1 e2
    rcases set_at hx hi' with ⟨rfl, rfl⟩ | ⟨ha, hx2⟩
    · rcases set_at hy hi' with ⟨rfl, rfl⟩ | ⟨hb, hy2⟩
      · exact hab rfl
      · exact h.apart a b p y m hab hp hy2 e1 e2
    · rcases set_at hy hi' with ⟨rfl, rfl⟩ | ⟨hb, hy2⟩
      · exact h.apart a b x p m hab hx2 hp e1 e2
      · exact h.apart a b x y m hab hx2 hy2 e1 e2
/-- Bytes are written. -/
theorem FrsIn.bytes (h : FrsIn w lo hi g cs R) (hhi : hi ≤ w.heap.size) (hp : R[i]? = some p) {ys : List Value} (hl : ys.length = p.xs.length) (ho : w'.ownsRow lo 5 1 p.body p.xs.length ys) (hg : w.grownBy w' p.body.ownBlock) : FrsIn w' lo hi g cs (R.set i { p with xs := ys }) := by
  have hi' : i < R.length := (List.getElem?_eq_some_iff.1 hp).1
  have hbody : ({ p with xs := ys } : FrV).body = p.body := by unfold FrV.body; rw [hl]
  refine ⟨(hg.block g h.box.lt (fun e => own_ne_box (h.own i p hp).1 h.box e.symm)).trans h.box, h.low, h.high, ?_, ?_, ?_⟩
  · intro j q hq
    rcases set_at hq hi' with ⟨rfl, rfl⟩ | ⟨hj, hq⟩
    · rw [hbody]
      exact h.cells j p hp
    · exact h.cells j q hq
  · intro j q hq
    rcases set_at hq hi' with ⟨rfl, rfl⟩ | ⟨hj, hq⟩
    · rw [hbody]
      refine ⟨?_, (h.own j p hp).2⟩
      show w'.ownsRow lo 5 1 p.body ys.length ys
      rw [hl]
      exact ho
    · refine ⟨own_turn3 (h.own j q hq).1 fun k e => hg.block k (Nat.lt_of_lt_of_le ((h.own j q hq).2 k e) hhi) fun e2 => ?_, (h.own j q hq).2⟩
      exact h.apart j i q p k hj hq hp e e2.symm
  · intro a b x y m hab hx hy e1 e2
    rcases set_at hx hi' with ⟨rfl, rfl⟩ | ⟨ha, hx2⟩
    · rw [hbody] at e1
      rcases set_at hy hi' with ⟨rfl, rfl⟩ | ⟨hb, hy2⟩
      · exact hab rfl
      · exact h.apart a b p y m hab hp hy2 e1 e2
    · rcases set_at hy hi' with ⟨rfl, rfl⟩ | ⟨hb, hy2⟩
      · rw [hbody] at e2
        exact h.apart a b x p m hab hx2 hp e1 e2
      · exact h.apart a b x y m hab hx2 hy2 e1 e2
end

/-- How much is marked. -/
def totV : List FrV → Nat
  | [] => 0
  | p :: r => 1 + p.xs.length + totV r
theorem totV_at {P : List FrV} {k : Nat} {p : FrV} (h : P[k]? = some p) : totV (P.drop k) = 1 + p.xs.length + totV (P.drop (k + 1)) := by
  obtain ⟨hj, rfl⟩ := List.getElem?_eq_some_iff.1 h
  rw [List.drop_eq_getElem_cons hj, totV]

theorem totV_le : ∀ (P : List FrV), P.length ≤ totV P
  | [] => Nat.le_refl _
  | p :: r => by
    have := totV_le r
    simp only [List.length_cons, totV]
    omega

set_option maxHeartbeats 1600000 in
theorem markFrames_any (lo hi g d : Nat) (cs : Array Value) (Q : List FrV) (w : World) (h : FrsIn w lo hi g cs Q) (hhi : hi ≤ w.heap.size) (ht : totV Q ≤ 1048576) :
    Calls Tryd.prog 44 #[.slice (some ⟨g, 0, none⟩) Q.length d, .int .i64 1] w fun e w' => (∃ r : Nat, e = .returned (.int .i64 r)) ∧ Inside lo hi w w' := by
  have H0 := Lib.hid h
  clear h
  have hQl : Q.length ≤ 1048576 := Nat.le_trans (totV_le Q) ht
  go_enter Tryd.func44, Tryd.ntmps44
  go_wp2
  go_loopw [1, 5] (fun k i wr => ∃ (n m : Nat) (cs' : Array Value) (R : List FrV), n ≤ Q.length ∧ i = .int .i64 n ∧ k = .int .i64 m ∧ FrsIn wr lo hi g cs' R ∧ R.length = Q.length ∧ Hid (R.drop n = Q.drop n) ∧ m + totV (Q.drop n) = 1 + totV Q ∧ Inside lo hi w wr) (fun _ i _ => Q.length - (intOf i).toNat)
  case atStart => exact ⟨0, 1, cs, Q, Nat.zero_le _, rfl, rfl, H0.out, rfl, Lib.hid rfl, by rw [List.drop_zero], Inside.refl _ _ _⟩
  case round =>
    obtain ⟨n, m, cs', R, hn, rfl, rfl, hin, hR, hD, hm, hI⟩ := hrel
    have HI := Lib.hid hI
    have HF := Lib.hid hin
    have HR := Lib.hid hR
    clear hI hin hR
    by_cases hlt : n < Q.length
    · obtain ⟨p, hp⟩ : ∃ p, R[n]? = some p := ⟨R[n]'(by rw [HR.out]; exact hlt), List.getElem?_eq_getElem _⟩
      have hpQ : Q[n]? = some p := by
        have e1 : (R.drop n)[0]? = some p := by rw [List.getElem?_drop]; exact hp
        rw [hD.out, List.getElem?_drop] at e1
        exact e1
      have htot := totV_at hpQ
      obtain ⟨c1, c2⟩ := HF.out.cells n p hp
      have y0 := (HF.out.box.cell (n * 2)).trans c1
      have z0 := HF.out.box.frozen (n * 2)
      have hgl := HF.out.box.lt
      have HK := Lib.hid (HF.out.kind hp ((m : Nat) : Int))
      have hx2 := (HK.out.box.cell (n * 2 + 1)).trans (HK.out.cells n _ (by rw [List.getElem?_set]; simp [HR.out, hlt]; rfl)).2
      have hs2 : hi ≤ (wr.setCell ⟨g, n * 2, none⟩ (.int .i64 (m : Int))).heap.size := by rw [World.size_setCell]; exact Nat.le_trans hhi HI.out.size
      have tl : decide ((n : Int) < (Q.length : Int)) = true := by simp; omega
      have HP := Lib.hid hp
      have hIs : Inside lo hi wr (wr.setCell ⟨g, n * 2, none⟩ (.int .i64 (m : Int))) := by
        have hb := (Below.refl 0 wr).setCell (p := ⟨g, n * 2, none⟩) (Nat.zero_le _) (.int .i64 (m : Int))
        refine ⟨hb.os, hb.tape, hb.output, hb.size, fun j hj hc => Below.heap_setCell wr ⟨g, n * 2, none⟩ _ j fun e => ?_⟩
        have := HF.out.low
        have := HF.out.high
        simp only at e
        omega
      have HIs := Lib.hid (HI.out.trans hIs)
      clear c1 c2 hp hpQ hIs
      go_wp2_with fail
      clear y0 z0 hx2
      generalize wr.setCell ⟨g, n * 2, none⟩ (.int .i64 (m : Int)) = w1 at *
      have hp2 : (R.set n { p with K := (m : Int) })[n]? = some { p with K := (m : Int) } := by
        rw [List.getElem?_set]
        simp [HR.out, hlt]
      have hown := (HK.out.own n _ hp2).1
      refine (markByte p.A p.xs.length p.c lo ((m : Int) + 1) p.xs w1 hown (by omega) (by omega) (by omega)).mono ?_
      rintro e w2 ⟨rfl, ho2, hg2⟩
      have HF2 := Lib.hid (HK.out.bytes hs2 hp2 (ys := (List.range p.xs.length).map fun (j : Nat) => mk8 ((m : Int) + 1 + j)) (by simp) ho2 hg2)
      have hI2 : Inside lo hi w1 w2 := ⟨hg2.os, hg2.tape, hg2.output, hg2.size, fun j hj hc => hg2.block j hj fun e => by
        have h1 := (own_kind hown e.symm).1
        have h2 := (HK.out.own n _ hp2).2 j e.symm
        omega⟩
      have HI2 := Lib.hid (HIs.out.trans hI2)
      rw [List.set_set] at HF2
      have e5 : (m : Int) + 1 + (p.xs.length : Int) = ((m + 1 + p.xs.length : Nat) : Int) := by omega
      rw [e5]
      obtain ⟨m2, hm2⟩ : ∃ m2, m + 1 + p.xs.length = m2 := ⟨_, rfl⟩
      rw [hm2]
      have HD2 : Hid ((R.set n ⟨(m : Int), p.A, p.c, (List.range p.xs.length).map fun (j : Nat) => mk8 ((m : Int) + 1 + j)⟩).drop (n + 1) = Q.drop (n + 1)) := Lib.hid (by
        rw [List.drop_set_of_lt (by omega)]
        have := congrArg (List.drop 1) hD.out
        rw [List.drop_drop, List.drop_drop] at this
        exact this)
      have hm3 : m2 + totV (Q.drop (n + 1)) = 1 + totV Q := by omega
      clear ho2 hg2 hI2 e5 hm2 hown hp2 htot hm hD
      go_wp2
      go_roundw
      case rel => exact ⟨n + 1, m2, cs'.setIfInBounds (n * 2) (.int .i64 (m : Int)), _, by omega, by go_num, rfl, HF2.out, by rw [List.length_set, HR.out], HD2, hm3, HI2.out⟩
      case measure => simp [intOf]; omega
    · go_wp2
      go_ret
      exact ⟨⟨m, rfl⟩, HI.out⟩

end Go.Proofs.YtlbnngolcoefdaaDoor
