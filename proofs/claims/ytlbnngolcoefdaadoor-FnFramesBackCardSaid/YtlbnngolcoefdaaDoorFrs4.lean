import Derived.Test.YtlbnngolcoefdaaDoorFrs2
import Derived.Test.YtlbnngolcoefdaaDoorFrame1
import Derived.Deep.RegionHeld3
/- A list of frames that a call has made: the frames in one block, each one's bytes in a block of its own. -/
namespace Go.Proofs.YtlbnngolcoefdaaDoor
open Go.RowKit
set_option maxRecDepth 100000

/-- A frame in memory: its kind, and the slice of its bytes with what they hold. -/
structure FrV where
  K : Int
  A : Option Addr
  c : Nat
  xs : List Value
abbrev FrV.body (p : FrV) : Value := .slice p.A p.xs.length p.c

/-- The first frames of block g are Q; all lies between lo and hi. -/
structure FrsIn (w : World) (lo hi g : Nat) (cs : Array Value) (Q : List FrV) : Prop where
  box : Box w g 49 cs
  low : lo ≤ g
  high : g < hi
  cells : ∀ (j : Nat) (p : FrV), Q[j]? = some p → cs[j * 2]? = some (.int .i64 p.K) ∧ cs[j * 2 + 1]? = some p.body
  own : ∀ (j : Nat) (p : FrV), Q[j]? = some p → w.ownsRow lo 5 1 p.body p.xs.length p.xs ∧ ∀ k, p.body.ownBlock = some k → k < hi
  apart : ∀ (i j : Nat) (p q : FrV) (k : Nat), i ≠ j → Q[i]? = some p → Q[j]? = some q → p.body.ownBlock = some k → q.body.ownBlock ≠ some k

/-- The block of owned bytes holds bytes. -/
theorem own_kind {w : World} {base n : Nat} {v : Value} {xs : List Value} (h : w.ownsRow base 5 1 v n xs) {k : Nat} (hk : v.ownBlock = some k) : base ≤ k ∧ ∃ cur, w.heap[k]? = some (.cells cur 5 (0, 0)) := by
  rcases h.2 with ⟨h2, _⟩ | ⟨g, cap, cur, hv, hg, hh, r⟩
  · rw [h2] at hk
    cases hk
  · rw [hv] at hk
    injection hk with hk
    subst hk
    exact ⟨hg, cur, hh⟩
theorem own_ne_box {w : World} {base n : Nat} {v : Value} {xs : List Value} {g : Nat} {cs : Array Value} (h : w.ownsRow base 5 1 v n xs) (hx : Box w g 49 cs) : v.ownBlock ≠ some g := by
  intro e
  obtain ⟨_, cur, hh⟩ := own_kind h e
  unfold Box at hx
  rw [hx] at hh
  injection hh with hh
  injection hh with _ e _
  cases e
theorem own_turn3 {w w' : World} {b : Nat} {e : TypeId} {size n : Nat} {v : Value} {xs : List Value} (h : w.ownsRow b e size v n xs) (hk : ∀ k, v.ownBlock = some k → w'.heap[k]? = w.heap[k]?) : w'.ownsRow b e size v n xs := by
  obtain ⟨h1, h2⟩ := h
  refine ⟨h1, ?_⟩
  rcases h2 with h2 | ⟨g, cap, cur, hv, hg, hh, r⟩
  · exact .inl h2
  · exact .inr ⟨g, cap, cur, hv, hg, (hk g (by rw [hv]; rfl)).trans hh, r⟩

section
variable {w w' : World} {lo hi g : Nat} {cs : Array Value} {Q : List FrV}
theorem FrsIn.turn (h : FrsIn w lo hi g cs Q) (hk : ∀ k, lo ≤ k → k < hi → w'.heap[k]? = w.heap[k]?) : FrsIn w' lo hi g cs Q :=
  ⟨(hk g h.low h.high).trans h.box, h.low, h.high, h.cells, fun j p hp => ⟨own_turn3 (h.own j p hp).1 fun k e => hk k (own_kind (h.own j p hp).1 e).1 ((h.own j p hp).2 k e), (h.own j p hp).2⟩, h.apart⟩
theorem FrsIn.below (h : FrsIn w lo hi g cs Q) {B : Nat} (hb : Below B w w') (hB : hi ≤ B) : FrsIn w' lo hi g cs Q := h.turn fun k _ h2 => hb.block k (Nat.lt_of_lt_of_le h2 hB)
/-- One frame more, its bytes new. -/
theorem FrsIn.snoc (h : FrsIn w lo hi g cs Q) {K : Int} {A : Option Addr} {c : Nat} {xs : List Value} (hb : Below w.heap.size w w') (hhi : hi ≤ w.heap.size) (ho : w'.ownsRow w.heap.size 5 1 (.slice A xs.length c) xs.length xs) (hsz : Q.length * 2 + 1 < cs.size) :
    FrsIn ((w'.setCell ⟨g, Q.length * 2, none⟩ (.int .i64 K)).setCell ⟨g, Q.length * 2 + 1, none⟩ (.slice A xs.length c)) lo w'.heap.size g ((cs.setIfInBounds (Q.length * 2) (.int .i64 K)).setIfInBounds (Q.length * 2 + 1) (.slice A xs.length c)) (Q ++ [⟨K, A, c, xs⟩]) := by
  have hx' : Box w' g 49 cs := h.box.below hb h.box.lt
  have hx2 := (hx'.put (Q.length * 2) (.int .i64 K))
  have hlow : lo ≤ w.heap.size := Nat.le_of_lt (Nat.lt_of_le_of_lt h.low h.box.lt)
  have ho' : w'.ownsRow lo 5 1 (.slice A xs.length c) xs.length xs := own_mono ho hlow
  have put : ∀ {v : Value} {n : Nat} {ys : List Value}, w'.ownsRow lo 5 1 v n ys → ((w'.setCell ⟨g, Q.length * 2, none⟩ (.int .i64 K)).setCell ⟨g, Q.length * 2 + 1, none⟩ (.slice A xs.length c)).ownsRow lo 5 1 v n ys := fun {v n ys} hv =>
    own_turn3 hv fun k e => by
      have hne : k ≠ g := fun e2 => own_ne_box hv hx' (by rw [e, e2])
      rw [Below.heap_setCell _ ⟨g, Q.length * 2 + 1, none⟩ _ k hne, Below.heap_setCell _ ⟨g, Q.length * 2, none⟩ _ k hne]
  have old : ∀ (j : Nat) (p : FrV), Q[j]? = some p → w'.ownsRow lo 5 1 p.body p.xs.length p.xs := fun j p hp => own_turn3 (h.own j p hp).1 fun k e => hb.block k (Nat.lt_of_lt_of_le ((h.own j p hp).2 k e) hhi)
  have split : ∀ (j : Nat) (p : FrV), (Q ++ [⟨K, A, c, xs⟩])[j]? = some p → (j < Q.length ∧ Q[j]? = some p) ∨ (j = Q.length ∧ p = ⟨K, A, c, xs⟩) := fun j p hp => by
    rcases Nat.lt_or_ge j Q.length with hj | hj
    · rw [List.getElem?_append_left hj] at hp
      exact .inl ⟨hj, hp⟩
    · rw [List.getElem?_append_right hj] at hp
      have hj0 : j - Q.length = 0 := by
        rcases Nat.eq_zero_or_pos (j - Q.length) with h0 | h0
        · exact h0
        · rw [List.getElem?_eq_none (by simp; omega)] at hp
          cases hp
      rw [hj0] at hp
      exact .inr ⟨by omega, (Option.some.inj hp).symm⟩
  refine ⟨hx2.put _ _, h.low, Nat.lt_of_lt_of_le h.high (Nat.le_trans hhi hb.size), ?_, ?_, ?_⟩
  · intro j p hp
    rcases split j p hp with ⟨hj, hp⟩ | ⟨rfl, rfl⟩
    · obtain ⟨c1, c2⟩ := h.cells j p hp
      rw [Array.getElem?_setIfInBounds_ne (by omega), Array.getElem?_setIfInBounds_ne (by omega), Array.getElem?_setIfInBounds_ne (by omega), Array.getElem?_setIfInBounds_ne (by omega)]
      exact ⟨c1, c2⟩
    · refine ⟨?_, ?_⟩
      · rw [Array.getElem?_setIfInBounds_ne (by omega), Array.getElem?_setIfInBounds_self_of_lt (by omega)]
      · rw [Array.getElem?_setIfInBounds_self_of_lt (by simp; omega)]
  · intro j p hp
    rcases split j p hp with ⟨hj, hp⟩ | ⟨rfl, rfl⟩
    · exact ⟨put (old j p hp), fun k e => Nat.lt_of_lt_of_le ((h.own j p hp).2 k e) (Nat.le_trans hhi hb.size)⟩
    · exact ⟨put ho', fun k e => (ho'.lt k e).2⟩
  · intro i j p q k hij hp hq e1 e2
    have hnew : ∀ (j : Nat) (p : FrV), Q[j]? = some p → ∀ k, p.body.ownBlock = some k → (Value.slice A xs.length c).ownBlock ≠ some k := fun j p hp k e e' => by
      have := (ho.lt k e').1
      have := (h.own j p hp).2 k e
      omega
    rcases split i p hp with ⟨hi1, hp⟩ | ⟨rfl, rfl⟩
    · rcases split j q hq with ⟨hj1, hq⟩ | ⟨rfl, rfl⟩
      · exact h.apart i j p q k hij hp hq e1 e2
      · exact hnew i p hp k e1 e2
    · rcases split j q hq with ⟨hj1, hq⟩ | ⟨rfl, rfl⟩
      · exact hnew j q hq k e2 e1
      · exact hij rfl
end

end Go.Proofs.YtlbnngolcoefdaaDoor

/- The laws' helpers on lists of frames: their size, and a copy. -/
namespace Go.Proofs.YtlbnngolcoefdaaDoor
open Go.RowKit
set_option maxRecDepth 100000

theorem Tryd.infoFrame : (Tryd.prog.info? 49).map (fun i => (i.zero, i.size, i.bytes)) = some (some (.agg #[.int .i64 0, .slice none 0 0]), 2, 32) := by kernel_rfl
theorem make_frames (n : Nat) (hn : n ≤ 1048576) (w : World) :
    (Instr.makeSlice 41 (.int .i64 (n : Int)) (.int .i64 (n : Int))).run Tryd.prog w = .ok (.slice (some ⟨w.heap.size, 0, none⟩) n n) (w.alloc (.cells (madeCells #[.int .i64 0, .slice none 0 0] (n * 2)) 49)) := by
  obtain ⟨i, hi, hzz⟩ := Option.map_eq_some_iff.1 Tryd.infoFrame
  simp only [Prod.mk.injEq] at hzz
  obtain ⟨hz, hs, hb⟩ := hzz
  have hr := run_make (P := Tryd.prog) w 41 49 i _ Tryd.underlying41 hi hz .i64 .i64 n n (by omega) (Int.le_refl _) (by rw [hb]; omega) (by omega)
  simp only [Int.toNat_natCast, hs] at hr
  exact hr

/-- A list of frames lies at A (whatever the room of their bytes). -/
def LiesG (w : World) (A : Option Addr) (P : List FrA) : Prop :=
  ∀ (j : Nat) (p : FrA), P[j]? = some p → (∃ b o, A = some ⟨b, o, none⟩ ∧ b < w.heap.size ∧ w.cell? ⟨b, o + j * 2, none⟩ = some (.int .i64 p.K) ∧ w.cell? ⟨b, o + j * 2 + 1, none⟩ = some (.slice p.A p.L.length p.c)) ∧
    Lies w B8 p.A p.L ∧ True ∧ ∀ x ∈ p.L, x < 2 ^ 8
theorem LiesG.below {w w' : World} {A : Option Addr} {P : List FrA} (h : LiesG w A P) (hb : Below w.heap.size w w') : LiesG w' A P := by
  intro j p hp
  obtain ⟨⟨b, o, h1, h2, h3, h4⟩, h5, h6, h7⟩ := h j p hp
  exact ⟨⟨b, o, h1, Nat.lt_of_lt_of_le h2 hb.size, (hb.cell (p := ⟨b, o + j * 2, none⟩) h2).trans h3, (hb.cell (p := ⟨b, o + j * 2 + 1, none⟩) h2).trans h4⟩, h5.below hb, h6, h7⟩

/-- How many numbers and bytes a list of frames holds. -/
def totF : List FrA → Nat
  | [] => 0
  | p :: r => 1 + p.L.length + totF r
theorem totF_at {P : List FrA} {k : Nat} {p : FrA} (h : P[k]? = some p) : totF (P.drop k) = 1 + p.L.length + totF (P.drop (k + 1)) := by
  obtain ⟨hj, rfl⟩ := List.getElem?_eq_some_iff.1 h
  rw [List.drop_eq_getElem_cons hj, totF]

theorem totF_le : ∀ (P : List FrA), P.length ≤ totF P
  | [] => Nat.le_refl _
  | p :: r => by
    have := totF_le r
    simp only [List.length_cons, totF]
    omega
theorem totF_mem : ∀ {P : List FrA} {k : Nat} {p : FrA}, P[k]? = some p → p.L.length ≤ totF P
  | [], k, p, h => by simp at h
  | q :: r, 0, p, h => by
    have : q = p := by simpa using h
    subst this
    simp only [totF]
    omega
  | q :: r, k + 1, p, h => by
    have := totF_mem (P := r) (k := k) (p := p) (by simpa using h)
    simp only [totF]
    omega

/-- What szFrameS leaves of 1048576. -/
def szV (n : Nat) : Int := if n ≤ 1048576 then 1048576 - (n : Int) else -1

/-- A new list of frames is returned. -/
def NewFrs (w : World) (V : List (Int × List Nat)) (e : Ending) (w' : World) : Prop :=
  ∃ (g d : Nat) (cs : Array Value) (Q : List FrV), e = .returned (.slice (some ⟨g, 0, none⟩) V.length d) ∧ FrsIn w' w.heap.size w'.heap.size g cs Q ∧ Q.map (fun q => (q.K, q.xs)) = V.map (fun v => (v.1, v.2.map B8)) ∧ Below w.heap.size w w'

end Go.Proofs.YtlbnngolcoefdaaDoor

/- Lists of frames: read as frames, compared, marked. -/
namespace Go.Proofs.YtlbnngolcoefdaaDoor
open Go.RowKit
set_option maxRecDepth 100000

/-- Frames with their bytes, as they lie. -/
def zipF (Q : List FrV) (V : List (Int × List Nat)) : List FrA := List.zipWith (fun q v => ⟨q.K, q.A, q.c, v.2⟩) Q V
theorem zipF_val : ∀ {Q : List FrV} {V : List (Int × List Nat)}, Q.map (fun q => (q.K, q.xs)) = V.map (fun v => (v.1, v.2.map B8)) → (zipF Q V).map FrA.val = V
  | [], [], _ => rfl
  | [], _ :: _, h => by simp at h
  | _ :: _, [], h => by simp at h
  | q :: Q, v :: V, h => by
    simp only [List.map_cons, List.cons.injEq, Prod.mk.injEq] at h
    have ih := zipF_val (Q := Q) (V := V) h.2
    unfold zipF at ih ⊢
    rw [List.zipWith_cons_cons, List.map_cons, ih]
    simp [FrA.val, h.1.1]
theorem zipF_at {Q : List FrV} {V : List (Int × List Nat)} (hm : Q.map (fun q => (q.K, q.xs)) = V.map (fun v => (v.1, v.2.map B8))) {j : Nat} {p : FrA} (h : (zipF Q V)[j]? = some p) :
    ∃ q v, Q[j]? = some q ∧ V[j]? = some v ∧ p = ⟨q.K, q.A, q.c, v.2⟩ ∧ q.K = v.1 ∧ q.xs = v.2.map B8 := by
  unfold zipF at h
  rw [List.getElem?_zipWith] at h
  cases hq : Q[j]? with
  | none => rw [hq] at h; cases h
  | some q =>
    cases hv : V[j]? with
    | none => rw [hq, hv] at h; cases h
    | some v =>
      rw [hq, hv] at h
      have h1 : (Q.map (fun q => (q.K, q.xs)))[j]? = some (q.K, q.xs) := by rw [List.getElem?_map, hq]; rfl
      rw [hm, List.getElem?_map, hv] at h1
      have h2 := Option.some.inj h1
      exact ⟨q, v, rfl, rfl, (Option.some.inj h).symm, (congrArg Prod.fst h2).symm, (congrArg Prod.snd h2).symm⟩

theorem FrsIn.lies {w : World} {lo hi g : Nat} {cs : Array Value} {Q : List FrV} {V : List (Int × List Nat)} (h : FrsIn w lo hi g cs Q) (hm : Q.map (fun q => (q.K, q.xs)) = V.map (fun v => (v.1, v.2.map B8))) (hb : ∀ v ∈ V, ∀ x ∈ v.2, x < 2 ^ 8) :
    LiesF w (some ⟨g, 0, none⟩) (zipF Q V) := by
  intro j p hp
  obtain ⟨q, v, hq, hv, rfl, hK, hx⟩ := zipF_at hm hp
  obtain ⟨c1, c2⟩ := h.cells j q hq
  obtain ⟨ho, _⟩ := h.own j q hq
  have hlen : q.xs.length = v.2.length := by rw [hx, List.length_map]
  unfold FrV.body at ho c2
  rw [hlen] at ho c2
  rw [hx] at ho
  refine ⟨⟨g, 0, rfl, h.box.lt, ?_, ?_⟩, Lies.of_own ho, own_tidy ho, hb v (List.mem_of_getElem? hv)⟩
  · rw [Nat.zero_add]
    exact (h.box.cell _).trans c1
  · rw [Nat.zero_add]
    exact (h.box.cell _).trans c2

set_option maxHeartbeats 1600000 in
/-- Two lists of the same frames are equal. -/
theorem eqFrames_true (A B : Option Addr) (c d : Nat) (P Q : List FrA) (w : World) (hP : LiesF w A P) (hQ : LiesF w B Q) (hv : P.map FrA.val = Q.map FrA.val) (hl : P.length ≤ 1048576) (hp : ∀ (k : Nat) (p : FrA), P[k]? = some p → p.L.length ≤ 1048576) :
    Calls Tryd.prog 43 #[.slice A P.length c, .slice B Q.length d] w fun e w' => e = .returned (.bool true) ∧ Below w.heap.size w w' := by
  have HP := Lib.hid hP
  have HQ := Lib.hid hQ
  have HV := Lib.hid hv
  have HL := Lib.hid hp
  have hlen : Q.length = P.length := by have := congrArg List.length hv; simpa using this.symm
  rw [hlen]
  clear hP hQ hv hp
  have n0 : ((P.length : Int) != (P.length : Int)) = false := by simp
  go_enter Tryd.func43, Tryd.ntmps43
  go_wp2
  go_loopw [5] (fun i wr => ∃ k : Nat, k ≤ P.length ∧ i = .int .i64 k ∧ Below w.heap.size w wr) (fun i _ => P.length - (intOf i).toNat)
  case atStart => exact ⟨0, Nat.zero_le _, rfl, Below.refl _ _⟩
  case round =>
    obtain ⟨k, hk, rfl, hb⟩ := hrel
    have HB := Lib.hid hb
    clear hb
    by_cases hlt : k < P.length
    · obtain ⟨p, hpp⟩ : ∃ p, P[k]? = some p := ⟨P[k], List.getElem?_eq_getElem hlt⟩
      obtain ⟨q, hqq⟩ : ∃ q, Q[k]? = some q := ⟨Q[k]'(by omega), List.getElem?_eq_getElem (by omega)⟩
      obtain ⟨⟨b, o, rfl, hbl, hc0, hc1⟩, hpl, hpt, hpb⟩ := (HP.out.below HB.out) k p hpp
      obtain ⟨⟨b', o', rfl, hbl', hd0, hd1⟩, hql, hqt, hqb⟩ := (HQ.out.below HB.out) k q hqq
      have hval : (p.K, p.L) = (q.K, q.L) := by
        have h1 : (P.map FrA.val)[k]? = some p.val := by rw [List.getElem?_map, hpp]; rfl
        rw [HV.out, List.getElem?_map, hqq] at h1
        exact (Option.some.inj h1).symm
      have hK : q.K = p.K := (congrArg Prod.fst hval).symm
      have hLL : q.L = p.L := (congrArg Prod.snd hval).symm
      rw [hK] at hd0
      rw [hLL] at hd1 hql
      have HC := Lib.hid fun W (h : Below wr.heap.size wr W) => eqFrame_true p.K p.A q.A p.c q.c p.L W (hpl.below h) (hql.below h) (by have := HL.out k p hpp; omega)
      have tl : decide ((k : Int) < (P.length : Int)) = true := by simp; omega
      have k0 : (0 : Int) ≤ (k : Int) := by omega
      have k1 : (k : Int) < (P.length : Int) := by omega
      clear hpp hqq hpl hpt hpb hql hqt hqb hval hK hLL
      go_wp2_with fail
      go_region_with (first | (go_at_call 37; refine Calls.mono (HC.out _ ?_) ?_; exact (Below.refl _ _).drew; rintro e w1 ⟨rfl, hb1⟩; have HB1 := Lib.hid (HB.out.trans ((((Below.refl wr.heap.size wr).drew).trans hb1).mono HB.out.size)); clear hb1))
      all_goals go_wp2
      all_goals go_roundw
      all_goals first
        | exact ⟨k + 1, by omega, by go_num, HB1.out⟩
        | (simp [intOf]; omega)
    · go_wp2
      go_ret
      exact ⟨rfl, HB.out⟩

end Go.Proofs.YtlbnngolcoefdaaDoor
