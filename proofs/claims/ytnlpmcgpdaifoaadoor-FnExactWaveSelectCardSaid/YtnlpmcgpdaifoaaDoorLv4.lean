import Derived.Test.YtnlpmcgpdaifoaaDoorWvApp
import Derived.Test.YtnlpmcgpdaifoaaDoorWvVal
import Derived.Test.YtnlpmcgpdaifoaaDoorSel5
import Derived.Deep.RegionHeld3
/- A list of bit vectors that a call has made: the vectors in one block, the words of each in a block of its own (after FrsOwn). -/
namespace Go.Proofs.YtnlpmcgpdaifoaaDoor
open Go.RowKit
set_option maxRecDepth 100000

/-- A frame in memory: its kind, and the slice of its bytes with what they hold. -/
structure LvV where
  K : Int
  A : Option Addr
  c : Nat
  xs : List Value
abbrev LvV.body (p : LvV) : Value := .slice p.A p.xs.length p.c

/-- The first frames of block g are Q; all lies between lo and hi. -/
structure LvIn (w : World) (lo hi g : Nat) (cs : Array Value) (Q : List LvV) : Prop where
  box : Box w g 53 cs
  low : lo ≤ g
  high : g < hi
  cells : ∀ (j : Nat) (p : LvV), Q[j]? = some p → cs[j * 2]? = some (.int .i64 p.K) ∧ cs[j * 2 + 1]? = some p.body
  own : ∀ (j : Nat) (p : LvV), Q[j]? = some p → w.ownsRow lo 75 1 p.body p.xs.length p.xs ∧ ∀ k, p.body.ownBlock = some k → k < hi
  apart : ∀ (i j : Nat) (p q : LvV) (k : Nat), i ≠ j → Q[i]? = some p → Q[j]? = some q → p.body.ownBlock = some k → q.body.ownBlock ≠ some k

/-- The block of owned bytes holds bytes. -/
theorem own_kindW {w : World} {base n : Nat} {v : Value} {xs : List Value} (h : w.ownsRow base 75 1 v n xs) {k : Nat} (hk : v.ownBlock = some k) : base ≤ k ∧ ∃ cur, w.heap[k]? = some (.cells cur 75 (0, 0)) := by
  rcases h.2 with ⟨h2, _⟩ | ⟨g, cap, cur, hv, hg, hh, r⟩
  · rw [h2] at hk
    cases hk
  · rw [hv] at hk
    injection hk with hk
    subst hk
    exact ⟨hg, cur, hh⟩
theorem own_ne_boxW {w : World} {base n : Nat} {v : Value} {xs : List Value} {g : Nat} {cs : Array Value} (h : w.ownsRow base 75 1 v n xs) (hx : Box w g 53 cs) : v.ownBlock ≠ some g := by
  intro e
  obtain ⟨_, cur, hh⟩ := own_kindW h e
  unfold Box at hx
  rw [hx] at hh
  injection hh with hh
  injection hh with _ e _
  cases e
section
variable {w w' : World} {lo hi g : Nat} {cs : Array Value} {Q : List LvV}
theorem LvIn.turn (h : LvIn w lo hi g cs Q) (hk : ∀ k, lo ≤ k → k < hi → w'.heap[k]? = w.heap[k]?) : LvIn w' lo hi g cs Q :=
  ⟨(hk g h.low h.high).trans h.box, h.low, h.high, h.cells, fun j p hp => ⟨own_turn4 (h.own j p hp).1 fun k e => hk k (own_kindW (h.own j p hp).1 e).1 ((h.own j p hp).2 k e), (h.own j p hp).2⟩, h.apart⟩
theorem LvIn.below (h : LvIn w lo hi g cs Q) {B : Nat} (hb : Below B w w') (hB : hi ≤ B) : LvIn w' lo hi g cs Q := h.turn fun k _ h2 => hb.block k (Nat.lt_of_lt_of_le h2 hB)
/-- One frame more, its bytes new. -/
theorem LvIn.snoc (h : LvIn w lo hi g cs Q) {K : Int} {A : Option Addr} {c : Nat} {xs : List Value} (hb : Below w.heap.size w w') (hhi : hi ≤ w.heap.size) (ho : w'.ownsRow w.heap.size 75 1 (.slice A xs.length c) xs.length xs) (hsz : Q.length * 2 + 1 < cs.size) :
    LvIn ((w'.setCell ⟨g, Q.length * 2, none⟩ (.int .i64 K)).setCell ⟨g, Q.length * 2 + 1, none⟩ (.slice A xs.length c)) lo w'.heap.size g ((cs.setIfInBounds (Q.length * 2) (.int .i64 K)).setIfInBounds (Q.length * 2 + 1) (.slice A xs.length c)) (Q ++ [⟨K, A, c, xs⟩]) := by
  have hx' : Box w' g 53 cs := h.box.below hb h.box.lt
  have hx2 := (hx'.put (Q.length * 2) (.int .i64 K))
  have hlow : lo ≤ w.heap.size := Nat.le_of_lt (Nat.lt_of_le_of_lt h.low h.box.lt)
  have ho' : w'.ownsRow lo 75 1 (.slice A xs.length c) xs.length xs := own_mono ho hlow
  have put : ∀ {v : Value} {n : Nat} {ys : List Value}, w'.ownsRow lo 75 1 v n ys → ((w'.setCell ⟨g, Q.length * 2, none⟩ (.int .i64 K)).setCell ⟨g, Q.length * 2 + 1, none⟩ (.slice A xs.length c)).ownsRow lo 75 1 v n ys := fun {v n ys} hv =>
    own_turn4 hv fun k e => by
      have hne : k ≠ g := fun e2 => own_ne_boxW hv hx' (by rw [e, e2])
      rw [Below.heap_setCell _ ⟨g, Q.length * 2 + 1, none⟩ _ k hne, Below.heap_setCell _ ⟨g, Q.length * 2, none⟩ _ k hne]
  have old : ∀ (j : Nat) (p : LvV), Q[j]? = some p → w'.ownsRow lo 75 1 p.body p.xs.length p.xs := fun j p hp => own_turn4 (h.own j p hp).1 fun k e => hb.block k (Nat.lt_of_lt_of_le ((h.own j p hp).2 k e) hhi)
  have split : ∀ (j : Nat) (p : LvV), (Q ++ [⟨K, A, c, xs⟩])[j]? = some p → (j < Q.length ∧ Q[j]? = some p) ∨ (j = Q.length ∧ p = ⟨K, A, c, xs⟩) := fun j p hp => by
    rcases Nat.lt_or_ge j Q.length with hj | hj
    · rw [List.getElem?_append_left hj] at hp
      exact .inl ⟨hj, hp⟩
    · rw [List.getElem?_append_right hj] at hp
      have hj0 : j - Q.length = 0 := by
        rcases Nat.eq_zero_or_pos (j - Q.length) with h0 | h0
        · exact h0
        · rw [List.getElem?_eq_none (by simp; omega)] at hp
          cases hp
      rw [hj0] at hp
      exact .inr ⟨by omega, (Option.some.inj hp).symm⟩
  refine ⟨hx2.put _ _, h.low, Nat.lt_of_lt_of_le h.high (Nat.le_trans hhi hb.size), ?_, ?_, ?_⟩
  · intro j p hp
    rcases split j p hp with ⟨hj, hp⟩ | ⟨rfl, rfl⟩
    · obtain ⟨c1, c2⟩ := h.cells j p hp
      rw [Array.getElem?_setIfInBounds_ne (by omega), Array.getElem?_setIfInBounds_ne (by omega), Array.getElem?_setIfInBounds_ne (by omega), Array.getElem?_setIfInBounds_ne (by omega)]
      exact ⟨c1, c2⟩
    · refine ⟨?_, ?_⟩
      · rw [Array.getElem?_setIfInBounds_ne (by omega), Array.getElem?_setIfInBounds_self_of_lt (by omega)]
      · rw [Array.getElem?_setIfInBounds_self_of_lt (by simp; omega)]
  · intro j p hp
    rcases split j p hp with ⟨hj, hp⟩ | ⟨rfl, rfl⟩
    · exact ⟨put (old j p hp), fun k e => Nat.lt_of_lt_of_le ((h.own j p hp).2 k e) (Nat.le_trans hhi hb.size)⟩
    · exact ⟨put ho', fun k e => (ho'.lt k e).2⟩
  · intro i j p q k hij hp hq e1 e2
    have hnew : ∀ (j : Nat) (p : LvV), Q[j]? = some p → ∀ k, p.body.ownBlock = some k → (Value.slice A xs.length c).ownBlock ≠ some k := fun j p hp k e e' => by
      have := (ho.lt k e').1
      have := (h.own j p hp).2 k e
      omega
    rcases split i p hp with ⟨hi1, hp⟩ | ⟨rfl, rfl⟩
    · rcases split j q hq with ⟨hj1, hq⟩ | ⟨rfl, rfl⟩
      · exact h.apart i j p q k hij hp hq e1 e2
      · exact hnew i p hp k e1 e2
    · rcases split j q hq with ⟨hj1, hq⟩ | ⟨rfl, rfl⟩
      · exact hnew j q hq k e2 e1
      · exact hij rfl
end

end Go.Proofs.YtnlpmcgpdaifoaaDoor

/- The laws' helpers on lists of bit vectors: their size, and a copy (after Frs3). -/
namespace Go.Proofs.YtnlpmcgpdaifoaaDoor
open Go.RowKit
set_option maxRecDepth 100000

theorem Tryd.infoLv : (Tryd.prog.info? 53).map (fun i => (i.zero, i.size, i.bytes)) = some (some (.agg #[.int .i64 0, .slice none 0 0]), 2, 32) := by kernel_rfl
theorem make_lvs (n : Nat) (hn : n ≤ 1048576) (w : World) :
    (Instr.makeSlice 26 (.int .i64 (n : Int)) (.int .i64 (n : Int))).run Tryd.prog w = .ok (.slice (some ⟨w.heap.size, 0, none⟩) n n) (w.alloc (.cells (madeCells #[.int .i64 0, .slice none 0 0] (n * 2)) 53)) := by
  obtain ⟨i, hi, hzz⟩ := Option.map_eq_some_iff.1 Tryd.infoLv
  simp only [Prod.mk.injEq] at hzz
  obtain ⟨hz, hs, hb⟩ := hzz
  have hr := run_make (P := Tryd.prog) w 26 53 i _ Tryd.underlying26 hi hz .i64 .i64 n n (by omega) (Int.le_refl _) (by rw [hb]; omega) (by omega)
  simp only [Int.toNat_natCast, hs] at hr
  exact hr

/-- A list of frames lies at A (whatever the room of their bytes). -/
def LiesLw (w : World) (A : Option Addr) (P : List LvA) : Prop :=
  ∀ (j : Nat) (p : LvA), P[j]? = some p → (∃ b o, A = some ⟨b, o, none⟩ ∧ b < w.heap.size ∧ w.cell? ⟨b, o + j * 2, none⟩ = some (.int .i64 p.K) ∧ w.cell? ⟨b, o + j * 2 + 1, none⟩ = some (.slice p.A p.L.length p.c)) ∧
    Lies w U p.A p.L ∧ True ∧ ∀ x ∈ p.L, x < 2 ^ 64
theorem LiesLw.below {w w' : World} {A : Option Addr} {P : List LvA} (h : LiesLw w A P) (hb : Below w.heap.size w w') : LiesLw w' A P := by
  intro j p hp
  obtain ⟨⟨b, o, h1, h2, h3, h4⟩, h5, h6, h7⟩ := h j p hp
  exact ⟨⟨b, o, h1, Nat.lt_of_lt_of_le h2 hb.size, (hb.cell (p := ⟨b, o + j * 2, none⟩) h2).trans h3, (hb.cell (p := ⟨b, o + j * 2 + 1, none⟩) h2).trans h4⟩, h5.below hb, h6, h7⟩

/-- How many numbers and bytes a list of frames holds. -/
def totL : List LvA → Nat
  | [] => 0
  | p :: r => 1 + p.L.length + totL r
theorem totL_at {P : List LvA} {k : Nat} {p : LvA} (h : P[k]? = some p) : totL (P.drop k) = 1 + p.L.length + totL (P.drop (k + 1)) := by
  obtain ⟨hj, rfl⟩ := List.getElem?_eq_some_iff.1 h
  rw [List.drop_eq_getElem_cons hj, totL]

theorem totL_le : ∀ (P : List LvA), P.length ≤ totL P
  | [] => Nat.le_refl _
  | p :: r => by
    have := totL_le r
    simp only [List.length_cons, totL]
    omega
theorem totL_mem : ∀ {P : List LvA} {k : Nat} {p : LvA}, P[k]? = some p → p.L.length ≤ totL P
  | [], k, p, h => by simp at h
  | q :: r, 0, p, h => by
    have : q = p := by simpa using h
    subst this
    simp only [totL]
    omega
  | q :: r, k + 1, p, h => by
    have := totL_mem (P := r) (k := k) (p := p) (by simpa using h)
    simp only [totL]
    omega

/-- What szFrameS leaves of 1048576. -/
def szL (s n : Nat) : Int := if n ≤ s then (s : Int) - (n : Int) else -1

set_option maxHeartbeats 1600000 in
theorem szLvs_any (s : Nat) (hs : s ≤ 1048576) (A : Option Addr) (c : Nat) (P : List LvA) (w : World) (hL : LiesLw w A P) (hP : P.length ≤ 9223372036854775807) (hp : ∀ (k : Nat) (p : LvA), P[k]? = some p → p.L.length ≤ 9223372036854775807) :
    Calls Tryd.prog 38 #[.slice A P.length c, .int .i64 s] w fun e w' => e = .returned (.int .i64 (szL s (totL P))) ∧ Below w.heap.size w w' := by
  have HL := Lib.hid hL
  have HP := Lib.hid hp
  clear hL hp
  have hge := totL_le P
  by_cases h0 : P.length ≤ s
  · have d0 : decide ((s : Int) - (P.length : Int) < 0) = false := by simp; omega
    obtain ⟨r0, hr0⟩ : ∃ r0 : Nat, (s : Int) - (P.length : Int) = (r0 : Int) := ⟨s - P.length, by omega⟩
    go_enter Tryd.func38, Tryd.ntmps38
    go_wp2
    go_loopw [1, 5] (fun l i wr => ∃ (k : Nat) (r : Nat), k ≤ P.length ∧ i = .int .i64 k ∧ l = .int .i64 r ∧ r ≤ 1048576 ∧ Below w.heap.size w wr ∧ Hid (r + totL P + P.length = s + totL (P.drop k) + k)) (fun _ i _ => P.length - (intOf i).toNat)
    case atStart => exact ⟨0, r0, Nat.zero_le _, rfl, by first | rfl | rw [hr0], by omega, Below.refl _ _, Lib.hid (by rw [List.drop_zero]; omega)⟩
    case round =>
      obtain ⟨k, r, hk, rfl, rfl, hr, hb, HT⟩ := hrel
      have HB := Lib.hid hb
      clear hb hr0 d0
      by_cases hlt : k < P.length
      · obtain ⟨p, hp⟩ : ∃ p, P[k]? = some p := ⟨P[k], List.getElem?_eq_getElem hlt⟩
        obtain ⟨⟨b, o, rfl, hbl, hc0, hc1⟩, hpl, hpt, hpb⟩ := (HL.out.below HB.out) k p hp
        have hpn := HP.out k p hp
        have HT2 := Lib.hid (totL_at hp)
        have HT3 := Lib.hid (totL_le (P.drop (k + 1)))
        have HT4 : Hid ((P.drop (k + 1)).length = P.length - (k + 1)) := Lib.hid (by rw [List.length_drop])
        have tl : decide ((k : Int) < (P.length : Int)) = true := by simp; omega
        clear hp hpl hpt hpb
        go_wp2_with fail
        refine (szBits_any p.K p.A p.L.length p.c (r : Int) wr hpn (by omega) (by omega)).mono ?_
        rintro e w1 ⟨rfl, hb1⟩
        have HB1 := Lib.hid (below_then HB.out hb1)
        clear hb1 hc0 hc1 HB
        by_cases hfit : p.L.length ≤ r
        · rw [if_neg (show ¬ (r : Int) < (p.L.length : Int) by omega)]
          obtain ⟨r2, hr2⟩ : ∃ r2 : Nat, r - p.L.length = r2 := ⟨_, rfl⟩
          have e2 : (r : Int) - (p.L.length : Int) = (r2 : Int) := by omega
          have d2 : decide ((r2 : Int) < 0) = false := by simp
          rw [e2]
          have HN : Hid (r2 + totL P + P.length = s + totL (P.drop (k + 1)) + (k + 1)) := Lib.hid (by have := HT.out; have := HT2.out; omega)
          clear HT HT2 HT3 HT4 e2
          have hr2l : r2 ≤ 1048576 := by omega
          clear hr2
          go_wp2
          go_roundw
          case rel => exact ⟨k + 1, r2, by omega, by go_num, rfl, hr2l, HB1.out, HN⟩
          case measure => simp [intOf]; omega
        · rw [if_pos (show (r : Int) < (p.L.length : Int) by omega)]
          have HN : Hid (szL s (totL P) = -1) := Lib.hid (by unfold szL; rw [if_neg]; have := HT.out; have := HT2.out; have := HT3.out; have := HT4.out; omega)
          clear HT HT2 HT3 HT4
          go_wp2
          go_ret
          rw [HN.out]
          exact ⟨rfl, HB1.out⟩
      · have hk2 : k = P.length := by omega
        subst hk2
        have hfin : r + totL P = s := by
          have := HT.out
          rw [List.drop_length] at this
          simp only [totL] at this
          omega
        clear HT
        have HN : Hid (szL s (totL P) = (r : Int)) := Lib.hid (by unfold szL; rw [if_pos (by omega)]; omega)
        clear hfin hge
        go_wp2
        go_ret
        rw [HN.out]
        exact ⟨rfl, HB.out⟩
  · have d0 : decide ((s : Int) - (P.length : Int) < 0) = true := by simp; omega
    have HN : Hid (szL s (totL P) = (-1 : Int)) := Lib.hid (by unfold szL; rw [if_neg (by omega)])
    clear hge
    go_enter Tryd.func38, Tryd.ntmps38
    go_wp2
    go_ret
    rw [HN.out]
    exact ⟨rfl, Below.refl _ _⟩

/-- A new list of frames is returned. -/
def NewLvs (w : World) (V : List (Int × List Nat)) (e : Ending) (w' : World) : Prop :=
  ∃ (g d : Nat) (cs : Array Value) (Q : List LvV), e = .returned (.slice (some ⟨g, 0, none⟩) V.length d) ∧ LvIn w' w.heap.size w'.heap.size g cs Q ∧ Q.map (fun q => (q.K, q.xs)) = V.map (fun v => (v.1, v.2.map U)) ∧ Below w.heap.size w w'

set_option maxHeartbeats 1600000 in
theorem toLvs_new (A : Option Addr) (c : Nat) (P : List LvA) (w : World) (hL : LiesLw w A P) (hP : P.length ≤ 1048576) (hp : ∀ (k : Nat) (p : LvA), P[k]? = some p → p.L.length ≤ 1048576) :
    Calls Tryd.prog 41 #[.slice A P.length c] w (NewLvs w (P.map LvA.val)) := by
  have HL := Lib.hid hL
  have HP := Lib.hid hp
  clear hL hp
  have hmk := make_lvs P.length hP
  go_enter Tryd.func41, Tryd.ntmps41
  go_wp2
  go_loopw [4] (fun i wr => ∃ (k : Nat) (cs : Array Value) (Q : List LvV), k ≤ P.length ∧ i = .int .i64 k ∧ LvIn wr w.heap.size wr.heap.size w.heap.size cs Q ∧ Q.length = k ∧ cs.size = P.length * 2 ∧ Hid (Q.map (fun q => (q.K, q.xs)) = ((P.take k).map LvA.val).map (fun v => (v.1, v.2.map U))) ∧ Below w.heap.size w wr) (fun i _ => P.length - (intOf i).toNat)
  case atStart =>
    refine ⟨0, madeCells #[.int .i64 0, .slice none 0 0] (P.length * 2), [], Nat.zero_le _, rfl, ?_, rfl, size_madeCells _ _, Lib.hid rfl, (Below.refl _ _).alloc (Nat.le_refl _) _⟩
    exact ⟨Box.made _ _ _, Nat.le_refl _, by simp, fun j p h => by simp at h, fun j p h => by simp at h, fun i j p q k _ h => by simp at h⟩
  case round =>
    obtain ⟨k, cs, Q, hk, rfl, hin, hQ, hcs, hV, hb⟩ := hrel
    have HI := Lib.hid hin
    have HB := Lib.hid hb
    clear hin hb hmk
    by_cases hlt : k < P.length
    · obtain ⟨p, hpp⟩ : ∃ p, P[k]? = some p := ⟨P[k], List.getElem?_eq_getElem hlt⟩
      obtain ⟨⟨b, o, rfl, hbl, hc0, hc1⟩, hpl, hpt, hpb⟩ := (HL.out.below HB.out) k p hpp
      have hpn := HP.out k p hpp
      have HPl := Lib.hid hpl
      have tl : decide ((k : Int) < (P.length : Int)) = true := by simp; omega
      have HTk : Hid (P.take (k + 1) = P.take k ++ [p]) := Lib.hid (by rw [List.take_succ_eq_append_getElem hlt, (List.getElem?_eq_some_iff.1 hpp).2])
      clear hpp hpl hpt hpb
      go_wp2_with fail
      refine (toBits_new p.K p.A p.c p.L wr HPl.out (by omega)).mono ?_
      rintro e w1 ⟨A1, c1, rfl, ho1, hb1⟩
      have hx1 : Box w1 w.heap.size 53 cs := HI.out.box.below hb1 HI.out.box.lt
      have ho1' : w1.ownsRow wr.heap.size 75 1 (.slice A1 (p.L.map U).length c1) (p.L.map U).length (p.L.map U) := by rw [List.length_map]; exact ho1
      have HS := Lib.hid (HI.out.snoc (K := p.K) hb1 (Nat.le_refl _) ho1' (by omega))
      rw [hQ, List.length_map] at HS
      have HB1 := Lib.hid (below_then HB.out hb1)
      have hz0 := hx1.frozen (k * 2)
      have hz1 := hx1.frozen (k * 2 + 1)
      obtain ⟨y0, hy0⟩ : ∃ y, w1.cell? ⟨w.heap.size, k * 2, none⟩ = some y := ⟨cs[k * 2]'(by omega), (hx1.cell _).trans (Array.getElem?_eq_getElem (by omega))⟩
      obtain ⟨y1, hy1⟩ : ∃ y, w1.cell? ⟨w.heap.size, k * 2 + 1, none⟩ = some y := ⟨cs[k * 2 + 1]'(by omega), (hx1.cell _).trans (Array.getElem?_eq_getElem (by omega))⟩
      have hl1 := hx1.lt
      have HQl := Lib.hid hQ
      have HCs := Lib.hid hcs
      clear ho1 ho1' hb1 hx1 hc0 hc1 hQ hcs
      go_wp2
      go_roundw
      case rel =>
        refine ⟨k + 1, (cs.setIfInBounds (k * 2) (.int .i64 p.K)).setIfInBounds (k * 2 + 1) (.slice A1 p.L.length c1), Q ++ [⟨p.K, A1, c1, p.L.map U⟩], by omega, by go_num, ?_, by rw [List.length_append, HQl.out]; rfl, by simp [HCs.out], ?_, ?_⟩
        · rw [World.size_setCell, World.size_setCell]
          exact HS.out
        · exact Lib.hid (by rw [HTk.out, List.map_append, List.map_append, List.map_append, hV.out]; rfl)
        · exact (HB1.out.setCell (p := ⟨w.heap.size, k * 2, none⟩) (Nat.le_refl _) _).setCell (p := ⟨w.heap.size, k * 2 + 1, none⟩) (Nat.le_refl _) _
      case measure => simp [intOf]; omega
    · have hk2 : k = P.length := by omega
      have HV := hV.out
      rw [hk2, List.take_length] at HV
      have HV2 := Lib.hid HV
      clear hV HV hQ hcs
      go_wp2
      go_ret
      exact ⟨w.heap.size, P.length, cs, Q, by rw [List.length_map]; rfl, HI.out, HV2.out, HB.out⟩

end Go.Proofs.YtnlpmcgpdaifoaaDoor

/- Lists of bit vectors: read as levels, compared (after Frs4). -/
namespace Go.Proofs.YtnlpmcgpdaifoaaDoor
open Go.RowKit
set_option maxRecDepth 100000

/-- Frames with their bytes, as they lie. -/
def zipL (Q : List LvV) (V : List (Int × List Nat)) : List LvA := List.zipWith (fun q v => ⟨q.K, q.A, q.c, v.2⟩) Q V
theorem zipL_val : ∀ {Q : List LvV} {V : List (Int × List Nat)}, Q.map (fun q => (q.K, q.xs)) = V.map (fun v => (v.1, v.2.map U)) → (zipL Q V).map LvA.val = V
  | [], [], _ => rfl
  | [], _ :: _, h => by simp at h
  | _ :: _, [], h => by simp at h
  | q :: Q, v :: V, h => by
    simp only [List.map_cons, List.cons.injEq, Prod.mk.injEq] at h
    have ih := zipL_val (Q := Q) (V := V) h.2
    unfold zipL at ih ⊢
    rw [List.zipWith_cons_cons, List.map_cons, ih]
    simp [LvA.val, h.1.1]
theorem zipL_at {Q : List LvV} {V : List (Int × List Nat)} (hm : Q.map (fun q => (q.K, q.xs)) = V.map (fun v => (v.1, v.2.map U))) {j : Nat} {p : LvA} (h : (zipL Q V)[j]? = some p) :
    ∃ q v, Q[j]? = some q ∧ V[j]? = some v ∧ p = ⟨q.K, q.A, q.c, v.2⟩ ∧ q.K = v.1 ∧ q.xs = v.2.map U := by
  unfold zipL at h
  rw [List.getElem?_zipWith] at h
  cases hq : Q[j]? with
  | none => rw [hq] at h; cases h
  | some q =>
    cases hv : V[j]? with
    | none => rw [hq, hv] at h; cases h
    | some v =>
      rw [hq, hv] at h
      have h1 : (Q.map (fun q => (q.K, q.xs)))[j]? = some (q.K, q.xs) := by rw [List.getElem?_map, hq]; rfl
      rw [hm, List.getElem?_map, hv] at h1
      have h2 := Option.some.inj h1
      exact ⟨q, v, rfl, rfl, (Option.some.inj h).symm, (congrArg Prod.fst h2).symm, (congrArg Prod.snd h2).symm⟩

theorem LvIn.lies {w : World} {lo hi g : Nat} {cs : Array Value} {Q : List LvV} {V : List (Int × List Nat)} (h : LvIn w lo hi g cs Q) (hm : Q.map (fun q => (q.K, q.xs)) = V.map (fun v => (v.1, v.2.map U))) (hb : ∀ v ∈ V, ∀ x ∈ v.2, x < 2 ^ 64) :
    LiesLv w (some ⟨g, 0, none⟩) (zipL Q V) := by
  intro j p hp
  obtain ⟨q, v, hq, hv, rfl, hK, hx⟩ := zipL_at hm hp
  obtain ⟨c1, c2⟩ := h.cells j q hq
  obtain ⟨ho, _⟩ := h.own j q hq
  have hlen : q.xs.length = v.2.length := by rw [hx, List.length_map]
  unfold LvV.body at ho c2
  rw [hlen] at ho c2
  rw [hx] at ho
  refine ⟨⟨g, 0, rfl, h.box.lt, ?_, ?_⟩, Lies.of_own ho, own_cap ho, hb v (List.mem_of_getElem? hv)⟩
  · rw [Nat.zero_add]
    exact (h.box.cell _).trans c1
  · rw [Nat.zero_add]
    exact (h.box.cell _).trans c2

set_option maxHeartbeats 1600000 in
/-- Two lists of the same frames are equal. -/
theorem eqLvs_true (A B : Option Addr) (c d : Nat) (P Q : List LvA) (w : World) (hP : LiesLv w A P) (hQ : LiesLv w B Q) (hv : P.map LvA.val = Q.map LvA.val) (hl : P.length ≤ 1048576) (hp : ∀ (k : Nat) (p : LvA), P[k]? = some p → p.L.length ≤ 1048576) :
    Calls Tryd.prog 43 #[.slice A P.length c, .slice B Q.length d] w fun e w' => e = .returned (.bool true) ∧ Below w.heap.size w w' := by
  have HP := Lib.hid hP
  have HQ := Lib.hid hQ
  have HV := Lib.hid hv
  have HL := Lib.hid hp
  have hlen : Q.length = P.length := by have := congrArg List.length hv; simpa using this.symm
  rw [hlen]
  clear hP hQ hv hp
  have n0 : ((P.length : Int) != (P.length : Int)) = false := by simp
  go_enter Tryd.func43, Tryd.ntmps43
  go_wp2
  go_loopw [5] (fun i wr => ∃ k : Nat, k ≤ P.length ∧ i = .int .i64 k ∧ Below w.heap.size w wr) (fun i _ => P.length - (intOf i).toNat)
  case atStart => exact ⟨0, Nat.zero_le _, rfl, Below.refl _ _⟩
  case round =>
    obtain ⟨k, hk, rfl, hb⟩ := hrel
    have HB := Lib.hid hb
    clear hb
    by_cases hlt : k < P.length
    · obtain ⟨p, hpp⟩ : ∃ p, P[k]? = some p := ⟨P[k], List.getElem?_eq_getElem hlt⟩
      obtain ⟨q, hqq⟩ : ∃ q, Q[k]? = some q := ⟨Q[k]'(by omega), List.getElem?_eq_getElem (by omega)⟩
      obtain ⟨⟨b, o, rfl, hbl, hc0, hc1⟩, hpl, hpt, hpb⟩ := (HP.out.below HB.out) k p hpp
      obtain ⟨⟨b', o', rfl, hbl', hd0, hd1⟩, hql, hqt, hqb⟩ := (HQ.out.below HB.out) k q hqq
      have hval : (p.K, p.L) = (q.K, q.L) := by
        have h1 : (P.map LvA.val)[k]? = some p.val := by rw [List.getElem?_map, hpp]; rfl
        rw [HV.out, List.getElem?_map, hqq] at h1
        exact (Option.some.inj h1).symm
      have hK : q.K = p.K := (congrArg Prod.fst hval).symm
      have hLL : q.L = p.L := (congrArg Prod.snd hval).symm
      unfold LvA.body at hc1 hd1
      rw [hK] at hd0
      rw [hLL] at hd1 hql
      have HC := Lib.hid fun W (h : Below wr.heap.size wr W) => eqBits_true p.K p.A q.A p.c q.c p.L W (hpl.below h) (hql.below h) (by have := HL.out k p hpp; omega)
      have tl : decide ((k : Int) < (P.length : Int)) = true := by simp; omega
      have k0 : (0 : Int) ≤ (k : Int) := by omega
      have k1 : (k : Int) < (P.length : Int) := by omega
      clear hpp hqq hpl hpt hpb hql hqt hqb hval hK hLL
      go_wp2_with fail
      go_region_with (first | (go_at_call 61; refine Calls.mono (HC.out _ ?_) ?_; exact (Below.refl _ _).drew; rintro e w1 ⟨rfl, hb1⟩; have HB1 := Lib.hid (HB.out.trans ((((Below.refl wr.heap.size wr).drew).trans hb1).mono HB.out.size)); clear hb1))
      all_goals go_wp2
      all_goals go_roundw
      all_goals first
        | exact ⟨k + 1, by omega, by go_num, HB1.out⟩
        | (simp [intOf]; omega)
    · go_wp2
      go_ret
      exact ⟨rfl, HB.out⟩

end Go.Proofs.YtnlpmcgpdaifoaaDoor
