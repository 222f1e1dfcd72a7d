/- The laws' helpers on lists of frames: their size, and a copy. -/
import Derived.Test.YtlbnngolcoefdaaFrsOwn
namespace Go.Proofs.Ytlbnngolcoefdaa
open Go.RowKit
set_option maxRecDepth 100000

theorem Try.infoFrame : (Try.prog.info? 52).map (fun i => (i.zero, i.size, i.bytes)) = some (some (.agg #[.int .i64 0, .slice none 0 0]), 2, 32) := by kernel_rfl
theorem make_frames (n : Nat) (hn : n ≤ 1048576) (w : World) :
    (Instr.makeSlice 63 (.int .i64 (n : Int)) (.int .i64 (n : Int))).run Try.prog w = .ok (.slice (some ⟨w.heap.size, 0, none⟩) n n) (w.alloc (.cells (madeCells #[.int .i64 0, .slice none 0 0] (n * 2)) 52)) := by
  obtain ⟨i, hi, hzz⟩ := Option.map_eq_some_iff.1 Try.infoFrame
  simp only [Prod.mk.injEq] at hzz
  obtain ⟨hz, hs, hb⟩ := hzz
  have hr := run_make (P := Try.prog) w 63 52 i _ Try.underlying63 hi hz .i64 .i64 n n (by omega) (Int.le_refl _) (by rw [hb]; omega) (by omega)
  simp only [Int.toNat_natCast, hs] at hr
  exact hr

/-- A list of frames lies at A (whatever the room of their bytes). -/
def LiesG (w : World) (A : Option Addr) (P : List FrA) : Prop :=
  ∀ (j : Nat) (p : FrA), P[j]? = some p → (∃ b o, A = some ⟨b, o, none⟩ ∧ b < w.heap.size ∧ w.cell? ⟨b, o + j * 2, none⟩ = some (.int .i64 p.K) ∧ w.cell? ⟨b, o + j * 2 + 1, none⟩ = some (.slice p.A p.L.length p.c)) ∧
    Lies w B8 p.A p.L ∧ True ∧ ∀ x ∈ p.L, x < 2 ^ 8
theorem LiesG.below {w w' : World} {A : Option Addr} {P : List FrA} (h : LiesG w A P) (hb : Below w.heap.size w w') : LiesG w' A P := by
  intro j p hp
  obtain ⟨⟨b, o, h1, h2, h3, h4⟩, h5, h6, h7⟩ := h j p hp
  exact ⟨⟨b, o, h1, Nat.lt_of_lt_of_le h2 hb.size, (hb.cell (p := ⟨b, o + j * 2, none⟩) h2).trans h3, (hb.cell (p := ⟨b, o + j * 2 + 1, none⟩) h2).trans h4⟩, h5.below hb, h6, h7⟩

/-- How many numbers and bytes a list of frames holds. -/
def totF : List FrA → Nat
  | [] => 0
  | p :: r => 1 + p.L.length + totF r
theorem totF_at {P : List FrA} {k : Nat} {p : FrA} (h : P[k]? = some p) : totF (P.drop k) = 1 + p.L.length + totF (P.drop (k + 1)) := by
  obtain ⟨hj, rfl⟩ := List.getElem?_eq_some_iff.1 h
  rw [List.drop_eq_getElem_cons hj, totF]

theorem totF_le : ∀ (P : List FrA), P.length ≤ totF P
  | [] => Nat.le_refl _
  | p :: r => by
    have := totF_le r
    simp only [List.length_cons, totF]
    omega
theorem totF_mem : ∀ {P : List FrA} {k : Nat} {p : FrA}, P[k]? = some p → p.L.length ≤ totF P
  | [], k, p, h => by simp at h
  | q :: r, 0, p, h => by
    have : q = p := by simpa using h
    subst this
    simp only [totF]
    omega
  | q :: r, k + 1, p, h => by
    have := totF_mem (P := r) (k := k) (p := p) (by simpa using h)
    simp only [totF]
    omega

/-- What szFrameS leaves of 1048576. -/
def szV (n : Nat) : Int := if n ≤ 1048576 then 1048576 - (n : Int) else -1

set_option maxHeartbeats 1600000 in
theorem szFrames_any (A : Option Addr) (c : Nat) (P : List FrA) (w : World) (hL : LiesG w A P) (hP : P.length ≤ 9223372036854775807) (hp : ∀ (k : Nat) (p : FrA), P[k]? = some p → p.L.length ≤ 9223372036854775807) :
    Calls Try.prog 31 #[.slice A P.length c, .int .i64 1048576] w fun e w' => e = .returned (.int .i64 (szV (totF P))) ∧ Below w.heap.size w w' := by
  have HL := Lib.hid hL
  have HP := Lib.hid hp
  clear hL hp
  have hge := totF_le P
  by_cases h0 : P.length ≤ 1048576
  · have d0 : decide (1048576 - (P.length : Int) < 0) = false := by simp; omega
    obtain ⟨r0, hr0⟩ : ∃ r0 : Nat, 1048576 - (P.length : Int) = (r0 : Int) := ⟨1048576 - P.length, by omega⟩
    go_enter Try.func31, Try.ntmps31
    go_wp2
    go_loopw [1, 5] (fun l i wr => ∃ (k : Nat) (r : Nat), k ≤ P.length ∧ i = .int .i64 k ∧ l = .int .i64 r ∧ r ≤ 1048576 ∧ Below w.heap.size w wr ∧ Hid (r + totF P + P.length = 1048576 + totF (P.drop k) + k)) (fun _ i _ => P.length - (intOf i).toNat)
    case atStart => exact ⟨0, r0, Nat.zero_le _, rfl, by first | rfl | rw [hr0], by omega, Below.refl _ _, Lib.hid (by rw [List.drop_zero]; omega)⟩
    case round =>
      obtain ⟨k, r, hk, rfl, rfl, hr, hb, HT⟩ := hrel
      have HB := Lib.hid hb
      clear hb hr0 d0
      by_cases hlt : k < P.length
      · obtain ⟨p, hp⟩ : ∃ p, P[k]? = some p := ⟨P[k], List.getElem?_eq_getElem hlt⟩
        obtain ⟨⟨b, o, rfl, hbl, hc0, hc1⟩, hpl, hpt, hpb⟩ := (HL.out.below HB.out) k p hp
        have hpn := HP.out k p hp
        have HT2 := Lib.hid (totF_at hp)
        have HT3 := Lib.hid (totF_le (P.drop (k + 1)))
        have HT4 : Hid ((P.drop (k + 1)).length = P.length - (k + 1)) := Lib.hid (by rw [List.length_drop])
        have tl : decide ((k : Int) < (P.length : Int)) = true := by simp; omega
        clear hp hpl hpt hpb
        go_wp2_with fail
        refine (szFrame_any p.K p.A p.L.length p.c (r : Int) wr hpn (by omega) (by omega)).mono ?_
        rintro e w1 ⟨rfl, hb1⟩
        have HB1 := Lib.hid (below_then HB.out hb1)
        clear hb1 hc0 hc1 HB
        by_cases hfit : p.L.length ≤ r
        · rw [if_neg (show ¬ (r : Int) < (p.L.length : Int) by omega)]
          obtain ⟨r2, hr2⟩ : ∃ r2 : Nat, r - p.L.length = r2 := ⟨_, rfl⟩
          have e2 : (r : Int) - (p.L.length : Int) = (r2 : Int) := by omega
          have d2 : decide ((r2 : Int) < 0) = false := by simp
          rw [e2]
          have HN : Hid (r2 + totF P + P.length = 1048576 + totF (P.drop (k + 1)) + (k + 1)) := Lib.hid (by have := HT.out; have := HT2.out; omega)
          clear HT HT2 HT3 HT4 e2
          have hr2l : r2 ≤ 1048576 := by omega
          clear hr2
          go_wp2
          go_roundw
          case rel => exact ⟨k + 1, r2, by omega, by go_num, rfl, hr2l, HB1.out, HN⟩
          case measure => simp [intOf]; omega
        · rw [if_pos (show (r : Int) < (p.L.length : Int) by omega)]
          have HN : Hid (szV (totF P) = -1) := Lib.hid (by unfold szV; rw [if_neg]; have := HT.out; have := HT2.out; have := HT3.out; have := HT4.out; omega)
          clear HT HT2 HT3 HT4
          go_wp2
          go_ret
          rw [HN.out]
          exact ⟨rfl, HB1.out⟩
      · have hk2 : k = P.length := by omega
        subst hk2
        have hfin : r + totF P = 1048576 := by
          have := HT.out
          rw [List.drop_length] at this
          simp only [totF] at this
          omega
        clear HT
        have HN : Hid (szV (totF P) = (r : Int)) := Lib.hid (by unfold szV; rw [if_pos (by omega)]; omega)
        clear hfin hge
        go_wp2
        go_ret
        rw [HN.out]
        exact ⟨rfl, HB.out⟩
  · have d0 : decide (1048576 - (P.length : Int) < 0) = true := by simp; omega
    have HN : Hid (szV (totF P) = (-1 : Int)) := Lib.hid (by unfold szV; rw [if_neg (by omega)])
    clear hge
    go_enter Try.func31, Try.ntmps31
    go_wp2
    go_ret
    rw [HN.out]
    exact ⟨rfl, Below.refl _ _⟩

/-- A new list of frames is returned. -/
def NewFrs (w : World) (V : List (Int × List Nat)) (e : Ending) (w' : World) : Prop :=
  ∃ (g d : Nat) (cs : Array Value) (Q : List FrV), e = .returned (.slice (some ⟨g, 0, none⟩) V.length d) ∧ FrsIn w' w.heap.size w'.heap.size g cs Q ∧ Q.map (fun q => (q.K, q.xs)) = V.map (fun v => (v.1, v.2.map B8)) ∧ Below w.heap.size w w'

set_option maxHeartbeats 1600000 in
theorem toFrames_new (A : Option Addr) (c : Nat) (P : List FrA) (w : World) (hL : LiesG w A P) (hP : P.length ≤ 1048576) (hp : ∀ (k : Nat) (p : FrA), P[k]? = some p → p.L.length ≤ 1048576) :
    Calls Try.prog 33 #[.slice A P.length c] w (NewFrs w (P.map FrA.val)) := by
  have HL := Lib.hid hL
  have HP := Lib.hid hp
  clear hL hp
  have hmk := make_frames P.length hP
  go_enter Try.func33, Try.ntmps33
  go_wp2
  go_loopw [4] (fun i wr => ∃ (k : Nat) (cs : Array Value) (Q : List FrV), k ≤ P.length ∧ i = .int .i64 k ∧ FrsIn wr w.heap.size wr.heap.size w.heap.size cs Q ∧ Q.length = k ∧ cs.size = P.length * 2 ∧ Hid (Q.map (fun q => (q.K, q.xs)) = ((P.take k).map FrA.val).map (fun v => (v.1, v.2.map B8))) ∧ Below w.heap.size w wr) (fun i _ => P.length - (intOf i).toNat)
  case atStart =>
    refine ⟨0, madeCells #[.int .i64 0, .slice none 0 0] (P.length * 2), [], Nat.zero_le _, rfl, ?_, rfl, size_madeCells _ _, Lib.hid rfl, (Below.refl _ _).alloc (Nat.le_refl _) _⟩
    exact ⟨Box.made _ _ _, Nat.le_refl _, by simp, fun j p h => by simp at h, fun j p h => by simp at h, fun i j p q k _ h => by simp at h⟩
  case round =>
    obtain ⟨k, cs, Q, hk, rfl, hin, hQ, hcs, hV, hb⟩ := hrel
    have HI := Lib.hid hin
    have HB := Lib.hid hb
    clear hin hb hmk
    by_cases hlt : k < P.length
    · obtain ⟨p, hpp⟩ : ∃ p, P[k]? = some p := ⟨P[k], List.getElem?_eq_getElem hlt⟩
      obtain ⟨⟨b, o, rfl, hbl, hc0, hc1⟩, hpl, hpt, hpb⟩ := (HL.out.below HB.out) k p hpp
      have hpn := HP.out k p hpp
      have HPl := Lib.hid hpl
      have tl : decide ((k : Int) < (P.length : Int)) = true := by simp; omega
      have HTk : Hid (P.take (k + 1) = P.take k ++ [p]) := Lib.hid (by rw [List.take_succ_eq_append_getElem hlt, (List.getElem?_eq_some_iff.1 hpp).2])
      clear hpp hpl hpt hpb
      go_wp2_with fail
      refine (toFrame_new p.K p.A p.c p.L wr HPl.out (by omega)).mono ?_
      rintro e w1 ⟨A1, c1, rfl, ho1, hb1⟩
      have hx1 : Box w1 w.heap.size 52 cs := HI.out.box.below hb1 HI.out.box.lt
      have ho1' : w1.ownsRow wr.heap.size 5 1 (.slice A1 (p.L.map B8).length c1) (p.L.map B8).length (p.L.map B8) := by rw [List.length_map]; exact ho1
      have HS := Lib.hid (HI.out.snoc (K := p.K) hb1 (Nat.le_refl _) ho1' (by omega))
      rw [hQ, List.length_map] at HS
      have HB1 := Lib.hid (below_then HB.out hb1)
      have hz0 := hx1.frozen (k * 2)
      have hz1 := hx1.frozen (k * 2 + 1)
      obtain ⟨y0, hy0⟩ : ∃ y, w1.cell? ⟨w.heap.size, k * 2, none⟩ = some y := ⟨cs[k * 2]'(by omega), (hx1.cell _).trans (Array.getElem?_eq_getElem (by omega))⟩
      obtain ⟨y1, hy1⟩ : ∃ y, w1.cell? ⟨w.heap.size, k * 2 + 1, none⟩ = some y := ⟨cs[k * 2 + 1]'(by omega), (hx1.cell _).trans (Array.getElem?_eq_getElem (by omega))⟩
      have hl1 := hx1.lt
      have HQl := Lib.hid hQ
      have HCs := Lib.hid hcs
      clear ho1 ho1' hb1 hx1 hc0 hc1 hQ hcs
      go_wp2
      go_roundw
      case rel =>
        refine ⟨k + 1, (cs.setIfInBounds (k * 2) (.int .i64 p.K)).setIfInBounds (k * 2 + 1) (.slice A1 p.L.length c1), Q ++ [⟨p.K, A1, c1, p.L.map B8⟩], by omega, by go_num, ?_, by rw [List.length_append, HQl.out]; rfl, by simp [HCs.out], ?_, ?_⟩
        · rw [World.size_setCell, World.size_setCell]
          exact HS.out
        · exact Lib.hid (by rw [HTk.out, List.map_append, List.map_append, List.map_append, hV.out]; rfl)
        · exact (HB1.out.setCell (p := ⟨w.heap.size, k * 2, none⟩) (Nat.le_refl _) _).setCell (p := ⟨w.heap.size, k * 2 + 1, none⟩) (Nat.le_refl _) _
      case measure => simp [intOf]; omega
    · have hk2 : k = P.length := by omega
      have HV := hV.out
      rw [hk2, List.take_length] at HV
      have HV2 := Lib.hid HV
      clear hV HV hQ hcs
      go_wp2
      go_ret
      exact ⟨w.heap.size, P.length, cs, Q, by rw [List.length_map]; rfl, HI.out, HV2.out, HB.out⟩

end Go.Proofs.Ytlbnngolcoefdaa
