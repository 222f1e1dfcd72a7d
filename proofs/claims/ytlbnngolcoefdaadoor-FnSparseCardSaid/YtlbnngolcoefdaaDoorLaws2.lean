import Derived.Test.YtlbnngolcoefdaaDoorDraw1
import Derived.Test.YtlbnngolcoefdaaDoorProg
import Derived.Test.YtlbnngolcoefdaaDoorMem
/- The specification's raw and wide draws. -/
namespace Go.Proofs.YtlbnngolcoefdaaDoor
open Go.RowKit
set_option maxRecDepth 100000

/-- Some number was drawn, by at most k picks. -/
def DrewI (w : World) (g : Nat) (A : Option Addr) (c : Nat) (D : List Nat) (K : Nat) (e : Ending) (w' : World) : Prop :=
  ∃ r : Int, e = .returned (.int .i64 r) ∧ (-9223372036854775808 ≤ r ∧ r ≤ 9223372036854775807) ∧ Cur w' g A c D K ∧ w.grownBy w' (some g)

/-- A table of numbers that was just made. -/
theorem table_at {w : World} {b : Nat} {t : TypeId} {L : List Int} (h : Box w b t (L.map I).toArray) {i : Nat} (hi : i < L.length) : ∃ v, v ∈ L ∧ w.cell? ⟨b, i, none⟩ = some (.int .i64 v) := by
  refine ⟨L[i], List.getElem_mem hi, ?_⟩
  rw [h.cell, List.getElem?_toArray, List.getElem?_map, List.getElem?_eq_getElem hi]
  rfl
theorem box_kept {w w' : World} {g b : Nat} {t : TypeId} {cs : Array Value} (h : Box w b t cs) (hg : w.grownBy w' (some g)) (hne : b ≠ g) : Box w' b t cs :=
  h.grown hg fun e => hne (Option.some.inj e).symm
theorem cur_alloc {w : World} {g : Nat} {A : Option Addr} {c : Nat} {D : List Nat} {K : Nat} (h : Cur w g A c D K) (o : Obj) : Cur (w.alloc o) g A c D K := h.below ((Below.refl _ _).alloc (Nat.le_refl _) o)

set_option maxHeartbeats 800000 in
theorem raw_any (g : Nat) (A : Option Addr) (c : Nat) (D : List Nat) (K : Nat) (w : World) (h : Cur w g A c D K) (hK : K ≤ 4611686018427387000) :
    Calls Tryd.prog 49 #[.pointer (some ⟨g, 0, none⟩)] w (DrewI w g A c D (K + 2)) := by
  go_enter Tryd.func49, Tryd.ntmps49
  go_wp2_with fail
  refine (pick_any g A c D K 8 w h (by omega) (by omega)).mono ?_
  rintro e w1 ⟨r, rfl, hr, _, hc1, hg1⟩
  have hr8 : (r : Int) < 8 := hr (by omega)
  have HG := Lib.hid hg1
  clear hr hg1 h
  by_cases h0 : r = 0
  · have t0 : ((r : Int) == 0) = true := by rw [beq_iff_eq]; omega
    clear h0
    go_wp2_with fail
    refine (pick_any g A c D (K + 1) 256 w1 hc1 (by omega) (by omega)).mono ?_
    rintro e w2 ⟨q, rfl, hq, _, hc2, hg2⟩
    have hq2 : (q : Int) < 256 := hq (by omega)
    have HC := Lib.hid hc2
    have HG2 := Lib.hid hg2
    clear hq hg2 hc1 hc2
    go_wp2
    go_ret
    exact ⟨(q : Int) - 128, rfl, by omega, HC.out, HG.out.trans HG2.out⟩
  · have t0 : ((r : Int) == 0) = false := by rw [beq_eq_false_iff_ne]; omega
    by_cases h1 : r = 1
    · have t1 : ((r : Int) == 1) = true := by rw [beq_iff_eq]; omega
      clear h0 h1
      go_wp2_with fail
      have hbx := Box.made w1 3 #[Value.int IntKind.i64 9223372036854775807, Value.int IntKind.i64 (-9223372036854775808), Value.int IntKind.i64 4611686018427387904, Value.int IntKind.i64 4294967295, Value.int IntKind.i64 4294967296, Value.int IntKind.i64 (-1000), Value.int IntKind.i64 1000, Value.int IntKind.i64 257]
      have hlt := hc1.lt
      refine (pick_any g A c D (K + 1) 8 _ (cur_alloc hc1 _) (by omega) (by omega)).mono ?_
      rintro e w2 ⟨q, rfl, hq, _, hc2, hg2⟩
      have hq2 : (q : Int) < 8 := hq (by omega)
      have hb2 := box_kept hbx hg2 (by omega)
      obtain ⟨v, hv, hcell⟩ := table_at (L := [9223372036854775807, -9223372036854775808, 4611686018427387904, 4294967295, 4294967296, -1000, 1000, 257]) hb2 (i := q) (by simp; omega)
      have hvb : -9223372036854775808 ≤ v ∧ v ≤ 9223372036854775807 := by
        simp at hv
        omega
      have HV := Lib.hid hvb
      have HC := Lib.hid hc2
      have HG2 := Lib.hid ((World.grownBy_alloc w1 _ (some g)).trans hg2)
      clear hq hg2 hc1 hc2 hb2 hbx hv hvb
      go_wp2
      go_ret
      exact ⟨v, rfl, HV.out, HC.out, HG.out.trans HG2.out⟩
    · have t1 : ((r : Int) == 1) = false := by rw [beq_eq_false_iff_ne]; omega
      clear h0 h1
      go_wp2_with fail
      refine (pick_any g A c D (K + 1) 14 w1 hc1 (by omega) (by omega)).mono ?_
      rintro e w2 ⟨q, rfl, hq, _, hc2, hg2⟩
      have hq2 : (q : Int) < 14 := hq (by omega)
      have HC := Lib.hid hc2
      have HG2 := Lib.hid hg2
      clear hq hg2 hc1 hc2
      go_wp2
      go_ret
      exact ⟨(q : Int) - 3, rfl, by omega, HC.out, HG.out.trans HG2.out⟩

end Go.Proofs.YtlbnngolcoefdaaDoor

/- The cursor opened, the draw of VarOf, and the laws' own pick. -/
namespace Go.Proofs.YtlbnngolcoefdaaDoor
open Go.RowKit
set_option maxRecDepth 100000

set_option maxHeartbeats 400000 in
theorem open_any (A : Option Addr) (c : Nat) (D : List Nat) (w : World) (hD : Lies w B8 A D) (hw : ∀ x ∈ D, x < 2 ^ 8) (hl : D.length ≤ 1048576) :
    Calls Tryd.prog 46 #[.slice A D.length c] w fun e w' => e = .returned (.pointer (some ⟨w.heap.size, 0, none⟩)) ∧ Cur w' w.heap.size A c D 0 ∧ Below w.heap.size w w' := by
  obtain ⟨q, hq⟩ : ∃ q, 89 + D.length % 1000 = q := ⟨_, rfl⟩
  have hqi : 89 + (D.length : Int) % 1000 = (q : Int) := by omega
  have hq5 : q < 65521 := by omega
  have HD := Lib.hid hD
  have HW := Lib.hid hw
  clear hD hw hq
  go_enter Tryd.func46, Tryd.ntmps46
  go_wp2
  go_ret
  have hb : Below w.heap.size w (w.alloc (.cells #[.slice A D.length c, .int .i64 0, .int .i64 q] 112)) := (Below.refl _ _).alloc (Nat.le_refl _) _
  refine ⟨rfl, ⟨HD.out.below hb, ?_, HW.out, hl, 0, q, Nat.le_refl _, hq5, Box.made _ _ _⟩, hb⟩
  intro b o hl0 hA e
  obtain ⟨b', o', _, hA', hb', _⟩ := HD.out.at_ hl0
  rw [hA] at hA'
  injection hA' with hA'
  injection hA' with e1 e2
  omega

theorem grown_below2 {w w1 w2 : World} {g : Nat} (hb : Below w.heap.size w w1) (hg : w1.grownBy w2 (some g)) (hge : w.heap.size ≤ g) : Below w.heap.size w w2 :=
  ⟨hg.os.trans hb.os, hg.tape.trans hb.tape, hg.output.trans hb.output, Nat.le_trans hb.size hg.size, fun k hk => (hg.block k (Nat.lt_of_lt_of_le hk hb.size) (fun e => by have := Option.some.inj e; omega)).trans (hb.block k hk)⟩

set_option maxHeartbeats 400000 in
theorem big_any (A : Option Addr) (n c : Nat) (w : World) :
    Calls Tryd.prog 10 #[.slice A n c] w fun e w' => e = .returned (.bool (decide (1048576 < n))) ∧ w = w' := by
  go_enter Tryd.func10, Tryd.ntmps10
  go_wp2
  go_ret
  exact ⟨ret_bool (by rw [Bool.eq_iff_iff]; simp; omega), rfl⟩

end Go.Proofs.YtlbnngolcoefdaaDoor

/- The specification's wide draw. -/
namespace Go.Proofs.YtlbnngolcoefdaaDoor
open Go.RowKit
set_option maxRecDepth 100000

/-- A number below n was drawn, by at most three picks. -/
def DrewW (w : World) (g : Nat) (A : Option Addr) (c : Nat) (D : List Nat) (K n : Nat) (e : Ending) (w' : World) : Prop :=
  ∃ r : Nat, e = .returned (.int .i64 r) ∧ r < n ∧ r < 16777216 ∧ Cur w' g A c D K ∧ w.grownBy w' (some g)

set_option maxHeartbeats 800000 in
theorem wide_any (g : Nat) (A : Option Addr) (c : Nat) (D : List Nat) (K n : Nat) (w : World) (h : Cur w g A c D K) (hn : 1 ≤ n) (hn2 : n ≤ 9223372036854775807) (hK : K ≤ 4611686018427387000) :
    Calls Tryd.prog 88 #[.pointer (some ⟨g, 0, none⟩), .int .i64 n] w (DrewW w g A c D (K + 3) n) := by
  go_enter Tryd.func88, Tryd.ntmps88
  go_wp2_with fail
  refine (pick_any g A c D K 256 w h (by omega) (by omega)).mono ?_
  rintro e w1 ⟨r1, rfl, hr1, _, hc1, hg1⟩
  have hq1 : (r1 : Int) < 256 := hr1 (by omega)
  have HG1 := Lib.hid hg1
  clear hr1 hg1 h
  go_wp2_with fail
  refine (pick_any g A c D (K + 1) 256 w1 hc1 (by omega) (by omega)).mono ?_
  rintro e w2 ⟨r2, rfl, hr2, _, hc2, hg2⟩
  have hq2 : (r2 : Int) < 256 := hr2 (by omega)
  have HG2 := Lib.hid hg2
  clear hr2 hg2 hc1
  go_wp2_with fail
  refine (pick_any g A c D (K + 2) 256 w2 hc2 (by omega) (by omega)).mono ?_
  rintro e w3 ⟨r3, rfl, hr3, _, hc3, hg3⟩
  have hq3 : (r3 : Int) < 256 := hr3 (by omega)
  have HG3 := Lib.hid hg3
  have HC := Lib.hid hc3
  clear hr3 hg3 hc2 hc3
  obtain ⟨y, hy⟩ : ∃ y, 65536 * r1 + 256 * r2 + r3 = y := ⟨_, rfl⟩
  have hyi : 65536 * (r1 : Int) + 256 * (r2 : Int) + (r3 : Int) = (y : Int) := by omega
  have hn0 : ((n : Int) == 0) = false := by rw [beq_eq_false_iff_ne]; omega
  have hrem : (y : Int).tmod (n : Int) = ((y % n : Nat) : Int) := by
    rw [Int.tmod_eq_emod_of_nonneg (by omega)]
    simp
  have hy24 : y < 16777216 := by omega
  clear hy
  go_wp2
  go_ret
  refine ⟨y % n, ret_int (by simp), Nat.mod_lt _ (by omega), Nat.lt_of_le_of_lt (Nat.mod_le _ _) hy24, HC.out, (HG1.out.trans HG2.out).trans HG3.out⟩

end Go.Proofs.YtlbnngolcoefdaaDoor

/- How long a drawn list is. -/
namespace Go.Proofs.YtlbnngolcoefdaaDoor
open Go.RowKit
set_option maxRecDepth 100000

set_option maxHeartbeats 1600000 in
theorem size20_any (g : Nat) (A : Option Addr) (c : Nat) (D : List Nat) (K : Nat) (w : World) (h : Cur w g A c D K) (hK : K ≤ 4611686018427387000) :
    Calls Tryd.prog 87 #[.pointer (some ⟨g, 0, none⟩), .int .i64 20] w fun e w' => ∃ r : Nat, e = .returned (.int .i64 r) ∧ r ≤ 20 ∧ Cur w' g A c D (K + 1) ∧ w.grownBy w' (some g) := by
  obtain ⟨a, s, _, _, hbox⟩ := h.box
  have f0 := hbox.cell 0
  simp only [List.getElem?_toArray, List.getElem?_cons_zero, List.getElem?_cons_succ] at f0
  obtain ⟨n, hni, hn20, hn1⟩ : ∃ n : Nat, (if 1 + (D.length : Int) / 8 < 20 then 1 + (D.length : Int) / 8 else 20) = (n : Int) ∧ n ≤ 20 ∧ 1 ≤ n := by
    by_cases h8 : 1 + D.length / 8 < 20
    · exact ⟨1 + D.length / 8, by rw [if_pos (by omega)]; omega, by omega, by omega⟩
    · exact ⟨20, by rw [if_neg (by omega)]; rfl, by omega, by omega⟩
  have hlen := h.len
  clear hbox
  go_enter Tryd.func87, Tryd.ntmps87
  go_wp2_with fail
  refine (pick_any g A c D K ((n : Int) + 1) w h (by omega) (by omega)).mono ?_
  rintro e w1 ⟨r, rfl, hr, _, hc1, hg1⟩
  have hr2 : (r : Int) < (n : Int) + 1 := hr (by omega)
  have HC := Lib.hid hc1
  have HG := Lib.hid hg1
  clear hr hc1 hg1 h f0
  go_wp2
  go_ret
  exact ⟨r, rfl, by omega, HC.out, HG.out⟩

end Go.Proofs.YtlbnngolcoefdaaDoor

/- More words of my own: rows that lie apart. Nothing of the program stands here. -/
namespace Go.Proofs.YtlbnngolcoefdaaDoor
open Go.RowKit

/-- A row that was there before another one was made lies apart from it. -/
theorem rows_apart {w w' : World} {b b' : Nat} {e e' : TypeId} {s s' n n' : Nat} {v v' : Value} {xs xs' : List Value} (h : w.ownsRow b e s v n xs) (h' : w'.ownsRow b' e' s' v' n' xs') (hb : w.heap.size ≤ b') :
    (v.ownBlock = none ∨ v.ownBlock ≠ v'.ownBlock) ∧ (v'.ownBlock = none ∨ v'.ownBlock ≠ v.ownBlock) := by
  have key : ∀ k, v.ownBlock = some k → v'.ownBlock ≠ some k := fun k hk hk' => by
    have h1 := (h.lt k hk).2
    have h2 := (h'.lt k hk').1
    omega
  constructor
  · cases hv : v.ownBlock with
    | none => exact .inl rfl
    | some k => exact .inr fun e => key k hv e.symm
  · cases hv : v'.ownBlock with
    | none => exact .inl rfl
    | some k => exact .inr fun e => key k e.symm hv

theorem grown_below {w w' : World} {base : Nat} {e : TypeId} {size n : Nat} {v : Value} {xs : List Value} {B : Nat} (h : w.ownsRow base e size v n xs) (hg : w.grownBy w' v.ownBlock) (hB : B ≤ base) (hs : B ≤ w.heap.size) : Below B w w' :=
  (Below.refl B w).grown hg hs fun k hk => Nat.le_trans hB (h.lt k hk).1

theorem box_grown {w w' : World} {base : Nat} {e : TypeId} {size n : Nat} {v : Value} {xs : List Value} {g : Nat} {t : TypeId} {cs : Array Value} (hx : Box w g t cs) (h : w.ownsRow base e size v n xs) (hg : w.grownBy w' v.ownBlock) (hlt : g < base) : Box w' g t cs :=
  hx.grown hg (own_apart h hlt)

/-- A block that was made later than a row is none of its. -/
theorem box_apart {w w' w1 : World} {base : Nat} {e : TypeId} {size n : Nat} {v : Value} {xs : List Value} {g : Nat} {t : TypeId} {cs : Array Value} (hx : Box w g t cs) (h0 : w1.ownsRow base e size v n xs) (hlt : w1.heap.size ≤ g) (hg : w.grownBy w' v.ownBlock) : Box w' g t cs :=
  hx.grown hg fun he => by have := (h0.lt g he).2; omega

end Go.Proofs.YtlbnngolcoefdaaDoor

/- Contracts of the laws' own copies and comparisons of lists of numbers. -/
namespace Go.Proofs.YtlbnngolcoefdaaDoor
open Go.RowKit
set_option maxRecDepth 100000

theorem Tryd.infoU64 : (Tryd.prog.info? 113).map (fun i => (i.zero, i.size, i.bytes)) = some (some (.int .u64 0), 1, 8) := by kernel_rfl
theorem Tryd.infoInt : (Tryd.prog.info? 3).map (fun i => (i.zero, i.size, i.bytes)) = some (some (.int .i64 0), 1, 8) := by kernel_rfl

set_option maxHeartbeats 400000 in
theorem toU64 (A : Option Addr) (c : Nat) (L : List Nat) (w : World) (hL : Lies w U A L) (hn : L.length ≤ 17592186044416) :
    Calls Tryd.prog 117 #[.slice A L.length c] w fun e w' => e = .returned (.slice (some ⟨w.heap.size, 0, none⟩) L.length L.length) ∧
      w'.ownsRow w.heap.size 113 1 (.slice (some ⟨w.heap.size, 0, none⟩) L.length L.length) L.length (L.map U) ∧ Below w.heap.size w w' := by
  have hmk := fun W => run_make_row' (P := Tryd.prog) 27 113 (.int .u64 0) 8 Tryd.underlying27 Tryd.infoU64 rfl .i64 .i64 L.length (by omega) (by omega) W
  go_enter Tryd.func117, Tryd.ntmps117
  go_wp2
  go_loopw [4] (fun i wr => ∃ k : Nat, k ≤ L.length ∧ i = .int .i64 k ∧ wr.ownsRow w.heap.size 113 1 (.slice (some ⟨w.heap.size, 0, none⟩) L.length L.length) L.length (copied U (U 0) L k) ∧ Below w.heap.size w wr) (fun i _ => L.length - (intOf i).toNat)
  case atStart =>
    refine ⟨0, Nat.zero_le _, rfl, ?_, (Below.refl _ _).alloc (Nat.le_refl _) _⟩
    rw [copied_zero, ← toList_madeCells_one]
    exact World.ownsRow_lit w _ _ (Nat.le_refl _) (by unfold maxLen; omega) (by simp [size_madeCells])
  case round =>
    obtain ⟨k, hk, rfl, hown, hb⟩ := hrel
    clear hmk
    by_cases hlt : k < L.length
    · obtain ⟨b, o, x, rfl, hbl, hx, hc⟩ := hL.at_ hlt
      have hc' : wr.cell? ⟨b, o + k, none⟩ = some (.int .u64 x) := (hb.cell (p := ⟨b, o + k, none⟩) hbl).trans hc
      have hd : wr.cell? ⟨w.heap.size, k, none⟩ = some (.int .u64 0) := (hown.cellAt k (by omega)).trans (copied_get _ _ _ hlt)
      have hf := hown.frozenAt k
      have HS := Lib.hid (hown.stored k (.int .u64 x)).1
      have HB := Lib.hid (hb.setCell (p := ⟨w.heap.size, k, none⟩) (Nat.le_refl _) (.int .u64 x))
      have HX := Lib.hid (copied_succ (f := U) (U 0) L k x hx)
      clear hx hc hown hb
      go_wp2
      go_roundw
      case rel => exact ⟨k + 1, by omega, by go_num, by rw [HX.out]; exact HS.out, HB.out⟩
      case measure => simp [intOf]; omega
    · go_wp2
      go_ret
      have e : k = L.length := by omega
      subst e
      rw [copied_all] at hown
      exact ⟨rfl, hown, hb⟩

end Go.Proofs.YtlbnngolcoefdaaDoor
