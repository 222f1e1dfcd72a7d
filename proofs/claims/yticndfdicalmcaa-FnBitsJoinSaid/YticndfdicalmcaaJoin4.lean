/- The program's BitsJoin, of two valid bit vectors that can be joined. -/
import Derived.Test.YticndfdicalmcaaJoin3
import Derived.Laws.CopyOwn
import Derived.StillTailTactics
namespace Go.Proofs.Yticndfdicalmcaa
open Go.RowKit
set_option maxRecDepth 100000

/-- What holds of the world after k rounds. -/
structure JoinInv (w : World) (S n : Nat) (A : Option Addr) (c : Nat) (L : List Nat) (m : Nat) (B : Option Addr) (d : Nat) (K : List Nat) (T k : Nat) (wr : World) : Prop where
  below : Below w.heap.size w wr
  boxa : Box wr w.heap.size 26 #[.int .i64 n, .slice A L.length c]
  boxb : Box wr (w.heap.size + 1) 26 #[.int .i64 m, .slice B K.length d]
  boxr : Box wr (w.heap.size + 1 + 1) 26 #[.int .i64 0, .slice none 0 0]
  row : Box wr S 78 ((digits T (joinNum n L m K k)).map U).toArray
  lt : w.heap.size + 1 + 1 < S

theorem splice_start (n : Nat) (L : List Nat) (m : Nat) (K : List Nat) (T : Nat) (hl : L.length = (n + 63) / 64) (hT : L.length ≤ T) (hw : ∀ x ∈ L, x < 2 ^ 64) (ht : tailB n L = true) : splice (List.replicate T (U 0)) 0 (L.map U) = (digits T (joinNum n L m K 0)).map U := by
  rw [joinNum_zero, join_start n L T hl hT hw ht]
  simp [splice]

theorem map_put (D : List Nat) (i v : Nat) : (D.map U).toArray.setIfInBounds i (U v) = ((D.set i v).map U).toArray := by
  simp [List.map_set]

theorem shr_form (x s : Nat) (hs : s ≤ 64) : x * 2 ^ s / 2 ^ 64 = x / 2 ^ (64 - s) := by
  rw [show 2 ^ 64 = 2 ^ (64 - s) * 2 ^ s by rw [← Nat.pow_add, show 64 - s + s = 64 by omega], Nat.mul_div_mul_right _ _ (Nat.two_pow_pos _)]

theorem JoinInv.draw {w : World} {S n : Nat} {A : Option Addr} {c : Nat} {L : List Nat} {m : Nat} {B : Option Addr} {d : Nat} {K : List Nat} {T k : Nat} {wr : World} (h : JoinInv w S n A c L m B d K T k wr) (z : Nat) : JoinInv w S n A c L m B d K T k (wr.drewN z) :=
  ⟨below_dN h.below z, h.boxa.draw z, h.boxb.draw z, h.boxr.draw z, h.row.draw z, h.lt⟩

theorem or_form (y x s : Nat) (hy : y < 2 ^ 64) : bits .or .u64 (y : Int) (IntKind.u64.wrap ((x : Int) * 2 ^ s)) = ((y ||| x * 2 ^ s % 2 ^ 64 : Nat) : Int) := by
  have e : (x : Int) * 2 ^ s = ((x * 2 ^ s : Nat) : Int) := by simp
  have hw : IntKind.u64.wrap ((x : Int) * 2 ^ s) = ((x * 2 ^ s % 2 ^ 64 : Nat) : Int) := by rw [e, IntKind.wrap_u64]; omega
  rw [hw, u64_or_nat y _ hy (Nat.mod_lt _ (by decide))]

theorem or_zero_form (x r : Nat) (hx : x < 2 ^ 64) : bits .or .u64 0 ((x : Int) / 2 ^ r) = ((x / 2 ^ r : Nat) : Int) := by
  have e : (x : Int) / 2 ^ r = ((x / 2 ^ r : Nat) : Int) := by simp
  have h := u64_or_nat 0 (x / 2 ^ r) (by decide) (Nat.lt_of_le_of_lt (Nat.div_le_self _ _) hx)
  rw [Nat.zero_or] at h
  rw [e]
  exact h

theorem JoinInv.next1 {w : World} {S n : Nat} {A : Option Addr} {c : Nat} {L : List Nat} {m : Nat} {B : Option Addr} {d : Nat} {K : List Nat} {T k : Nat} {wr : World} (h : JoinInv w S n A c L m B d K T k wr) {f v : Nat} (he : digits T (joinNum n L m K (k + 1)) = (digits T (joinNum n L m K k)).set f v) :
    JoinInv w S n A c L m B d K T (k + 1) (wr.setCell ⟨S, f, none⟩ (U v)) := by
  have hlt := h.lt
  refine ⟨h.below.setCell (by simp; omega) _, h.boxa.off (by simp; omega) _, h.boxb.off (by simp; omega) _, h.boxr.off (by simp; omega) _, ?_, h.lt⟩
  rw [he, ← map_put]
  exact h.row.put f _

theorem JoinInv.next2 {w : World} {S n : Nat} {A : Option Addr} {c : Nat} {L : List Nat} {m : Nat} {B : Option Addr} {d : Nat} {K : List Nat} {T k : Nat} {wr : World} (h : JoinInv w S n A c L m B d K T k wr) {f v f' v' : Nat} (he : digits T (joinNum n L m K (k + 1)) = ((digits T (joinNum n L m K k)).set f v).set f' v') :
    JoinInv w S n A c L m B d K T (k + 1) ((wr.setCell ⟨S, f, none⟩ (U v)).setCell ⟨S, f', none⟩ (U v')) := by
  have hlt := h.lt
  refine ⟨(h.below.setCell (by simp; omega) _).setCell (by simp; omega) _, (h.boxa.off (by simp; omega) _).off (by simp; omega) _, (h.boxb.off (by simp; omega) _).off (by simp; omega) _, (h.boxr.off (by simp; omega) _).off (by simp; omega) _, ?_, h.lt⟩
  rw [he, ← map_put, ← map_put]
  exact (h.row.put f _).put f' _

set_option maxHeartbeats 400000 in
theorem implJoin_ok (n : Nat) (A : Option Addr) (c : Nat) (L : List Nat) (m : Nat) (B : Option Addr) (d : Nat) (K : List Nat) (w : World) (hL : Lies w U A L) (hw : ∀ x ∈ L, x < 2 ^ 64) (hK : Lies w U B K) (hw2 : ∀ x ∈ K, x < 2 ^ 64)
    (hok : okB n L = true) (hok2 : okB m K = true) (hnm : n + m ≤ 5000) (Hl : Hid (L.length = (n + 63) / 64)) (Hk : Hid (K.length = (m + 63) / 64)) (Ht : Hid (tailB n L = true)) (Ht2 : Hid (tailB m K = true)) :
    Calls Try.prog 18 #[.agg #[.int .i64 n, .slice A L.length c], .agg #[.int .i64 m, .slice B K.length d]] w (NewBits w (n + m) (wordsOf (bitsOf n L ++ bitsOf m K)) true) := by
  have HW := Lib.hid hw
  have HL := Lib.hid hL
  have HW2 := Lib.hid hw2
  have HK := Lib.hid hK
  clear hw hL hw2 hK
  obtain ⟨T, hT⟩ : ∃ T, (n + m + 63) / 64 = T := ⟨_, rfl⟩
  have hT79 : T ≤ 79 := by omega
  have hLT : L.length ≤ T := by rw [Hl.out]; omega
  have hK79 : K.length ≤ 79 := by rw [Hk.out]; omega
  have hmk := fun W => run_make_row' (P := Try.prog) 24 78 (.int .u64 0) 8 Try.underlying24 Try.infoU64 rfl .i64 .i64 T (by omega) (by omega) W
  have C : ∀ W : World, Calls Try.prog 65 #[.int .i64 ((n : Int) + m)] W fun e w' => e = .returned (.int .i64 T) ∧ W = w' := fun W =>
    (wordsFor_any (n + m) W hnm).mono fun e w' h => ⟨by rw [h.1, hT], h.2⟩
  have HC := Lib.hid C
  have HT := Lib.hid hT
  clear C hT
  obtain ⟨q, hq⟩ : ∃ q, n / 64 = q := ⟨_, rfl⟩
  obtain ⟨s, hs⟩ : ∃ s, n % 64 = s := ⟨_, rfl⟩
  have hs64 : s < 64 := by omega
  have hq79 : q ≤ 79 := by omega
  have e1 : IntKind.i64.wrap ((n : Int) / 64) = (q : Int) := by rw [show (n : Int) / 64 = q by omega]; exact IntWalk.i64_in _ (by omega)
  have e2 : (n : Int).tmod 64 = (s : Int) := by rw [IntWalk.rem_in _ _ (by omega)]; omega
  have HQ := Lib.hid hq
  have HS := Lib.hid hs
  clear hq hs
  go_enter Try.func18, Try.ntmps18
  have sc : Scene w w [] := Scene.start w
  go_wp2_with fail
  replace sc := sc.box 26 #[.int .i64 n, .slice A L.length c]
  replace sc := sc.box 26 #[.int .i64 m, .slice B K.length d]
  replace sc := sc.box 26 #[.int .i64 0, .slice none 0 0]
  generalize ((w.alloc (Obj.cells #[.int .i64 n, .slice A L.length c] 26)).alloc (Obj.cells #[.int .i64 m, .slice B K.length d] 26)).alloc (Obj.cells #[.int .i64 0, .slice none 0 0] 26) = W0 at *
  simp only [World.size_alloc] at sc
  refine (implOk_any n A c L _ (sc.liesOld HL.out) HW.out).mono ?_
  rintro e w1 ⟨rfl, hb⟩
  replace sc := sc.step hb
  rw [hok]
  clear hb hok
  obtain ⟨p0, p1, _⟩ := sc.two 1 rfl
  go_wp2_with fail
  clear p0 p1
  refine (implOk_any m B d K _ (sc.liesOld HK.out) HW2.out).mono ?_
  rintro e w2 ⟨rfl, hb⟩
  replace sc := sc.step hb
  rw [hok2]
  clear hb hok2
  obtain ⟨fa0, fa1, fal⟩ := sc.two 2 rfl
  obtain ⟨fb0, fb1, fbl⟩ := sc.two 1 rfl
  have fcl := (sc.getBox 0 rfl).lt
  go_wp2_with fail
  refine (HC.out _).mono ?_
  rintro e w3 ⟨rfl, rfl⟩
  have hrow : (w2.alloc (Obj.cells (madeCells #[Value.int IntKind.u64 0] T) 78)).heap[w2.heap.size]? = some (.cells (List.replicate T (U 0)).toArray 78 (0, 0)) := by
    rw [heap_alloc_new, ← toList_madeCells_one, Array.toArray_toList]
    rfl
  have HRow := Lib.hid hrow
  have hcs : (L.map U).length = Nat.min L.length T := by rw [List.length_map]; exact (Nat.min_eq_left hLT).symm
  obtain ⟨X, hX⟩ : ∃ X, X = L.map U := ⟨_, rfl⟩
  rw [← hX] at hcs
  have hXL : X.length = L.length := by rw [hX, List.length_map]
  have HX := Lib.hid hX
  have HXmin := Lib.hid hcs
  have HXlen := Lib.hid hXL
  have HOne : Hid (∀ v ∈ X, v.oneCell' = true) := Lib.hid (by rw [hX]; intro v hv; obtain ⟨x, _, rfl⟩ := List.mem_map.1 hv; rfl)
  have HBel2 := Lib.hid ((Below.refl w2.heap.size w2).alloc (Nat.le_refl _) (Obj.cells (madeCells #[Value.int IntKind.u64 0] T) 78))
  have HSrc : Hid (0 < X.length → ∃ ad, A = some ad ∧ ∀ j v, X[j]? = some v → (w2.alloc (Obj.cells (madeCells #[Value.int IntKind.u64 0] T) 78)).cell? (ad.add j) = some v) := Lib.hid (by
    intro h0
    have h2 := (sc.liesOld HL.out).below HBel2.out
    obtain ⟨b, o, _, rfl, _, _⟩ := h2.at_ (i := 0) (by omega)
    refine ⟨_, rfl, fun j v hv => ?_⟩
    rw [hX, List.getElem?_map, Option.map_eq_some_iff] at hv
    obtain ⟨x, hx, rfl⟩ := hv
    obtain ⟨b', o', x', e, _, hx', hc'⟩ := h2.at_ (List.getElem?_eq_some_iff.1 hx).1
    cases e
    rw [hx] at hx'
    cases hx'
    have ha : (⟨b, o, none⟩ : Addr).add j = ⟨b, o + j, none⟩ := by unfold Addr.add; split <;> simp_all
    rw [ha]
    exact hc')
  clear hrow hcs hX hXL
  have hsz : (Try.prog.info? 78).map (·.size) = some 1 := by
    obtain ⟨i0, hi, hz0, hz1, hz2⟩ := info_parts Try.infoU64
    rw [hi, Option.map_some, hz1]
  go_wp2_with ((with_reducible show wpList _ _ _ (⟨some 38, _, _, _, _, _⟩ :: _) _ _); with_reducible refine Hid.out ?_)
  refine Lib.hid ?_
  refine wpList_copy_splice ?_ (.tmp 35) (.tmp 37) 24 24 ?_ 78 Try.underlying24 hsz (some ⟨w2.heap.size, 0, none⟩) A T T L.length c ?_ ?_ w2.heap.size 0 (List.replicate T (U 0)) 78 HRow.out X HXmin.out (fun h => ⟨rfl, HSrc.out h⟩) (by rw [HXlen.out, List.length_replicate]; omega) HOne.out w2.heap.size w2 HBel2.out (Nat.le_refl _) ?_
  rfl
  rfl
  rfl
  rfl
  intro w3 HRow3 hb3
  replace sc := sc.step hb3
  have inv0 : JoinInv w w2.heap.size n A c L m B d K T 0 w3 := by
    refine ⟨sc.below, sc.getBox 2 rfl, sc.getBox 1 rfl, sc.getBox 0 rfl, ?_, fcl⟩
    rw [← splice_start n L m K T Hl.out hLT HW.out Ht.out, ← HX.out]
    exact HRow3.out
  have HI0 := Lib.hid inv0
  obtain ⟨ga0, ga1, gal⟩ := sc.two 2 rfl
  obtain ⟨gb0, gb1, gbl⟩ := sc.two 1 rfl
  clear inv0 sc HRow3 hb3 fa0 fa1 fb0 fb1 HSrc HBel2 HOne HXlen HXmin HX HRow hmk
  generalize w2.heap.size = S at *
  go_wp2_with fail
  go_quiet (fail)
  clear ga0 ga1 e1 e2
  go_wp2
  clear gb0 gb1
  go_loopw [48] (fun i wr => ∃ k : Nat, k ≤ K.length ∧ i = .int .i64 k ∧ JoinInv w S n A c L m B d K T k wr) (fun i _ => K.length - (intOf i).toNat)
  case atStart => exact ⟨0, Nat.zero_le _, rfl, HI0.out.draw _⟩
  case round =>
    obtain ⟨k, hk, rfl, inv⟩ := hrel
    clear HI0
    by_cases hlt : k < K.length
    · obtain ⟨b, o, x, rfl, hbl, hx, hc⟩ := (HK.out.below inv.below).at_ hlt
      have hx64 := HW2.out x (List.mem_of_getElem? hx)
      have hkm : 64 * k < m := by have := Hk.out; omega
      obtain ⟨j, hj⟩ : ∃ j, q + k = j := ⟨_, rfl⟩
      have hqT : j < T := by have := HT.out; have := HQ.out; omega
      have hge := digits_get T (joinNum n L m K k) j hqT
      obtain ⟨y, hy⟩ : ∃ y, joinNum n L m K k / 2 ^ (64 * j) % 2 ^ 64 = y := ⟨_, rfl⟩
      have hy64 : y < 2 ^ 64 := by rw [← hy]; exact Nat.mod_lt _ (by decide)
      rw [hy] at hge
      have hd : wr.cell? ⟨S, j, none⟩ = some (U y) := by
        rw [inv.row.cell, List.getElem?_toArray, List.getElem?_map, hge]; rfl
      have hf := inv.row.frozen j
      obtain ⟨hr1, hr2⟩ := join_round n L m K T k x Hk.out HW2.out Ht2.out hx (by rw [HQ.out, hj]; exact hqT)
      rw [HQ.out, HS.out, hj, hy] at hr1
      rw [HQ.out, hj] at hr2
      have HOr := Lib.hid (or_form y x s hy64)
      have HI := Lib.hid inv
      have e3 : IntKind.i64.wrap ((q : Int) + (k : Int)) = (j : Int) := by rw [IntWalk.i64_in _ (by omega)]; omega
      have hqk : (q : Int) + (k : Int) = (j : Int) := by omega
      have hSl := inv.row.lt
      have HJ := Lib.hid hj
      clear hj
      obtain ⟨j1, hj1⟩ : ∃ j1, j + 1 = j1 := ⟨_, rfl⟩
      rw [hj1] at hr1 hr2
      by_cases hnx : j1 < T
      · have hd2 : wr.cell? ⟨S, j1, none⟩ = some (U 0) := by
          rw [inv.row.cell, List.getElem?_toArray, List.getElem?_map, hr2 hnx]; rfl
        have hf2 := inv.row.frozen j1
        obtain ⟨r, hr⟩ : ∃ r, 64 - s = r := ⟨_, rfl⟩
        rw [shr_form x s (by omega), hr] at hr1
        have HE := Lib.hid hr1
        have HY := Lib.hid hy
        have e4 : IntKind.i64.wrap ((j : Int) + 1) = (j1 : Int) := by rw [IntWalk.i64_in _ (by omega)]; omega
        have e5 : IntKind.i64.wrap (64 - (s : Int)) = (r : Int) := by rw [IntWalk.i64_in _ (by omega)]; omega
        have hcond : (q : Int) + (k : Int) + 1 < (T : Int) := by have := HJ.out; omega
        have hr64 : r ≤ 64 := by omega
        have hne : j1 ≠ j := by omega
        obtain ⟨V, hV⟩ : ∃ V, V = (wr.setCell ⟨S, j, none⟩ (.int .u64 (bits .or .u64 (y : Int) (IntKind.u64.wrap ((x : Int) * 2 ^ s))))).drew := ⟨_, rfl⟩
        have hd3 : V.cell? ⟨S, j1, none⟩ = some (U 0) := by
          rw [hV]
          refine (World.cell?_setCell_other _ _ _ _ ?_).trans hd2
          intro e
          injection e
          omega
        have hf3 : V.frozen? ⟨S, j1, none⟩ = false := by
          rw [hV]
          exact (inv.row.put j _).frozen j1
        have HV := Lib.hid hV
        have HOr2 := Lib.hid (or_zero_form x r hx64)
        have hSV : S < V.heap.size := by rw [hV]; exact (inv.row.put j _).lt
        clear hV
        clear hx hr1 hr2 hy hge inv hr hqk hj1
        go_wp2_with fail
        go_still_tail 11, (by kernel_rfl)
        change wpList _ _ _ _ _ wr.drew
        go_wp2_with fail
        rw [← HV.out]
        clear hd hf hd2 hf2
        go_still_tail 13, (by kernel_rfl)
        change wpList _ _ _ _ _ V.drew
        go_wp2
        go_roundw
        case rel =>
          refine ⟨k + 1, by omega, by go_num, ?_⟩
          rw [HV.out, HOr2.out, HOr.out]
          exact (HI.out.next2 HE.out).draw 2
        case measure => simp [intOf]; omega
      · rw [List.set_eq_of_length_le (by rw [List.length_set, digits_len]; omega)] at hr1
        have HE := Lib.hid hr1
        have hcond : (T : Int) ≤ (j : Int) + 1 := by omega
        clear hx hr1 hr2 hy hge inv hqk hj1
        go_wp2_with fail
        go_still_tail 11, (by kernel_rfl)
        change wpList _ _ _ _ _ wr.drew
        go_wp2
        go_roundw
        case rel =>
          refine ⟨k + 1, by omega, by go_num, ?_⟩
          rw [HOr.out]
          exact (HI.out.next1 HE.out).draw 1
        case measure => simp [intOf]; omega
    · have e : k = K.length := by omega
      subst e
      obtain ⟨hb, ha, hbb, hr, hrow, hlt2⟩ := inv
      have fa0 := ha.cell 0
      have fb0 := hbb.cell 0
      have q0 := hr.cell 0
      have q1 := hr.cell 1
      have qf0 := hr.frozen 0
      have qf1 := hr.frozen 1
      simp only [List.getElem?_toArray, List.getElem?_cons_zero, List.getElem?_cons_succ] at fa0 fb0 q0 q1
      have hal := ha.lt
      have hbl := hbb.lt
      have hrl := hr.lt
      rw [joinNum_all n L m K K.length (by rw [Hk.out]; omega)] at hrow
      have hwd := wordsOf_digits (bitsOf n L ++ bitsOf m K) (join_bits n L m K)
      rw [List.length_append, bitsOf_len, bitsOf_len, HT.out] at hwd
      rw [← hwd] at hrow
      have hwl : (wordsOf (bitsOf n L ++ bitsOf m K)).length = T := by rw [hwd, digits_len]
      have HO : Hid (wr.ownsRow S 78 1 (.slice (some ⟨S, 0, none⟩) T T) T ((wordsOf (bitsOf n L ++ bitsOf m K)).map U)) := Lib.hid ⟨by rw [List.length_map, hwl, Nat.mul_one], .inr ⟨S, T, _, rfl, Nat.le_refl _, hrow, Nat.le_refl _, by unfold maxLen; omega, by simp [hwl], by rw [Nat.mul_one, List.take_of_length_le (by simp [hwl])]⟩⟩
      have HB := Lib.hid hb
      have HWl := Lib.hid hwl
      clear hb ha hbb hr hrow hwd hwl
      go_wp2
      refine bodyPost_ret (v := .tuple #[.agg #[.int .i64 ((n : Int) + m), .slice (some ⟨S, 0, none⟩) T T], .bool true]) (by simp [results, Try.results18, go_sem, q0, q1]) rfl ?_
      refine ⟨some ⟨S, 0, none⟩, T, by rw [HWl.out], ?_, ?_⟩
      · rw [HWl.out]
        exact own_mono (ownsRow_setCell_below (ownsRow_setCell_below HO.out (a := ⟨w.heap.size + 1 + 1, 0, none⟩) hlt2 _) (a := ⟨w.heap.size + 1 + 1, 1, none⟩) hlt2 _) (by omega)
      · exact (HB.out.setCell (p := ⟨w.heap.size + 1 + 1, 0, none⟩) (by simp; omega) _).setCell (p := ⟨w.heap.size + 1 + 1, 1, none⟩) (by simp; omega) _

end Go.Proofs.Yticndfdicalmcaa
