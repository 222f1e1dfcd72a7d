/- The draws of bytes and of a frame (weak contracts). -/
import Derived.Test.YtlbnngolcoefdaaDoorDraw3d
import Derived.Test.YtlbnngolcoefdaaDoorFrRd7
import Derived.Test.YtlbnngolcoefdaaDoorDrawS
namespace Go.Proofs.YtlbnngolcoefdaaDoor
open Go.RowKit
set_option maxRecDepth 100000

theorem own_turnF {w w' : World} {b : Nat} {e : TypeId} {size n : Nat} {v : Value} {xs : List Value} (h : w.ownsRow b e size v n xs) (hk : ∀ k, v.ownBlock = some k → w'.heap[k]? = w.heap[k]?) : w'.ownsRow b e size v n xs := by
  obtain ⟨h1, h2⟩ := h
  refine ⟨h1, ?_⟩
  rcases h2 with h2 | ⟨g, cap, cur, hv, hg, hh, r⟩
  · exact .inl h2
  · exact .inr ⟨g, cap, cur, hv, hg, (hk g (by rw [hv]; rfl)).trans hh, r⟩
theorem own_pastF {w w' : World} {b g : Nat} {e : TypeId} {n : Nat} {v : Value} {xs : List Value} (h : w.ownsRow b e 1 v n xs) (hg : w.grownBy w' (some g)) (hb : g < b) : w'.ownsRow b e 1 v n xs :=
  own_turnF h fun k hk => hg.block k (h.lt k hk).2 fun e => by
    have := (h.lt k hk).1
    have := Option.some.inj e
    omega
theorem grown_twoF {w w1 w2 : World} {g : Nat} {row : Option Nat} (h : w.grownBy w1 (some g)) (k : w1.grownBy w2 row) (hr : ∀ j, row = some j → w.heap.size ≤ j) : w.grownBy w2 (some g) :=
  h.andThen k fun j hj => .inl (hr j hj)
/-- The cursor stays where memory above the start is written. -/
theorem Cur.pastF {w0 w w' : World} {g : Nat} {A : Option Addr} {c : Nat} {D : List Nat} {K : Nat} {row : Option Nat} (h : Cur w g A c D K) (hD0 : Lies w0 B8 A D) (hgl : g < w0.heap.size) (hg : w.grownBy w' row) (hr : ∀ j, row = some j → w0.heap.size ≤ j) : Cur w' g A c D K := by
  refine h.turn hg.size fun q hq hcase => hg.block q hq fun e => ?_
  have h1 := hr q e.symm
  rcases hcase with h2 | ⟨o, hl, hA⟩
  · omega
  · obtain ⟨b, o', _, hA', hb', _⟩ := hD0.at_ hl
    rw [hA] at hA'
    injection hA' with hA'
    injection hA' with e1 e2
    omega

set_option maxHeartbeats 800000 in
theorem bytes20_any (g : Nat) (A : Option Addr) (c : Nat) (D : List Nat) (K : Nat) (w : World) (h : Cur w g A c D K) (hK : K ≤ 4611686018427380000) :
    Calls Tryd.prog 105 #[.pointer (some ⟨g, 0, none⟩), .int .i64 20] w fun e w' => ∃ (v : Value) (L : List Nat), e = .returned v ∧ w'.ownsRow w.heap.size 5 1 v L.length (L.map B8) ∧ L.length ≤ 20 ∧ (∀ x ∈ L, x < 2 ^ 8) ∧ Cur w' g A c D (K + 61) ∧ w.grownBy w' (some g) := by
  obtain ⟨i0, hi, hz0, hz1, hz2⟩ := info_parts Tryd.infoU8
  have hgl := h.lt
  have HD0 := Lib.hid h.lies
  go_enter Tryd.func105, Tryd.ntmps105
  go_wp2_with fail
  refine (size20_any g A c D K _ (cur_alloc h _) (by omega)).mono ?_
  rintro e w1 ⟨r, rfl, hr20, hc1, hg1⟩
  have HG1 := Lib.hid ((World.grownBy_alloc w (Obj.cells #[] 5) (some g)).trans hg1)
  have hown0 : w1.ownsRow w.heap.size 5 1 (.slice (some ⟨w.heap.size, 0, none⟩) 0 0) 0 [] :=
    own_pastF (World.ownsRow_made w (e := 5) (size := 1) #[] 0 (Nat.le_refl _) (by unfold maxLen; omega) rfl) hg1 hgl
  have HO0 := Lib.hid hown0
  have HC1 := Lib.hid hc1
  clear hown0 hg1 hc1 h
  go_wp2
  go_loopw [5, 6] (fun s j wr => ∃ (k : Nat) (L : List Nat), k ≤ r ∧ j = .int .i64 k ∧ wr.ownsRow w.heap.size 5 1 s L.length (L.map B8) ∧ L.length + k ≤ 20 ∧ (∀ x ∈ L, x < 2 ^ 8) ∧ Cur wr g A c D (K + 1 + 3 * (20 - k)) ∧ w.grownBy wr (some g)) (fun _ j _ => (intOf j).toNat)
  case atStart => exact ⟨r, [], Nat.le_refl _, rfl, HO0.out, by simpa using hr20, by simp, HC1.out.more (by omega), HG1.out⟩
  case round =>
    obtain ⟨k, L, hkr, rfl, hown, hLk, hLb, hcur, hgr⟩ := hrel
    rcases Nat.eq_zero_or_pos k with h0 | h0
    · subst h0
      go_wp2
      go_ret
      exact ⟨_, L, rfl, hown, by omega, hLb, hcur.more (by omega), hgr⟩
    · obtain ⟨k, rfl⟩ : ∃ k', k = k' + 1 := ⟨k - 1, by omega⟩
      have HO := Lib.hid hown
      have HG := Lib.hid hgr
      have HLb := Lib.hid hLb
      clear hown hgr hLb
      go_wp2_with fail
      refine (pick_any g A c D (K + 1 + 3 * (20 - (k + 1))) 256 wr hcur (by omega) (by omega)).mono ?_
      rintro e w2 ⟨x, rfl, hx, _, hc2, hg2⟩
      have hx2 : (x : Int) < 256 := hx (by omega)
      have hxw : IntKind.u8.wrap (x : Int) = (x : Int) := by go_arith
      have HC2 := Lib.hid hc2
      have HG2 := Lib.hid hg2
      have HO2 : Hid (w2.ownsRow w.heap.size 5 1 _ L.length (L.map B8)) := Lib.hid (own_pastF HO.out hg2 hgl)
      clear hc2 hg2 hcur hx
      go_wp2_with (at_builtin; refine wpList_append_own _ rfl _ _ 22 rfl w.heap.size 5 i0 (.int .u8 0) 1 1 Tryd.underlying22 hi hz0 hz1 hz2 rfl (by decide) _ _ _ rfl (HO2.out.alloc _) ⟨w2.heap.size, 0, none⟩ 1 1 [.int .u8 (x : Int)] rfl rfl (cell_one_new _ _ _) (ints_oneCell .u8 [_]) (by unfold maxLen; omega) (by omega) (by have := HG.out.size; have := HG2.out.size; simp; omega) ?_)
      intro v' w3 hown' hgrow _
      have HO3 := Lib.hid hown'
      have HG3 : Hid (w2.grownBy w3 _) := Lib.hid ((World.grownBy_alloc w2 _ _).trans hgrow)
      clear hown' hgrow
      go_wp2
      go_roundw
      case rel =>
        have hle := HO2.out.lt
        refine ⟨k, L ++ [x], by omega, by go_num, ?_, by simp; omega, ?_, ?_, ?_⟩
        · rw [List.length_append, List.map_append]
          exact HO3.out
        · intro y hy
          rcases List.mem_append.1 hy with hy | hy
          · exact HLb.out y hy
          · have : y = x := by simpa using hy
            omega
        · exact (HC2.out.pastF HD0.out hgl HG3.out fun j hj => (HO2.out.lt j hj).1).more (by omega)
        · exact grown_twoF (HG.out.trans HG2.out) HG3.out fun j hj => (HO2.out.lt j hj).1
      case measure => simp [intOf]

/-- A frame was drawn. -/
def DrewF (w : World) (g : Nat) (A : Option Addr) (c : Nat) (D : List Nat) (K : Nat) (e : Ending) (w' : World) : Prop :=
  ∃ (k : Int) (B : Option Addr) (d : Nat) (L : List Nat), e = .returned (.agg #[.int .i64 k, .slice B L.length d]) ∧ w'.ownsRow w.heap.size 5 1 (.slice B L.length d) L.length (L.map B8) ∧ L.length ≤ 8001 ∧ (∀ x ∈ L, x < 2 ^ 8) ∧ Cur w' g A c D K ∧ w.grownBy w' (some g)
theorem zeros_byte (n : Nat) : ∀ x ∈ List.replicate n 0, x < 2 ^ 8 := fun x hx => by rw [(List.mem_replicate.1 hx).2]; decide

/-- While a frame is drawn: the cursor, the place of the result, the frame so far. -/
structure FI (w : World) (g : Nat) (A : Option Addr) (c : Nat) (D : List Nat) (K sf : Nat) (k : Int) (B : Option Addr) (d : Nat) (L : List Nat) (W : World) : Prop where
  cur : Cur W g A c D K
  res : Box W w.heap.size 49 #[.int .i64 0, .slice none 0 0]
  frm : Box W sf 49 #[.int .i64 k, .slice B L.length d]
  own : W.ownsRow w.heap.size 5 1 (.slice B L.length d) L.length (L.map B8)
  grow : w.grownBy W (some g)
  gl : g < w.heap.size
  sl : w.heap.size < sf
section
variable {w W W' : World} {g : Nat} {A : Option Addr} {c : Nat} {D : List Nat} {K K' sf : Nat} {k : Int} {B : Option Addr} {d : Nat} {L : List Nat}
theorem FI.past (h : FI w g A c D K sf k B d L W) (hc : Cur W' g A c D K') (hg : W.grownBy W' (some g)) : FI w g A c D K' sf k B d L W' :=
  ⟨hc, box_kept h.res hg (by have := h.gl; omega), box_kept h.frm hg (by have := h.gl; have := h.sl; omega), own_pastF h.own hg h.gl, h.grow.trans hg, h.gl, h.sl⟩
theorem FI.alloc (h : FI w g A c D K sf k B d L W) (o : Obj) : FI w g A c D K sf k B d L (W.alloc o) :=
  ⟨cur_alloc h.cur o, h.res.alloc o, h.frm.alloc o, h.own.alloc o, h.grow.trans (World.grownBy_alloc W o (some g)), h.gl, h.sl⟩
theorem FI.five (h : FI w g A c D K sf k B d L W) : W.cell? ⟨sf, 0, none⟩ = some (.int .i64 k) ∧ W.cell? ⟨sf, 1, none⟩ = some (.slice B L.length d) ∧ sf < W.heap.size ∧ W.frozen? ⟨sf, 0, none⟩ = false ∧ W.frozen? ⟨sf, 1, none⟩ = false :=
  ⟨h.frm.cell 0, h.frm.cell 1, h.frm.lt, h.frm.frozen 0, h.frm.frozen 1⟩
theorem FI.res5 (h : FI w g A c D K sf k B d L W) : W.cell? ⟨w.heap.size, 0, none⟩ = some (.int .i64 0) ∧ W.cell? ⟨w.heap.size, 1, none⟩ = some (.slice none 0 0) ∧ w.heap.size < W.heap.size ∧ W.frozen? ⟨w.heap.size, 0, none⟩ = false ∧ W.frozen? ⟨w.heap.size, 1, none⟩ = false :=
  ⟨h.res.cell 0, h.res.cell 1, h.res.lt, h.res.frozen 0, h.res.frozen 1⟩
theorem own_putF {base n : Nat} {v : Value} {xs : List Value} {q : Nat} {cs : Array Value} (ho : W.ownsRow base 5 1 v n xs) (hx : Box W q 49 cs) (i : Nat) (u : Value) : (W.setCell ⟨q, i, none⟩ u).ownsRow base 5 1 v n xs := own_put ho hx i u
theorem grow_put (h : w.grownBy W (some g)) {q : Nat} (hq : w.heap.size ≤ q) (i : Nat) (u : Value) : w.grownBy (W.setCell ⟨q, i, none⟩ u) (some g) :=
  grown_twoF h (grownBy_setCell W q i u) fun j hj => by have := Option.some.inj hj; omega
theorem cur_put (h : Cur W g A c D K) (hD0 : Lies w B8 A D) (hgl : g < w.heap.size) {q : Nat} (hq : w.heap.size ≤ q) (i : Nat) (u : Value) : Cur (W.setCell ⟨q, i, none⟩ u) g A c D K :=
  h.pastF hD0 hgl (grownBy_setCell W q i u) fun j hj => by have := Option.some.inj hj; omega
/-- The kind is set anew. -/
theorem FI.kind (h : FI w g A c D K sf k B d L W) (hD0 : Lies w B8 A D) (k' : Int) : FI w g A c D K sf k' B d L (W.setCell ⟨sf, 0, none⟩ (.int .i64 k')) :=
  ⟨cur_put h.cur hD0 h.gl (Nat.le_of_lt h.sl) 0 _, h.res.off (p := ⟨sf, 0, none⟩) (by have := h.sl; simp; omega) _, h.frm.put 0 _, own_putF h.own h.frm 0 _, grow_put h.grow (Nat.le_of_lt h.sl) 0 _, h.gl, h.sl⟩
/-- The body is set anew. -/
theorem FI.body (h : FI w g A c D K sf k B d L W) (hD0 : Lies w B8 A D) {B' : Option Addr} {d' : Nat} {L' : List Nat} (ho : W.ownsRow w.heap.size 5 1 (.slice B' L'.length d') L'.length (L'.map B8)) : FI w g A c D K sf k B' d' L' (W.setCell ⟨sf, 1, none⟩ (.slice B' L'.length d')) :=
  ⟨cur_put h.cur hD0 h.gl (Nat.le_of_lt h.sl) 1 _, h.res.off (p := ⟨sf, 1, none⟩) (by have := h.sl; simp; omega) _, h.frm.put 1 _, own_putF ho h.frm 1 _, grow_put h.grow (Nat.le_of_lt h.sl) 1 _, h.gl, h.sl⟩
/-- The frame is handed back. -/
theorem FI.done (h : FI w g A c D K sf k B d L W) (hD0 : Lies w B8 A D) (hl : L.length ≤ 8001) (hb : ∀ x ∈ L, x < 2 ^ 8) : DrewF w g A c D K (.returned (.agg #[.int .i64 k, .slice B L.length d])) ((W.setCell ⟨w.heap.size, 0, none⟩ (.int .i64 k)).setCell ⟨w.heap.size, 1, none⟩ (.slice B L.length d)) :=
  ⟨k, B, d, L, rfl, own_putF (own_putF h.own h.res 0 _) (h.res.put 0 _) 1 _, hl, hb, cur_put (cur_put h.cur hD0 h.gl (Nat.le_refl _) 0 _) hD0 h.gl (Nat.le_refl _) 1 _, grow_put (grow_put h.grow (Nat.le_refl _) 0 _) (Nat.le_refl _) 1 _⟩
end

set_option maxHeartbeats 1600000 in
theorem frameOf_any (g : Nat) (A : Option Addr) (c : Nat) (D : List Nat) (K : Nat) (w : World) (h : Cur w g A c D K) (hK : K ≤ 4611686018427300000) :
    Calls Tryd.prog 70 #[.pointer (some ⟨g, 0, none⟩)] w (DrewF w g A c D (K + 70)) := by
  have hgl := h.lt
  have HD0 := Lib.hid h.lies
  go_enter Tryd.func70, Tryd.ntmps70
  go_wp2_with fail
  have sx := Box.made w 49 #[.int .i64 0, .slice none 0 0]
  have hg0 := World.grownBy_alloc w (Obj.cells #[.int .i64 0, .slice none 0 0] 49) (some g)
  have hc0 := cur_alloc h (Obj.cells #[.int .i64 0, .slice none 0 0] 49)
  generalize w.alloc (Obj.cells #[.int .i64 0, .slice none 0 0] 49) = w0 at *
  refine (pick_any g A c D K 5 w0 hc0 (by omega) (by omega)).mono ?_
  rintro e w1 ⟨k1, rfl, _, _, hc1, hg1⟩
  have sx1 := box_kept sx hg1 (by omega)
  replace hg1 := hg0.trans hg1
  clear hg0 hc0 sx h
  go_wp2_with fail
  refine (bytes20_any g A c D (K + 1) w1 hc1 (by omega)).mono ?_
  rintro e w2 ⟨v2, L2, rfl, ho2, hl2, hb2, hc2, hg2⟩
  obtain ⟨B2, d2, rfl⟩ := own_slice ho2
  have hs1' := sx1.lt
  have sx2 := box_kept sx1 hg2 (by omega)
  have hI0 : FI w g A c D (K + 1 + 61) w2.heap.size k1 B2 d2 L2 (w2.alloc (Obj.cells #[.int .i64 (k1 : Int), .slice B2 L2.length d2] 49)) :=
    ⟨cur_alloc hc2 _, sx2.alloc _, Box.made _ _ _, (own_mono ho2 (Nat.le_of_lt hs1')).alloc _, (hg1.trans hg2).trans (World.grownBy_alloc w2 _ (some g)), hgl, sx2.lt⟩
  have HI0 := Lib.hid hI0
  have HB2 := Lib.hid hb2
  clear hg1 hg2 hc1 sx1 hc2 sx2 ho2 hI0 hb2
  go_wp2_with fail
  generalize w2.alloc (Obj.cells #[.int .i64 (k1 : Int), .slice B2 L2.length d2] 49) = w3 at *
  generalize w2.heap.size = sf at *
  refine (pick_any g A c D (K + 1 + 61) 14 w3 HI0.out.cur (by omega) (by omega)).mono ?_
  rintro e w4 ⟨r4, rfl, hr4, _, hc4, hg4⟩
  have HI4 := Lib.hid (HI0.out.past hc4 hg4)
  have hr14 : (r4 : Int) < 14 := hr4 (by omega)
  clear hc4 hg4 HI0 hr4
  by_cases h0 : r4 = 0
  · have t0 : ((r4 : Int) == 0) = true := by rw [beq_iff_eq]; omega
    clear h0
    go_wp2_with fail
    refine (raw_any g A c D (K + 1 + 61 + 1) w4 HI4.out.cur (by omega)).mono ?_
    rintro e w5 ⟨x5, rfl, hx5, hc5, hg5⟩
    have HI5 := Lib.hid (HI4.out.past hc5 hg5)
    clear hc5 hg5 HI4
    go_wp2_with fail
    have hbx := Box.made w5 3 #[.int .i64 x5, .int .i64 255, .int .i64 256]
    have HI6 := Lib.hid (HI5.out.alloc (Obj.cells #[.int .i64 x5, .int .i64 255, .int .i64 256] 3))
    have hg5l := HI5.out.cur.lt
    generalize w5.alloc (Obj.cells #[.int .i64 x5, .int .i64 255, .int .i64 256] 3) = w6 at *
    refine (pick_any g A c D (K + 1 + 61 + 1 + 2) 3 w6 HI6.out.cur (by omega) (by omega)).mono ?_
    rintro e w7 ⟨q7, rfl, hq7, _, hc7, hg7⟩
    have hq3 : (q7 : Int) < 3 := hq7 (by omega)
    have hb7 := box_kept hbx hg7 (by omega)
    obtain ⟨v7, _, hcell⟩ := table_at (L := [x5, 255, 256]) hb7 (i := q7) (by simp; omega)
    have HI7 := Lib.hid (HI6.out.past hc7 hg7)
    obtain ⟨f0, f1, f2, f3, f4⟩ := HI7.out.five
    have HI8 := Lib.hid (HI7.out.kind HD0.out v7)
    obtain ⟨e0, e1, e2, e3, e4⟩ := HI8.out.five
    obtain ⟨y0, y1, y2, y3, y4⟩ := HI8.out.res5
    have HE := Lib.hid (HI8.out.done HD0.out (by omega) HB2.out)
    have hsl := HI8.out.sl
    clear hc7 hg7 hb7 hbx hq7 HI5 HI6 hg5l
    go_wp2
    refine bodyPost_ret (v := .agg #[.int .i64 v7, .slice B2 L2.length d2]) (by simp [results, Tryd.results70, go_sem, y0, y1]) rfl ?_
    obtain ⟨k', B', d', L', q1, q2, q3, q4, q5, q6⟩ := HE.out
    exact ⟨k', B', d', L', q1, q2, q3, q4, q5.more (by omega), q6⟩
  · have t0 : ((r4 : Int) == 0) = false := by rw [beq_eq_false_iff_ne]; omega
    by_cases h1 : r4 = 1
    · have t1 : ((r4 : Int) == 1) = true := by rw [beq_iff_eq]; omega
      clear h0 h1
      go_wp2_with fail
      have hbx := Box.made w4 3 #[.int .i64 127, .int .i64 128, .int .i64 200, .int .i64 8000, .int .i64 8001]
      have HI6 := Lib.hid (HI4.out.alloc (Obj.cells #[.int .i64 127, .int .i64 128, .int .i64 200, .int .i64 8000, .int .i64 8001] 3))
      have hg5l := HI4.out.cur.lt
      generalize w4.alloc (Obj.cells #[.int .i64 127, .int .i64 128, .int .i64 200, .int .i64 8000, .int .i64 8001] 3) = w6 at *
      refine (pick_any g A c D (K + 1 + 61 + 1) 5 w6 HI6.out.cur (by omega) (by omega)).mono ?_
      rintro e w7 ⟨q7, rfl, hq7, _, hc7, hg7⟩
      have hq3 : (q7 : Int) < 5 := hq7 (by omega)
      have hb7 := box_kept hbx hg7 (by omega)
      obtain ⟨v7, hv7, hcell⟩ := table_at (L := [127, 128, 200, 8000, 8001]) hb7 (i := q7) (by simp; omega)
      have hvb : 0 ≤ v7 ∧ v7 ≤ 8001 := by
        simp at hv7
        omega
      obtain ⟨n7, rfl⟩ := Int.eq_ofNat_of_zero_le hvb.1
      have hmk := fun W => run_make_row' (P := Tryd.prog) 22 5 (.int .u8 0) 1 Tryd.underlying22 Tryd.infoU8 rfl .i64 .i64 n7 (by omega) (by omega) W
      have HI7 := Lib.hid (HI6.out.past hc7 hg7)
      have HI8 := Lib.hid (HI7.out.alloc (Obj.cells (madeCells #[.int .u8 0] n7) 5))
      have ho8 : (w7.alloc (Obj.cells (madeCells #[.int .u8 0] n7) 5)).ownsRow w.heap.size 5 1 (.slice (some ⟨w7.heap.size, 0, none⟩) (List.replicate n7 0).length n7) (List.replicate n7 0).length ((List.replicate n7 0).map B8) := by
        rw [List.length_replicate, List.map_replicate, ← toList_madeCells_one]
        exact World.ownsRow_lit w7 _ _ (HI7.out.grow.size) (by unfold maxLen; omega) (by simp [size_madeCells])
      have HI9 := Lib.hid (HI8.out.body HD0.out ho8)
      rw [List.length_replicate] at HI9
      obtain ⟨f0, f1, f2, f3, f4⟩ := HI8.out.five
      obtain ⟨e0, e1, e2, e3, e4⟩ := HI9.out.five
      obtain ⟨y0, y1, y2, y3, y4⟩ := HI9.out.res5
      have HE := Lib.hid (HI9.out.done HD0.out (by rw [List.length_replicate]; omega) (zeros_byte n7))
      rw [List.length_replicate] at e1
      rw [List.length_replicate] at HE
      have hsl := HI9.out.sl
      clear hc7 hg7 hb7 hbx hq7 HI6 hg5l hv7 ho8
      go_wp2
      refine bodyPost_ret (v := .agg #[.int .i64 k1, .slice (some ⟨w7.heap.size, 0, none⟩) n7 n7]) (by simp [results, Tryd.results70, go_sem, y0, y1]) rfl ?_
      obtain ⟨k', B', d', L', q1, q2, q3, q4, q5, q6⟩ := HE.out
      exact ⟨k', B', d', L', q1, q2, q3, q4, q5.more (by omega), q6⟩
    · have t1 : ((r4 : Int) == 1) = false := by rw [beq_eq_false_iff_ne]; omega
      clear h0 h1
      obtain ⟨e0, e1, e2, e3, e4⟩ := HI4.out.five
      obtain ⟨y0, y1, y2, y3, y4⟩ := HI4.out.res5
      have HE := Lib.hid (HI4.out.done HD0.out (by omega) HB2.out)
      have hsl := HI4.out.sl
      go_wp2
      refine bodyPost_ret (v := .agg #[.int .i64 k1, .slice B2 L2.length d2]) (by simp [results, Tryd.results70, go_sem, y0, y1]) rfl ?_
      obtain ⟨k', B', d', L', q1, q2, q3, q4, q5, q6⟩ := HE.out
      exact ⟨k', B', d', L', q1, q2, q3, q4, q5.more (by omega), q6⟩

set_option maxHeartbeats 400000 in
theorem drawFrameOf_any (A : Option Addr) (c : Nat) (D : List Nat) (w : World) (hD : Lies w B8 A D) (hw : ∀ x ∈ D, x < 2 ^ 8) (hl : D.length ≤ 1048576) :
    Calls Tryd.prog 27 #[.slice A D.length c] w fun e w' => ∃ (k : Int) (B : Option Addr) (d : Nat) (L : List Nat), e = .returned (.agg #[.int .i64 k, .slice B L.length d]) ∧ w'.ownsRow w.heap.size 5 1 (.slice B L.length d) L.length (L.map B8) ∧ L.length ≤ 8001 ∧ (∀ x ∈ L, x < 2 ^ 8) ∧ Below w.heap.size w w' := by
  have HD := Lib.hid hD
  have HW := Lib.hid hw
  clear hD hw
  go_enter Tryd.func27, Tryd.ntmps27
  go_wp2_with fail
  have sx := Box.made w 49 #[.int .i64 0, .slice none 0 0]
  have hb0 : Below w.heap.size w (w.alloc (Obj.cells #[.int .i64 0, .slice none 0 0] 49)) := (Below.refl _ _).alloc (Nat.le_refl _) _
  generalize w.alloc (Obj.cells #[.int .i64 0, .slice none 0 0] 49) = w0 at *
  refine (open_any A c D w0 (HD.out.below hb0) HW.out hl).mono ?_
  rintro e w1 ⟨rfl, hc1, hb1⟩
  have sx1 := sx.below hb1 sx.lt
  have hlt0 := sx.lt
  have hlt1 := sx1.lt
  have hb01 := below_then hb0 hb1
  clear hb0 hb1 sx
  go_wp2_with fail
  generalize w0.heap.size = s0 at *
  refine (frameOf_any s0 A c D 0 w1 hc1 (by omega)).mono ?_
  rintro e w2 ⟨k, B, d, L, rfl, ho2, hl2, hbb2, hc2, hg2⟩
  have hs1 := hc1.lt
  have sx2 := box_kept sx1 hg2 (by omega)
  have hb2 := grown_below2 hb01 hg2 (by omega)
  have y0 := sx2.cell 0
  have y1 := sx2.cell 1
  have y2 := sx2.lt
  have y3 := sx2.frozen 0
  have y4 := sx2.frozen 1
  simp only [List.getElem?_toArray, List.getElem?_cons_zero, List.getElem?_cons_succ] at y0 y1
  have HE : Hid (((w2.setCell ⟨w.heap.size, 0, none⟩ (.int .i64 k)).setCell ⟨w.heap.size, 1, none⟩ (.slice B L.length d)).ownsRow w.heap.size 5 1 (.slice B L.length d) L.length (L.map B8)) := Lib.hid (own_put (own_put (own_mono ho2 (Nat.le_of_lt hlt1)) sx2 0 _) (sx2.put 0 _) 1 _)
  have HB : Hid (Below w.heap.size w ((w2.setCell ⟨w.heap.size, 0, none⟩ (.int .i64 k)).setCell ⟨w.heap.size, 1, none⟩ (.slice B L.length d))) := Lib.hid ((hb2.setCell (p := ⟨w.heap.size, 0, none⟩) (Nat.le_refl _) _).setCell (p := ⟨w.heap.size, 1, none⟩) (Nat.le_refl _) _)
  have HBB := Lib.hid hbb2
  clear hc1 hc2 hg2 sx1 sx2 ho2 hb2 hb01 hbb2
  go_wp2
  refine bodyPost_ret (v := .agg #[.int .i64 k, .slice B L.length d]) (by simp [results, Tryd.results27, go_sem, y0, y1]) rfl ?_
  exact ⟨k, B, d, L, rfl, HE.out, hl2, HBB.out, HB.out⟩

end Go.Proofs.YtlbnngolcoefdaaDoor
