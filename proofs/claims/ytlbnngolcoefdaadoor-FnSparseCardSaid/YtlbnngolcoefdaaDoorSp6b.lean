/- The specification's SparseOf, whole. -/
import Derived.Test.YtlbnngolcoefdaaDoorSp6
import Derived.Test.YtlbnngolcoefdaaDoorSp5
namespace Go.Proofs.YtlbnngolcoefdaaDoor
open Go.RowKit
set_option maxRecDepth 100000

theorem last_pred {B : List Int} {k : Nat} {y : Int} (hk : 0 < k) (hy : B[k - 1]? = some y) : (B.take k).getLastD 0 = y := by
  obtain ⟨m, rfl⟩ : ∃ m, k = m + 1 := ⟨k - 1, by omega⟩
  exact last_take B m y 0 hy

theorem qt_mono {u : Int} {B : List Int} {n : Nat} (hs : srt u 0 B = true) (hl : B.length = n) (wd i j : Nat) (hij : i ≤ j) (hj : j < n) : qt B wd i ≤ qt B wd j := by
  have hi : B[i]? = some (B[i]'(by omega)) := List.getElem?_eq_getElem _
  have hj' : B[j]? = some (B[j]'(by omega)) := List.getElem?_eq_getElem _
  have h := srt_mono hs i j _ _ hij hi hj'
  rw [qt_at hi, qt_at hj']
  have hp : (0 : Int) < 2 ^ wd := Int.pow_pos (by omega)
  have := Int.ediv_le_ediv hp h
  omega

theorem qt_le {u : Nat} {B : List Int} {n : Nat} (hs : srt u 0 B = true) (hl : B.length = n) (wd i : Nat) (hi : i < n) : qt B wd i ≤ u / 2 ^ wd := by
  have hi' : B[i]? = some (B[i]'(by omega)) := List.getElem?_eq_getElem _
  obtain ⟨h0, h1⟩ := srt_get hs i _ hi'
  obtain ⟨y, hy⟩ := Int.eq_ofNat_of_zero_le h0
  rw [qt_at hi', hy, div_int, Int.toNat_natCast]
  exact Nat.div_le_div_right (by omega)

theorem rems_snoc {B : List Int} {k y : Nat} (wd : Nat) (hy : B[k]? = some (y : Int)) : rems wd (B.take (k + 1)) = rems wd (B.take k) ++ [((y % 2 ^ wd : Nat) : Int)] := by
  unfold rems
  rw [List.take_add_one, hy, Option.toList_some, List.map_append, List.map_cons, List.map_nil, mod_int]

theorem rems_ok (wd : Nat) (B : List Int) : poOk (rems wd B) wd = fitsB B.length wd := by
  unfold poOk
  rw [rems_len]
  have h : ((rems wd B).all fun n => decide (0 ≤ n ∧ n < 2 ^ (wd : Int).toNat)) = true := by
    rw [List.all_eq_true]
    intro x hx
    unfold rems at hx
    obtain ⟨y, _, rfl⟩ := List.mem_map.1 hx
    have hp : (0 : Int) < 2 ^ wd := Int.pow_pos (by omega)
    rw [decide_eq_true_iff, Int.toNat_natCast]
    exact ⟨Int.emod_nonneg _ (by omega), Int.emod_lt_of_pos _ hp⟩
  rw [h, Bool.and_true]

theorem TwoRows.alloc {w W : World} {a b : Value} {Ws Vs : List Nat} (h : TwoRows w W a Ws b Vs) (o : Obj) : TwoRows w (W.alloc o) a Ws b Vs := by
  obtain ⟨mid, h1, h2, ho1, hk, ho2, hb⟩ := h
  exact ⟨mid, h1, by simp; omega, ho1.alloc _, hk, ho2.alloc _, hb.alloc hb.size _⟩

theorem LhInv.start {w wr : World} (hx : Box wr w.heap.size 33 SPZ) (hb : Below w.heap.size w wr) :
    LhInv w [] [] (.slice (some ⟨wr.heap.size, 0, none⟩) 0 0) (.slice (some ⟨wr.heap.size + 1, 0, none⟩) 0 0) ((wr.alloc (.cells #[] 3)).alloc (.cells #[] 3)) := by
  have hlt := hx.lt
  have h1 := World.ownsRow_made (base := w.heap.size + 1) wr (e := 3) (size := 1) #[] 0 (by omega) (by unfold maxLen; omega) rfl
  have h2 := World.ownsRow_made (base := w.heap.size + 1) (wr.alloc (.cells #[] 3)) (e := 3) (size := 1) #[] 0 (by simp; omega) (by unfold maxLen; omega) rfl
  rw [World.size_alloc] at h2
  refine ⟨(hb.alloc (by omega) _).alloc (by simp; omega) _, (hx.alloc _).alloc _, h1.alloc _, h2, fun k hk hk2 => ?_⟩
  have e1 : wr.heap.size = k := Option.some.inj hk
  have e2 : wr.heap.size + 1 = k := Option.some.inj hk2
  omega

theorem LhInv.stage {w : World} {D E : List Int} {s t : Value} {W : World} (h : LhInv w D E s t W) : Stage w W [.row 3 s D.length (D.map I), .row 3 t E.length (E.map I), .box w.heap.size 33 SPZ] := by
  refine ⟨h.below, fun i a hi => ?_, fun i j a b hij hi hj k ha hb => ?_⟩
  · match i, hi with
    | 0, hi => cases hi; exact own_mono h.lo (Nat.le_succ _)
    | 1, hi => cases hi; exact own_mono h.hi (Nat.le_succ _)
    | 2, hi => cases hi; exact ⟨Nat.le_refl _, h.res⟩
    | i + 3, hi => simp at hi
  · match i, j, hi, hj with
    | 0, 0, _, _ => exact hij rfl
    | 0, 1, hi, hj => cases hi; cases hj; exact h.apart k ha hb
    | 0, 2, hi, hj => cases hi; cases hj; have := (h.lo.lt k ha).1; have e : w.heap.size = k := hb; omega
    | 1, 0, hi, hj => cases hi; cases hj; exact h.apart k hb ha
    | 1, 1, _, _ => exact hij rfl
    | 1, 2, hi, hj => cases hi; cases hj; have := (h.hi.lt k ha).1; have e : w.heap.size = k := hb; omega
    | 2, 0, hi, hj => cases hi; cases hj; have := (h.lo.lt k hb).1; have e : w.heap.size = k := ha; omega
    | 2, 1, hi, hj => cases hi; cases hj; have := (h.hi.lt k hb).1; have e : w.heap.size = k := ha; omega
    | 2, 2, _, _ => exact hij rfl
    | i + 3, _, hi, _ => simp at hi
    | _, j + 3, _, hj => simp at hj

set_option maxHeartbeats 3200000 in
theorem specSparse_in (A : Option Addr) (n c : Nat) (B : List Int) (u : Nat) (w : World) (hB : Lies w I A B) (Hn : Hid (B.length = n)) (hu : u ≤ 1000000) (hn : n ≤ 5000) :
    Calls Tryd.prog 12 #[.slice A n c, .int .i64 u] w (SparseRes B u w) := by
  have d0 : decide ((u : Int) < 0) = false := by simp
  have d1 : decide ((1000000 : Int) < (u : Int)) = false := by simp; omega
  have d2 : decide ((5000 : Int) < (n : Int)) = false := by simp; omega
  go_enter Tryd.func12, Tryd.ntmps12
  go_wp2
  clear d0 d1 d2
  go_loopw [6] (fun i wr => ∃ k : Nat, k ≤ n ∧ i = .int .i64 k ∧ Hid (srt u 0 (B.take k) = true) ∧ Box wr w.heap.size 33 SPZ ∧ Below w.heap.size w wr) (fun i _ => n - (intOf i).toNat)
  case atStart => exact ⟨0, Nat.zero_le _, rfl, Lib.hid rfl, Box.made _ _ _, (Below.refl _ _).alloc (Nat.le_refl _) _⟩
  case round =>
    obtain ⟨k, hk, rfl, HS, hbx, hbw⟩ := hrel
    obtain ⟨⟨p0, p1, p2, p3, p4, p5, p6, p7⟩, ⟨z0, z1, z2, z3, z4, z5, z6, z7⟩, hlt0⟩ := box_eight hbx
    have HX := Lib.hid hbx
    have HW := Lib.hid hbw
    clear hbx
    by_cases hlt : k < n
    · obtain ⟨b, o, x, rfl, hbl, hx, hc⟩ := hB.at_ (i := k) (by rw [Hn.out]; exact hlt)
      have hcx : wr.cell? ⟨b, o + k, none⟩ = some (.int .i64 x) := (hbw.cell (p := ⟨b, o + k, none⟩) hbl).trans hc
      have HT := Lib.hid (srt_take u B k x 0 hx)
      have HN : Hid (¬ ((B.take k).getLastD 0 ≤ x ∧ x < u) → spOk B u = false) := Lib.hid fun h => by unfold spOk; rw [srt_not hx h, Bool.and_false]
      have hg0 : ∀ q, Below w.heap.size w (((((((((wr.drewN q).setCell ⟨w.heap.size, 0, none⟩ (.int .i64 0)).setCell ⟨w.heap.size, 1, none⟩ (.int .i64 0)).setCell ⟨w.heap.size, 2, none⟩ (.int .i64 0)).setCell ⟨w.heap.size, 3, none⟩ (.int .i64 0)).setCell ⟨w.heap.size, 4, none⟩ (.int .i64 0)).setCell ⟨w.heap.size, 5, none⟩ (.slice none 0 0)).setCell ⟨w.heap.size, 6, none⟩ (.int .i64 0)).setCell ⟨w.heap.size, 7, none⟩ (.slice none 0 0)) := fun q =>
        ((((((((below_dN hbw q).setCell (Nat.le_refl _) _).setCell (Nat.le_refl _) _).setCell (Nat.le_refl _) _).setCell (Nat.le_refl _) _).setCell (Nat.le_refl _) _).setCell (Nat.le_refl _) _).setCell (Nat.le_refl _) _).setCell (Nat.le_refl _) _
      have HG := Lib.hid hg0
      clear hg0
      have key : Hid (∀ W', ((x < (B.take k).getLastD 0) ∨ (u : Int) ≤ x) → Below w.heap.size w W' → SparseRes B u w (.returned (.tuple #[SP 0 0 0 0 0 (.slice none 0 0) 0 (.slice none 0 0), .bool false])) W') := Lib.hid fun W' h hb => sparse_no (HN.out (by omega)) hb
      clear HN
      by_cases hk0 : k = 0
      · have HL : Hid ((B.take k).getLastD 0 = 0) := Lib.hid (by rw [hk0]; rfl)
        have hki : decide ((0 : Int) < (k : Int)) = false := by simp; omega
        have hkn : decide (0 < k) = false := by simp; omega
        clear hx hc hbw hk0
        by_cases c1 : x < 0
        · have t1 : decide (x < 0) = true := by simpa using c1
          go_wp2
          go_quiet (fail)
          go_wp2
          refine bodyPost_ret (v := .tuple #[SP 0 0 0 0 0 (.slice none 0 0) 0 (.slice none 0 0), .bool false]) (by simp [results, Tryd.results12, go_sem, p0, p1, p2, p3, p4, p5, p6, p7]) rfl ?_
          exact key.out _ (.inl (by rw [HL.out]; exact c1)) (HG.out _)
        · have t1 : decide (x < 0) = false := by simpa using c1
          by_cases c2 : (u : Int) ≤ x
          · have t2 : decide ((u : Int) ≤ x) = true := by simpa using c2
            go_wp2
            go_quiet (fail)
            go_wp2
            refine bodyPost_ret (v := .tuple #[SP 0 0 0 0 0 (.slice none 0 0) 0 (.slice none 0 0), .bool false]) (by simp [results, Tryd.results12, go_sem, p0, p1, p2, p3, p4, p5, p6, p7]) rfl ?_
            exact key.out _ (.inr c2) (HG.out _)
          · have t2 : decide ((u : Int) ≤ x) = false := by simpa using c2
            go_wp2
            go_quiet (fail)
            go_wp2
            go_roundw
            case rel => exact ⟨k + 1, by omega, by go_num, Lib.hid (by rw [HT.out, HS.out, HL.out, Bool.true_and]; exact decide_eq_true (by omega)), HX.out, below_dN HW.out _⟩
            case measure => simp [intOf]; omega
      · obtain ⟨y, hy⟩ : ∃ y, B[k - 1]? = some y := ⟨_, List.getElem?_eq_getElem (by have := Hn.out; omega)⟩
        obtain ⟨b', o', hA, hbl', hc'⟩ := hB (k - 1) y hy
        cases hA
        have hcy : wr.cell? ⟨b, o + (k - 1), none⟩ = some (.int .i64 y) := (hbw.cell (p := ⟨b, o + (k - 1), none⟩) hbl).trans hc'
        have hki : decide ((0 : Int) < (k : Int)) = true := by simp; omega
        have hkn : decide (0 < k) = true := by simp; omega
        have HL : Hid ((B.take k).getLastD 0 = y) := Lib.hid (last_pred (by omega) hy)
        have hy0 : 0 ≤ y := (srt_get HS.out (k - 1) y (by rw [List.getElem?_take, if_pos (by omega)]; exact hy)).1
        have hk1 : ((k - 1 : Nat) : Int) = (k : Int) - 1 := by omega
        have hk2 : ((k : Int) - 1).toNat = k - 1 := by omega
        have hk3 : k - 1 < n := by omega
        clear hx hc hbw hy hc'
        by_cases c1 : x < 0
        · have t1 : decide (x < 0) = true := by simpa using c1
          go_wp2
          go_quiet (fail)
          go_wp2
          refine bodyPost_ret (v := .tuple #[SP 0 0 0 0 0 (.slice none 0 0) 0 (.slice none 0 0), .bool false]) (by simp [results, Tryd.results12, go_sem, p0, p1, p2, p3, p4, p5, p6, p7]) rfl ?_
          exact key.out _ (.inl (by rw [HL.out]; omega)) (HG.out _)
        · have t1 : decide (x < 0) = false := by simpa using c1
          by_cases c2 : (u : Int) ≤ x
          · have t2 : decide ((u : Int) ≤ x) = true := by simpa using c2
            go_wp2
            go_quiet (fail)
            go_wp2
            refine bodyPost_ret (v := .tuple #[SP 0 0 0 0 0 (.slice none 0 0) 0 (.slice none 0 0), .bool false]) (by simp [results, Tryd.results12, go_sem, p0, p1, p2, p3, p4, p5, p6, p7]) rfl ?_
            exact key.out _ (.inr c2) (HG.out _)
          · have t2 : decide ((u : Int) ≤ x) = false := by simpa using c2
            by_cases c3 : x < y
            · have t3 : decide (x < y) = true := by simpa using c3
              go_wp2
              go_quiet (fail)
              go_wp2
              refine bodyPost_ret (v := .tuple #[SP 0 0 0 0 0 (.slice none 0 0) 0 (.slice none 0 0), .bool false]) (by simp [results, Tryd.results12, go_sem, p0, p1, p2, p3, p4, p5, p6, p7]) rfl ?_
              exact key.out _ (.inl (by rw [HL.out]; exact c3)) (HG.out _)
            · have t3 : decide (x < y) = false := by simpa using c3
              go_wp2
              go_quiet (fail)
              go_wp2
              go_roundw
              case rel => exact ⟨k + 1, by omega, by go_num, Lib.hid (by rw [HT.out, HS.out, HL.out, Bool.true_and]; exact decide_eq_true (by omega)), HX.out, below_dN HW.out _⟩
              case measure => simp [intOf]; omega
    · obtain rfl : n = k := by omega
      have hs : srt u 0 B = true := by have := HS.out; rwa [List.take_of_length_le (by rw [Hn.out]; exact Nat.le_refl _)] at this
      have HSR := Lib.hid hs
      clear HS hs
      have hwd := lowV_le n u hu
      have CL := Lib.hid fun W : World => specLow_any n u W hu (by omega)
      have HZ : Hid (hiV n u = n + u / 2 ^ lowV n u + 1) := Lib.hid rfl
      obtain ⟨wd, hwe⟩ : ∃ wd, lowV n u = wd := ⟨_, rfl⟩
      have HWE := Lib.hid hwe
      rw [hwe] at CL HZ hwd
      clear hwe
      have CP := Lib.hid fun W : World => pow_any wd W (by omega)
      obtain ⟨sz, hsz⟩ : ∃ sz, 2 ^ wd = sz := ⟨_, rfl⟩
      have hszp : 0 < sz := by rw [← hsz]; exact Nat.two_pow_pos _
      have hszl : sz ≤ 1048576 := by rw [← hsz]; exact Nat.pow_le_pow_right (n := 2) (j := 20) (by omega) hwd
      have HSZ := Lib.hid hsz
      rw [hsz] at CP HZ
      clear hsz
      obtain ⟨uu, huu⟩ : ∃ uu, u / sz = uu := ⟨_, rfl⟩
      have huul : uu ≤ u := by rw [← huu]; exact Nat.div_le_self _ _
      have hqu : (u : Int).tdiv (sz : Int) = (uu : Int) := by rw [quo_nat, huu]
      have hqu2 : (u : Int) / (sz : Int) = (uu : Int) := by rw [← huu]; simp
      have HU : Hid (u / 2 ^ wd = uu) := Lib.hid (by rw [HSZ.out, huu])
      rw [huu] at HZ
      have hsz0 : ((sz : Int) == 0) = false := by rw [beq_eq_false_iff_ne]; omega
      clear huu p0 p1 p2 p3 p4 p5 p6 p7 z0 z1 z2 z3 z4 z5 z6 z7 hlt hlt0 hbw
      go_wp2_with (first | (go_at_call 51; refine (CL.out _).mono ?_; rintro e w' ⟨rfl, rfl⟩) | (go_at_call 50; refine (CP.out _).mono ?_; rintro e w' ⟨rfl, rfl⟩))
      clear hqu hqu2
      obtain ⟨i0, hi, hz0, hz1, hz2⟩ := info_parts Tryd.infoInt
      go_loopw [8, 9, 10, 11] (fun s t p q wr => ∃ k j : Nat, k ≤ n ∧ j ≤ uu + 1 ∧ p = .int .i64 k ∧ q = .int .i64 j ∧ Hid ((∀ i, i < k → qt B wd i < j) ∧ (∀ i, k ≤ i → i < n → j ≤ qt B wd i)) ∧ LhInv w (rems wd (B.take k)) (hb B wd k (k + j)) s t wr) (fun _ _ _ q _ => uu + 1 - (intOf q).toNat)
      case atStart =>
        refine ⟨0, 0, Nat.zero_le _, Nat.zero_le _, rfl, rfl, Lib.hid ⟨fun i h => by omega, fun i _ _ => Nat.zero_le _⟩, ?_⟩
        exact LhInv.start HX.out HW.out
      case round =>
        obtain ⟨k, j, hk, hj, rfl, rfl, HQ, inv⟩ := hrel
        have hEl := hb_len B wd k (k + j)
        have hDl : (rems wd (B.take k)).length = k := by rw [rems_len, List.length_take, Hn.out]; omega
        have hqu : (u : Int).tdiv (sz : Int) = (uu : Int) := by rw [quo_nat, ← HSZ.out, HU.out]
        have hqu2 : (u : Int) / (sz : Int) = (uu : Int) := by rw [← HU.out, HSZ.out]; simp
        by_cases hgo : j ≤ uu ∧ k + j ≤ 5000
        · have HI0 := Lib.hid inv
          obtain ⟨A1, c1, rfl⟩ := own_slice inv.lo
          obtain ⟨A2, c2, rfl⟩ := own_slice inv.hi
          have t1 : decide ((j : Int) ≤ (uu : Int)) = true := by simp; omega
          have t1n : decide (j ≤ uu) = true := by simp; omega
          rw [hEl, hDl]
          have t2 : decide (((k + j : Nat) : Int) ≤ 5000) = true := by simp; omega
          have t2i : decide ((k : Int) + (j : Int) ≤ 5000) = true := by simp; omega
          clear inv
          go_wp2
          clear t1 t1n t2 t2i hqu hqu2
          go_loopw [8, 9, 10] (fun s t p wr => ∃ m : Nat, k ≤ m ∧ m ≤ n ∧ p = .int .i64 m ∧ Hid ((∀ i, i < m → qt B wd i ≤ j) ∧ (∀ i, m ≤ i → i < n → j ≤ qt B wd i)) ∧ LhInv w (rems wd (B.take m)) (hb B wd m (m + j)) s t wr) (fun _ _ p _ => n - (intOf p).toNat)
          case atStart => 
            have h0 := HI0.out
            rw [hEl, hDl] at h0
            exact ⟨k, Nat.le_refl _, hk, rfl, Lib.hid ⟨fun i h => Nat.le_of_lt (HQ.out.1 i h), HQ.out.2⟩, h0⟩
          case round =>
            obtain ⟨m, hkm, hmn, rfl, HQ2, inv⟩ := hrel
            have hEl := hb_len B wd m (m + j)
            have hDl : (rems wd (B.take m)).length = m := by rw [rems_len, List.length_take, Hn.out]; omega
            have HE2 := Lib.hid fun h => hb_nil B wd m j h
            by_cases hlt : m < n
            · obtain ⟨b, o, x, rfl, hbl, hx, hc⟩ := hB.at_ (i := m) (by rw [Hn.out]; exact hlt)
              have hcx : wr.cell? ⟨b, o + m, none⟩ = some (.int .i64 x) := (inv.below.cell (p := ⟨b, o + m, none⟩) hbl).trans hc
              have hxx := srt_get HSR.out m x hx
              obtain ⟨y, rfl⟩ := Int.eq_ofNat_of_zero_le hxx.1
              have HR := Lib.hid (rems_snoc wd hx)
              have hq0 : qt B wd m = y / sz := by rw [qt_at hx, div_int, Int.toNat_natCast, HSZ.out]
              rw [HSZ.out] at HR
              have hqy : (y : Int).tdiv (sz : Int) = ((y / sz : Nat) : Int) := quo_nat y sz
              have hqy2 : (y : Int) / (sz : Int) = ((y / sz : Nat) : Int) := by simp
              have hry : (y : Int).tmod (sz : Int) = ((y % sz : Nat) : Int) := by rw [Int.tmod_eq_emod_of_nonneg (by omega)]; simp
              have hry2 : (y : Int) % (sz : Int) = ((y % sz : Nat) : Int) := by simp
              have hql : y / sz ≤ y := Nat.div_le_self _ _
              have hrl : y % sz ≤ y := Nat.mod_le _ _
              have HO1 := Lib.hid fun h => hb_one B wd m j h
              generalize y / sz = q' at *
              generalize y % sz = r at *
              by_cases hq : q' = j
              · subst hq
                have HE3 := Lib.hid (HO1.out hq0)
                have HQ3 : Hid ((∀ i, i < m + 1 → qt B wd i ≤ q') ∧ (∀ i, m + 1 ≤ i → i < n → q' ≤ qt B wd i)) := Lib.hid ⟨fun i h => by
                  by_cases e : i = m
                  · rw [e, hq0]; exact Nat.le_refl _
                  · exact HQ2.out.1 i (by omega), fun i h1 h2 => HQ2.out.2 i (by omega) h2⟩
                clear HO1 HE2 HQ2 hq0 hx hc hB
                generalize rems wd (B.take m) = D at *
                generalize hb B wd m (m + q') = E at *
                have hDle : D.length ≤ 1000000000 := by omega
                have hEle : E.length ≤ 1000000000 := by omega
                clear hDl hEl
                have HI := Lib.hid inv
                obtain ⟨A3, c3, rfl⟩ := own_slice inv.lo
                obtain ⟨A4, c4, rfl⟩ := own_slice inv.hi
                clear inv
                go_wp2_with (at_builtin; refine wpList_append_own_at _ rfl _ _ 24 rfl (w.heap.size + 1) 3 i0 (.int .i64 0) 1 8 Tryd.underlying24 hi hz0 hz1 hz2 rfl (by decide) _ _ _ rfl (HI.out.lo.alloc _) ⟨wr.heap.size, 0, none⟩ 1 1 [.int .i64 (r : Int)] rfl rfl (cell_one_new _ _ _) (ints_oneCell .i64 [_]) (by unfold maxLen; omega) (by omega) (by have := HI.out.res.lt; have := HI.out.below.size; simp; omega) ?_)
                intro v1 w1 hown' hgrow _ hat
                have HO := Lib.hid (HI.out.push hown' hgrow hat)
                clear hown' hgrow hat
                clear HI
                have HI := HO
                go_wp2_with (at_builtin; refine wpList_append_own_at _ rfl _ _ 24 rfl (w.heap.size + 1) 3 i0 (.int .i64 0) 1 8 Tryd.underlying24 hi hz0 hz1 hz2 rfl (by decide) _ _ _ rfl (HI.out.hi.alloc _) ⟨w1.heap.size, 0, none⟩ 1 1 [.int .i64 1] rfl rfl (cell_one_new _ _ _) (ints_oneCell .i64 [_]) (by unfold maxLen; omega) (by omega) (by have := HI.out.res.lt; have := HI.out.below.size; simp; omega) ?_)
                intro v2 w2 hown' hgrow _ hat
                have HP := Lib.hid (HI.out.swap.push hown' hgrow hat).swap
                clear hown' hgrow hat
                go_wp2
                go_roundw
                case rel => exact ⟨m + 1, by omega, by omega, by go_num, Lib.hid HQ3.out, by rw [HR.out, show m + 1 + q' = m + q' + 1 by omega, HE3.out]; exact HP.out⟩
                case measure => simp [intOf]; omega
              · have t3 : ((q' : Int) == (j : Int)) = false := by rw [beq_eq_false_iff_ne]; omega
                have t3n : ¬ ((q' : Int) = (j : Int)) := by omega
                have HQ3 : Hid ((∀ i, i < m → qt B wd i < j + 1) ∧ (∀ i, m ≤ i → i < n → j + 1 ≤ qt B wd i)) := Lib.hid ⟨fun i h => by
                  have := HQ2.out.1 i h
                  omega, fun i h1 h2 => by
                  have h3 := qt_mono HSR.out Hn.out wd m i h1 h2
                  have h4 := HQ2.out.2 m (Nat.le_refl _) hlt
                  omega⟩
                replace HE2 := Lib.hid (HE2.out HQ2.out.1)
                clear HO1 HQ2 hq0 hx hc hB HR
                obtain ⟨D, hD⟩ : ∃ D, rems wd (B.take m) = D := ⟨_, rfl⟩
                have HD2 := Lib.hid hD
                rw [hD] at inv hDl
                clear hD
                generalize hb B wd m (m + j) = E at *
                have hDle : D.length ≤ 1000000000 := by omega
                have hEle : E.length ≤ 1000000000 := by omega
                clear hDl hEl
                have HI := Lib.hid inv
                obtain ⟨A3, c3, rfl⟩ := own_slice inv.lo
                obtain ⟨A4, c4, rfl⟩ := own_slice inv.hi
                clear inv
                go_wp2_with (at_builtin; refine wpList_append_own_at _ rfl _ _ 24 rfl (w.heap.size + 1) 3 i0 (.int .i64 0) 1 8 Tryd.underlying24 hi hz0 hz1 hz2 rfl (by decide) _ _ _ rfl (HI.out.hi.alloc _) ⟨wr.heap.size, 0, none⟩ 1 1 [.int .i64 0] rfl rfl (cell_one_new _ _ _) (ints_oneCell .i64 [_]) (by unfold maxLen; omega) (by omega) (by have := HI.out.res.lt; have := HI.out.below.size; simp; omega) ?_)
                intro v2 w2 hown' hgrow _ hat
                have HP := Lib.hid (HI.out.swap.push hown' hgrow hat).swap
                clear hown' hgrow hat
                go_wp2
                go_roundw
                case rel => exact ⟨m, j + 1, hmn, by omega, rfl, by go_num, Lib.hid HQ3.out, by rw [← Nat.add_assoc, HE2.out, HD2.out]; exact HP.out⟩
                case measure => simp [intOf]; omega
            · obtain rfl : m = n := by omega
              have HQ3 : Hid ((∀ i, i < m → qt B wd i < j + 1) ∧ (∀ i, m ≤ i → i < m → j + 1 ≤ qt B wd i)) := Lib.hid ⟨fun i h => by
                have := HQ2.out.1 i h
                omega, fun i h1 h2 => by omega⟩
              replace HE2 := Lib.hid (HE2.out HQ2.out.1)
              clear HQ2
              obtain ⟨D, hD⟩ : ∃ D, rems wd (B.take m) = D := ⟨_, rfl⟩
              have HD2 := Lib.hid hD
              rw [hD] at inv hDl
              clear hD
              generalize hb B wd m (m + j) = E at *
              have hDle : D.length ≤ 1000000000 := by omega
              have hEle : E.length ≤ 1000000000 := by omega
              clear hDl hEl
              have HI := Lib.hid inv
              obtain ⟨A3, c3, rfl⟩ := own_slice inv.lo
              obtain ⟨A4, c4, rfl⟩ := own_slice inv.hi
              clear inv
              go_wp2_with (at_builtin; refine wpList_append_own_at _ rfl _ _ 24 rfl (w.heap.size + 1) 3 i0 (.int .i64 0) 1 8 Tryd.underlying24 hi hz0 hz1 hz2 rfl (by decide) _ _ _ rfl (HI.out.hi.alloc _) ⟨wr.heap.size, 0, none⟩ 1 1 [.int .i64 0] rfl rfl (cell_one_new _ _ _) (ints_oneCell .i64 [_]) (by unfold maxLen; omega) (by omega) (by have := HI.out.res.lt; have := HI.out.below.size; simp; omega) ?_)
              intro v2 w2 hown' hgrow _ hat
              have HP := Lib.hid (HI.out.swap.push hown' hgrow hat).swap
              clear hown' hgrow hat
              go_wp2
              go_roundw
              case rel => exact ⟨m, j + 1, hmn, by omega, rfl, by go_num, Lib.hid HQ3.out, by rw [← Nat.add_assoc, HE2.out, HD2.out]; exact HP.out⟩
              case measure => simp [intOf]; omega
        · have HEx : Hid ((rems wd (B.take k) = rems wd B ∧ hb B wd k (k + j) = hb B wd n (hiV n u)) ∨ (5000 < (hb B wd k (k + j)).length ∧ 5000 < hiV n u)) := Lib.hid (by
            by_cases h1 : j ≤ uu
            · right
              rw [hb_len, HZ.out]
              omega
            · left
              have e1 : k = n := by
                by_cases e : k = n
                · exact e
                · have h2 := HQ.out.2 k (Nat.le_refl _) (by omega)
                  have h3 := qt_le HSR.out Hn.out wd k (by omega)
                  rw [HU.out] at h3
                  omega
              subst e1
              rw [List.take_of_length_le (by rw [Hn.out]; exact Nat.le_refl _), HZ.out, show k + uu + 1 = k + j by omega]
              exact ⟨rfl, rfl⟩)
          clear HQ
          have HBn := Lib.hid (rems_ok wd B)
          have HBb := Lib.hid (hb_bits B wd n (hiV n u))
          have HBl := Lib.hid (hb_len B wd n (hiV n u))
          have HNo : Hid (poOk (rems wd (B.take k)) wd = false ∨ okBits (hb B wd k (k + j)) = false → spOk B u = false) := Lib.hid fun h => by
            cases hsp : spOk B u
            · rfl
            · exfalso
              unfold spOk spFits at hsp
              rw [Hn.out] at hsp
              simp only [Bool.and_eq_true, decide_eq_true_iff, Int.toNat_natCast] at hsp
              obtain ⟨⟨_, h2, h3⟩, _⟩ := hsp
              rw [HWE.out] at h2
              rcases HEx.out with ⟨e1, e2⟩ | ⟨_, h4⟩
              · rw [e1, e2, HBn.out, Hn.out, h2] at h
                rcases h with h | h
                · cases h
                · rw [(okBits_iff _).2 ⟨by rw [HBl.out]; exact h3, HBb.out⟩] at h
                  cases h
              · omega
          have HYes : Hid (poOk (rems wd (B.take k)) wd = true → okBits (hb B wd k (k + j)) = true → ∀ e w', NewSparse w u n (poP (rems wd (B.take k)) wd) (poN (rems wd (B.take k)) wd) (poM (rems wd (B.take k)) wd) (poW (rems wd (B.take k)) wd) (resN (hb B wd k (k + j))) (resW (hb B wd k (k + j))) true e w' → SparseRes B u w e w') := Lib.hid fun hp ho e w' h => by
            rcases HEx.out with ⟨e1, e2⟩ | ⟨h4, _⟩
            · rw [e1, HBn.out, Hn.out] at hp
              rw [e2] at ho
              have h5 := ((okBits_iff _).1 ho).1
              rw [HBl.out] at h5
              have hok : spOk B u = true := by
                unfold spOk spFits
                rw [Hn.out, Int.toNat_natCast, HWE.out, hp, HSR.out, decide_eq_true h5, decide_eq_true (show (0 : Int) ≤ (u : Int) ∧ (u : Int) ≤ 1000000 by omega)]
                rfl
              refine sparse_yes hok e w' ?_
              rw [Hn.out, HWE.out, ← e1, ← e2]
              exact h
            · have := ((okBits_iff _).1 ho).1
              omega
          clear HEx HBn HBb HBl
          have hjn : ¬ (j ≤ uu) ∨ (j ≤ uu ∧ 5000 < (hb B wd k (k + j)).length) := by rw [hEl]; omega
          have hDle : (rems wd (B.take k)).length ≤ 1000000000 := by omega
          have hEle : (hb B wd k (k + j)).length ≤ 1000000000 := by omega
          clear hgo hDl hEl
          generalize rems wd (B.take k) = D at *
          generalize hb B wd k (k + j) = E at *
          obtain ⟨A1, c1, rfl⟩ := own_slice inv.lo
          obtain ⟨A2, c2, rfl⟩ := own_slice inv.hi
          have st := inv.stage
          clear inv hB
          have ht : (decide ((j : Int) ≤ (uu : Int)) = true ∧ decide (j ≤ uu) = true ∧ decide ((E.length : Int) ≤ 5000) = false) ∨ (decide ((j : Int) ≤ (uu : Int)) = false ∧ decide (j ≤ uu) = false ∧ True) := by
            rcases hjn with h | ⟨h1, h2⟩
            · right; simp; omega
            · left; simp; omega
          clear hjn
          rcases ht with ⟨t1, t1n, t2⟩ | ⟨t1, t1n, t2⟩
          all_goals (
            go_wp2_with (first | (go_at_call 51; refine (CL.out _).mono ?_; rintro e w' ⟨rfl, rfl⟩) | fail)
            clear t1 t1n t2 hqu hqu2
            refine (specPackOf_any A1 c1 D wd _ (st.lies 0 rfl) (by omega)).mono ?_
            rintro e w5 ⟨AP, cP, rfl, ho, hb⟩
            have hs4 := (st.getBox 2 rfl).lt
            replace st := st.row hb ho
            have H1 := Lib.hid ho
            have hz45 := hb.size
            clear hb ho
            have hWl := poW_len D wd
            generalize poP D wd = P at *
            generalize poN D wd = M at *
            generalize poM D wd = K at *
            generalize poW D wd = Ws at *
            generalize poOk D wd = ok at *
            go_wp2_with fail
            replace st := st.box 31 #[.int .i64 P, .int .i64 M, .int .i64 K, .slice AP Ws.length cP]
            have HA1 : Hid (Below w5.heap.size w5 (w5.alloc (Obj.cells #[.int .i64 P, .int .i64 M, .int .i64 K, .slice AP Ws.length cP] 31))) := Lib.hid ((Below.refl _ _).alloc (Nat.le_refl _) _)
            generalize w5.alloc (Obj.cells #[.int .i64 P, .int .i64 M, .int .i64 K, .slice AP Ws.length cP] 31) = w6 at *
            refine (specOf_any A2 c2 E w6 (st.lies 3 rfl) (by omega)).mono ?_
            rintro e w8 h8
            obtain ⟨A3, c3, rfl, ho, hb⟩ := newBits_of h8
            replace st := st.row hb ho
            have H2 := Lib.hid ho
            have HA3 := Lib.hid (below_then HA1.out hb)
            have hz56 := HA1.out.size
            have hz68 := hb.size
            clear hb ho h8 HA1
            generalize resN E = H at *
            generalize resW E = Vs at *
            generalize okBits E = fine at *
            go_upto_region 22 with fail
            replace st := st.box 29 #[.int .i64 H, .slice A3 Vs.length c3]
            have HA4 : Hid (Below w8.heap.size w8 (w8.alloc (Obj.cells #[.int .i64 H, .slice A3 Vs.length c3] 29))) := Lib.hid ((Below.refl _ _).alloc (Nat.le_refl _) _)
            have hh := st.getBox 0 rfl
            have h0 := hh.cell 0
            have h1 := hh.cell 1
            have hhl := hh.lt
            have hl := st.getBox 2 rfl
            have l0 := hl.cell 0
            have l1 := hl.cell 1
            have l2 := hl.cell 2
            have l3 := hl.cell 3
            have hll := hl.lt
            simp only [List.getElem?_toArray, List.getElem?_cons_zero, List.getElem?_cons_succ] at l0 l1 l2 l3 h0 h1
            obtain ⟨⟨p0, p1, p2, p3, p4, p5, p6, p7⟩, ⟨z0, z1, z2, z3, z4, z5, z6, z7⟩, hlt⟩ := box_eight (st.getBox 6 rfl)
            have HXX := Lib.hid (HA3.out.trans (HA4.out.mono HA3.out.size))
            have H3 := Lib.hid (own_low H2.out HA4.out (Nat.le_refl _))
            have HBl := Lib.hid st.below
            have hz89 := HA4.out.size
            clear hl hh st HA3 HA4 H2
            generalize w8.alloc (Obj.cells #[.int .i64 H, .slice A3 Vs.length c3] 29) = w9 at *
            generalize w8.heap.size = hbx at *
            have HZZ : Hid (w5.heap.size ≤ w6.heap.size ∧ w6.heap.size ≤ w9.heap.size ∧ w.heap.size < w5.heap.size) := Lib.hid (by omega)
            have HH1 := Lib.hid hs4
            clear hz45 hz56 hz68 hz89 hs4 hWl hDle hEle HX HW HSR CL CP hszp hszl HSZ HZ huul HU hsz0 hwd HWE
            cases ok
            · skip
              have HF := Lib.hid (HNo.out (.inl rfl))
              clear HNo HYes
              go_wp2
              refine bodyPost_ret (v := .tuple #[SP 0 0 0 0 0 (.slice none 0 0) 0 (.slice none 0 0), .bool false]) (by simp [results, Tryd.results12, go_sem, p0, p1, p2, p3, p4, p5, p6, p7]) rfl ?_
              have hg := ((((((((grown_set w9 w.heap.size 0 (.int .i64 0)).trans (grown_set _ _ 1 (.int .i64 0))).trans (grown_set _ _ 2 (.int .i64 0))).trans (grown_set _ _ 3 (.int .i64 0))).trans (grown_set _ _ 4 (.int .i64 0))).trans (grown_set _ _ 5 (.slice none 0 0))).trans (grown_set _ _ 6 (.int .i64 0))).trans (grown_set _ _ 7 (.slice none 0 0)))
              exact sparse_no HF.out (HBl.out.grown hg HBl.out.size (fun j e => by cases e; exact Nat.le_refl _))
            · cases fine
              · skip
                have HF := Lib.hid (HNo.out (.inr rfl))
                clear HNo HYes
                go_wp2
                refine bodyPost_ret (v := .tuple #[SP 0 0 0 0 0 (.slice none 0 0) 0 (.slice none 0 0), .bool false]) (by simp [results, Tryd.results12, go_sem, p0, p1, p2, p3, p4, p5, p6, p7]) rfl ?_
                have hg := ((((((((grown_set w9 w.heap.size 0 (.int .i64 0)).trans (grown_set _ _ 1 (.int .i64 0))).trans (grown_set _ _ 2 (.int .i64 0))).trans (grown_set _ _ 3 (.int .i64 0))).trans (grown_set _ _ 4 (.int .i64 0))).trans (grown_set _ _ 5 (.slice none 0 0))).trans (grown_set _ _ 6 (.int .i64 0))).trans (grown_set _ _ 7 (.slice none 0 0)))
                exact sparse_no HF.out (HBl.out.grown hg HBl.out.size (fun j e => by cases e; exact Nat.le_refl _))
              · have HF := Lib.hid (HYes.out rfl rfl)
                clear HNo HYes
                go_wp2
                refine bodyPost_ret (v := .tuple #[SP u n P M K (.slice AP Ws.length cP) H (.slice A3 Vs.length c3), .bool true]) (by simp [results, Tryd.results12, go_sem, p0, p1, p2, p3, p4, p5, p6, p7]) rfl ?_
                have hg := ((((((((grown_set w9 w.heap.size 0 (.int .i64 u)).trans (grown_set _ _ 1 (.int .i64 n))).trans (grown_set _ _ 2 (.int .i64 P))).trans (grown_set _ _ 3 (.int .i64 M))).trans (grown_set _ _ 4 (.int .i64 K))).trans (grown_set _ _ 5 (.slice AP Ws.length cP))).trans (grown_set _ _ 6 (.int .i64 H))).trans (grown_set _ _ 7 (.slice A3 Vs.length c3)))
                refine HF.out _ _ ⟨AP, cP, A3, c3, rfl, ?_⟩
                exact two_end rfl H1.out HH1.out HXX.out HZZ.out.1 HZZ.out.2.1 H3.out HZZ.out.2.2 HBl.out hg)

theorem specSparse_any (A : Option Addr) (c : Nat) (B : List Int) (u : Int) (w : World) (hB : Lies w I A B) (hl : B.length ≤ 17592186044416) :
    Calls Tryd.prog 12 #[.slice A B.length c, .int .i64 u] w (SparseRes B u w) := by
  by_cases h : u < 0 ∨ 1000000 < u ∨ 5000 < B.length
  · exact specSparse_range A B.length c B u w hl (Lib.hid rfl) h
  · obtain ⟨v, rfl⟩ := Int.eq_ofNat_of_zero_le (show 0 ≤ u by omega)
    exact specSparse_in A B.length c B v w hB (Lib.hid rfl) (by omega) (by omega)

end Go.Proofs.YtlbnngolcoefdaaDoor
