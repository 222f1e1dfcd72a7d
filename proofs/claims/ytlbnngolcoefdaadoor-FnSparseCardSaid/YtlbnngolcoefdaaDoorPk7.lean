import Derived.Test.YtlbnngolcoefdaaDoorSelMath2
import Derived.Test.YtlbnngolcoefdaaDoorMem3
import Derived.Test.YtlbnngolcoefdaaDoorProg
import Derived.StillTailTactics
import Derived.Test.YtlbnngolcoefdaaDoorPk2
/- The program's putField. -/
namespace Go.Proofs.YtlbnngolcoefdaaDoor
open Go.RowKit
set_option maxRecDepth 100000

theorem lay_or (y x s : Nat) (hy : y < 2 ^ 64) : bits .or .u64 (y : Int) (IntKind.u64.wrap ((x : Int) * 2 ^ s)) = ((y ||| x * 2 ^ s % 2 ^ 64 : Nat) : Int) := by
  have e : (x : Int) * 2 ^ s = ((x * 2 ^ s : Nat) : Int) := by simp
  have hw : IntKind.u64.wrap ((x : Int) * 2 ^ s) = ((x * 2 ^ s % 2 ^ 64 : Nat) : Int) := by rw [e, IntKind.wrap_u64]; omega
  rw [hw, u64_or_nat y _ hy (Nat.mod_lt _ (by decide))]
theorem lay_or0 (x r : Nat) (hx : x < 2 ^ 64) : bits .or .u64 0 ((x : Int) / 2 ^ r) = ((x / 2 ^ r : Nat) : Int) := by
  have e : (x : Int) / 2 ^ r = ((x / 2 ^ r : Nat) : Int) := by simp
  have h := u64_or_nat 0 (x / 2 ^ r) (by decide) (Nat.lt_of_le_of_lt (Nat.div_le_self _ _) hx)
  rw [Nat.zero_or] at h
  rw [e]
  exact h
theorem lay_shr (x s : Nat) (hs : s ≤ 64) : x * 2 ^ s / 2 ^ 64 = x / 2 ^ (64 - s) := by
  rw [show 2 ^ 64 = 2 ^ (64 - s) * 2 ^ s by rw [← Nat.pow_add, show 64 - s + s = 64 by omega], Nat.mul_div_mul_right _ _ (Nat.two_pow_pos _)]
theorem lay_set (D : List Nat) (i v : Nat) : (D.map U).toArray.setIfInBounds i (U v) = ((D.set i v).map U).toArray := by
  simp [List.map_set]

/-- The words of block S are the digits of a number, and nothing below it is touched. -/
def Laid (W : World) (S T v : Nat) (w' : World) : Prop := Box w' S 113 ((digits T v).map U).toArray ∧ Below S W w'

set_option maxHeartbeats 400000 in
theorem putField_zero (S T a : Nat) (W : World) : Calls Tryd.prog 95 #[.slice (some ⟨S, 0, none⟩) T T, .int .i64 a, .int .i64 0] W fun e w' => e = .returned (.tuple #[]) ∧ W = w' := by
  go_enter Tryd.func95, Tryd.ntmps95
  go_wp2
  refine bodyPost_ret (results_none rfl _ _ _) rfl ?_
  exact ⟨rfl, rfl⟩

set_option maxRecDepth 100000 in
set_option maxHeartbeats 400000 in
theorem putField_some (S T v a n : Nat) (W : World) (row : Box W S 113 ((digits T v).map U).toArray) (hv : v < 2 ^ a) (hn : n < 2 ^ 32) (hn0 : n ≠ 0) (ha : a ≤ 5000) (hfT : a / 64 < T) (hroom : n * 2 ^ (a % 64) / 2 ^ 64 ≠ 0 → a / 64 + 1 < T) (hT : T ≤ 5000) :
    Calls Tryd.prog 95 #[.slice (some ⟨S, 0, none⟩) T T, .int .i64 a, .int .i64 n] W fun e w' => e = .returned (.tuple #[]) ∧ Laid W S T (v + 2 ^ a * n) w' := by
  have e0 : ((n : Int) == 0) = false := by rw [beq_eq_false_iff_ne]; omega
  obtain ⟨f, hf⟩ : ∃ f, a / 64 = f := ⟨_, rfl⟩
  obtain ⟨s, hs⟩ : ∃ s, a % 64 = s := ⟨_, rfl⟩
  have haf : a = 64 * f + s := by omega
  rw [hf] at hfT
  rw [hf, hs] at hroom
  have e1 : IntKind.i64.wrap ((a : Int) / 64) = (f : Int) := by rw [show (a : Int) / 64 = (f : Int) by omega]; exact IntWalk.i64_in _ (by omega)
  have e1b : (a : Int) / 64 = (f : Int) := by omega
  have e2 : (a : Int).tmod 64 = (s : Int) := by rw [IntWalk.rem_in _ _ (by omega)]; omega
  have e2b : (a : Int) % 64 = (s : Int) := by omega
  have hs64 : s < 64 := by omega
  rw [haf] at hv
  obtain ⟨h1, h2, h3⟩ := digits_lay T v f s n hs64 hv hn hfT
  rw [← haf] at h1 h2
  have hge := digits_get T v f hfT
  obtain ⟨y, hy⟩ : ∃ y, v / 2 ^ (64 * f) % 2 ^ 64 = y := ⟨_, rfl⟩
  have hy64 : y < 2 ^ 64 := by rw [← hy]; exact Nat.mod_lt _ (by decide)
  rw [hy] at hge h1 h2
  have hd : W.cell? ⟨S, f, none⟩ = some (U y) := by
    rw [row.cell, List.getElem?_toArray, List.getElem?_map, hge]; rfl
  have hfz := row.frozen f
  have HOr := Lib.hid (lay_or y n s hy64)
  obtain ⟨r, hr⟩ : ∃ r, 64 - s = r := ⟨_, rfl⟩
  rw [lay_shr n s (by omega), hr] at h1 h2 hroom
  have e5 : IntKind.i64.wrap (64 - (s : Int)) = (r : Int) := by rw [IntWalk.i64_in _ (by omega)]; omega
  have e5b : 64 - (s : Int) = (r : Int) := by omega
  have hr64 : r ≤ 64 := by omega
  have s1 := fun W => run_shr_u64 (P := Tryd.prog) 113 n r hr64 W
  have hSl := row.lt
  have HRow := Lib.hid row
  by_cases hrest : n / 2 ^ r = 0
  · have HE := Lib.hid (h1 hrest)
    have t1 : (((n : Int) / 2 ^ r) != 0) = false := by
      have e : (n : Int) / 2 ^ r = ((n / 2 ^ r : Nat) : Int) := by simp
      rw [e, hrest]; rfl
    clear h1 h2 h3 hge hy row haf hf hs hr hrest hroom e1b e2b e5b
    go_enter Tryd.func95, Tryd.ntmps95
    go_wp2_with fail
    go_still_tail 10, (by kernel_rfl)
    change wpList _ _ _ _ _ W.drew
    go_wp2
    go_end0
    refine ⟨rfl, ?_, ?_⟩
    · rw [HE.out, ← lay_set, HOr.out]
      exact HRow.out.put f _
    · exact ((Below.refl S W).setCell (p := ⟨S, f, none⟩) (Nat.le_refl _) _).drew
  · have HE := Lib.hid h2
    have t1 : (((n : Int) / 2 ^ r) != 0) = true := by
      have e : (n : Int) / 2 ^ r = ((n / 2 ^ r : Nat) : Int) := by simp
      rw [e, bne_iff_ne]
      intro h
      exact hrest (by omega)
    have hf1 := hroom hrest
    have hd2 : W.cell? ⟨S, f + 1, none⟩ = some (U 0) := by
      rw [row.cell, List.getElem?_toArray, List.getElem?_map, h3 hf1]; rfl
    have HOr2 := Lib.hid (lay_or0 n r (by omega))
    have hfz2 := row.frozen (f + 1)
    clear h1 h2 h3 hge hy row haf hf hs hr hrest hroom e1b e2b e5b
    go_enter Tryd.func95, Tryd.ntmps95
    go_wp2_with fail
    go_still_tail 10, (by kernel_rfl)
    change wpList _ _ _ _ _ W.drew
    go_wp2
    go_end0
    refine ⟨rfl, ?_, ?_⟩
    · rw [HE.out, HOr2.out, ← lay_set, ← lay_set, HOr.out]
      exact (HRow.out.put f _).put (f + 1) _
    · exact (((Below.refl S W).setCell (p := ⟨S, f, none⟩) (Nat.le_refl _) _).setCell (p := ⟨S, f + 1, none⟩) (Nat.le_refl _) _).drew

end Go.Proofs.YtlbnngolcoefdaaDoor

/- The program's PackOf. -/
namespace Go.Proofs.YtlbnngolcoefdaaDoor
open Go.RowKit
set_option maxRecDepth 100000

/-- Which numbers are packed at a width, and what PackOf is to return. -/
def poOk (B : List Int) (wd : Int) : Bool := fitsB B.length wd && B.all fun n => decide (0 ≤ n ∧ n < 2 ^ wd.toNat)
def poP (B : List Int) (wd : Int) : Int := if poOk B wd = true then wd else 0
def poN (B : List Int) (wd : Int) : Int := if poOk B wd = true then (B.length : Int) else 0
def poM (B : List Int) (wd : Int) : Int := if poOk B wd = true then (B.length : Int) * wd else 0
def poW (B : List Int) (wd : Int) : List Nat := if poOk B wd = true then digits ((B.length * wd.toNat + 63) / 64) (packNum wd.toNat B) else []

theorem fits_nat {n : Nat} {wd : Int} (h : fitsB n wd = true) : ∃ d : Nat, wd = d ∧ d ≤ 32 ∧ n ≤ 5000 ∧ n * d ≤ 5000 := by
  unfold fitsB at h
  rw [decide_eq_true_iff] at h
  obtain ⟨h1, h2, _, h4, h5⟩ := h
  obtain ⟨d, rfl⟩ := Int.eq_ofNat_of_zero_le h1
  refine ⟨d, rfl, by omega, by omega, ?_⟩
  have : ((n * d : Nat) : Int) ≤ 5000 := by simpa using h5
  omega

theorem poW_len (B : List Int) (wd : Int) : (poW B wd).length ≤ 79 := by
  unfold poW
  split
  · rename_i h
    unfold poOk at h
    rw [Bool.and_eq_true] at h
    obtain ⟨d, rfl, _, _, h3⟩ := fits_nat h.1
    rw [digits_len, Int.toNat_natCast]
    omega
  · simp

theorem digits_zero (T : Nat) : digits T 0 = List.replicate T 0 := by
  apply List.ext_getElem?
  intro j
  by_cases h : j < T
  · rw [digits_get _ _ _ h, List.getElem?_replicate, if_pos h]
    simp
  · rw [List.getElem?_eq_none (by rw [digits_len]; omega), List.getElem?_eq_none (by simp; omega)]

theorem own_of_box {w : World} {S : Nat} {e : TypeId} {xs : List Value} {T : Nat} (h : Box w S e xs.toArray) (hl : xs.length = T) (hT : T ≤ 5000) : w.ownsRow S e 1 (.slice (some ⟨S, 0, none⟩) T T) T xs :=
  ⟨by rw [hl, Nat.mul_one], .inr ⟨S, T, _, rfl, Nat.le_refl _, h, Nat.le_refl _, by unfold maxLen; omega, by simp [hl], by rw [Nat.mul_one, List.take_of_length_le (by simp [hl])]⟩⟩

theorem putField_any (S T v a k N wd n : Nat) (W : World) (row : Box W S 113 ((digits T v).map U).toArray) (ha : a = k * wd) (hk : k < N) (hNw : N * wd ≤ 5000) (hT : T = (N * wd + 63) / 64) (hwd : wd ≤ 32) (hv : v < 2 ^ a) (hn : n < 2 ^ wd) :
    Calls Tryd.prog 95 #[.slice (some ⟨S, 0, none⟩) T T, .int .i64 a, .int .i64 n] W fun e w' => e = .returned (.tuple #[]) ∧ Laid W S T (v + 2 ^ a * n) w' := by
  have h5 : (k + 1) * wd ≤ N * wd := Nat.mul_le_mul_right _ hk
  rw [Nat.succ_mul] at h5
  by_cases h0 : n = 0
  · subst h0
    refine (putField_zero S T a W).mono fun e w' h => ⟨h.1, ?_⟩
    rw [← h.2, Nat.mul_zero, Nat.add_zero]
    exact ⟨row, Below.refl _ _⟩
  · have hn32 : n < 2 ^ 32 := Nat.lt_of_lt_of_le hn (Nat.pow_le_pow_right (by omega) hwd)
    refine putField_some S T v a n W row hv hn32 h0 (by omega) ?_ ?_ (by omega)
    · rw [ha]; exact lay_first T k N wd n hk hT hn h0
    · intro h
      refine lay_room T k N wd n (a / 64) (a % 64) hk hT (by rw [ha]) (by rw [ha]) hn h

theorem part_le' {i n wd m : Nat} (h : i < n) (hm : n * wd = m) : i * wd + wd ≤ m := by
  have h5 : (i + 1) * wd ≤ n * wd := Nat.mul_le_mul_right _ h
  rw [Nat.succ_mul] at h5
  omega

/-- What holds of the world after k rounds. -/
structure PoInv (w : World) (B : List Int) (wd T k : Nat) (wr : World) : Prop where
  below : Below w.heap.size w wr
  res : Box wr w.heap.size 31 #[.int .i64 0, .int .i64 0, .int .i64 0, .slice none 0 0]
  row : Box wr (w.heap.size + 1) 113 ((digits T (packNum wd (B.take k))).map U).toArray
  fine : ∀ n ∈ B.take k, 0 ≤ n ∧ n < 2 ^ wd

theorem PoInv.next {w : World} {B : List Int} {wd T k n : Nat} {wr w' : World} (h : PoInv w B wd T k wr) (hx : B[k]? = some (n : Int)) (hn : n < 2 ^ wd) (hp : Laid wr (w.heap.size + 1) T (packNum wd (B.take k) + 2 ^ (k * wd) * n) w') : PoInv w B wd T (k + 1) w' := by
  obtain ⟨hk, hx⟩ := List.getElem?_eq_some_iff.1 hx
  have hl : (B.take k).length = k := by rw [List.length_take]; omega
  obtain ⟨h1, h2⟩ := hp
  refine ⟨h.below.trans (h2.mono (by omega)), h.res.below h2 (by omega), ?_, ?_⟩
  · rw [List.take_succ_eq_append_getElem hk, hx, packNum_snoc _ _ _ hn, hl]
    exact h1
  · rw [List.take_succ_eq_append_getElem hk, hx]
    intro m hm
    rcases List.mem_append.1 hm with h3 | h3
    · exact h.fine m h3
    · obtain rfl : m = (n : Int) := by simpa using h3
      refine ⟨by omega, ?_⟩
      have : ((n : Nat) : Int) < ((2 ^ wd : Nat) : Int) := by omega
      simpa using this

set_option maxHeartbeats 400000 in
theorem implPackOf_unfit (A : Option Addr) (n c : Nat) (wd : Int) (w : World) (hf : fitsB n wd = false) :
    Calls Tryd.prog 58 #[.slice A n c, .int .i64 wd] w (NewPacked w 0 0 0 [] false) := by
  have CF := Lib.hid fun W : World => packFits_any n wd W
  rw [hf] at CF
  clear hf
  go_enter Tryd.func58, Tryd.ntmps58
  go_wp2_with (go_at_call 91; refine (CF.out _).mono ?_; rintro e w' ⟨rfl, rfl⟩)
  refine bodyPost_ret (v := .tuple #[PK 0 0 0 (.slice none 0 0), .bool false]) (by simp [results, Tryd.results58, go_sem]) rfl ?_
  exact ⟨none, 0, rfl, World.ownsRow_nil _ _ _ _, by go_grown⟩

/-- How PackOf ends where the numbers can be packed. -/
def PoEnd (w : World) (B : List Int) (n wd m T : Nat) (e : Ending) (w' : World) : Prop :=
  ((∀ x ∈ B, 0 ≤ x ∧ x < 2 ^ wd) ∧ NewPacked w wd n m (digits T (packNum wd B)) true e w') ∨ (¬ (∀ x ∈ B, 0 ≤ x ∧ x < 2 ^ wd) ∧ NewPacked w 0 0 0 [] false e w')

set_option maxHeartbeats 800000 in
theorem implPackOf_fit (A : Option Addr) (n c : Nat) (B : List Int) (wd : Nat) (w : World) (hB : Lies w I A B) (Hn : Hid (B.length = n)) (hwd : wd ≤ 32) (hn : n ≤ 5000) (hnw : n * wd ≤ 5000) (hf : fitsB n wd = true) :
    Calls Tryd.prog 58 #[.slice A n c, .int .i64 wd] w (PoEnd w B n wd (n * wd) ((n * wd + 63) / 64)) := by
  have CF := Lib.hid fun W : World => packFits_any n wd W
  rw [hf] at CF
  clear hf
  obtain ⟨m, hm⟩ : ∃ m, n * wd = m := ⟨_, rfl⟩
  obtain ⟨T, hT⟩ : ∃ T, (m + 63) / 64 = T := ⟨_, rfl⟩
  rw [hm, hT]
  rw [hm] at hnw
  have hmul : (n : Int) * (wd : Int) = (m : Int) := by rw [← hm]; simp
  have CW : Hid (∀ W : World, Calls Tryd.prog 94 #[.int .i64 m] W fun e w' => e = .returned (.int .i64 T) ∧ W = w') := Lib.hid fun W => (wordsFor_any m W hnw).mono fun e w' h => ⟨by rw [h.1, hT], h.2⟩
  have hT5 : T ≤ 79 := by omega
  have HM := Lib.hid hm
  have HT := Lib.hid hT
  clear hm hT
  have hmk := fun W => run_make_row' (P := Tryd.prog) 27 113 (.int .u64 0) 8 Tryd.underlying27 Tryd.infoU64 rfl .i64 .i64 T (by omega) (by omega) W
  obtain ⟨p, hp⟩ : ∃ p, 2 ^ wd = p := ⟨_, rfl⟩
  have hpi : (2 : Int) ^ wd = (p : Int) := by rw [← hp]; simp
  have hp32 : p ≤ 4294967296 := by rw [← hp]; exact Nat.pow_le_pow_right (by omega) hwd
  have HP := Lib.hid hp
  clear hp
  go_enter Tryd.func58, Tryd.ntmps58
  go_wp2_with (first | (go_at_call 91; refine (CF.out _).mono ?_; rintro e w' ⟨rfl, rfl⟩) | (go_at_call 94; refine (CW.out _).mono ?_; rintro e w' ⟨rfl, rfl⟩))
  go_loopw [25] (fun i wr => ∃ k : Nat, k ≤ n ∧ i = .int .i64 k ∧ PoInv w B wd T k wr) (fun i _ => n - (intOf i).toNat)
  case atStart =>
    refine ⟨0, Nat.zero_le _, rfl, by go_grown, (Box.made _ _ _).alloc _, ?_, by simp⟩
    have h := Box.made (w.alloc (Obj.cells #[Value.int IntKind.i64 0, Value.int IntKind.i64 0, Value.int IntKind.i64 0, Value.slice none 0 0] 31)) 113 (madeCells #[Value.int IntKind.u64 0] T)
    rw [World.size_alloc] at h
    rw [List.take_zero, packNum_nil, digits_zero, List.map_replicate, ← toList_madeCells_one, Array.toArray_toList]
    exact h
  case round =>
    obtain ⟨k, hk, rfl, inv⟩ := hrel
    clear hmk
    have fr0 := inv.res.cell 0
    have fr1 := inv.res.cell 1
    have fr2 := inv.res.cell 2
    have fr3 := inv.res.cell 3
    have fz0 := inv.res.frozen 0
    have fz1 := inv.res.frozen 1
    have fz2 := inv.res.frozen 2
    have fz3 := inv.res.frozen 3
    have hrl := inv.res.lt
    simp only [List.getElem?_toArray, List.getElem?_cons_zero, List.getElem?_cons_succ] at fr0 fr1 fr2 fr3
    by_cases hlt : k < n
    · obtain ⟨b, o, x, rfl, hbl, hx, hc⟩ := hB.at_ (i := k) (by rw [Hn.out]; exact hlt)
      have hc' : wr.cell? ⟨b, o + k, none⟩ = some (.int .i64 x) := (inv.below.cell (p := ⟨b, o + k, none⟩) hbl).trans hc
      by_cases hbad : x < 0 ∨ (p : Int) ≤ x
      · have HNo : Hid (¬ (∀ y ∈ B, 0 ≤ y ∧ y < 2 ^ wd)) := Lib.hid fun h => by
          have h1 := h x (List.mem_of_getElem? hx)
          rw [hpi] at h1
          omega
        have HI := Lib.hid inv
        by_cases h0 : x < 0
        · have d0 : decide (x < 0) = true := by simpa using h0
          clear hx hc inv hB hbad
          go_wp2
          refine bodyPost_ret (v := .tuple #[PK 0 0 0 (.slice none 0 0), .bool false]) (by simp [results, Tryd.results58, go_sem, fr0, fr1, fr2, fr3]) rfl ?_
          exact .inr ⟨HNo.out, none, 0, rfl, World.ownsRow_nil _ _ _ _, (((HI.out.below.setCell (Nat.le_refl _) _).setCell (Nat.le_refl _) _).setCell (Nat.le_refl _) _).setCell (Nat.le_refl _) _⟩
        · have d0 : decide (x < 0) = false := by simpa using h0
          have h1 : (p : Int) ≤ x := by omega
          have d1 : decide ((p : Int) ≤ x) = true := by simpa using h1
          clear hx hc inv hB hbad
          go_wp2
          refine bodyPost_ret (v := .tuple #[PK 0 0 0 (.slice none 0 0), .bool false]) (by simp [results, Tryd.results58, go_sem, fr0, fr1, fr2, fr3]) rfl ?_
          exact .inr ⟨HNo.out, none, 0, rfl, World.ownsRow_nil _ _ _ _, (((HI.out.below.setCell (Nat.le_refl _) _).setCell (Nat.le_refl _) _).setCell (Nat.le_refl _) _).setCell (Nat.le_refl _) _⟩
      · obtain ⟨y, rfl⟩ := Int.eq_ofNat_of_zero_le (show 0 ≤ x by omega)
        have hyp : y < p := by omega
        have d0 : decide ((y : Int) < 0) = false := by simp
        have d1 : decide ((p : Int) ≤ (y : Int)) = false := by simp; omega
        obtain ⟨a, ha⟩ : ∃ a, k * wd = a := ⟨_, rfl⟩
        have hmul2 : (k : Int) * (wd : Int) = (a : Int) := by rw [← ha]; simp
        have hpl := part_le' hlt HM.out
        rw [ha] at hpl
        have hv := packNum_lt wd (B.take k)
        rw [List.length_take, Nat.min_eq_left (by rw [Hn.out]; omega), ha] at hv
        have HC := Lib.hid (putField_any (w.heap.size + 1) T (packNum wd (B.take k)) a k n wd y wr inv.row ha.symm hlt (by rw [HM.out]; exact hnw) (by rw [HM.out, HT.out]) hwd hv (by rw [HP.out]; exact hyp))
        have HI := Lib.hid inv
        have HX := Lib.hid hx
        have HA := Lib.hid ha
        clear hx hc inv hbad hv ha
        go_wp2_with (go_at_call 95; refine HC.out.mono ?_; rintro e w' ⟨rfl, hlaid⟩)
        go_roundw
        case rel =>
          refine ⟨k + 1, by omega, by go_num, ?_⟩
          rw [← HA.out] at hlaid
          exact HI.out.next HX.out (by rw [HP.out]; exact hyp) hlaid
        case measure => simp [intOf]; omega
    · have e : k = n := by omega
      subst e
      have HI := Lib.hid inv
      clear inv hB
      go_wp2
      refine bodyPost_ret (v := .tuple #[PK wd k m (.slice (some ⟨w.heap.size + 1, 0, none⟩) T T), .bool true]) (by simp [results, Tryd.results58, go_sem, fr0, fr1, fr2, fr3]) rfl ?_
      have hrow := HI.out.row
      have hfine := HI.out.fine
      rw [List.take_of_length_le (by rw [Hn.out]; omega)] at hrow hfine
      have ho := own_of_box hrow (by rw [List.length_map, digits_len]) (by omega)
      refine .inl ⟨hfine, some ⟨w.heap.size + 1, 0, none⟩, T, by rw [digits_len], ?_, ?_⟩
      · rw [digits_len]
        exact own_mono (ownsRow_setCell_below (ownsRow_setCell_below (ownsRow_setCell_below (ownsRow_setCell_below ho (by simp) _) (by simp) _) (by simp) _) (by simp) _) (by omega)
      · exact (((HI.out.below.setCell (Nat.le_refl _) _).setCell (Nat.le_refl _) _).setCell (Nat.le_refl _) _).setCell (Nat.le_refl _) _

theorem po_unfit {w : World} {B : List Int} {wd : Int} (hf : fitsB B.length wd = false) : NewPacked w (poP B wd) (poN B wd) (poM B wd) (poW B wd) (poOk B wd) = NewPacked w 0 0 0 [] false := by
  have hok : poOk B wd = false := by unfold poOk; rw [hf, Bool.false_and]
  simp [poP, poN, poM, poW, hok]
theorem po_end {B : List Int} {d : Nat} {w : World} {e : Ending} {w' : World} (hf : fitsB B.length d = true) (h : PoEnd w B B.length d (B.length * d) ((B.length * d + 63) / 64) e w') : NewPacked w (poP B d) (poN B d) (poM B d) (poW B d) (poOk B d) e w' := by
  rcases h with ⟨hall, h⟩ | ⟨hno, h⟩
  · have hok : poOk B d = true := by
      unfold poOk
      rw [hf, Bool.true_and, List.all_eq_true]
      intro x hx
      rw [decide_eq_true_iff]
      exact hall x hx
    simp only [poP, poN, poM, poW, hok, if_true, Int.toNat_natCast]
    have e1 : ((B.length * d : Nat) : Int) = (B.length : Int) * (d : Int) := by simp
    rw [e1] at h
    exact h
  · have hok : poOk B d = false := by
      cases hk : poOk B d
      · rfl
      · unfold poOk at hk
        rw [hf, Bool.true_and, List.all_eq_true] at hk
        exact absurd (fun x hx => by have := hk x hx; rw [decide_eq_true_iff] at this; exact this) hno
    simp only [poP, poN, poM, poW, hok]
    exact h

theorem implPackOf_any (A : Option Addr) (c : Nat) (B : List Int) (wd : Int) (w : World) (hB : Lies w I A B) :
    Calls Tryd.prog 58 #[.slice A B.length c, .int .i64 wd] w (NewPacked w (poP B wd) (poN B wd) (poM B wd) (poW B wd) (poOk B wd)) := by
  cases hf : fitsB B.length wd
  · have h := implPackOf_unfit A B.length c wd w hf
    rw [po_unfit hf]
    exact h
  · obtain ⟨d, rfl, h1, h2, h3⟩ := fits_nat hf
    exact (implPackOf_fit A B.length c B d w hB (Lib.hid rfl) h1 h2 h3 hf).mono fun e w' h => po_end hf h

end Go.Proofs.YtlbnngolcoefdaaDoor
