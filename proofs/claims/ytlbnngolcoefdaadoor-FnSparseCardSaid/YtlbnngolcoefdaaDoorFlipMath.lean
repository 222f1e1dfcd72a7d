import Derived.Test.YtlbnngolcoefdaaDoorSp8
import Derived.Test.YtlbnngolcoefdaaDoorBitMath2
import Derived.Test.YtlbnngolcoefdaaDoorDraw1
/- The program's isSorted, over whatever iterator; SparseRank's and Collect's loops come after it. -/
namespace Go.Proofs.YtlbnngolcoefdaaDoor
open Go.RowKit Go.Shelf
set_option maxRecDepth 100000
attribute [local go_sem] Oper.semAt_some

theorem kp_set {n₀ g : Nat} {W : World} {t : TypeId} {v0 : Value} (h : Boxed W g t v0) (h1 : t ≠ 29) (h2 : t ≠ 115) (h3 : t ≠ 33) (hn : n₀ ≤ g) (v : Value) : KpB n₀ W (W.setCell ⟨g, 0, none⟩ v) :=
  ⟨(Below.refl n₀ W).setCell (p := ⟨g, 0, none⟩) hn v, fun k cs t' f hk ht => Below.heap_setCell W ⟨g, 0, none⟩ v k fun e => by
    have e' : k = g := e
    subst e'
    rw [show W.heap[k]? = _ from h] at hk
    cases hk
    rcases ht with rfl | rfl | rfl
    · exact h1 rfl
    · exact h2 rfl
    · exact h3 rfl⟩

/-- What isSorted holds while it ranges: its three variables. -/
def SortJ (w : World) (u : Int) (pre : List Int) (W : World) : Prop :=
  (srt u 0 pre = true ∧ Boxed W w.heap.size 3 (.int .i64 u) ∧ Boxed W (w.heap.size + 1) 4 (.bool false) ∧ Boxed W (w.heap.size + 2) 3 (.int .i64 (pre.getLastD 0))) ∧ Below w.heap.size w W
def SortY (w : World) (u : Int) (c : Code) (pre : List Int) (W : World) : Prop :=
  (c = .ret ∧ srt u 0 pre = false ∧ Boxed W (w.heap.size + 1) 4 (.bool false)) ∧ Below w.heap.size w W

theorem own_boxed {β : Type} {B g : Nat} {t : TypeId} {v : Value} {s : β} {A A' : World} {row : Option Nat} (hs : Boxed A g t v) (hg : A.grownBy A' row) (hr : ∀ r, row = some r → B ≤ r ∧ ∃ o : Obj, A.heap[r]? = some o ∧ o.isCells = false) : Boxed A' g t v :=
  hs.kept hg fun e => by
    obtain ⟨_, o, ho, hc⟩ := hr g e.symm
    rw [show A.heap[g]? = _ from hs] at ho
    cases ho
    cases hc

set_option maxHeartbeats 2000000 in
theorem isSortedO (gf : Nat) (lb : Array Value) (eg : ∀ args w, (callFunc gf args).run Tryd.prog w = .ok (.enter gf args) w) (B : List Int) (u : Int) (n₀ N : Nat) (w : World) (hn₀ : n₀ ≤ w.heap.size)
    (hseq : SeqO Tryd.prog gf lb (fun x : Int => #[Value.int .i64 x]) (KpB n₀) (fun ys => ys = B) (fun pre => pre <+: B) N w) :
    Calls Tryd.prog 55 #[.func (.func gf) #[] lb, .int .i64 u] w fun e W' => e = .returned (.bool (srt u 0 B)) ∧ Below w.heap.size w W' := by
  refine (callsIn_wide (n := 0)).1 ?_
  refine callsIn_of_wp_marks Tryd.func55 rfl trivial ?_ rfl
  simp only [Tryd.ntmps55, List.size_toArray, List.length_cons, List.length_nil, Nat.reduceAdd, Nat.reduceSub, Array.replicate_succ, Array.replicate_zero, List.push_toArray, List.append_toArray, List.nil_append, List.cons_append]
  gi_wp2
  have bU := Boxed.new w 3 (.int .i64 u)
  have bR := Boxed.new (w.alloc (.cells #[.int .i64 u] 3)) 4 (.bool false)
  have bL := Boxed.new ((w.alloc (.cells #[.int .i64 u] 3)).alloc (.cells #[.bool false] 4)) 3 (.int .i64 0)
  simp only [World.size_alloc] at bR bL
  have hB0 : Below w.heap.size w (((w.alloc (.cells #[.int .i64 u] 3)).alloc (.cells #[.bool false] 4)).alloc (.cells #[.int .i64 0] 3)) := (((Below.refl _ w).alloc (Nat.le_refl _) _).alloc (by simp) _).alloc (by simp; omega) _
  refine wpIn_range_O (n := 0) (gf := gf) (lb := lb) rfl eg hseq kp_t (kp_b (by simp; omega)) hB0 (fun _ => rfl)
    (SortJ w u) (SortY w u)
    (OwnFrom.and (fun s A B row hs hg hr => ⟨hs.1, own_boxed (s := s) hs.2.1 hg hr, own_boxed (s := s) hs.2.2.1 hg hr, own_boxed (s := s) hs.2.2.2 hg hr⟩) (ownFrom_below (Nat.le_refl _) (by simp; omega)))
    (fun c => OwnFrom.and (fun s A B row hs hg hr => ⟨hs.1, hs.2.1, own_boxed (s := s) hs.2.2 hg hr⟩) (ownFrom_below (Nat.le_refl _) (by simp; omega)))
    ⟨⟨rfl, (bU.alloc _).alloc _, bR.alloc _, bL⟩, hB0⟩
    (fun x => { tmps := #[.func (.func gf) #[] lb, .int .i64 u, undef, .pointer (some ⟨w.heap.size, 0, none⟩), .pointer (some ⟨w.heap.size + 1, 0, none⟩), .pointer (some ⟨w.heap.size + 2, 0, none⟩), .int .i64 x, .func (.func gf) #[] lb, .int .i64 x, undef, undef, undef, undef, undef, undef, undef, undef, undef], defers := [] }) ?assign ?body ?done ?stop
  case assign =>
    intro l x W K hK
    gi_wp2
    exact hK
  case body =>
    rintro l pre x W ⟨⟨hs, bu, br, bl⟩, hB⟩ _
    have hsn := srt_snoc u pre x 0
    rw [hs, Bool.true_and] at hsn
    have hla : (pre ++ [x]).getLastD 0 = x := by simp [List.getLastD_eq_getLast?]
    generalize pre.getLastD 0 = la at *
    have HS := Lib.hid hsn
    have HLA := Lib.hid hla
    have HB := Lib.hid hB
    have hcu := bu.cell
    have hcr := br.cell
    have hfr := br.frozen
    have hcl := bl.cell
    have hfl := bl.frozen
    have BU := Lib.hid bu
    have BR := Lib.hid br
    have BL := Lib.hid bl
    clear hsn hla hs hB bu br bl
    by_cases c1 : x < la
    · have t1 : decide (x < la) = true := decide_eq_true c1
      gi_wp2
      exact ⟨(KeepsOthers.setCell _ _ _).from _, ⟨rfl, HS.out.trans (decide_eq_false (by omega)), BR.out.set _⟩, HB.out.setCell (p := ⟨w.heap.size + 1, 0, none⟩) (Nat.le_succ _) _⟩
    · have t1 : decide (x < la) = false := decide_eq_false c1
      by_cases c2 : u ≤ x
      · have t2 : decide (u ≤ x) = true := decide_eq_true c2
        gi_wp2
        exact ⟨(KeepsOthers.setCell _ _ _).from _, ⟨rfl, HS.out.trans (decide_eq_false (by omega)), BR.out.set _⟩, HB.out.setCell (p := ⟨w.heap.size + 1, 0, none⟩) (Nat.le_succ _) _⟩
      · have t2 : decide (u ≤ x) = false := decide_eq_false c2
        gi_wp2
        refine ⟨(KeepsOthers.setCell _ _ _).from _, kp_set BL.out (by decide) (by decide) (by decide) (Nat.le_trans hn₀ (Nat.le_add_right _ 2)) _, ⟨HS.out.trans (decide_eq_true (by omega)), BU.out.other (by omega) _, BR.out.other (by omega) _, ?_⟩, HB.out.setCell (p := ⟨w.heap.size + 2, 0, none⟩) (Nat.le_add_right _ 2) _⟩
        rw [HLA.out]
        exact BL.out.set _
  case done =>
    rintro D ys W hD rfl ⟨⟨hs, _, br, _⟩, hB⟩ hK
    have hcr := br.cell
    have hfr := br.frozen
    clear br
    have HB := Lib.hid hB
    clear hB
    gi_wp2
    have hK' := (KeepsOthers.setCell W ⟨w.heap.size + 1, 0, none⟩ (.bool true)).same D _ hK rfl
    refine ⟨by simp, .inl ⟨_, _, rfl, run_takeDeferred hK', ?_⟩⟩
    have hc5 := cell_kept (World.cell?_setCell_same' W ⟨w.heap.size + 1, 0, none⟩ (.bool true) (by rw [hcr]; rfl)) (grownBy_putObj' _ D (.deferred none)) (fun r e => by cases e; exact ⟨_, hK', rfl⟩)
    refine ⟨.bool true, ?_, by rw [hs], (HB.out.setCell (p := ⟨w.heap.size + 1, 0, none⟩) (Nat.le_succ _) _).trans (belowK_b (w := w) (Nat.le_refl _) _ D _ _ (by simp at hD; omega) hK' rfl rfl)⟩
    simp [results, Tryd.f55, go_sem, hc5]
  case stop =>
    rintro D c pre W hD hpre ⟨⟨rfl, hs, br⟩, hB⟩ hK
    have hcr := br.cell
    clear br
    have HB := Lib.hid hB
    have HS : Hid (srt u 0 B = false) := Lib.hid (by
      cases h : srt u 0 B
      · rfl
      · rw [srt_before hpre h] at hs
        cases hs)
    clear hB hs
    gi_wp2
    refine ⟨by simp, .inl ⟨_, _, rfl, run_takeDeferred hK, ?_⟩⟩
    have hc5 := cell_kept hcr (grownBy_putObj' _ D (.deferred none)) (fun r e => by cases e; exact ⟨_, hK, rfl⟩)
    refine ⟨.bool false, ?_, by rw [HS.out], HB.out.trans (belowK_b (w := w) (Nat.le_refl _) W D _ _ (by simp at hD; omega) hK rfl rfl)⟩
    simp [results, Tryd.f55, go_sem, hc5]

end Go.Proofs.YtlbnngolcoefdaaDoor

/- The program's word methods flip and trim. -/
namespace Go.Proofs.YtlbnngolcoefdaaDoor
open Go.RowKit
set_option maxRecDepth 100000

theorem xor_ones (x : Nat) (hx : x < 2 ^ 64) : 18446744073709551615 ^^^ x = 18446744073709551615 - x := by
  have h : BitVec.allOnes 64 ^^^ BitVec.ofNat 64 x = ~~~ (BitVec.ofNat 64 x) := by
    apply BitVec.eq_of_getLsbD_eq
    intro i hi
    rw [BitVec.getLsbD_xor, BitVec.getLsbD_not, BitVec.getLsbD_allOnes]
    cases (BitVec.ofNat 64 x).getLsbD i <;> simp only [hi, decide_true] <;> rfl
  have h2 := congrArg BitVec.toNat h
  rw [BitVec.toNat_xor, BitVec.toNat_not, BitVec.toNat_allOnes, BitVec.toNat_ofNat, Nat.mod_eq_of_lt hx] at h2
  exact h2

theorem flip_form (x : Nat) (hx : x < 2 ^ 64) : bits .xor .u64 IntKind.u64.max (x : Int) = ((18446744073709551615 - x : Nat) : Int) := by
  have h := u64_xor_nat 18446744073709551615 x (by decide) hx
  rw [xor_ones x hx] at h
  exact h

theorem trim_form (x n : Nat) (hx : x < 2 ^ 64) (hn : n ≤ 64) : bits .and .u64 (x : Int) (IntKind.u64.wrap (IntKind.u64.wrap (2 ^ n) - 1)) = ((x % 2 ^ n : Nat) : Int) := by
  have hp : 0 < 2 ^ n := Nat.two_pow_pos n
  have hle : 2 ^ n ≤ 2 ^ 64 := Nat.pow_le_pow_right (by omega) hn
  have e : (2 : Int) ^ n = ((2 ^ n : Nat) : Int) := by simp
  have hm : IntKind.u64.wrap (IntKind.u64.wrap (2 ^ n) - 1) = ((2 ^ n - 1 : Nat) : Int) := by
    rw [e, IntKind.wrap_u64, IntKind.wrap_u64]
    generalize 2 ^ n = p at *
    omega
  rw [hm, u64_and_nat x (2 ^ n - 1) hx (by omega), Nat.and_two_pow_sub_one_eq_mod]

set_option maxHeartbeats 400000 in
theorem wordFlip_any (g : Nat) (x : Nat) (w : World) (hc : w.cell? ⟨g, 0, none⟩ = some (U x)) (hf : w.frozen? ⟨g, 0, none⟩ = false) (hx : x < 2 ^ 64) :
    Calls Tryd.prog 126 #[.pointer (some ⟨g, 0, none⟩)] w fun e w' => e = .returned (.tuple #[]) ∧ w.setCell ⟨g, 0, none⟩ (U (18446744073709551615 - x)) = w' := by
  have HF := Lib.hid (flip_form x hx)
  go_enter Tryd.func126, Tryd.ntmps126
  go_wp2
  go_end0
  exact ⟨rfl, by rw [HF.out]⟩

set_option maxHeartbeats 400000 in
theorem wordTrim_any (g : Nat) (x n : Nat) (w : World) (hc : w.cell? ⟨g, 0, none⟩ = some (U x)) (hf : w.frozen? ⟨g, 0, none⟩ = false) (hx : x < 2 ^ 64) (hn : n ≤ 64) :
    Calls Tryd.prog 124 #[.pointer (some ⟨g, 0, none⟩), .int .i64 n] w fun e w' => e = .returned (.tuple #[]) ∧ (w.setCell ⟨g, 0, none⟩ (U (x % 2 ^ n))).drew = w' := by
  have HF := Lib.hid (trim_form x n hx hn)
  go_enter Tryd.func124, Tryd.ntmps124
  go_wp2
  go_still_tail 8, (by kernel_rfl)
  change wpList _ _ _ _ _ w.drew
  go_wp2
  go_end0
  exact ⟨rfl, by rw [HF.out]⟩

end Go.Proofs.YtlbnngolcoefdaaDoor

/- Plain mathematics of the flipped bit vector. -/
namespace Go.Proofs.YtlbnngolcoefdaaDoor

def flipped (B : List Int) : List Int := B.map fun b => 1 - b
/-- The flipped words of a bit vector of n bits. -/
def flipW (n : Nat) (L : List Nat) : List Nat := (List.range L.length).map fun j => (18446744073709551615 - L.getD j 0) % 2 ^ (min 64 (n - 64 * j))

theorem flipped_bits {B : List Int} (h : IsBits B) : IsBits (flipped B) := by
  intro b hb
  simp only [flipped, List.mem_map] at hb
  obtain ⟨a, ha, rfl⟩ := hb
  have := h a ha
  omega
theorem val_flipped (xs : List Int) (h : IsBits xs) : val (flipped xs) + val xs + 1 = 2 ^ xs.length := by
  induction xs with
  | nil => simp [flipped, val]
  | cons b bs ih =>
    have h1 := ih fun b hb => h b (List.mem_cons_of_mem _ hb)
    have h2 := h b (List.mem_cons_self ..)
    simp only [flipped, List.map_cons, val, List.length_cons, Nat.pow_succ]
    rw [show List.map (fun b => 1 - b) bs = flipped bs from rfl]
    rcases h2 with rfl | rfl <;> simp <;> omega
theorem mod_flip (x m : Nat) (hx : x < 2 ^ 64) (hm : m ≤ 64) : (18446744073709551615 - x) % 2 ^ m = 2 ^ m - 1 - x % 2 ^ m := by
  obtain ⟨k, hk⟩ : ∃ k, 2 ^ 64 = 2 ^ m * k := ⟨2 ^ (64 - m), by rw [← Nat.pow_add]; congr 1; omega⟩
  have hp : 0 < 2 ^ m := Nat.two_pow_pos m
  have hq : x / 2 ^ m < k := by rw [Nat.div_lt_iff_lt_mul hp, Nat.mul_comm, ← hk]; exact hx
  have hd := Nat.div_add_mod x (2 ^ m)
  have hr := Nat.mod_lt x hp
  have e : 18446744073709551615 - x = (2 ^ m - 1 - x % 2 ^ m) + 2 ^ m * (k - 1 - x / 2 ^ m) := by
    have h1 : 2 ^ m * (k - 1 - x / 2 ^ m) = 2 ^ m * k - 2 ^ m - 2 ^ m * (x / 2 ^ m) := by
      rw [Nat.mul_sub, Nat.mul_sub, Nat.mul_one]
    have h2 : 2 ^ m * (x / 2 ^ m) + 2 ^ m ≤ 2 ^ m * k := by
      rw [← Nat.mul_succ]
      exact Nat.mul_le_mul_left _ hq
    rw [h1, ← hk]
    rw [← hk] at h2
    omega
  rw [e, Nat.add_mul_mod_self_left, Nat.mod_eq_of_lt (by omega)]

theorem flipW_words (n : Nat) (L : List Nat) (hl : L.length = (n + 63) / 64) (hw : ∀ x ∈ L, x < 2 ^ 64) : flipW n L = wordsOf (flipped (bitsOf n L)) := by
  have hfl : (flipped (bitsOf n L)).length = n := by simp [flipped, bitsOf_len]
  apply List.ext_getElem?
  intro j
  by_cases hj : j < L.length
  · rw [wordsOf_get _ _ (by rw [hfl]; omega)]
    have hx : L.getD j 0 < 2 ^ 64 := by
      rw [List.getD_eq_getElem?_getD, List.getElem?_eq_getElem hj, Option.getD_some]
      exact hw _ (List.getElem_mem hj)
    have hb := wordsOf_bitsOf_get n L j (by omega)
    rw [wordsOf_get _ _ (by rw [bitsOf_len]; omega)] at hb
    have hb' := Option.some.inj hb
    have e : ((flipped (bitsOf n L)).drop (64 * j)).take 64 = flipped (((bitsOf n L).drop (64 * j)).take 64) := by simp [flipped, List.map_drop, List.map_take]
    have hv := val_flipped (((bitsOf n L).drop (64 * j)).take 64) (((bitsOf_bits n L).drop _).take _)
    have hlen : (((bitsOf n L).drop (64 * j)).take 64).length = min 64 (n - 64 * j) := by rw [List.length_take, List.length_drop, bitsOf_len]
    rw [hb', hlen] at hv
    rw [e]
    simp only [flipW, List.getElem?_map, List.getElem?_range hj, Option.map_some]
    congr 1
    rw [mod_flip _ _ hx (Nat.min_le_left _ _)]
    omega
  · rw [List.getElem?_eq_none (by simp [flipW]; omega), List.getElem?_eq_none (by rw [wordsOf_len, hfl]; omega)]

theorem flipW_len (n : Nat) (L : List Nat) : (flipW n L).length = L.length := by simp [flipW]
theorem flipW_get (n : Nat) (L : List Nat) (j x : Nat) (h : L[j]? = some x) : (flipW n L)[j]? = some ((18446744073709551615 - x) % 2 ^ (min 64 (n - 64 * j))) := by
  have hj := (List.getElem?_eq_some_iff.1 h).1
  simp only [flipW, List.getElem?_map, List.getElem?_range hj, Option.map_some]
  rw [List.getD_eq_getElem?_getD, h, Option.getD_some]

end Go.Proofs.YtlbnngolcoefdaaDoor
