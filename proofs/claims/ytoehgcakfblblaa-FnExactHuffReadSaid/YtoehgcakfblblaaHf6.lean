/- HuffCodes of the program. -/
import Derived.Test.YtoehgcakfblblaaHf5
import Derived.Deep.RegionWith
import Derived.Deep.RegionHeld3
namespace Go.Proofs.Ytoehgcakfblblaa
open Go.RowKit
set_option maxRecDepth 100000

/-! ### Sums over the symbols in order -/
def lsum (f : Nat → Nat) : List Nat → Nat
  | [] => 0
  | x :: r => f x + lsum f r
theorem lsum_app (f : Nat → Nat) (a b : List Nat) : lsum f (a ++ b) = lsum f a + lsum f b := by
  induction a with
  | nil => simp [lsum]
  | cons x a ih => rw [List.cons_append, lsum, lsum, ih]; omega
theorem lsum_perm (f : Nat → Nat) {a b : List Nat} (h : a.Perm b) : lsum f a = lsum f b := by
  induction h with
  | nil => rfl
  | cons x _ ih => rw [lsum, lsum, ih]
  | swap x y l => rw [lsum, lsum, lsum, lsum]; omega
  | trans _ _ ih1 ih2 => exact ih1.trans ih2
theorem lsum_congr {f g : Nat → Nat} {a : List Nat} (h : ∀ x ∈ a, f x = g x) : lsum f a = lsum g a := by
  induction a with
  | nil => rfl
  | cons x a ih => rw [lsum, lsum, h x (by simp), ih fun y hy => h y (by simp [hy])]
theorem lsum_zero {f : Nat → Nat} {a : List Nat} (h : ∀ x ∈ a, f x = 0) : lsum f a = 0 := by
  induction a with
  | nil => rfl
  | cons x a ih => rw [lsum, h x (by simp), ih fun y hy => h y (by simp [hy])]
theorem rs_lsum (f : Nat → Nat) (n : Nat) : rs f n = lsum f (List.range n) := by
  induction n with
  | zero => rfl
  | succ n ih => rw [rs, List.range_succ, lsum_app, ih]; simp [lsum]
theorem lsum_filter {f : Nat → Nat} {p : Nat → Bool} {a : List Nat} (h : ∀ x ∈ a, p x = false → f x = 0) : lsum f (a.filter p) = lsum f a := by
  induction a with
  | nil => rfl
  | cons x a ih =>
    have ih' := ih fun y hy => h y (by simp [hy])
    cases e : p x with
    | true => rw [List.filter_cons_of_pos e, lsum, lsum, ih']
    | false => rw [List.filter_cons_of_neg (by simp [e]), lsum, ih', h x (by simp) e]; omega

/-- What the symbols before the k-th in order weigh. -/
def psum (L : List Int) (s : List Nat) (k : Nat) : Nat := lsum (fun j => hw (gl L j)) (s.take k)
theorem psum_succ {L : List Int} {s : List Nat} {k x : Nat} (h : s[k]? = some x) : psum L s (k + 1) = psum L s k + hw (gl L x) := by
  obtain ⟨h1, h2⟩ := List.getElem?_eq_some_iff.mp h
  rw [psum, psum, List.take_succ_eq_append_getElem h1, lsum_app, h2]
  simp [lsum]
theorem CodeOrd.mem {L : List Int} {s : List Nat} (h : CodeOrd L s) {x : Nat} : x ∈ s ↔ x < L.length ∧ 0 < gl L x := h.1.mem_iff.trans symL_mem
theorem CodeOrd.pos {L : List Int} {s : List Nat} (h : CodeOrd L s) {k x : Nat} (hx : s[k]? = some x) : psum L s k = hpos L (gl L x) x := by
  obtain ⟨h1, h2⟩ := List.getElem?_eq_some_iff.mp hx
  have e1 : hpos L (gl L x) x = lsum (fun j => if bef L (gl L x) x j then hw (gl L j) else 0) s := by
    rw [hpos, rs_lsum, lsum_perm _ h.1, symL]
    refine (lsum_filter fun y _ hy => ?_).symm
    rw [if_neg]
    unfold bef
    simp only [decide_eq_false_iff_not] at hy
    exact fun e => hy e.1
  have e2 : s = s.take k ++ s.drop k := (List.take_append_drop k s).symm
  rw [e1]
  conv => rhs; rw [e2]
  rw [lsum_app]
  have z : lsum (fun j => if bef L (gl L x) x j then hw (gl L j) else 0) (s.drop k) = 0 := lsum_zero fun y hy => by
    obtain ⟨i, hi⟩ := List.mem_iff_getElem?.1 hy
    rw [List.getElem?_drop] at hi
    refine if_neg ?_
    rcases Nat.eq_zero_or_pos i with h0 | h0
    · subst h0
      rw [Nat.add_zero, hx] at hi
      cases hi
      unfold bef; omega
    · have := h.2 k (k + i) x y (by omega) hx hi
      unfold bef; omega
  rw [z, Nat.add_zero, psum]
  refine lsum_congr fun y hy => ?_
  obtain ⟨i, hi⟩ := List.mem_iff_getElem?.1 hy
  have hik : i < k := by
    have := (List.getElem?_eq_some_iff.1 hi).1
    rw [List.length_take] at this
    omega
  rw [List.getElem?_take_of_lt hik] at hi
  have hy0 := (h.mem.mp (List.mem_of_getElem? hi)).2
  have := h.2 i k y x hik hi hx
  rw [if_pos (by unfold bef; omega)]

/-- The codes when k symbols have been given theirs. -/
def cList (L : List Int) (s : List Nat) (k : Nat) : List Int := (List.range L.length).map fun j => if j ∈ s.take k then (hcode L j : Int) else 0
theorem cList_len (L : List Int) (s : List Nat) (k : Nat) : (cList L s k).length = L.length := by simp [cList]
theorem cList_zero (L : List Int) (s : List Nat) : cList L s 0 = List.replicate L.length 0 := by
  unfold cList
  simp [List.map_const']
theorem cList_set {L : List Int} {s : List Nat} {k x : Nat} (h : s[k]? = some x) : (cList L s k).set x (hcode L x : Int) = cList L s (k + 1) := by
  obtain ⟨h1, h2⟩ := List.getElem?_eq_some_iff.mp h
  refine List.ext_getElem? fun j => ?_
  by_cases hj : j < L.length
  · rw [List.getElem?_set]
    simp only [cList_len, cList, List.getElem?_map, List.getElem?_range hj, Option.map_some, List.take_succ_eq_append_getElem h1, h2, List.mem_append, List.mem_singleton]
    by_cases e : x = j
    · subst e; simp [hj]
    · simp [e, Ne.symm e, show ¬ j = x from fun h => e h.symm]
  · rw [List.getElem?_eq_none (by rw [List.length_set, cList_len]; omega), List.getElem?_eq_none (by rw [cList_len]; omega)]
theorem cList_end {L : List Int} {s : List Nat} (h : CodeOrd L s) : cList L s s.length = hcodes L := by
  refine List.map_congr_left fun j hj => ?_
  have hj := List.mem_range.mp hj
  rw [List.take_length]
  have : j ∈ s ↔ 0 < gl L j := h.mem.trans ⟨fun e => e.2, fun e => ⟨hj, e⟩⟩
  simp only [this]

/-- The next code and the length before, when k symbols have been given theirs. -/
structure NextP (L : List Int) (s : List Nat) (k nx bf : Nat) : Prop where
  sum : nx * 2 ^ (60 - bf) = psum L s k
  le : bf ≤ 60
  low : ∀ (p y : Nat), k ≤ p → s[p]? = some y → (bf : Int) ≤ gl L y
theorem NextP.start (L : List Int) (ok : okH L = true) (s : List Nat) (h : CodeOrd L s) : NextP L s 0 0 0 :=
  ⟨by simp [psum, lsum], by omega, fun p y _ hy => by have := (h.mem.mp (List.mem_of_getElem? hy)).2; omega⟩
theorem NextP.code {L : List Int} {s : List Nat} {k nx bf x l : Nat} (ok : okH L = true) (h : NextP L s k nx bf) (ho : CodeOrd L s) (hx : s[k]? = some x) (hl : gl L x = (l : Int)) : nx * 2 ^ (l - bf) = hcode L x ∧ NextP L s (k + 1) (hcode L x + 1) l := by
  have hm := ho.mem.mp (List.mem_of_getElem? hx)
  have hl60 := (okH_all ok _ (gl_mem hm.1)).2
  have hlow := h.low k x (Nat.le_refl _) hx
  rw [hl] at hl60 hlow
  have hl0 : 0 < l := by have := hm.2; omega
  have hw60 : hw (l : Int) = 2 ^ (60 - l) := by rw [hw_pos (by omega)]; congr 1; omega
  have e : nx * 2 ^ (l - bf) = hcode L x := by
    refine hcode_is hm.2 ?_
    rw [hl, ← hl, ← ho.pos hx, ← h.sum, hl, hw60, Nat.mul_assoc, ← Nat.pow_add]
    congr 2
    omega
  refine ⟨e, ?_, by omega, fun p y hp hy => ?_⟩
  · have h2 := hcode_mul L x (by omega)
    rw [hl, ← hl, ← ho.pos hx, hl, hw60] at h2
    rw [psum_succ hx, hl, hw60, Nat.add_mul, Nat.one_mul, h2]
  · have := ho.2 k p x y (by omega) hx hy
    omega

theorem run_shl_h {P : Program} (t : TypeId) (x r : Nat) (hr : r ≤ 62) (hx : x * 2 ^ r ≤ 2305843009213693952) (W : World) : (binOp .shl t (.int .i64 (x : Int)) (.int .i64 (r : Int))).run P W = .ok (.int .i64 ((x * 2 ^ r : Nat) : Int)) W := by
  have h : min r 64 = r := by omega
  have h3 : ((x * 2 ^ r : Nat) : Int) = (x : Int) * (2 : Int) ^ r := by simp
  simp [binOp, Op.shift, IntKind.bits, h]
  rw [← h3]
  generalize x * 2 ^ r = p at *
  exact IntWalk.i64_in _ (by omega)

/-! ### The walks -/
def symI (L : List Int) (k : Nat) : List Int := (symL L k).map Int.ofNat
theorem symI_yes {L : List Int} {k : Nat} (h : 0 < gl L k) : symI L k ++ [(k : Int)] = symI L (k + 1) := symL_yes h
theorem symI_no {L : List Int} {k : Nat} (h : ¬ 0 < gl L k) : symI L k = symI L (k + 1) := symL_no h
theorem symI_len (L : List Int) (k : Nat) : (symI L k).length ≤ k := symL_len L k
set_option maxHeartbeats 3200000 in
theorem byLength_any (A : Option Addr) (n c : Nat) (L : List Int) (w : World) (hL : Lies w I A L) (Hn : Hid (L.length = n)) (ok : okH L = true) :
    Calls Try.prog 88 #[.slice A n c] w fun e w' => ∃ s : List Nat, CodeOrd L s ∧ NewI w (s.map Int.ofNat) e w' := by
  have HL := Lib.hid hL
  have hn := okH_len ok
  rw [Hn.out] at hn
  have hne := symL_some ok
  rw [Hn.out] at hne
  have HNe := Lib.hid hne
  have HX : Hid (Box (w.alloc (.cells #[.slice A n c] 24)) w.heap.size 24 #[.slice A n c]) := Lib.hid (Box.made _ _ _)
  have HB : Hid (Below w.heap.size w (w.alloc (.cells #[.slice A n c] 24))) := Lib.hid ((Below.refl _ _).alloc (Nat.le_refl _) _)
  have HS : Hid (w.heap.size + 1 ≤ (w.alloc (.cells #[.slice A n c] 24)).heap.size) := Lib.hid (by rw [World.size_alloc]; omega)
  clear hL ok hne
  go_enter Try.func88, Try.ntmps88
  go_wp2_with fail
  generalize w.alloc (.cells #[.slice A n c] 24) = w1 at *
  have HO0 : Hid (w1.ownsRow (w.heap.size + 1) 3 1 (.slice none 0 0) (symI L 0).length ((symI L 0).map I)) := Lib.hid ⟨rfl, .inl ⟨rfl, rfl⟩⟩
  go_loopw [3, 8] (fun v i wr => ∃ k : Nat, k ≤ n ∧ i = .int .i64 k ∧ Hid (wr.ownsRow (w.heap.size + 1) 3 1 v (symI L k).length ((symI L k).map I)) ∧ Hid (Box wr w.heap.size 24 #[.slice A n c]) ∧ Hid (Below w.heap.size w wr) ∧ Hid (w.heap.size + 1 ≤ wr.heap.size)) (fun _ i _ => n - (intOf i).toNat)
  case atStart => exact ⟨0, Nat.zero_le _, rfl, HO0, HX, HB, HS⟩
  case round =>
    clear HO0 HX HB HS
    obtain ⟨k, hk, rfl, HO, HX, HB, HS⟩ := hrel
    by_cases hlt : k < n
    · obtain ⟨b, o, x, hA, hbl, hx, hc⟩ := (HL.out.below HB.out).at_ (i := k) (by rw [Hn.out]; exact hlt)
      subst hA
      have hgx := gl_eq hx
      have hln := symI_len L k
      clear hx
      by_cases hx0 : 0 < x
      · have d0 : decide (0 < x) = true := decide_eq_true hx0
        have HE := Lib.hid (symI_yes (L := L) (k := k) (by rw [hgx]; exact hx0))
        have HSw := HS.out
        clear hgx
        go_wp2_with (at_builtin; refine wpList_pushI rfl _ _ rfl (w.heap.size + 1) _ _ _ rfl HO.out (k : Int) rfl HSw (by omega) _ HE.out ?_)
        intro A4 c4 w4 ho4 hg4
        have HO4 := Lib.hid ho4
        have HB4 := Lib.hid (HB.out.trans (grown_below HO.out hg4 (Nat.le_succ _) HB.out.size))
        have HX4 := Lib.hid (HX.out.grown hg4 fun e => by have := (HO.out.lt _ e).1; omega)
        have HS4 : Hid (w.heap.size + 1 ≤ w4.heap.size) := Lib.hid (Nat.le_trans HS.out hg4.size)
        clear ho4 hg4 HO HB HX HS HSw
        go_wp2
        go_roundw
        case rel => exact ⟨k + 1, by omega, by go_num, HO4, HX4, HB4, HS4⟩
        case measure => simp [intOf]; omega
      · have d0 : decide (0 < x) = false := decide_eq_false hx0
        have HE := Lib.hid (symI_no (L := L) (k := k) (by rw [hgx]; exact hx0))
        clear hgx
        go_wp2
        go_roundw
        case rel => exact ⟨k + 1, by omega, by go_num, by rw [← HE.out]; exact HO, HX, HB, HS⟩
        case measure => simp [intOf]; omega
    · obtain rfl : k = n := by omega
      obtain ⟨A5, cap, rfl⟩ := own_slice HO.out
      have hshape : ∃ g, A5 = some ⟨g, 0, none⟩ ∧ w.heap.size + 1 ≤ g := by
        rcases HO.out.2 with ⟨_, h⟩ | ⟨g, cap', cur, hv, hb, _⟩
        · exact absurd (by
            have h2 : (symI L k).length = 0 := h
            unfold symI at h2
            rw [List.length_map] at h2
            exact List.length_eq_zero_iff.1 h2) HNe.out
        · cases hv
          exact ⟨g, rfl, hb⟩
      obtain ⟨g, rfl, hg⟩ := hshape
      have x0 := HX.out.cell 0
      have xl := HX.out.lt
      simp only [List.getElem?_toArray, List.getElem?_cons_zero] at x0
      have HSt := Lib.hid (sortH_any w.heap.size g k c (w.heap.size + 1) cap A L wr Hn hn x0 xl (by omega) (HL.out.below HB.out) (fun b o hA e => by
        have hk0 : 0 < k := by
          rcases Nat.eq_zero_or_pos k with h | h
          · exact absurd (by rw [h]; rfl) HNe.out
          · exact h
        obtain ⟨b', o', _, hA', hb', _⟩ := HL.out.at_ (i := 0) (by rw [Hn.out]; exact hk0)
        rw [hA] at hA'
        cases hA'
        omega) HNe.out HO.out)
      have hlk : ((symL L k).map Int.ofNat).length = (symI L k).length := rfl
      rw [hlk] at HSt
      clear hlk
      obtain ⟨N, hN⟩ : ∃ N, (symI L k).length = N := ⟨_, rfl⟩
      rw [hN] at HSt ⊢
      clear HO hN x0 xl
      go_wp2_with fail
      refine HSt.out.mono ?_
      rintro e w2 ⟨rfl, s, hs, hl, ho, hg2⟩
      have HF : Hid (∃ s : List Nat, CodeOrd L s ∧ NewI w (s.map Int.ofNat) (.returned (.slice (some ⟨g, 0, none⟩) N cap)) w2) := Lib.hid ⟨s, hs, some ⟨g, 0, none⟩, cap, by rw [hl], own_mono ho (Nat.le_succ _), HB.out.trans ⟨hg2.os, hg2.tape, hg2.output, hg2.size, fun k' hk' => hg2.block k' (Nat.lt_of_lt_of_le hk' HB.out.size) fun e => by
        have := Option.some.inj e
        omega⟩⟩
      clear hs hl ho hg2 HSt
      go_wp2
      go_ret
      exact HF.out

end Go.Proofs.Ytoehgcakfblblaa
