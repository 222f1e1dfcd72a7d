/- The order of the suffixes as a function value, called; the sort. -/
import Derived.Test.YtkjelakdejbolaaSfI1
namespace Go.Proofs.Ytkjelakdejbolaa
open Go.RowKit Go.Sort
set_option maxRecDepth 100000

theorem getD_of {Q : List Int} {i : Nat} {z : Int} (h : Q[i]? = some z) : Q.getD i 0 = z := by rw [List.getD_eq_getElem?_getD, h]; rfl

set_option maxHeartbeats 1600000 in
theorem ordC (b0 b1 b2 : Nat) (AR : Option Addr) (cR n s : Nat) (L : List Nat) (Q : List Int) (i j : Nat) (W : World) (Hn : Hid (L.length = n)) (hn : n ≤ 300) (hs : s ≤ 300) (hO : OrdAt W b0 b1 b2 AR cR n s Q) (hR : Ranks L s (fun i => Q.getD i 0)) (hi : i ≤ n) (hj : j ≤ n) :
    Calls Try.prog 61 #[.int .i64 i, .int .i64 j, .pointer (some ⟨b0, 0, none⟩), .pointer (some ⟨b1, 0, none⟩), .pointer (some ⟨b2, 0, none⟩)] W fun e w' => e = .returned (.int .i64 (lcmp ((L.drop i).take (s + s)) ((L.drop j).take (s + s)))) ∧ ∃ q, w' = W.drewN q := by
  have HV := Lib.hid (cfD_is hR (i := i) (j := j) (by rw [Hn.out]; exact hi) (by rw [Hn.out]; exact hj))
  obtain ⟨hl, c0, c1, c2, row⟩ := hO
  obtain ⟨p, hp⟩ : ∃ p, min (i + s) n = p := ⟨_, rfl⟩
  obtain ⟨r, hr⟩ : ∃ r, min (j + s) n = r := ⟨_, rfl⟩
  unfold cfD at HV
  rw [Hn.out, hp, hr] at HV
  have hp2 : p ≤ n := by omega
  have hr2 : r ≤ n := by omega
  obtain ⟨b, o, zi, hAR, hbl, hzi, hci⟩ := row.at_ (i := i) (by omega)
  obtain ⟨b', o', zj, hAR', _, hzj, hcj⟩ := row.at_ (i := j) (by omega)
  obtain ⟨b'', o'', zp, hAR'', _, hzp, hcp⟩ := row.at_ (i := p) (by omega)
  obtain ⟨b3, o3, zr, hAR3, _, hzr, hcr⟩ := row.at_ (i := r) (by omega)
  subst hAR
  cases hAR'
  cases hAR''
  cases hAR3
  simp only [getD_of hzi, getD_of hzj, getD_of hzp, getD_of hzr] at HV
  generalize lcmp ((L.drop i).take (s + s)) ((L.drop j).take (s + s)) = v at *
  have hm1 : IntKind.i64.wrap ((i : Int) + (s : Int)) = (i : Int) + (s : Int) := IntWalk.i64_in _ (by omega)
  have hm2 : IntKind.i64.wrap ((j : Int) + (s : Int)) = (j : Int) + (s : Int) := IntWalk.i64_in _ (by omega)
  have hm5 : min ((i : Int) + (s : Int)) (n : Int) = (p : Int) := by omega
  have hm6 : min ((j : Int) + (s : Int)) (n : Int) = (r : Int) := by omega
  have HC := Lib.hid fun (x y : Int) (W' : World) => Try.cmp_Compare_int x y W'
  have hp3 : p < n + 1 := by omega
  have hr3 : r < n + 1 := by omega
  have hp4 : (p : Int) < (n : Int) + 1 := by omega
  have hr4 : (r : Int) < (n : Int) + 1 := by omega
  clear row hzi hzj hzp hzr hp hr
  go_enter Try.func61, Try.ntmps61
  go_wp2
  go_quiet ((go_at_call 62; exact Calls.quiet_of_same (HC.out _ _ _)))
  by_cases h0 : Lib.compareInt zi zj = 0
  · have HV2 : Hid (Lib.compareInt zp zr = v) := Lib.hid (by have := HV.out; rw [if_pos h0] at this; exact this)
    have hne : (Lib.compareInt zi zj != 0) = false := by simp [h0]
    go_wp2
    go_quiet ((go_at_call 62; exact (HC.out _ _ _).mono fun _ _ h => ⟨h.1, _, h.2⟩))
    go_wp2
    go_ret
    exact ⟨ret_int HV2.out, Drawn.two _ _ _⟩
  · have HV2 : Hid (Lib.compareInt zi zj = v) := Lib.hid (by have := HV.out; rw [if_neg h0] at this; exact this)
    have hne : (Lib.compareInt zi zj != 0) = true := by simp [h0]
    go_wp2
    go_ret
    exact ⟨ret_int HV2.out, _, rfl⟩

/-! ### The sort -/

section
variable {α : Type} [Inhabited α] (enc : α → Value) (w : World) (g m : Nat) (d : Array α) (os : Array Obj)

theorem sortW_block (b : Nat) (hb : b < w.heap.size) (hne : b ≠ g) : (sortWorld enc w g 0 m d os).heap[b]? = w.heap[b]? := by
  show ((w.heap.modify g (onCells (putCells enc 0 d))) ++ os)[b]? = _
  rw [Array.getElem?_append_left (by simpa using hb), Array.getElem?_modify, if_neg (fun e => hne e.symm)]
theorem sortW_row {cs : Array Value} {t : TypeId} {fz : Nat × Nat} (h : w.heap[g]? = some (.cells cs t fz)) (hs : cs.size = d.size) : (sortWorld enc w g 0 m d os).heap[g]? = some (.cells (d.map enc) t fz) := by
  have hg : g < w.heap.size := (Array.getElem?_eq_some_iff.1 h).1
  show ((w.heap.modify g (onCells (putCells enc 0 d))) ++ os)[g]? = _
  rw [Array.getElem?_append_left (by simpa using hg), Array.getElem?_modify, if_pos rfl, h]
  show some (Obj.cells (putCells enc 0 d cs) t fz) = _
  congr 2
  apply Array.ext_getElem?
  intro k
  unfold putCells
  rw [Array.getElem?_mapIdx, Array.getElem?_map]
  by_cases hk : k < d.size
  · rw [Array.getElem?_eq_getElem (by omega), Array.getElem?_eq_getElem hk]
    simp only [Option.map_some]
    rw [if_pos ⟨Nat.zero_le _, by omega⟩, Nat.sub_zero, getElem!_pos d k hk]
  · rw [Array.getElem?_eq_none (by omega), Array.getElem?_eq_none (by omega)]
    rfl
theorem sortW_grown : w.grownBy (sortWorld enc w g 0 m d os) (some g) := by
  refine ⟨rfl, rfl, rfl, ?_, fun k hk hne => sortW_block enc w g m d os k hk fun e => hne (by rw [e])⟩
  show w.heap.size ≤ ((w.heap.modify g (onCells (putCells enc 0 d))) ++ os).size
  simp
end

/-- The suffix's first m bytes. -/
def keyS (L : List Nat) (m i : Nat) : List Nat := (L.drop i).take m
theorem swo_key {n : Nat} (L : List Nat) (m : Nat) : SWO (ltOf fun i j : Fin (n + 1) => lcmp (keyS L m i.val) (keyS L m j.val)) where
  irrefl x := by
    show decide (lcmp (keyS L m x.val) (keyS L m x.val) < 0) = false
    rw [lcmp_self]
    rfl
  trans x y z h1 h2 := by
    unfold ltOf at *
    simp only [decide_eq_true_iff] at *
    exact lcmp_lt_le h1 (by omega)
  ntrans x y z h1 h2 := by
    unfold ltOf at *
    simp only [decide_eq_false_iff_not] at *
    intro h
    have a := lcmp_swap (keyS L m x.val) (keyS L m y.val)
    have b := lcmp_swap (keyS L m y.val) (keyS L m z.val)
    have c := lcmp_le_trans (a := keyS L m z.val) (b := keyS L m y.val) (c := keyS L m x.val) (by omega) (by omega)
    have d := lcmp_swap (keyS L m x.val) (keyS L m z.val)
    omega

/-- A list of numbers below n + 1 as an array of such. -/
def finA (n : Nat) (M : List Nat) : Array (Fin (n + 1)) := (M.map (Fin.ofNat (n + 1))).toArray
theorem finA_val {n : Nat} {M : List Nat} (h : ∀ x ∈ M, x ≤ n) : (finA n M).toList.map Fin.val = M := by
  unfold finA
  rw [List.toList_toArray, List.map_map]
  conv => rhs; rw [← List.map_id M]
  refine List.map_congr_left fun x hx => ?_
  have := h x hx
  simp
  omega
abbrev encF (n : Nat) (x : Fin (n + 1)) : Value := I ((x.val : Nat) : Int)
theorem finA_enc {n : Nat} (d : Array (Fin (n + 1))) : (d.map (encF n)).toList = ((d.toList.map Fin.val).map Int.ofNat).map I := by
  rw [Array.toList_map, List.map_map, List.map_map]
  rfl

theorem near_of {n m : Nat} {L M : List Nat} {d d' : Array (Fin (n + 1))} (hn : L.length = n) (hM : M.Perm (List.range (n + 1))) (hd : d.toList.map Fin.val = M) (hp : PermIn 0 d.size d d') (hs : SortedIn (ltOf fun i j : Fin (n + 1) => lcmp (keyS L m i.val) (keyS L m j.val)) 0 d.size d') :
    Near L m (d'.toList.map Fin.val) := by
  have hsz : d'.size = d.size := hp.1
  have hpl : d'.toList.Perm d.toList := by
    have := hp.2.2
    rw [Array.extract_eq_self_of_le (by omega), Array.extract_eq_self_of_le (by omega)] at this
    exact this
  refine ⟨?_, ?_⟩
  · rw [hn]
    refine (hpl.map Fin.val).trans ?_
    rw [hd]
    exact hM
  · refine List.pairwise_iff_getElem.2 fun i j hi hj hij => ?_
    simp only [List.length_map, Array.length_toList] at hi hj
    have := hs i j (Nat.zero_le _) hij (by omega)
    rw [getElem!_pos d' i (by omega), getElem!_pos d' j (by omega)] at this
    unfold ltOf at this
    simp only [decide_eq_false_iff_not] at this
    rw [List.getElem_map, List.getElem_map, Array.getElem_toList, Array.getElem_toList]
    have h2 := lcmp_swap (keyS L m d'[i].val) (keyS L m d'[j].val)
    show lcmp (keyS L m d'[i].val) (keyS L m d'[j].val) ≤ 0
    omega

end Go.Proofs.Ytkjelakdejbolaa
