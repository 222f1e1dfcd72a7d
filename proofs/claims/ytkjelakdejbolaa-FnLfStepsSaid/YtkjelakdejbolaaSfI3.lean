/- The suffixes sorted by twice as many bytes, and ranked anew. -/
import Derived.Test.YtkjelakdejbolaaSfI2
namespace Go.Proofs.Ytkjelakdejbolaa
open Go.RowKit Go.Sort
set_option maxRecDepth 100000

/-- The boxes outlive what leaves their blocks alone. -/
theorem OrdAt.turn {W W' : World} {b0 b1 b2 : Nat} {AR : Option Addr} {cR n s : Nat} {Q : List Int} (h : OrdAt W b0 b1 b2 AR cR n s Q) (hs : W.heap.size ≤ W'.heap.size) (hk : ∀ k, k < W.heap.size → (k = b0 ∨ k = b1 ∨ k = b2 ∨ ∃ o, AR = some ⟨k, o, none⟩) → W'.heap[k]? = W.heap[k]?) (l0 : b0 < W.heap.size) (l1 : b1 < W.heap.size) (l2 : b2 < W.heap.size) : OrdAt W' b0 b1 b2 AR cR n s Q := by
  refine ⟨h.l, ?_, ?_, ?_, fun i x hx => ?_⟩
  · rw [World.cell?_of_block (a := ⟨b0, 0, none⟩) (hk b0 l0 (.inl rfl))]; exact h.c0
  · rw [World.cell?_of_block (a := ⟨b1, 0, none⟩) (hk b1 l1 (.inr (.inl rfl)))]; exact h.c1
  · rw [World.cell?_of_block (a := ⟨b2, 0, none⟩) (hk b2 l2 (.inr (.inr (.inl rfl))))]; exact h.c2
  · obtain ⟨b, o, h1, h2, h3⟩ := h.row i x hx
    exact ⟨b, o, h1, by omega, by rw [World.cell?_of_block (a := ⟨b, o + i, none⟩) (hk b h2 (.inr (.inr (.inr ⟨o, h1⟩))))]; exact h3⟩

/-- Where the boxes lie: in blocks that are there, none of them the row's. -/
structure OrdApart (W : World) (g b0 b1 b2 : Nat) (AR : Option Addr) : Prop where
  l0 : b0 < W.heap.size
  l1 : b1 < W.heap.size
  l2 : b2 < W.heap.size
  n0 : b0 ≠ g
  n1 : b1 ≠ g
  n2 : b2 ≠ g
  nr : ∀ b o, AR = some ⟨b, o, none⟩ → b ≠ g

theorem OrdApart.keep {W W' : World} {g b0 b1 b2 : Nat} {AR : Option Addr} {cR n s : Nat} {Q : List Int} (ha : OrdApart W g b0 b1 b2 AR) (h : OrdAt W b0 b1 b2 AR cR n s Q) (hg : W.grownBy W' (some g)) : OrdAt W' b0 b1 b2 AR cR n s Q :=
  h.turn hg.size (fun k hk hc => hg.block k hk fun e => by
    have e := Option.some.inj e
    rcases hc with rfl | rfl | rfl | ⟨o, ho⟩
    · exact ha.n0 e
    · exact ha.n1 e
    · exact ha.n2 e
    · exact ha.nr _ _ ho e) ha.l0 ha.l1 ha.l2

theorem sortRows (g n s base b0 b1 b2 : Nat) (AR : Option Addr) (cR : Nat) (L M : List Nat) (Q : List Int) (w : World) (Hn : Hid (L.length = n)) (hn : n ≤ 300) (hs : s ≤ 300) (hO : OrdAt w b0 b1 b2 AR cR n s Q) (ha : OrdApart w g b0 b1 b2 AR) (hR : Ranks L s (fun i => Q.getD i 0))
    (ho : w.ownsRow base 3 1 (.slice (some ⟨g, 0, none⟩) (n + 1) (n + 1)) (n + 1) ((M.map Int.ofNat).map I)) (hM : M.Perm (List.range (n + 1))) :
    Calls Try.prog 57 #[.slice (some ⟨g, 0, none⟩) (n + 1) (n + 1), .func (.func 61) #[] (ordB b0 b1 b2)] w fun e w' => e = .returned (.tuple #[]) ∧ ∃ M', Near L (s + s) M' ∧
      w'.ownsRow base 3 1 (.slice (some ⟨g, 0, none⟩) (n + 1) (n + 1)) (n + 1) ((M'.map Int.ofNat).map I) ∧ w.grownBy w' (some g) := by
  have hMl : M.length = n + 1 := by rw [hM.length_eq, List.length_range]
  have hMx : ∀ x ∈ M, x ≤ n := fun x hx => by
    have := List.mem_range.1 (hM.mem_iff.1 hx)
    omega
  obtain ⟨d, hd⟩ : ∃ d, finA n M = d := ⟨_, rfl⟩
  have hdv : d.toList.map Fin.val = M := by rw [← hd]; exact finA_val hMx
  have hds : d.size = n + 1 := by
    have := congrArg List.length hdv
    simp at this
    omega
  have hrow : ∃ cur, w.heap[g]? = some (.cells cur 3 (0, 0)) ∧ cur.size = n + 1 ∧ base ≤ g := by
    rcases ho.2 with ⟨h, _⟩ | ⟨g', cap, cur, hv, hb, hg, _, _, hsz, _⟩
    · cases h
    · cases hv
      exact ⟨cur, hg, by omega, hb⟩
  obtain ⟨cur, hgc, hcs, hbg⟩ := hrow
  have hgl : g < w.heap.size := (Array.getElem?_eq_some_iff.1 hgc).1
  have hH : Holds (encF n) w g 0 d := fun j hj => by
    rw [Nat.zero_add]
    refine ⟨?_, ho.frozenAt j⟩
    rw [ho.cellAt j (by omega), ← hdv, getElem!_pos d j hj]
    simp [hj]
  have eg : ∀ args w, (callFunc 61 args).run Try.prog w = .ok (.enter 61 args) w := enters_of Try.func61 (by kernel_rfl) rfl
  have hcmp : CmpReads Try.prog 61 (ordB b0 b1 b2) (encF n) (fun i j : Fin (n + 1) => lcmp (keyS L (s + s) i.val) (keyS L (s + s) j.val)) g 0 d.size w := fun m os dk hdk x y => by
    have hO2 := ha.keep hO (sortW_grown (encF n) w g m dk os)
    exact ordC b0 b1 b2 AR cR n s L Q x.val y.val _ Hn hn hs hO2 hR (by omega) (by omega)
  have h := Try.slices_SortFunc (encF n) (fun _ => rfl) (fun i j : Fin (n + 1) => lcmp (keyS L (s + s) i.val) (keyS L (s + s) j.val)) (swo_key L (s + s)) 61 (ordB b0 b1 b2) g 0 (n + 1) d w eg hcmp.lays hH hgl (by omega)
  rw [hds] at h
  refine h.mono fun e w' ⟨he, d', q, os, hp, hso, hw⟩ => ⟨he, d'.toList.map Fin.val, ?_, ?_, ?_⟩
  · exact near_of Hn.out hM hdv (by rw [hds]; exact hp) (by rw [hds]; exact hso)
  · have hd's : d'.size = n + 1 := by rw [hp.1, hds]
    have hr := sortW_row (encF n) w g q d' os hgc (by omega)
    rw [← hw] at hr
    refine ⟨by simp [hd's], .inr ⟨g, n + 1, _, rfl, hbg, hr, Nat.le_refl _, by unfold maxLen; omega, by simp [hd's], ?_⟩⟩
    rw [finA_enc, List.take_of_length_le (by simp [hd's])]
  · rw [hw]
    exact sortW_grown (encF n) w g q d' os

/-- How newRanks tells two suffixes apart. -/
abbrev cS (L : List Nat) (m : Nat) (i j : Nat) : Int := lcmp (keyS L m i) (keyS L m j)

theorem getD_set {Q : List Int} {x i : Nat} {z : Int} (hx : x < Q.length) : (Q.set x z).getD i 0 = if i = x then z else Q.getD i 0 := by
  rw [List.getD_eq_getElem?_getD, List.getElem?_set]
  by_cases e : x = i
  · subst e
    rw [if_pos rfl, if_pos hx, if_pos rfl]
    rfl
  · rw [if_neg e, if_neg (fun h => e h.symm), List.getD_eq_getElem?_getD]
theorem getM {M : List Nat} {k x : Nat} (h : M[k]? = some x) : M.getD k 0 = x := by rw [List.getD_eq_getElem?_getD, h]; rfl

set_option maxHeartbeats 1600000 in
theorem newRanks_any (g n s b0 b1 b2 : Nat) (AR : Option Addr) (cR : Nat) (L M : List Nat) (Q : List Int) (w : World) (Hn : Hid (L.length = n)) (hn : n ≤ 300) (hs : s ≤ 300) (hO : OrdAt w b0 b1 b2 AR cR n s Q) (l0 : b0 < w.heap.size) (l1 : b1 < w.heap.size) (l2 : b2 < w.heap.size) (hR : Ranks L s (fun i => Q.getD i 0))
    (hL : Lies w I (some ⟨g, 0, none⟩) (M.map Int.ofNat)) (hM : M.Perm (List.range (n + 1))) :
    Calls Try.prog 58 #[.slice (some ⟨g, 0, none⟩) (n + 1) (n + 1), .func (.func 61) #[] (ordB b0 b1 b2)] w fun e w' => (∃ Q' : List Int, e = .returned (.slice (some ⟨w.heap.size, 0, none⟩) (n + 1) (n + 1)) ∧
      w'.ownsRow w.heap.size 3 1 (.slice (some ⟨w.heap.size, 0, none⟩) (n + 1) (n + 1)) (n + 1) (Q'.map I) ∧ Q'.length = n + 1 ∧ ∀ k, k ≤ n → Q'.getD (M.getD k 0) 0 = (incs (cS L (s + s)) M k : Nat)) ∧ Below w.heap.size w w' := by
  have hMl : M.length = n + 1 := by rw [hM.length_eq, List.length_range]
  have HMx : Hid (∀ x ∈ M, x ≤ n) := Lib.hid fun x hx => by
    have := List.mem_range.1 (hM.mem_iff.1 hx)
    omega
  have HMn : Hid M.Nodup := Lib.hid (hM.nodup_iff.2 List.nodup_range)
  have HMl := Lib.hid hMl
  have HL := Lib.hid hL
  have HC : Hid (∀ W, Below w.heap.size w W → ∀ i j, i ≤ n → j ≤ n → Calls Try.prog 61 #[.int .i64 i, .int .i64 j, .pointer (some ⟨b0, 0, none⟩), .pointer (some ⟨b1, 0, none⟩), .pointer (some ⟨b2, 0, none⟩)] W fun e w' => e = .returned (.int .i64 (cS L (s + s) i j)) ∧ ∃ q, w' = W.drewN q) := Lib.hid fun W hW i j hi hj =>
    ordC b0 b1 b2 AR cR n s L Q i j W Hn hn hs (hO.turn hW.size (fun k hk _ => hW.block k hk) l0 l1 l2) hR hi hj
  clear hM hMl hL hO hR
  obtain ⟨m, hm⟩ : ∃ m, n + 1 = m := ⟨_, rfl⟩
  have hmk := fun W => run_make_row' (P := Try.prog) 25 3 (.int .i64 0) 8 Try.underlying25 Try.infoInt rfl .i64 .i64 m (by omega) (by omega) W
  rw [hm] at HMl ⊢
  generalize hCS : cS L (s + s) = C at *
  clear hCS
  go_enter Try.func58, Try.ntmps58
  go_wp2
  go_loopw [6, 14] (fun r i wr => ∃ (k : Nat) (Q' : List Int), k ≤ m ∧ Q'.length = m ∧ i = .int .i64 k ∧ r = .int .i64 (incs C M (k - 1) : Nat) ∧ Hid (∀ j, j < k → Q'.getD (M.getD j 0) 0 = (incs C M j : Nat)) ∧ Hid (wr.ownsRow w.heap.size 3 1 (.slice (some ⟨w.heap.size, 0, none⟩) m m) m (Q'.map I)) ∧ Hid (Below w.heap.size w wr)) (fun _ i _ => m - (intOf i).toNat)
  case atStart =>
    refine ⟨0, List.replicate m 0, Nat.zero_le _, by simp, rfl, rfl, Lib.hid (fun j hj => by omega), Lib.hid ?_, Lib.hid ((Below.refl _ _).alloc (Nat.le_refl _) _)⟩
    have e : (List.replicate m (0 : Int)).map I = List.replicate m (I 0) := by simp
    rw [e, ← toList_madeCells_one]
    exact World.ownsRow_lit w _ _ (Nat.le_refl _) (by unfold maxLen; omega) (by simp [size_madeCells])
  case round =>
    obtain ⟨k, Q', hk, hQl, rfl, rfl, HQ, HO, HB⟩ := hrel
    clear hmk
    by_cases hlt : k < m
    · obtain ⟨x, hx⟩ : ∃ x, M[k]? = some x := ⟨_, List.getElem?_eq_getElem (by rw [HMl.out]; exact hlt)⟩
      have hxn : x ≤ n := HMx.out x (List.mem_of_getElem? hx)
      obtain ⟨bb, oo, hA, hbl, hcx⟩ := HL.out k (x : Int) (by rw [List.getElem?_map, hx]; rfl)
      cases hA
      rw [Nat.zero_add] at hcx
      have hc : wr.cell? ⟨g, k, none⟩ = some (I (x : Int)) := (HB.out.cell (p := ⟨g, k, none⟩) hbl).trans hcx
      clear hcx
      have HX := Lib.hid hx
      clear hx
      obtain ⟨z, hz⟩ : ∃ z, (Q'.map I)[x]? = some (I z) := by
        rw [List.getElem?_map, List.getElem?_eq_getElem (show x < Q'.length by omega)]
        exact ⟨_, rfl⟩
      have HNext : ∀ v : Nat, v = incs C M k → Hid (∀ j, j < k + 1 → (Q'.set x (v : Int)).getD (M.getD j 0) 0 = (incs C M j : Nat)) := fun v hv => Lib.hid fun j hj => by
        rw [getD_set (by omega)]
        by_cases e : M.getD j 0 = x
        · rw [if_pos e, hv]
          have hjl : j < M.length := by rw [HMl.out]; omega
          have h1 : M[j]? = some x := by
            rw [List.getElem?_eq_getElem hjl, ← getD_at hjl, e]
          rw [List.getElem?_eq_some_iff] at h1
          obtain ⟨_, h1⟩ := h1
          obtain ⟨h3, h2⟩ := List.getElem?_eq_some_iff.1 HX.out
          rw [(List.getElem_inj HMn.out).1 (h1.trans h2.symm)]
        · rw [if_neg e]
          exact HQ.out j (by
            by_cases e2 : j = k
            · subst e2
              exact absurd (getM HX.out) e
            · omega)
      by_cases h0 : k = 0
      · subst h0
        have hd : wr.cell? ⟨w.heap.size, x, none⟩ = some (I z) := (HO.out.cellAt x (by omega)).trans hz
        have hf := HO.out.frozenAt x
        have HN := HNext 0 rfl
        have HS := Lib.hid (HO.out.stored x (.int .i64 ((0 : Nat) : Int))).1
        rw [← List.map_set (f := I)] at HS
        have HB2 := Lib.hid (HB.out.setCell (p := ⟨w.heap.size, x, none⟩) (Nat.le_refl _) (.int .i64 ((0 : Nat) : Int)))
        have hi0 : incs C M (0 - 1) = 0 := rfl
        rw [hi0]
        clear hz HNext HO HB HQ hi0
        go_wp2
        go_roundw
        case rel => exact ⟨1, Q'.set x ((0 : Nat) : Int), by omega, by rw [List.length_set]; exact hQl, by go_num, rfl, HN, HS, HB2⟩
        case measure => simp [intOf]; omega
      · obtain ⟨p, hp⟩ : ∃ p, k = p + 1 := ⟨k - 1, by omega⟩
        obtain ⟨y, hy⟩ : ∃ y, M[p]? = some y := ⟨_, List.getElem?_eq_getElem (by rw [HMl.out]; omega)⟩
        have hyn : y ≤ n := HMx.out y (List.mem_of_getElem? hy)
        obtain ⟨bb, oo, hA, hbl2, hcy⟩ := HL.out p (y : Int) (by rw [List.getElem?_map, hy]; rfl)
        cases hA
        rw [Nat.zero_add] at hcy
        have hc2 : wr.cell? ⟨g, p, none⟩ = some (I (y : Int)) := (HB.out.cell (p := ⟨g, p, none⟩) hbl2).trans hcy
        have HI : Hid (incs C M k = incs C M p + if C y x = 0 then 0 else 1) := Lib.hid (by
          rw [hp]
          show incs C M p + (if C (M.getD p 0) (M.getD (p + 1) 0) = 0 then 0 else 1) = _
          rw [getM hy, ← hp, getM HX.out])
        have HCC := Lib.hid (HC.out wr HB.out y x hyn hxn)
        have hle := incs_le C M p
        have hki : IntKind.i64.wrap ((k : Int) - 1) = (p : Int) := by rw [IntWalk.i64_in _ (by omega)]; omega
        have hki2 : (k : Int) - 1 = (p : Int) := by omega
        have hp1 : k - 1 = p := by omega
        have hk0 : decide (0 < k) = true := by simp; omega
        have hk1 : decide ((0 : Int) < (k : Int)) = true := by simp; omega
        have hpm : p < m := by omega
        rw [hp1]
        obtain ⟨v, hv⟩ : ∃ v, incs C M p = v := ⟨_, rfl⟩
        rw [hv] at HI hle ⊢
        have Hp := Lib.hid hp
        clear hcy hy hp hv
        go_wp2_with fail
        refine HCC.out.mono ?_
        rintro e w2 ⟨rfl, q, rfl⟩
        have HOq : Hid ((wr.drewN q).ownsRow w.heap.size 3 1 (.slice (some ⟨w.heap.size, 0, none⟩) m m) m (Q'.map I)) := Lib.hid HO.out
        have HBq : Hid (Below w.heap.size w (wr.drewN q)) := Lib.hid (below_dN HB.out q)
        clear HO HB HCC hc hc2
        generalize wr.drewN q = w3 at *
        have hd : w3.cell? ⟨w.heap.size, x, none⟩ = some (I z) := (HOq.out.cellAt x (by omega)).trans hz
        have hf := HOq.out.frozenAt x
        obtain ⟨u, hu⟩ : ∃ u, C y x = u := ⟨_, rfl⟩
        rw [hu] at HI ⊢
        by_cases h1 : u = 0
        · have HIv : Hid (incs C M k = v) := Lib.hid (by have := HI.out; rw [if_pos h1] at this; omega)
          have hne : (u != 0) = false := by simp [h1]
          have HN := HNext v HIv.out.symm
          have HS := Lib.hid (HOq.out.stored x (.int .i64 (v : Int))).1
          rw [← List.map_set (f := I)] at HS
          have HB2 := Lib.hid (HBq.out.setCell (p := ⟨w.heap.size, x, none⟩) (Nat.le_refl _) (.int .i64 (v : Int)))
          clear hz HNext HOq HBq HQ HI hu h1
          go_wp2
          go_roundw
          case rel => exact ⟨k + 1, Q'.set x (v : Int), by omega, by rw [List.length_set]; exact hQl, by go_num, by rw [Nat.add_sub_cancel, HIv.out], HN, HS, HB2⟩
          case measure => simp [intOf]; omega
        · obtain ⟨v1, hv1⟩ : ∃ v1, v + 1 = v1 := ⟨_, rfl⟩
          have HIv : Hid (incs C M k = v1) := Lib.hid (by have := HI.out; rw [if_neg h1] at this; omega)
          have hne : (u != 0) = true := by simp [h1]
          have hv2 : (v : Int) + 1 = (v1 : Int) := by omega
          have hv3 : IntKind.i64.wrap ((v : Int) + 1) = (v1 : Int) := by rw [IntWalk.i64_in _ (by omega)]; omega
          have HN := HNext v1 HIv.out.symm
          have HS := Lib.hid (HOq.out.stored x (.int .i64 (v1 : Int))).1
          rw [← List.map_set (f := I)] at HS
          have HB2 := Lib.hid (HBq.out.setCell (p := ⟨w.heap.size, x, none⟩) (Nat.le_refl _) (.int .i64 (v1 : Int)))
          clear hz HNext HOq HBq HQ HI hu
          go_wp2
          go_roundw
          case rel => exact ⟨k + 1, Q'.set x (v1 : Int), by omega, by rw [List.length_set]; exact hQl, by go_num, by rw [Nat.add_sub_cancel, HIv.out], HN, HS, HB2⟩
          case measure => simp [intOf]; omega
    · obtain rfl : k = m := by omega
      go_wp2
      go_ret
      exact ⟨⟨Q', rfl, HO.out, hQl, fun j hj => HQ.out j (by omega)⟩, HB.out⟩

end Go.Proofs.Ytkjelakdejbolaa
