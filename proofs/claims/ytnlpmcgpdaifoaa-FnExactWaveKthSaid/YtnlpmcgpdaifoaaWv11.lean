/- WaveKth of the specification: the least is removed k times. -/
import Derived.Test.YtnlpmcgpdaifoaaWv10
import Derived.Test.YtnlpmcgpdaifoaaSlCut
import Derived.Deep.RegionHeld3
import Derived.BigQuiet
namespace Go.Proofs.Ytnlpmcgpdaifoaa
open Go.RowKit
set_option maxRecDepth 100000

theorem slice_midW {P : Program} {α : Type} {f : α → Value} {T : TypeId} (ht : P.underlying T = some (.slice (P.elem T))) (hz : ∀ W : World, (sizeOf (P.elem T)).run P W = .ok 1 W) (b o n c : Nat) (L : List α) (i j : Nat) (w : World) (Hn : Hid (L.length = n)) (hL : Lies w f (some ⟨b, o, none⟩) L) (hij : i ≤ j) (hj : j ≤ n) (hc : n ≤ c) :
    ∃ o', (∀ W : World, (Instr.slice T (.slice (some ⟨b, o, none⟩) n c) (some (.int .i64 (i : Int))) (some (.int .i64 (j : Int))) none).run P W = .ok (.slice (some ⟨b, o', none⟩) ((L.drop i).take (j - i)).length (c - i)) W) ∧ Lies w f (some ⟨b, o', none⟩) ((L.drop i).take (j - i)) := by
  have hn := Hn.out
  have e : ((L.drop i).take (j - i)).length = j - i := by rw [List.length_take, List.length_drop, hn]; omega
  rw [e]
  by_cases hct : c = i
  · refine ⟨o, fun W => ?_, ?_⟩
    · rw [run_slice_lh (P := P) W T _ n c ht .i64 .i64 (i : Int) (j : Int) (by omega) (by omega) (by omega), Int.toNat_natCast, Int.toNat_natCast, hz]
      simp [Result.andThen, sliced, hct]
    · have : (L.drop i).take (j - i) = [] := List.length_eq_zero_iff.1 (by omega)
      rw [this]
      exact Lies.nil_
  · refine ⟨o + i, fun W => ?_, hL.piece i (j - i)⟩
    rw [run_slice_lh (P := P) W T _ n c ht .i64 .i64 (i : Int) (j : Int) (by omega) (by omega) (by omega), Int.toNat_natCast, Int.toNat_natCast, hz]
    simp [Result.andThen, sliced, hct, Addr.add]

/-- The k-th smallest of X is v. -/
def KthL (X : List Int) (k : Nat) (v : Int) : Prop := X.countP (fun y => decide (y < v)) ≤ k ∧ k < X.countP (fun y => decide (y < v + 1))
theorem kthL_pos {X : List Int} {k : Nat} {v : Int} (h : KthL X k v) : k < X.length := Nat.lt_of_lt_of_le h.2 List.countP_le_length
theorem kthL_le {X : List Int} {k : Nat} {v m : Int} (h : KthL X k v) (hm : ∀ x ∈ X, m ≤ x) : m ≤ v := by
  obtain ⟨x, hx, hp⟩ := List.countP_pos_iff.1 (Nat.lt_of_le_of_lt (Nat.zero_le _) h.2)
  have := hm x hx
  simp at hp
  omega
theorem kthL_zero {X : List Int} {v m : Int} (h : KthL X 0 v) (hm : ∀ x ∈ X, m ≤ x) (hmem : m ∈ X) : m = v := by
  have h1 := kthL_le h hm
  have h2 : X.countP (fun y => decide (y < v)) = 0 := by have := h.1; omega
  rw [List.countP_eq_zero] at h2
  have := h2 m hmem
  simp at this
  omega
theorem kthL_next {X : List Int} {k t : Nat} {v m : Int} (h : KthL X (k + 1) v) (hm : ∀ x ∈ X, m ≤ x) (ht : X[t]? = some m) : KthL (X.take t ++ X.drop (t + 1)) k v := by
  obtain ⟨htl, hte⟩ := List.getElem?_eq_some_iff.1 ht
  have key : ∀ p : Int → Bool, X.countP p = (X.take t ++ X.drop (t + 1)).countP p + if p m = true then 1 else 0 := fun p => by
    have e : X = X.take t ++ m :: X.drop (t + 1) := by rw [← hte, ← List.drop_eq_getElem_cons htl, List.take_append_drop]
    conv => lhs; rw [e]
    rw [List.countP_append, List.countP_cons, List.countP_append]
    omega
  have h1 := kthL_le h hm
  have k1 := key fun y => decide (y < v)
  have k2 := key fun y => decide (y < v + 1)
  obtain ⟨g1, g2⟩ := h
  rw [if_pos (by simp; omega)] at k2
  refine ⟨?_, by omega⟩
  by_cases hmv : m < v
  · rw [if_pos (by simpa using hmv)] at k1
    omega
  · have h0 : X.countP (fun y => decide (y < v)) = 0 := by
      rw [List.countP_eq_zero]
      intro x hx
      have := hm x hx
      simp
      omega
    omega

section
variable (N : Int) (ZA : Option Addr) (zc : Nat) (Z : List Int) (LA : Option Addr) (lc : Nat) (P : List LvA)
set_option maxHeartbeats 3200000 in
theorem specWaveKth_any (lo hi k : Int) (w : World) (hL : LiesWa w ⟨N, ZA, zc, Z, LA, lc, P⟩) : Calls Try.prog 13 #[WaA.value ⟨N, ZA, zc, Z, LA, lc, P⟩, .int .i64 lo, .int .i64 hi, .int .i64 k] w fun e w' => e = .returned (.int .i64 (wKth N Z (P.map LvA.val) lo hi k)) ∧ Below w.heap.size w w' := by
  have HB0 : Hid (Below w.heap.size w (w.alloc (.cells #[.int .i64 N, .slice ZA Z.length zc, .slice LA P.length lc] 27))) := Lib.hid (by go_grown)
  have HX0 : Hid (Box (w.alloc (.cells #[.int .i64 N, .slice ZA Z.length zc, .slice LA P.length lc] 27)) w.heap.size 27 #[.int .i64 N, .slice ZA Z.length zc, .slice LA P.length lc]) := Lib.hid (Box.made _ _ _)
  have CO := Lib.hid fun (W : World) (hW : Below w.heap.size w W) => l07Span_any N ZA zc Z LA lc P lo hi W (hL.below hW)
  have CL := Lib.hid fun (W : World) (hW : Below w.heap.size w W) hok => l07List_any ⟨N, ZA, zc, Z, LA, lc, P⟩ W (hL.below hW) hok
  unfold WaA.value at *
  simp only at CO CL ⊢
  clear hL
  obtain ⟨v, hv⟩ : ∃ v, wKth N Z (P.map LvA.val) lo hi k = v := ⟨_, rfl⟩
  have HV := Lib.hid hv
  rw [hv]
  clear hv
  go_enter Try.func13, Try.ntmps13
  go_wp2_with fail
  generalize w.alloc (.cells #[.int .i64 N, .slice ZA Z.length zc, .slice LA P.length lc] 27) = W0 at *
  refine (CO.out _ HB0.out).mono ?_
  rintro e w1 ⟨rfl, hb1⟩
  have HB1 := Lib.hid (below_then HB0.out hb1)
  have hx1 := HX0.out.below hb1 HX0.out.lt
  have x0 := hx1.cell 0
  have x1 := hx1.cell 1
  have x2 := hx1.cell 2
  have xl := hx1.lt
  clear hb1 hx1 CO
  by_cases hok : wvOk N Z (P.map LvA.val) = true ∧ (0 ≤ lo ∧ lo ≤ hi ∧ hi ≤ N)
  · rw [hok.1, decide_eq_true hok.2, Bool.true_and]
    obtain ⟨a, rfl⟩ := Int.eq_ofNat_of_zero_le hok.2.1
    obtain ⟨b, rfl⟩ := Int.eq_ofNat_of_zero_le (show 0 ≤ hi by omega)
    obtain ⟨n, rfl⟩ := Int.eq_ofNat_of_zero_le (show 0 ≤ N by omega)
    have hab : a ≤ b := by omega
    have hbn : b ≤ n := by omega
    have hn1000 := (wvOk_n hok.1).2
    have e1 : IntKind.i64.wrap ((b : Int) - (a : Int)) = (b : Int) - (a : Int) := IntWalk.i64_in _ (by omega)
    by_cases h0 : k < 0
    · have t0 : decide (k < 0) = true := by simpa using h0
      have HQ : Hid (v = -1) := Lib.hid (by rw [← HV.out, wKth_out _ _ _ _ _ _ (by omega)])
      clear hok CL h0
      go_wp2
      go_ret
      exact ⟨ret_int HQ.out.symm, HB1.out⟩
    · have t0 : decide (k < 0) = false := by simpa using h0
      by_cases h1 : (b : Int) - (a : Int) ≤ k
      · have t1 : decide ((b : Int) - (a : Int) ≤ k) = true := by simpa using h1
        have HQ : Hid (v = -1) := Lib.hid (by rw [← HV.out, wKth_out _ _ _ _ _ _ (by omega)])
        clear hok CL h0 h1
        go_wp2
        go_ret
        exact ⟨ret_int HQ.out.symm, HB1.out⟩
      · have t1 : decide ((b : Int) - (a : Int) ≤ k) = false := by simpa using h1
        obtain ⟨j, rfl⟩ := Int.eq_ofNat_of_zero_le (show 0 ≤ k by omega)
        have hl9 := wvOk_lvs hok.1
        have hkl := kth_list (n := n) hl9 a b j (by omega) hbn
        have hval := wKth_in n Z P a b j hok.1 (by omega) hbn
        rw [HV.out] at hval
        have HK : Hid (KthL (((wB n (P.map LvA.val)).take b).drop a) j v) := Lib.hid (by
          rw [hval, show wB n (P.map LvA.val) = listW n (lvs P) by unfold wB; rw [wLs_val]; rfl]
          exact ⟨hkl.2.1, hkl.2.2⟩)
        have C := Lib.hid fun (W : World) (hW : Below w.heap.size w W) => CL.out W hW hok.1
        have hlen := wB_len n (P.map LvA.val)
        rw [Int.toNat_natCast] at hlen
        generalize wB n (P.map LvA.val) = M at *
        have Hlen := Lib.hid hlen
        have HB2 : Hid (Below w.heap.size w (w1.alloc (.cells #[] 3))) := Lib.hid (HB1.out.alloc HB1.out.size _)
        have HE2 : Hid ((w1.alloc (.cells #[] 3)).ownsRow w.heap.size 3 1 (.slice (some ⟨w1.heap.size, 0, none⟩) 0 0) 0 (([] : List Int).map I)) := Lib.hid (own_mono (World.ownsRow_lit (base := w1.heap.size) (e := 3) (size := 1) w1 #[] 0 (Nat.le_refl _) (by decide) rfl) HB1.out.size)
        have hj1000 : j ≤ 1000 := by omega
        have hjw : j < b := by omega
        have HQ0 : Hid (True) := Lib.hid trivial
        clear hok CL h0 hval hkl hl9 HV
        go_wp2_with fail
        generalize w1.alloc (.cells #[] 3) = W2 at *
        refine (C.out W2 HB2.out).mono ?_
        rintro e w3 ⟨A, c, rfl, ho, hb3⟩
        have HB3 := Lib.hid (below_then HB2.out hb3)
        have HE3 := Lib.hid (own_below HE2.out hb3 (Nat.le_refl _))
        have hcap := row_cap ho
        have hlies : Lies w3 I A M := Lies.of_own ho
        obtain ⟨bl, ol, hA⟩ : ∃ bl ol, A = some ⟨bl, ol, none⟩ := by
          obtain ⟨bl, ol, hA, _, _⟩ := hlies 0 _ (List.getElem?_eq_getElem (by omega))
          exact ⟨bl, ol, hA⟩
        subst hA
        rw [hlen] at hcap ⊢
        obtain ⟨o', hs1, hL1⟩ := slice_midW (P := Try.prog) Try.elemInts Try.sizeInt bl ol n c M a b w3 Hlen hlies hab hbn hcap.1
        rw [← List.drop_take] at hs1 hL1
        have HS := Lib.hid hL1
        obtain ⟨X, hX⟩ : ∃ X, (M.take b).drop a = X := ⟨_, rfl⟩
        rw [hX] at hs1 HS HK
        have hXl : X.length = b - a := by rw [← hX, List.length_drop, List.length_take, hlen]; omega
        have HXl := Lib.hid hXl
        have hX1000 : X.length ≤ 1000 := by omega
        clear hXl
        clear ho hb3 hlen hcap hL1 hX C hlies
        go_wp2_with (at_builtin; refine wpList_append_ints _ rfl _ _ rfl w.heap.size _ [] rfl HE3.out _ _ X rfl HS.out (.inr ⟨_, _, rfl⟩) X rfl (by rw [HXl.out]; simp; omega) HB3.out.size ?_)
        intro A4 c4 w4 ho4 hg4
        have HB4 := Lib.hid (HB3.out.trans (grown_below HE3.out hg4 (Nat.le_refl _) HB3.out.size))
        have HO4 := Lib.hid ho4
        clear ho4 hg4 HE3 HS hs1 HE2
        go_wp2
        go_loopw [3, 9] (fun s x wr => ∃ (X : List Int) (A : Option Addr) (c q : Nat), s = .int .i64 q ∧ x = .slice A X.length c ∧ X.length ≤ 1000 ∧ q ≤ 1000 ∧ Hid (KthL X q v) ∧ Hid (wr.ownsRow w.heap.size 3 1 (.slice A X.length c) X.length (X.map I)) ∧ Hid (Below w.heap.size w wr)) (fun s _ _ => (intOf s).toNat)
        case atStart => exact ⟨X, A4, c4, j, rfl, rfl, hX1000, hj1000, HK, HO4, HB4⟩
        case round =>
          obtain ⟨Y, A5, c5, q, rfl, rfl, hY, hq, HKY, HO, HB⟩ := hrel
          clear HK HO4 HB4
          have hpos := kthL_pos HKY.out
          have HLi : Hid (Lies wr I A5 Y) := Lib.hid (Lies.of_own HO.out)
          obtain ⟨m, hm⟩ : ∃ m, Y.length = m := ⟨_, rfl⟩
          have Hm := Lib.hid hm
          rw [hm] at hY hpos ⊢
          clear hm
          go_wp2
          go_loopw [10, 11] (fun l x wi => ∃ t i : Nat, i ≤ m ∧ x = .int .i64 i ∧ l = .int .i64 t ∧ t < m ∧ Drawn wr wi ∧ Hid (∀ (r : Nat) y z, r < i → Y[r]? = some y → Y[t]? = some z → z ≤ y)) (fun _ x _ => m - (intOf x).toNat)
          case atStart => exact ⟨0, 0, Nat.zero_le _, rfl, rfl, by omega, Drawn.refl _, Lib.hid fun r y z h => by omega⟩
          case round =>
            obtain ⟨t, i, hi, rfl, rfl, ht, hd, HT⟩ := hrel
            by_cases hlt : i < m
            · obtain ⟨dn0, rfl⟩ := hd
              obtain ⟨b1, o1, y, hA, hbl, hy, hcy⟩ := HLi.out.at_ (i := i) (by rw [Hm.out]; exact hlt)
              obtain ⟨b2, o2, z, hA2, hbl2, hz, hcz⟩ := HLi.out.at_ (i := t) (by rw [Hm.out]; exact ht)
              subst hA
              injection hA2 with hA2
              injection hA2 with hA2 hA3
              subst hA2 hA3
              have HY := Lib.hid hy
              have HZ := Lib.hid hz
              have i0 : (0 : Int) ≤ (i : Int) := by omega
              have i1 : (i : Int) < (m : Int) := by omega
              have u0 : (0 : Int) ≤ (t : Int) := by omega
              have u1 : (t : Int) < (m : Int) := by omega
              clear hy hz hbl hbl2
              by_cases hyz : y < z
              · have tyz : decide (y < z) = true := by simpa using hyz
                have HT2 : Hid (∀ (r : Nat) y' z', r < i + 1 → Y[r]? = some y' → Y[i]? = some z' → z' ≤ y') := Lib.hid fun r y' z' hr hy' hz' => by
                  rw [HY.out] at hz'
                  obtain rfl := Option.some.inj hz'
                  by_cases hri : r < i
                  · have := HT.out r y' z hri hy' HZ.out
                    omega
                  · obtain rfl : r = i := by omega
                    rw [HY.out] at hy'
                    obtain rfl := Option.some.inj hy'
                    exact Int.le_refl _
                clear hyz HT
                go_wp2
                go_quiet (fail)
                go_wp2
                go_roundw
                case rel => exact ⟨i, i + 1, by omega, by go_num, rfl, hlt, ⟨_, rfl⟩, HT2⟩
                case measure => simp [intOf]; omega
              · have tyz : decide (y < z) = false := by simpa using hyz
                have HT2 : Hid (∀ (r : Nat) y' z', r < i + 1 → Y[r]? = some y' → Y[t]? = some z' → z' ≤ y') := Lib.hid fun r y' z' hr hy' hz' => by
                  by_cases hri : r < i
                  · exact HT.out r y' z' hri hy' hz'
                  · obtain rfl : r = i := by omega
                    rw [HY.out] at hy'
                    rw [HZ.out] at hz'
                    obtain rfl := Option.some.inj hy'
                    obtain rfl := Option.some.inj hz'
                    omega
                clear hyz HT
                go_wp2
                go_quiet (fail)
                go_wp2
                go_roundw
                case rel => exact ⟨t, i + 1, by omega, by go_num, rfl, ht, ⟨_, rfl⟩, HT2⟩
                case measure => simp [intOf]; omega
            · have him : i = m := by omega
              obtain ⟨b2, o2, z, hA2, hbl2, hz, hcz0⟩ := HLi.out.at_ (i := t) (by rw [Hm.out]; exact ht)
              subst hA2
              have hcz : wr.cell? ⟨b2, o2 + t, none⟩ = some (I z) := by
                obtain ⟨d0, rfl⟩ := hd
                exact hcz0
              have HB5 : Hid (Below w.heap.size w wr) := Lib.hid (HB.out.trans ((hd.below _).mono (Nat.le_refl _)))
              have HMin : Hid (∀ x ∈ Y, z ≤ x) := Lib.hid fun x hx => by
                obtain ⟨r, hr⟩ := List.mem_iff_getElem?.1 hx
                have hrl := (List.getElem?_eq_some_iff.1 hr).1
                exact HT.out r x z (by rw [him, ← Hm.out]; exact hrl) hr hz
              have HZ := Lib.hid hz
              have u0 : (0 : Int) ≤ (t : Int) := by omega
              have u1 : (t : Int) < (m : Int) := by omega
              clear hz hbl2 hcz0 HT
              by_cases hq0 : q = 0
              · have tq : ((q : Int) == 0) = true := by rw [beq_iff_eq]; omega
                have HQ : Hid (v = z) := Lib.hid (by
                  have h := HKY.out
                  rw [hq0] at h
                  exact (kthL_zero h HMin.out (List.mem_of_getElem? HZ.out)).symm)
                clear hq0 hd
                go_wp2
                go_ret
                exact ⟨ret_int HQ.out.symm, HB5.out⟩
              · have tq : ((q : Int) == 0) = false := by rw [beq_eq_false_iff_ne]; omega
                obtain ⟨q', rfl⟩ : ∃ q', q = q' + 1 := ⟨q - 1, by omega⟩
                have HK2 := Lib.hid (kthL_next HKY.out HMin.out HZ.out)
                have HO5 : Hid (wr.ownsRow w.heap.size 3 1 (.slice (some ⟨b2, o2, none⟩) m c5) m (Y.map I)) := Lib.hid (by
                  have h := HO.out
                  rw [Hm.out] at h
                  obtain ⟨d0, rfl⟩ := hd
                  exact h)
                have HLs : Hid (Lies wr I (some ⟨b2, o2, none⟩) Y) := Lib.hid (by
                  obtain ⟨d0, rfl⟩ := hd
                  exact HLi.out)
                have hcap := row_cap HO5.out
                obtain ⟨A1, hs1, hL1, hA1⟩ := slice_take (P := Try.prog) (f := I) Try.elemInts Try.sizeInt (some ⟨b2, o2, none⟩) m c5 Y t wr Hm HLs.out (.inr ⟨_, _, rfl⟩) (by omega) hcap.1
                obtain ⟨u, hu⟩ : ∃ u, t + 1 = u := ⟨_, rfl⟩
                obtain ⟨A2, hs2, hL2, hA2⟩ := slice_drop (P := Try.prog) (f := I) Try.elemInts Try.sizeInt (some ⟨b2, o2, none⟩) m c5 Y u wr Hm HLs.out (.inr ⟨_, _, rfl⟩) (by omega) hcap.1
                rw [hu] at HK2
                have e2 : IntKind.i64.wrap ((t : Int) + 1) = (u : Int) := by rw [IntWalk.i64_in _ (by omega)]; omega
                have e3 : (t : Int) + 1 = (u : Int) := by omega
                have e5 : IntKind.i64.wrap (u : Int) = (u : Int) := IntWalk.i64_in _ (by omega)
                have e4 : IntKind.i64.wrap (((q' + 1 : Nat) : Int) - 1) = (q' : Int) := by rw [IntWalk.i64_in _ (by omega)]; omega
                have HSum : Hid ((Y.take t ++ Y.drop u).length + 1 = m) := Lib.hid (by rw [List.length_append, List.length_take, List.length_drop, Hm.out]; omega)
                have hl1 : (Y.take t).length ≤ 1000 := by rw [List.length_take]; omega
                have hl2 : (Y.drop u).length ≤ 1000 := by rw [List.length_drop, Hm.out]; omega
                have hl3 : (Y.take t ++ Y.drop u).length ≤ 1000 := by have := HSum.out; omega
                obtain ⟨X1, hX1⟩ : ∃ X1, Y.take t = X1 := ⟨_, rfl⟩
                obtain ⟨X2, hX2⟩ : ∃ X2, Y.drop u = X2 := ⟨_, rfl⟩
                obtain ⟨X3, hX3⟩ : ∃ X3, X1 ++ X2 = X3 := ⟨_, rfl⟩
                rw [hX1] at hs1 hL1 hl1 HK2 hl3
                rw [hX2] at hs2 hL2 hl2 HK2 hl3
                rw [hX3] at HK2 hl3
                have HX3 := Lib.hid hX3
                have HS1 := Lib.hid hL1
                have HS2 := Lib.hid hL2
                have HA1 := Lib.hid hA1
                have HA2 := Lib.hid hA2
                have HOe : Hid ((wr.alloc (.cells #[] 3)).drew.ownsRow w.heap.size 3 1 (.slice (some ⟨wr.heap.size, 0, none⟩) 0 0) 0 (([] : List Int).map I)) := Lib.hid (own_mono (World.ownsRow_lit (base := wr.heap.size) (e := 3) (size := 1) wr #[] 0 (Nat.le_refl _) (by decide) rfl) HB5.out.size)
                have HBe : Hid (Below w.heap.size w (wr.alloc (.cells #[] 3)).drew) := Lib.hid (HB5.out.alloc HB5.out.size _).drew
                have HSe1 : Hid (Lies (wr.alloc (.cells #[] 3)).drew I A1 X1) := Lib.hid (HS1.out.below (((Below.refl _ _).alloc (Nat.le_refl _) _).drew))
                have HSe2 : Hid (Lies (wr.alloc (.cells #[] 3)).drew I A2 X2) := Lib.hid (HS2.out.below (((Below.refl _ _).alloc (Nat.le_refl _) _).drew))
                have HApart : Hid (∀ w4, (wr.alloc (.cells #[] 3)).drew.grownBy w4 (some wr.heap.size) → Lies w4 I A2 X2) := Lib.hid fun w4 hg i' y hy => by
                  obtain ⟨b', o', e1, e2, e3⟩ := HS2.out i' y hy
                  have hs := hg.size
                  have hsz : (wr.alloc (.cells #[] 3)).drew.heap.size = wr.heap.size + 1 := World.size_alloc _ _
                  refine ⟨b', o', e1, by omega, ?_⟩
                  have hb : (wr.alloc (.cells #[] 3)).drew.heap[b']? = wr.heap[b']? := Below.heap_alloc wr _ b' e2
                  have := hg.block b' (by omega) (by intro e; injection e with e; omega)
                  exact (World.cell?_of_block (a := ⟨b', o' + i', none⟩) (this.trans hb)).trans e3
                clear hX1 hX2 hX3 hL1 hL2 hA1 hA2 hd hu hcz
                go_wp2_with fail
                go_region_held3 (fun _ => True) (trivial) (first
                  | (refine step_append_ints (wr.alloc (.cells #[] 3)).drew (by rfl) (.tmp 59) (.tmp 62) (by rfl) w.heap.size (.slice (some ⟨wr.heap.size, 0, none⟩) 0 0) [] (by rfl) HOe.out A1 c5 X1 (by rfl) HSe1.out HA1.out X1 rfl (by simp; omega) HBe.out.size ?_; intro A6 c6 w6 ho6 hg6; have HO6 := Lib.hid ho6; have HB6 := Lib.hid (HBe.out.trans (grown_below HOe.out hg6 (Nat.le_refl _) HBe.out.size)); have HS6 := Lib.hid (HApart.out w6 hg6); clear ho6 hg6)
                  | (refine step_append_ints w6 (by rfl) (.tmp 63) (.tmp 67) (by rfl) w.heap.size (.slice A6 X1.length c6) X1 (by rfl) HO6.out A2 (c5 - u) X2 (by rfl) HS6.out HA2.out X3 HX3.out (by omega) HB6.out.size ?_; intro A7 c7 w7 ho7 hg7; have HO7 := Lib.hid ho7; have HB7 := Lib.hid (HB6.out.trans (grown_below HO6.out hg7 (Nat.le_refl _) HB6.out.size)); clear ho7 hg7))
                go_wp2
                go_roundw
                case rel => exact ⟨X3, A7, c7, q', by go_num, rfl, hl3, by omega, HK2, HO7, HB7⟩
                case measure => simp [intOf]
  · rw [show (wvOk N Z (P.map LvA.val) && decide (0 ≤ lo ∧ lo ≤ hi ∧ hi ≤ N)) = false by
      cases h1 : wvOk N Z (P.map LvA.val)
      · rfl
      · rw [Bool.true_and, decide_eq_false (fun h => hok ⟨h1, h⟩)]]
    have HQ : Hid (v = -1) := Lib.hid (by rw [← HV.out]; unfold wKth; rw [if_neg (fun h => hok ⟨h.1, h.2.1, h.2.2.1, h.2.2.2.1⟩)])
    clear hok CL
    go_wp2
    go_ret
    exact ⟨ret_int HQ.out.symm, HB1.out⟩
end

end Go.Proofs.Ytnlpmcgpdaifoaa
