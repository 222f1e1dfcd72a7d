/- LfOf of the program. -/
import Derived.Test.YtkjelakdejbolaaSy8
namespace Go.Proofs.Ytkjelakdejbolaa
open Go.RowKit
set_option maxRecDepth 100000

/-- The places when k symbols have been passed. -/
def plcF (L : List Int) (k s : Nat) : Int := ((ltN L (s : Int) + (L.take k).count (s : Int) : Nat) : Int)
def plcK (L : List Int) (k : Nat) : List Int := (List.range 258).map (plcF L k)
theorem plcK_zero (L : List Int) : plcK L 0 = (List.range 258).map fun c : Nat => (ltN L (c : Int) : Int) := by
  unfold plcK plcF
  simp
theorem plcK_len (L : List Int) (k : Nat) : (plcK L k).length = 258 := by simp [plcK]
theorem plcK_at (L : List Int) (k s : Nat) (h : s < 258) : (plcK L k)[s]? = some (plcF L k s) := by
  unfold plcK
  rw [List.getElem?_map, List.getElem?_range h]
  rfl
theorem plcK_put {L : List Int} {k s : Nat} (h : s < 258) (hk : L[k]? = some (s : Int)) : (plcK L k).set s (plcF L k s + 1) = plcK L (k + 1) := by
  refine List.ext_getElem? fun j => ?_
  rw [List.getElem?_set, plcK_len]
  by_cases hj : j < 258
  · rw [plcK_at L _ j hj, plcK_at L _ j hj]
    unfold plcF
    rw [count_take1 hk]
    by_cases e : s = j
    · subst e
      rw [if_pos rfl, if_pos h, if_pos rfl]
      congr 1
    · rw [if_neg e, if_neg (by omega)]
      rfl
  · rw [if_neg (by omega), List.getElem?_eq_none (by rw [plcK_len]; omega), List.getElem?_eq_none (by rw [plcK_len]; omega)]

set_option maxHeartbeats 4000000 in
theorem implLf_in (A : Option Addr) (n c : Nat) (L : List Int) (w : World) (hL : Lies w I A L) (Hn : Hid (L.length = n)) (hn : n ≤ 301) (HOk : Hid (symOk L = true)) :
    Calls Try.prog 22 #[.slice A n c] w (NewI w ((List.range n).map fun k : Nat => (lfAt L k : Int))) := by
  have HL := Lib.hid hL
  have HC := Lib.hid (implSymsOk_any A c L w hL)
  rw [Hn.out, HOk.out] at HC
  have HCo := Lib.hid (implCounts_in A n c L w hL Hn hn HOk)
  clear hL
  obtain ⟨R, hR⟩ : ∃ R : Nat → Int, R = fun k : Nat => (lfAt L k : Int) := ⟨_, rfl⟩
  have HR := Lib.hid hR
  clear hR
  have hmk := fun W => run_make_row' (P := Try.prog) 25 3 (.int .i64 0) 8 Try.underlying25 Try.infoInt rfl .i64 .i64 n (by omega) (by omega) W
  go_enter Try.func22, Try.ntmps22
  go_wp2_with fail
  refine HC.out.mono ?_
  rintro e w1 ⟨rfl, rfl⟩
  go_wp2_with fail
  refine HCo.out.mono ?_
  rintro e w2 ⟨Ap, cp, rfl, ho, hb⟩
  rw [← plcK_zero, plcK_len] at ho
  rw [show ((List.range 258).map fun c : Nat => (ltN L (c : Int) : Int)).length = 258 by rw [List.length_map, List.length_range]]
  obtain ⟨gp, cap, hv, hgb, hgl⟩ := ho.form (by omega)
  injection hv with e1 e2 e3
  subst e1 e3
  obtain ⟨g, hg⟩ : ∃ g, w2.heap.size = g := ⟨_, rfl⟩
  have HB2 := Lib.hid hb
  have hB3 : Below g w2 (w2.alloc (.cells (madeCells #[Value.int .i64 0] n) 3)) := by rw [← hg]; exact (Below.refl _ _).alloc (Nat.le_refl _) _
  have HB3 := Lib.hid hB3
  have HO3 : Hid ((w2.alloc (.cells (madeCells #[Value.int .i64 0] n) 3)).ownsRow g 3 1 (.slice (some ⟨g, 0, none⟩) n n) n ((fillK R n 0).map I)) := Lib.hid (by
    have e : (fillK R n 0).map I = List.replicate n (I 0) := by rw [fillK_zero]; simp
    rw [e, ← toList_madeCells_one, ← hg]
    exact World.ownsRow_lit w2 _ _ (Nat.le_refl _) (by unfold maxLen; omega) (by simp [size_madeCells]))
  have HP3 : Hid ((w2.alloc (.cells (madeCells #[Value.int .i64 0] n) 3)).ownsRow w1.heap.size 3 1 (.slice (some ⟨gp, 0, none⟩) 258 cp) 258 ((plcK L 0).map I)) := Lib.hid (ho.alloc _)
  have hgne : gp < g := by omega
  have Hg := Lib.hid hg
  clear hB3 ho hb hgl
  go_wp2
  clear hmk
  generalize w2.alloc (.cells (madeCells #[Value.int .i64 0] n) 3) = w3 at *
  clear hg
  go_loopw [17] (fun i wr => ∃ k : Nat, k ≤ n ∧ i = .int .i64 k ∧ Hid (wr.ownsRow g 3 1 (.slice (some ⟨g, 0, none⟩) n n) n ((fillK R n k).map I)) ∧ Hid (wr.ownsRow w1.heap.size 3 1 (.slice (some ⟨gp, 0, none⟩) 258 cp) 258 ((plcK L k).map I)) ∧ Hid (Below w1.heap.size w1 wr)) (fun i _ => n - (intOf i).toNat)
  case atStart => exact ⟨0, Nat.zero_le _, rfl, HO3, HP3, Lib.hid (below_then HB2.out (by rw [Hg.out]; exact HB3.out))⟩
  case round =>
    obtain ⟨k, hk, rfl, HO, HP, HB⟩ := hrel
    clear HO3 HP3 HB3
    by_cases hlt : k < n
    · obtain ⟨b, o, x, hA, hbl, hx, hc0⟩ := HL.out.at_ (i := k) (by rw [Hn.out]; exact hlt)
      subst hA
      have hc : wr.cell? ⟨b, o + k, none⟩ = some (I x) := (HB.out.cell (p := ⟨b, o + k, none⟩) hbl).trans hc0
      have hx0 := symOk_at HOk.out hx
      obtain ⟨s, rfl⟩ := Int.eq_ofNat_of_zero_le hx0.1
      have hs : s < 258 := by omega
      have hs2 : (s : Int) < 258 := by omega
      have hlf : lfAt L k = ltN L (s : Int) + (L.take k).count (s : Int) := lfAt_of hx
      have hle : lfAt L k < n := by have := lfAt_lt (L := L) (k := k) (by rw [Hn.out]; exact hlt); rw [Hn.out] at this; exact this
      obtain ⟨v, hv⟩ : ∃ v, lfAt L k = v := ⟨_, rfl⟩
      have hpf : plcF L k s = (v : Int) := by unfold plcF; rw [← hlf, hv]
      have hd : wr.cell? ⟨gp, s, none⟩ = some (I (v : Int)) := (HP.out.cellAt s (by omega)).trans (by rw [List.getElem?_map, plcK_at L k s hs, hpf]; rfl)
      have hf := HP.out.frozenAt s
      obtain ⟨z, hz⟩ := fillK_getV R n k k hlt
      have hd2 : wr.cell? ⟨g, k, none⟩ = some (I z) := (HO.out.cellAt k (by omega)).trans hz
      have hf2 := HO.out.frozenAt k
      have h1 := (HO.out.stored k (.int .i64 (v : Int))).1
      have h2 := fillK_setV R n k hlt
      rw [show R k = (v : Int) by rw [HR.out]; show (lfAt L k : Int) = _; rw [hv]] at h2
      rw [h2] at h1
      have hkeep : ∀ j, j ≠ g → (wr.setCell ⟨g, k, none⟩ (.int .i64 (v : Int))).heap[j]? = wr.heap[j]? := fun j hj => heap_setCell_other wr ⟨g, k, none⟩ j _ hj
      have hP1 : (wr.setCell ⟨g, k, none⟩ (.int .i64 (v : Int))).ownsRow w1.heap.size 3 1 (.slice (some ⟨gp, 0, none⟩) 258 cp) 258 ((plcK L k).map I) := own_turn HP.out fun j hj => by
        cases hj
        exact ⟨hgb, hkeep gp (by omega)⟩
      have hB1 : Below w1.heap.size w1 (wr.setCell ⟨g, k, none⟩ (.int .i64 (v : Int))) := HB.out.setCell (p := ⟨g, k, none⟩) (by show w1.heap.size ≤ g; omega) _
      have hdW : (wr.setCell ⟨g, k, none⟩ (.int .i64 (v : Int))).cell? ⟨gp, s, none⟩ = some (I (v : Int)) := (hP1.cellAt s (by omega)).trans (by rw [List.getElem?_map, plcK_at L k s hs, hpf]; rfl)
      have hfW := hP1.frozenAt s
      have HO1 : Hid ((wr.setCell ⟨g, k, none⟩ (.int .i64 (v : Int))).ownsRow g 3 1 (.slice (some ⟨g, 0, none⟩) n n) n ((fillK R n (k + 1)).map I)) := Lib.hid h1
      have HP2 : Hid (((wr.setCell ⟨g, k, none⟩ (.int .i64 (v : Int))).setCell ⟨gp, s, none⟩ (.int .i64 ((v : Int) + 1))).ownsRow w1.heap.size 3 1 (.slice (some ⟨gp, 0, none⟩) 258 cp) 258 ((plcK L (k + 1)).map I)) := Lib.hid (by
        have h3 := (hP1.stored s (.int .i64 ((v : Int) + 1))).1
        have h4 := plcK_put (L := L) (k := k) hs hx
        rw [hpf] at h4
        rw [← h4, List.map_set]
        exact h3)
      have HO2 : Hid (((wr.setCell ⟨g, k, none⟩ (.int .i64 (v : Int))).setCell ⟨gp, s, none⟩ (.int .i64 ((v : Int) + 1))).ownsRow g 3 1 (.slice (some ⟨g, 0, none⟩) n n) n ((fillK R n (k + 1)).map I)) := Lib.hid (own_turn h1 fun j hj => by
        cases hj
        exact ⟨Nat.le_refl _, heap_setCell_other _ ⟨gp, s, none⟩ g _ (by show g ≠ gp; omega)⟩)
      have HB2' : Hid (Below w1.heap.size w1 ((wr.setCell ⟨g, k, none⟩ (.int .i64 (v : Int))).setCell ⟨gp, s, none⟩ (.int .i64 ((v : Int) + 1)))) := Lib.hid (hB1.setCell (p := ⟨gp, s, none⟩) hgb _)
      have e5 : IntKind.i64.wrap ((v : Int) + 1) = (v : Int) + 1 := IntWalk.i64_in _ (by omega)
      have hkn2 : (k : Int) < (n : Int) := by omega
      clear hx hc0 hx0 hlf hpf hz h1 h2 hkeep hP1 hB1 HO HP HB HO1 hv
      go_wp2
      go_roundw
      case rel => exact ⟨k + 1, by omega, by go_num, HO2, HP2, HB2'⟩
      case measure => simp [intOf]; omega
    · obtain rfl : k = n := by omega
      have HF : Hid (NewI w1 ((List.range k).map fun k : Nat => (lfAt L k : Int)) (.returned (.slice (some ⟨g, 0, none⟩) k k)) wr) := Lib.hid (by
        have h := HO.out
        rw [fillK_all, HR.out] at h
        exact newI_own (own_mono h (by have := HB2.out.size; rw [← Hg.out]; exact this)) (by rw [List.length_map, List.length_range]) HB.out)
      clear HO HB HP
      go_wp2
      go_ret
      exact HF.out

theorem implLf_any (A : Option Addr) (c : Nat) (L : List Int) (w : World) (hL : Lies w I A L) :
    Calls Try.prog 22 #[.slice A L.length c] w (NewI w (lfV L)) := by
  unfold lfV
  by_cases h : symOk L = true
  · rw [if_pos h]
    exact implLf_in A L.length c L w hL (Lib.hid rfl) (symOk_len h) (Lib.hid h)
  · rw [if_neg h]
    have HC := Lib.hid (implSymsOk_any A c L w hL)
    rw [show symOk L = false by simpa using h] at HC
    generalize L.length = n at *
    clear hL h
    go_enter Try.func22, Try.ntmps22
    go_wp2_with fail
    refine HC.out.mono ?_
    rintro e w1 ⟨rfl, rfl⟩
    go_wp2
    go_ret
    exact newI_none

end Go.Proofs.Ytkjelakdejbolaa
