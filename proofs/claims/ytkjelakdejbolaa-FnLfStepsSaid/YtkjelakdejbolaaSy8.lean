/- Counts of the program. -/
import Derived.Test.YtkjelakdejbolaaSy2
import Derived.Test.YtkjelakdejbolaaSy7
import Derived.Test.YtkjelakdejbolaaSfI1
namespace Go.Proofs.Ytkjelakdejbolaa
open Go.RowKit
set_option maxRecDepth 100000

theorem fill_first {R : Nat → Int} {m : Nat} (h : R 0 = 0) (hm : 0 < m) : fillK R m 1 = List.replicate m 0 := by
  have h1 := fillK_succ R m 0 hm
  rw [fillK_zero, h] at h1
  rw [← h1]
  refine List.ext_getElem? fun j => ?_
  rw [List.getElem?_set, List.getElem?_replicate, List.length_replicate]
  by_cases e : 0 = j
  · rw [if_pos e, if_pos hm, if_pos (by omega)]
  · rw [if_neg e]

theorem index_syms (L : List Int) (n k v : Nat) (hk : k < 257) (hv : (L.take n).count (k : Int) = v) (W : World) : (Instr.index 45 (.agg (symC L n)) (.int .i64 (k : Int))).run Try.prog W = .ok (.int .i64 (v : Int)) W := by
  have h1 := symC_get L n k hk
  rw [hv] at h1
  simp [Instr.index, run_underlying Try.underlying45, asIntOf, part, hk, h1, Try.isAgg3, Try.sizeOf3, go_sem]

set_option maxHeartbeats 2000000 in
theorem implCounts_in (A : Option Addr) (n c : Nat) (L : List Int) (w : World) (hL : Lies w I A L) (Hn : Hid (L.length = n)) (hn : n ≤ 301) (HOk : Hid (symOk L = true)) :
    Calls Try.prog 26 #[.slice A n c] w (NewI w ((List.range 258).map fun c : Nat => (ltN L (c : Int) : Int))) := by
  have HC := Lib.hid (implSymsOk_any A c L w hL)
  rw [Hn.out, HOk.out] at HC
  obtain ⟨R, hR⟩ : ∃ R : Nat → Int, R = fun c : Nat => (ltN L (c : Int) : Int) := ⟨_, rfl⟩
  have HR := Lib.hid hR
  clear hR
  have hz := Try.zeroSyms
  have HB1 : Hid (Below w.heap.size w (w.alloc (.cells symZ 45))) := Lib.hid ((Below.refl _ _).alloc (Nat.le_refl _) _)
  have HCo := Lib.hid (count_syms A n c L w (w.alloc (.cells symZ 45)) hL Hn hn HOk (Box.made _ _ _) HB1.out)
  obtain ⟨Zs, hZs⟩ : ∃ Zs, Zs = madeCells #[Value.int .i64 0] 258 := ⟨_, rfl⟩
  have hmk : ∀ W : World, (Instr.makeSlice 25 (.int .i64 258) (.int .i64 258)).run Try.prog W = .ok (.slice (some ⟨W.heap.size, 0, none⟩) 258 258) (W.alloc (.cells Zs 3)) := fun W => by
    rw [hZs]
    exact run_make_row' (P := Try.prog) 25 3 (.int .i64 0) 8 Try.underlying25 Try.infoInt rfl .i64 .i64 258 (by omega) (by omega) W
  have HZs := Lib.hid hZs
  clear hZs
  have HIx := Lib.hid (index_syms L n)
  have HLe : Hid (∀ k, ltN L k ≤ 301) := Lib.hid fun k => Nat.le_trans (ltN_le L k) (by rw [Hn.out]; exact hn)
  clear hL
  go_enter Try.func26, Try.ntmps26
  go_wp2_with fail
  refine HC.out.mono ?_
  rintro e w1 ⟨rfl, rfl⟩
  go_wp2_with fail
  refine HCo.out.mono ?_
  rintro e w2 ⟨rfl, hx, hb⟩
  obtain ⟨g, hg⟩ : ∃ g, w2.heap.size = g := ⟨_, rfl⟩
  have hx3 : (w2.alloc (.cells Zs 3)).heap[w1.heap.size]? = some (.cells (symC L n) 45 (0, 0)) := hx.alloc _
  have hgl := hx.lt
  have HB2 : Hid (Below w1.heap.size w1 w2) := Lib.hid hb
  have HB3 : Hid (Below g w2 (w2.alloc (.cells Zs 3))) := Lib.hid (by rw [← hg]; exact (Below.refl _ _).alloc (Nat.le_refl _) _)
  have HO3 : Hid ((w2.alloc (.cells Zs 3)).ownsRow g 3 1 (.slice (some ⟨g, 0, none⟩) 258 258) 258 ((fillK R 258 1).map I)) := Lib.hid (by
    have e : (fillK R 258 1).map I = List.replicate 258 (I 0) := by rw [fill_first (by rw [HR.out]; exact congrArg Int.ofNat (ltN_zero fun x hx => (((symOk_iff L).1 HOk.out).2 x hx).1)) (by omega)]; simp
    rw [e, ← toList_madeCells_one, ← hg, ← HZs.out]
    exact World.ownsRow_lit w2 _ _ (Nat.le_refl _) (by unfold maxLen; omega) (by rw [HZs.out]; simp [size_madeCells]))
  have Hg := Lib.hid hg
  have hszs := symC_size L n
  have hinf : (Try.prog.info? 45).map (·.size) = some (symC L n).size := by rw [hszs]; exact Try.infoSyms
  clear hx hb hz HCo HB1
  go_wp2_with (refine wpList_load_row rfl 45 _ rfl w1.heap.size rfl 45 _ (0, 0) _ hx3 Try.underlying45 rfl hinf ?_)
  clear hmk hinf hszs hx3
  generalize w2.alloc (.cells Zs 3) = w3 at *
  clear hg
  obtain ⟨cs, hcs⟩ : ∃ cs, symC L n = cs := ⟨_, rfl⟩
  rw [hcs] at HIx ⊢
  clear hcs
  go_loopw [14] (fun i wr => ∃ k : Nat, k ≤ 257 ∧ i = .int .i64 k ∧ Hid (wr.ownsRow g 3 1 (.slice (some ⟨g, 0, none⟩) 258 258) 258 ((fillK R 258 (k + 1)).map I)) ∧ Hid (Below g w2 wr)) (fun i _ => 257 - (intOf i).toNat)
  case atStart => exact ⟨0, Nat.zero_le _, rfl, HO3, HB3⟩
  case round =>
    obtain ⟨k, hk, rfl, HO, HB⟩ := hrel
    clear HO3 HB3
    by_cases hlt : k < 257
    · obtain ⟨k1, hk1⟩ : ∃ k1, k + 1 = k1 := ⟨_, rfl⟩
      rw [hk1] at HO
      have hix : ∀ v, Hid (L.count (k : Int) = v) → ∀ W : World, (Instr.index 45 (.agg cs) (.int .i64 (k : Int))).run Try.prog W = .ok (.int .i64 (v : Int)) W := fun v hv W => HIx.out k v hlt (by rw [List.take_of_length_le (by rw [Hn.out]; exact Nat.le_refl _)]; exact hv.out) W
      obtain ⟨v, hv⟩ : ∃ v, L.count (k : Int) = v := ⟨_, rfl⟩
      have hixv := hix v (Lib.hid hv)
      obtain ⟨u, hu⟩ : ∃ u, ltN L (k : Int) = u := ⟨_, rfl⟩
      have hle : u ≤ 301 := by rw [← hu]; exact HLe.out _
      have hs : ltN L ((k1 : Nat) : Int) = u + v := by
        rw [← hk1, Int.natCast_add, Int.natCast_one, ltN_succ, hu, hv]
      have hle2 : u + v ≤ 301 := by rw [← hs]; exact HLe.out _
      have hd : wr.cell? ⟨g, k, none⟩ = some (I (u : Int)) := (HO.out.cellAt k (by omega)).trans (by
        rw [List.getElem?_map, fillK_get R 258 k1 k (by omega), if_pos (by omega), HR.out]
        show some (I (ltN L (k : Int) : Int)) = _
        rw [hu])
      obtain ⟨z, hz⟩ := fillK_getV R 258 k1 k1 (by omega)
      have hd2 : wr.cell? ⟨g, k1, none⟩ = some (I z) := (HO.out.cellAt k1 (by omega)).trans hz
      have hf := HO.out.frozenAt k1
      have HSt : Hid ((wr.setCell ⟨g, k1, none⟩ (.int .i64 ((u : Int) + (v : Int)))).ownsRow g 3 1 (.slice (some ⟨g, 0, none⟩) 258 258) 258 ((fillK R 258 (k1 + 1)).map I)) := Lib.hid (by
        have h1 := (HO.out.stored k1 (.int .i64 ((u : Int) + (v : Int)))).1
        have h2 := fillK_setV R 258 k1 (by omega)
        have h3 : R k1 = (u : Int) + (v : Int) := by rw [HR.out]; show (ltN L (k1 : Int) : Int) = _; rw [hs]; omega
        rw [h3] at h2
        rw [h2] at h1
        exact h1)
      have HBs := Lib.hid (HB.out.setCell (p := ⟨g, k1, none⟩) (Nat.le_refl _) (.int .i64 ((u : Int) + (v : Int))))
      have e1 : IntKind.i64.wrap ((k : Int) + 1) = (k1 : Int) := by rw [IntWalk.i64_in _ (by omega)]; omega
      have e2 : IntKind.i64.wrap ((u : Int) + (v : Int)) = (u : Int) + (v : Int) := IntWalk.i64_in _ (by omega)
      have e3 : (k : Int) + 1 = (k1 : Int) := by omega
      have hk257 : (k : Int) < 258 := by omega
      have hk1257 : (k1 : Int) < 258 := by omega
      have Hk1 := Lib.hid hk1
      clear hix hv hu hs hz HO HB hk1
      go_wp2
      go_roundw
      case rel => exact ⟨k1, by omega, rfl, HSt, HBs⟩
      case measure => have := Hk1.out; simp [intOf]; omega
    · obtain rfl : k = 257 := by omega
      have HF : Hid (NewI w1 ((List.range 258).map fun c : Nat => (ltN L (c : Int) : Int)) (.returned (.slice (some ⟨g, 0, none⟩) 258 258)) wr) := Lib.hid (by
        have h := HO.out
        rw [fillK_all, HR.out] at h
        exact newI_own (own_mono h (by have := HB2.out.size; rw [← Hg.out]; exact this)) (by rw [List.length_map, List.length_range]) (below_then HB2.out (by rw [Hg.out]; exact HB.out)))
      clear HO HB
      go_wp2
      go_ret
      exact HF.out

theorem implCounts_any (A : Option Addr) (c : Nat) (L : List Int) (w : World) (hL : Lies w I A L) :
    Calls Try.prog 26 #[.slice A L.length c] w (NewI w (countsV L)) := by
  unfold countsV
  by_cases h : symOk L = true
  · rw [if_pos h]
    exact implCounts_in A L.length c L w hL (Lib.hid rfl) (symOk_len h) (Lib.hid h)
  · rw [if_neg h]
    have HC := Lib.hid (implSymsOk_any A c L w hL)
    rw [show symOk L = false by simpa using h] at HC
    generalize L.length = n at *
    clear hL h
    go_enter Try.func26, Try.ntmps26
    go_wp2_with fail
    refine HC.out.mono ?_
    rintro e w1 ⟨rfl, rfl⟩
    go_wp2
    go_ret
    exact newI_none

end Go.Proofs.Ytkjelakdejbolaa
