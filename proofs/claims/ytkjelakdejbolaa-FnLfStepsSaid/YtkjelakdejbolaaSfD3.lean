/- Drawn texts, as the laws draw them. -/
import Derived.Test.YtkjelakdejbolaaSfD2
namespace Go.Proofs.Ytkjelakdejbolaa
open Go.RowKit
set_option maxRecDepth 100000

/-- A new list of bytes, as long as any that a text is drawn. -/
def NewT (w : World) (e : Ending) (w' : World) : Prop :=
  ∃ (A' : Option Addr) (c' : Nat) (T : List Nat), e = .returned (.slice A' T.length c') ∧ T.length ≤ 301 ∧ (∀ x ∈ T, x < 2 ^ 8) ∧ w'.ownsRow w.heap.size 5 1 (.slice A' T.length c') T.length (T.map B8) ∧ Below w.heap.size w w'
theorem grown_belowG {w w1 w2 : World} (hb : Below w.heap.size w w1) (hg : w1.grownBy w2 (some w.heap.size)) : Below w.heap.size w w2 :=
  hb.trans ⟨hg.os, hg.tape, hg.output, hg.size, fun k hk => hg.block k (Nat.lt_of_lt_of_le hk hb.size) fun e => by have := Option.some.inj e; omega⟩

set_option maxHeartbeats 1600000 in
theorem text_any (g : Nat) (A : Option Addr) (c : Nat) (D : List Nat) (K : Nat) (w : World) (h : Cur w g A c D K) (hK : K ≤ 4611686018427370000) :
    Calls Try.prog 44 #[.pointer (some ⟨g, 0, none⟩)] w (DrewT w g A c D (K + 300) 301) := by
  have hgl := h.lt
  go_enter Try.func44, Try.ntmps44
  go_wp2_with fail
  refine (onceN_any g A c D K 40 w h (by omega) (by omega)).mono ?_
  rintro e w1 ⟨b, rfl, hc1, hg1⟩
  have HC1 := Lib.hid hc1
  have HG1 := Lib.hid hg1
  clear hc1 hg1 h
  cases b
  · go_wp2_with fail
    refine (textOf_any g A c D (K + 1) 40 w1 HC1.out (by omega) (by omega) (by omega)).mono ?_
    rintro e w2 ⟨A', c', T, rfl, hT, hT8, ho, hc2, hg2⟩
    have HF : Hid (DrewT w g A c D (K + 300) 301 (.returned (.slice A' T.length c')) w2) := Lib.hid ⟨A', c', T, rfl, by omega, hT8, own_mono ho HG1.out.size, hc2.more (by omega), HG1.out.trans hg2⟩
    clear hT8 ho hc2 hg2
    go_wp2
    go_ret
    exact HF.out
  · go_wp2_with fail
    refine (pick_any g A c D (K + 1) 2 w1 HC1.out (by omega) (by omega)).mono ?_
    rintro e w2 ⟨r, rfl, hr, _, hc2, hg2⟩
    have hr2 : r < 2 := by have := hr (by omega); omega
    obtain ⟨m, hm⟩ : ∃ m, 300 + r = m := ⟨_, rfl⟩
    have hm2 : 300 + (r : Int) = (m : Int) := by omega
    have hm3 : IntKind.i64.wrap (300 + (r : Int)) = (m : Int) := by rw [IntWalk.i64_in _ (by omega)]; omega
    have hmk := fun W => run_make_row' (P := Try.prog) 22 5 (.int .u8 0) 1 Try.underlying22 Try.infoU8 rfl .i64 .i64 m (by omega) (by omega) W
    have HF : Hid (DrewT w g A c D (K + 300) 301 (.returned (.slice (some ⟨w2.heap.size, 0, none⟩) m m)) (w2.alloc (.cells (madeCells #[Value.int .u8 0] m) 5))) := Lib.hid (by
      have hl : (List.replicate m 0 : List Nat).length = m := by simp
      refine ⟨some ⟨w2.heap.size, 0, none⟩, m, List.replicate m 0, by rw [hl], by omega, fun x hx => ?_, ?_, (cur_alloc hc2 _).more (by omega), (HG1.out.trans hg2).trans (World.grownBy_alloc _ _ _)⟩
      · rw [List.eq_of_mem_replicate hx]
        decide
      · rw [hl]
        have e : (List.replicate m (0 : Nat)).map B8 = List.replicate m (B8 0) := by simp
        rw [e]
        have h2 := World.ownsRow_lit w2 (e := 5) (size := 1) (madeCells #[Value.int .u8 0] m) m (Nat.le_refl _) (by unfold maxLen; omega) (by simp [size_madeCells])
        rw [toList_madeCells_one] at h2
        exact own_mono h2 (Nat.le_trans HG1.out.size hg2.size))
    clear hc2 hg2 hr hm
    go_wp2
    go_ret
    exact HF.out

end Go.Proofs.Ytkjelakdejbolaa
