/- The program's array of counts: cleared, then counted up. -/
import Derived.Test.YtkjelakdejbolaaSy1
import Derived.Test.YtkjelakdejbolaaScene
import Derived.Lib.SliceRun
import Derived.Laws.Rows
import Derived.Deep.WholeRow
import Derived.StillTailTactics
namespace Go.Proofs.Ytkjelakdejbolaa
open Go.RowKit
set_option maxRecDepth 100000

/-- The array when k symbols have been counted. -/
def symC (L : List Int) (k : Nat) : Array Value := ((List.range 257).map fun s : Nat => I (((L.take k).count (s : Int) : Nat) : Int)).toArray
def symZ : Array Value := (List.replicate 257 (I 0)).toArray
theorem symC_zero (L : List Int) : symC L 0 = symZ := by
  unfold symC symZ
  simp [List.map_const']
theorem symC_size (L : List Int) (k : Nat) : (symC L k).size = 257 := by simp [symC]
theorem symZ_size : symZ.size = 257 := by simp [symZ]
theorem symC_get (L : List Int) (k s : Nat) (h : s < 257) : (symC L k)[s]? = some (I (((L.take k).count (s : Int) : Nat) : Int)) := by
  unfold symC
  rw [List.getElem?_toArray, List.getElem?_map, List.getElem?_range h]
  rfl
theorem symC_put {L : List Int} {k s : Nat} (hs : s < 257) (hk : L[k]? = some (s : Int)) : (symC L k).setIfInBounds s (I (((L.take k).count (s : Int) + 1 : Nat) : Int)) = symC L (k + 1) := by
  apply Array.ext_getElem?
  intro j
  by_cases hj : j < 257
  · rw [symC_get L _ j hj, Array.getElem?_setIfInBounds, symC_size, count_take1 hk]
    by_cases e : s = j
    · subst e
      rw [if_pos rfl, if_pos hs, if_pos rfl]
    · rw [if_neg e, symC_get L k j hj, if_neg (by omega)]
      rfl
  · rw [Array.getElem?_eq_none (by rw [Array.size_setIfInBounds, symC_size]; omega), Array.getElem?_eq_none (by rw [symC_size]; omega)]

/-- Cells of a block laid anew, from one place on. -/
theorem box_setCells {g : Nat} {t : TypeId} : ∀ (vs : List Value) (o : Nat) (w : World) (pre post : List Value), pre.length = o → post.length = vs.length → Box w g t (pre ++ post).toArray → Box (w.setCells g o vs) g t (pre ++ vs).toArray
  | [], o, w, pre, post, _, hl, h => by
    obtain rfl : post = [] := List.length_eq_zero_iff.1 (by simpa using hl)
    exact h
  | v :: vs, o, w, pre, [], _, hl, h => by simp at hl
  | v :: vs, o, w, pre, p :: post, ho, hl, h => by
    have h1 := h.put o v
    have e : (pre ++ p :: post).toArray.setIfInBounds o v = ((pre ++ [v]) ++ post).toArray := by
      rw [List.setIfInBounds_toArray, List.set_append_right _ _ (by omega), show o - pre.length = 0 by omega]
      simp
    rw [e] at h1
    have h2 := box_setCells vs (o + 1) _ (pre ++ [v]) post (by simp; omega) (by simpa using hl) h1
    rw [List.append_assoc] at h2
    exact h2
theorem below_setCells {B g : Nat} {w0 : World} (hg : B ≤ g) : ∀ (vs : List Value) (o : Nat) (w : World), Below B w0 w → Below B w0 (w.setCells g o vs)
  | [], _, _, h => h
  | v :: vs, o, w, h => below_setCells hg vs (o + 1) _ (h.setCell (p := ⟨g, o, none⟩) hg v)

theorem Try.zeroInt (W : World) : (zeroValue 3).run Try.prog W = .ok (.int .i64 0) W := by kernel_rfl
theorem Try.zeroSyms (W : World) : (zeroValue 45).run Try.prog W = .ok (.agg symZ) W := (zero_of_info (n := 257) (by kernel_rfl)).1 W
theorem Try.infoSyms : (Try.prog.info? 45).map (·.size) = some 257 := by kernel_rfl

set_option maxHeartbeats 1600000 in
theorem count_syms (A : Option Addr) (n c : Nat) (L : List Int) (w0 w : World) (hL : Lies w0 I A L) (Hn : Hid (L.length = n)) (hn : n ≤ 301) (HOk : Hid (symOk L = true)) (hx : Box w w0.heap.size 45 symZ) (hb : Below w0.heap.size w0 w) :
    Calls Try.prog 50 #[.pointer (some ⟨w0.heap.size, 0, none⟩), .slice A n c] w fun e w' => e = .returned (.tuple #[]) ∧ Box w' w0.heap.size 45 (symC L n) ∧ Below w0.heap.size w0 w' := by
  have HL := Lib.hid hL
  clear hL
  have hcl : ∀ ty, (Builtin.clear_ #[25] ty #[.slice (some ⟨w0.heap.size, 0, none⟩) 257 257]).run Try.prog w = .ok (.tuple #[]) (w.setCells w0.heap.size 0 (List.replicate 257 (.int .i64 0))) := fun ty =>
    Lib.run_clear_slice w 25 3 ty (.int .i64 0) Try.underlying25 Try.zeroInt rfl rfl w0.heap.size 0 257 257 (by omega) (fun j hj => by rw [hx.cell, Array.getElem?_eq_getElem (by rw [symZ_size]; omega)]; rfl) (fun j hj => hx.frozen _)
  have HX : Hid (Box (w.setCells w0.heap.size 0 (List.replicate 257 (.int .i64 0))) w0.heap.size 45 (symC L 0)) := Lib.hid (by
    rw [symC_zero]
    exact box_setCells (List.replicate 257 (.int .i64 0)) 0 w [] (List.replicate 257 (I 0)) rfl (by simp) hx)
  have HB : Hid (Below w0.heap.size w0 (w.setCells w0.heap.size 0 (List.replicate 257 (.int .i64 0)))) := Lib.hid (below_setCells (Nat.le_refl _) _ _ _ hb)
  have hgl := hx.lt
  clear hx hb
  generalize w.setCells w0.heap.size 0 (List.replicate 257 (.int .i64 0)) = w1 at *
  go_enter Try.func50, Try.ntmps50
  go_wp2_with (simp only [hcl])
  clear hcl
  go_loopw [11] (fun i wr => ∃ k : Nat, k ≤ n ∧ i = .int .i64 k ∧ Hid (Box wr w0.heap.size 45 (symC L k)) ∧ Hid (Below w0.heap.size w0 wr)) (fun i _ => n - (intOf i).toNat)
  case atStart => exact ⟨0, Nat.zero_le _, rfl, HX, HB⟩
  case round =>
    obtain ⟨k, hk, rfl, HXr, HBr⟩ := hrel
    clear HX HB
    by_cases hlt : k < n
    · obtain ⟨b, o, x, hA, hbl, hx, hc0⟩ := HL.out.at_ (i := k) (by rw [Hn.out]; exact hlt)
      subst hA
      have hc : wr.cell? ⟨b, o + k, none⟩ = some (I x) := (HBr.out.cell (p := ⟨b, o + k, none⟩) hbl).trans hc0
      have hx0 := symOk_at HOk.out hx
      obtain ⟨s, rfl⟩ := Int.eq_ofNat_of_zero_le hx0.1
      have hs : s < 257 := by omega
      have hs2 : (s : Int) < 257 := by omega
      have hle : (L.take k).count (s : Int) ≤ 301 := Nat.le_trans List.count_le_length (by rw [List.length_take]; omega)
      have HV := Lib.hid (symC_put hs hx)
      have hd : wr.cell? ⟨w0.heap.size, s, none⟩ = some (I (((L.take k).count (s : Int) : Nat) : Int)) := (HXr.out.cell s).trans (symC_get L k s hs)
      have hf := HXr.out.frozen s
      have hg := HXr.out.lt
      obtain ⟨v, hv⟩ : ∃ v, (L.take k).count (s : Int) = v := ⟨_, rfl⟩
      rw [hv] at HV hle hd
      have e5 : IntKind.i64.wrap ((v : Int) + 1) = (v : Int) + 1 := IntWalk.i64_in _ (by omega)
      clear hx hc0 hx0 hv
      go_wp2_with fail
      go_still_tail 8, (by kernel_rfl)
      repeat still_step
      try refine wpStill_nil ?_
      change wpList _ _ _ _ _ wr.drew
      have HX2 : Hid (Box (wr.drew.setCell ⟨w0.heap.size, s, none⟩ (.int .i64 ((v : Int) + 1))) w0.heap.size 45 (symC L (k + 1))) := Lib.hid (by
        have h := (HXr.out.draw 1).put s (.int .i64 ((v : Int) + 1))
        have h2 := HV.out
        rw [show I ((v + 1 : Nat) : Int) = .int .i64 ((v : Int) + 1) by rfl] at h2
        rw [h2] at h
        exact h)
      have HB2 : Hid (Below w0.heap.size w0 (wr.drew.setCell ⟨w0.heap.size, s, none⟩ (.int .i64 ((v : Int) + 1)))) := Lib.hid (HBr.out.drew.setCell (p := ⟨w0.heap.size, s, none⟩) (Nat.le_refl _) _)
      clear HXr HBr HV
      go_wp2
      go_roundw
      case rel => exact ⟨k + 1, by omega, by go_num, HX2, HB2⟩
      case measure => simp [intOf]; omega
    · obtain rfl : k = n := by omega
      go_wp2
      go_end0
      exact ⟨rfl, HXr.out, HBr.out⟩

end Go.Proofs.Ytkjelakdejbolaa
