/- The specification's l03Same and l03List. -/
import Derived.Test.YtlbnngolcoefdaaDoorSp10
import Derived.Test.YtlbnngolcoefdaaDoorPk4
import Derived.Test.YtlbnngolcoefdaaDoorPk8
import Derived.Test.YtlbnngolcoefdaaDoorJoin2
import Derived.Test.YtlbnngolcoefdaaDoorStage
import Derived.Maps.AppendAt
namespace Go.Proofs.YtlbnngolcoefdaaDoor
open Go.RowKit
set_option maxRecDepth 100000

set_option maxHeartbeats 800000 in
theorem l03Same_no (N M : Int) (A B : Option Addr) (n m c d : Nat) (w : World) (h : N ≠ M ∨ n ≠ m) :
    Calls Tryd.prog 133 #[.agg #[.int .i64 N, .slice A n c], .agg #[.int .i64 M, .slice B m d]] w fun e w' => e = .returned (.bool false) ∧ Below w.heap.size w w' := by
  by_cases hN : N = M
  · have t1 : (N != M) = false := by simpa using hN
    have t2 : ((n : Int) != (m : Int)) = true := by rw [bne_iff_ne]; omega
    clear hN
    go_enter Tryd.func133, Tryd.ntmps133
    go_wp2
    go_ret
    exact ⟨rfl, by go_grown⟩
  · have t1 : (N != M) = true := by simpa using hN
    go_enter Tryd.func133, Tryd.ntmps133
    go_wp2
    go_ret
    exact ⟨rfl, by go_grown⟩

set_option maxHeartbeats 800000 in
theorem l03Same_len (N : Int) (A B : Option Addr) (n c d : Nat) (L K : List Nat) (w : World) (hL : Lies w U A L) (hK : Lies w U B K) (HL : Hid (L.length = n)) (HK : Hid (K.length = n)) (hn : n ≤ 17592186044416) :
    Calls Tryd.prog 133 #[.agg #[.int .i64 N, .slice A n c], .agg #[.int .i64 N, .slice B n d]] w fun e w' => e = .returned (.bool (decide (L = K))) ∧ Below w.heap.size w w' := by
  have t1 : (N != N) = false := by simp
  go_enter Tryd.func133, Tryd.ntmps133
  go_wp2
  clear t1
  go_loopw [5] (fun i wr => ∃ k : Nat, k ≤ n ∧ i = .int .i64 k ∧ Hid (L.take k = K.take k) ∧ Scene w wr [.box (w.heap.size + 1) 29 #[.int .i64 N, .slice B n d], .box w.heap.size 29 #[.int .i64 N, .slice A n c]]) (fun i _ => n - (intOf i).toNat)
  case atStart =>
    have sc := ((Scene.start w).box 29 #[.int .i64 N, .slice A n c]).box 29 #[.int .i64 N, .slice B n d]
    rw [World.size_alloc] at sc
    exact ⟨0, Nat.zero_le _, rfl, Lib.hid rfl, sc⟩
  case round =>
    obtain ⟨k, hk, rfl, HT, sc⟩ := hrel
    obtain ⟨f0, f1, fl⟩ := sc.two 0 rfl
    obtain ⟨g0, g1, gl⟩ := sc.two 1 rfl
    by_cases hlt : k < n
    · obtain ⟨b, o, x, rfl, hbl, hx, hc⟩ := hL.at_ (i := k) (by rw [HL.out]; exact hlt)
      obtain ⟨b', o', y, rfl, hbl', hy, hc'⟩ := hK.at_ (i := k) (by rw [HK.out]; exact hlt)
      have hcx : wr.cell? ⟨b, o + k, none⟩ = some (.int .u64 x) := (sc.below.cell (p := ⟨b, o + k, none⟩) hbl).trans hc
      have hcy : wr.cell? ⟨b', o' + k, none⟩ = some (.int .u64 y) := (sc.below.cell (p := ⟨b', o' + k, none⟩) hbl').trans hc'
      have HX := Lib.hid hx
      have HY := Lib.hid hy
      have SC := Lib.hid sc
      clear hx hy hL hK hc hc' sc
      by_cases hxy : x = y
      · subst hxy
        go_wp2
        go_quiet (fail)
        go_wp2
        go_roundw
        case rel => exact ⟨k + 1, by omega, by go_num, Lib.hid (take_same_succ HT.out HX.out HY.out), SC.out.draw _⟩
        case measure => simp [intOf]; omega
      · have hne : ((x : Int) != (y : Int)) = true := by rw [bne_iff_ne]; omega
        have hne3 : ¬ ((x : Int) = (y : Int)) := by omega
        have HF := Lib.hid (decide_eq_false (ne_of_at HX.out HY.out hxy))
        go_wp2
        go_quiet (fail)
        go_wp2
        go_ret
        exact ⟨ret_bool HF.out.symm, below_dN SC.out.below _⟩
    · have HB := Lib.hid sc.below
      clear sc
      go_wp2
      go_ret
      have e : L = K := by
        have h := HT.out
        rwa [List.take_of_length_le (by rw [HL.out]; omega), List.take_of_length_le (by rw [HK.out]; omega)] at h
      exact ⟨ret_bool (decide_eq_true e).symm, HB.out⟩

theorem l03Same_any (N M : Int) (A B : Option Addr) (c d : Nat) (L K : List Nat) (w : World) (hL : Lies w U A L) (hK : Lies w U B K) (hn : L.length ≤ 17592186044416) :
    Calls Tryd.prog 133 #[.agg #[.int .i64 N, .slice A L.length c], .agg #[.int .i64 M, .slice B K.length d]] w fun e w' => e = .returned (.bool (decide (N = M ∧ L = K))) ∧ Below w.heap.size w w' := by
  by_cases h : N = M ∧ L.length = K.length
  · obtain ⟨rfl, hl⟩ := h
    have h2 := l03Same_len N A B L.length c d L K w hL hK (Lib.hid rfl) (Lib.hid hl.symm) hn
    rw [← hl]
    refine h2.mono fun e w' h => ⟨?_, h.2⟩
    rw [h.1]
    simp
  · refine (l03Same_no N M A B L.length K.length c d w (by omega)).mono fun e w' h' => ⟨?_, h'.2⟩
    rw [h'.1, decide_eq_false]
    rintro ⟨rfl, rfl⟩
    exact h ⟨rfl, rfl⟩

/-- A row that grows, and the box of the argument. -/
structure GrInv (w : World) (t : TypeId) (cs : Array Value) (D : List Int) (s : Value) (W : World) : Prop where
  below : Below w.heap.size w W
  res : Box W w.heap.size t cs
  own : W.ownsRow (w.heap.size + 1) 3 1 s D.length (D.map I)
theorem GrInv.push {w : World} {t : TypeId} {cs : Array Value} {D : List Int} {s v : Value} {W W' : World} {o : Obj} {x : Int} (h : GrInv w t cs D s W) (hown : W'.ownsRow (w.heap.size + 1) 3 1 v (D.length + 1) (D.map I ++ [.int .i64 x])) (hg : (W.alloc o).grownBy W' s.ownBlock) : GrInv w t cs (D ++ [x]) v W' := by
  have hlt := h.res.lt
  refine ⟨(h.below.alloc (by omega) o).grown hg (by simp; omega) (fun j hj => by have := (h.own.lt j hj).1; omega), (h.res.alloc o).grown hg (own_apart h.own (by omega)), ?_⟩
  rw [List.length_append, List.map_append]
  exact hown
theorem GrInv.draw {w : World} {t : TypeId} {cs : Array Value} {D : List Int} {s : Value} {W : World} (h : GrInv w t cs D s W) : GrInv w t cs D s W.drew := ⟨h.below.drew, h.res, h.own⟩

end Go.Proofs.YtlbnngolcoefdaaDoor
