import Derived.Test.YtlbnngolcoefdaaDoorErrIs
import Derived.Test.YtlbnngolcoefdaaDoorFrs9
import Derived.Test.YtlbnngolcoefdaaDoorVarRd3
import Derived.Test.YtlbnngolcoefdaaDoorFr3
import Derived.StillTailTactics
/- The laws' own pick. -/
namespace Go.Proofs.YtlbnngolcoefdaaDoor
open Go.RowKit
set_option maxRecDepth 100000

/-- What the laws' pick returns. -/
def LPick (n : Int) (r : Nat) : Prop := (2 ≤ n → (r : Int) < n) ∧ (n < 2 → r = 0)

set_option maxHeartbeats 800000 in
theorem lpick_any (A : Option Addr) (c : Nat) (D : List Nat) (a : Nat) (n : Int) (w : World) (hD : Lies w B8 A D) (hw : ∀ x ∈ D, x < 2 ^ 8) (hl : D.length ≤ 1048576) (ha : a ≤ 1000) (hn2 : n ≤ 9223372036854775807) :
    Calls Tryd.prog 26 #[.slice A D.length c, .int .i64 a, .int .i64 n] w fun e w' => ∃ r : Nat, e = .returned (.int .i64 r) ∧ LPick n r ∧ w = w' := by
  by_cases h0 : D.length = 0
  · have t1 : ((D.length : Int) == 0) = true := by rw [beq_iff_eq]; omega
    have t1n : (D.length == 0) = true := by rw [beq_iff_eq]; omega
    clear hD hw
    rw [h0]
    go_enter Tryd.func26, Tryd.ntmps26
    go_wp2
    go_ret
    exact ⟨0, rfl, ⟨fun h => by omega, fun _ => rfl⟩, rfl⟩
  · have t1 : ((D.length : Int) == 0) = false := by rw [beq_eq_false_iff_ne]; omega
    have hnl : ¬ ((D.length : Int) = 0) := by omega
    by_cases hn : n < 2
    · have t2 : decide (n < 2) = true := by simpa using hn
      clear hD hw
      go_enter Tryd.func26, Tryd.ntmps26
      go_wp2
      go_ret
      exact ⟨0, rfl, ⟨fun h => by omega, fun _ => rfl⟩, rfl⟩
    · have t2 : decide (n < 2) = false := by simpa using hn
      obtain ⟨m, rfl⟩ := Int.eq_ofNat_of_zero_le (show 0 ≤ n by omega)
      have HW := Lib.hid hw
      have hdl : 0 < D.length := by omega
      clear hw h0
      go_enter Tryd.func26, Tryd.ntmps26
      go_wp2
      go_loop [7, 8] (fun q j => ∃ x k : Nat, k ≤ 3 ∧ x ≤ 1000 * 256 ^ k ∧ x ≤ 16777216000 ∧ q = .int .i64 x ∧ j = .int .i64 k) (fun _ j => 3 - (intOf j).toNat)
      case atStart => exact ⟨0, 0, by omega, by omega, by omega, rfl, rfl⟩
      case round =>
        obtain ⟨x, k, hk, hxk, hx9, rfl, rfl⟩ := hrel
        by_cases hlt : k < 3
        · obtain ⟨i, hi⟩ : ∃ i, (a + k) % D.length = i := ⟨_, rfl⟩
          have hil : i < D.length := by rw [← hi]; exact Nat.mod_lt _ hdl
          have hit : ((a : Int) + (k : Int)).tmod (D.length : Int) = (i : Int) := by
            rw [Int.tmod_eq_emod_of_nonneg (by omega), ← hi]
            simp
          have hie : ((a : Int) + (k : Int)) % (D.length : Int) = (i : Int) := by
            rw [← hi]
            simp
          obtain ⟨b, o, y, rfl, hbl, hy, hc⟩ := hD.at_ hil
          have hy8 := HW.out y (List.mem_of_getElem? hy)
          have hxn : 31 * x + y ≤ 1000 * 256 ^ (k + 1) ∧ 31 * x + y ≤ 16777216000 := by
            have h1 : 1 ≤ 256 ^ k := Nat.pow_pos (by decide)
            have h2 : 256 ^ (k + 1) ≤ 256 ^ 3 := Nat.pow_le_pow_right (by decide) (by omega)
            rw [Nat.pow_succ] at h2 ⊢
            omega
          clear hy hi hxk hD
          go_wp2
          go_round
          case rel => exact ⟨31 * x + y, k + 1, by omega, hxn.1, hxn.2, by go_num, by go_num⟩
          case measure => simp [intOf]; omega
        · obtain ⟨y, hy⟩ : ∃ y, x + a = y := ⟨_, rfl⟩
          have hyi : (x : Int) + (a : Int) = (y : Int) := by omega
          have hrem := rem_form y m (by omega)
          clear hxk hD hy
          go_wp2
          go_ret
          exact ⟨y % m, ret_int (by simp), ⟨fun _ => Int.ofNat_lt.2 (Nat.mod_lt _ (by omega)), fun h => by omega⟩, rfl⟩

end Go.Proofs.YtlbnngolcoefdaaDoor

/- All the mathematics of FnFramesBack: what FramesOf makes is read again, and what a cut leaves. -/
namespace Go.Proofs.YtlbnngolcoefdaaDoor
open Go.RowKit

/-- A frame's kind as a number of its own. -/
def tnF (p : Int × List Nat) : Nat × List Nat := (p.1.toNat, p.2)
theorem tnF_back : ∀ {V : List (Int × List Nat)}, (∀ p ∈ V, okF p.1 p.2.length = true) → (V.map tnF).map (fun p => ((p.1 : Int), p.2)) = V
  | [], _ => rfl
  | v :: V, h => by
    rw [List.map_cons, List.map_cons, tnF_back fun p hp => h p (List.mem_cons_of_mem _ hp)]
    have h1 := of_decide_eq_true (h v (List.mem_cons_self ..))
    have e : ((tnF v).1 : Int) = v.1 := Int.toNat_of_nonneg h1.1
    rw [e]
    rfl
theorem tnF_len {V : List (Int × List Nat)} (h : ∀ p ∈ V, okF p.1 p.2.length = true) : ∀ p ∈ V.map tnF, p.2.length ≤ 8000 := by
  intro p hp
  obtain ⟨v, hv, rfl⟩ := List.mem_map.1 hp
  exact (of_decide_eq_true (h v hv)).2.2
theorem frsB_ge : ∀ P : List (Nat × List Nat), P.length ≤ (frsB P).length
  | [] => Nat.zero_le _
  | p :: r => by
    have h1 := frsB_ge r
    have h2 := frB_len p.1 p.2
    rw [frsB, List.length_append, List.length_cons]
    omega

theorem frsB_byte : ∀ {V : List (Int × List Nat)}, (∀ p ∈ V, okF p.1 p.2.length = true) → (∀ v ∈ V, ∀ x ∈ v.2, x < 2 ^ 8) → ∀ x ∈ frsB (V.map tnF), x < 2 ^ 8
  | [], _, _ => fun x hx => by simp [frsB] at hx
  | v :: V, h1, h2 => fun x hx => by
    rw [List.map_cons, frsB] at hx
    rcases List.mem_append.1 hx with hx | hx
    · have := of_decide_eq_true (h1 v (List.mem_cons_self ..))
      have hk : (tnF v).1 < 2 ^ 8 := by
        show v.1.toNat < 2 ^ 8
        omega
      exact frB_byte hk (h2 v (List.mem_cons_self ..)) (varV_byte _) x hx
    · exact frsB_byte (fun p hp => h1 p (List.mem_cons_of_mem _ hp)) (fun p hp => h2 p (List.mem_cons_of_mem _ hp)) x hx

/-- Frames are recovered. -/
theorem back_all {V : List (Int × List Nat)} {D : List Nat} (h : foF [] V = some D) : D.length ≤ 8000 ∧ frsN D = (D.length : Int) ∧ frsV D = V := by
  have hl := foF_len V [] D h (by simp)
  obtain ⟨h1, h2⟩ := foF_some V [] D h
  rw [List.nil_append] at h2
  have h2' : D = frsB (V.map tnF) := h2
  have hg := frsB_ge (V.map tnF)
  have hr := frsF_back (V.map tnF) [] (D.length + 1) (tnF_len h1) rfl (by rw [h2']; omega)
  rw [List.append_nil, ← h2'] at hr
  have hR : frsR D = (V.map tnF, D.length) := hr
  refine ⟨hl, ?_, ?_⟩
  · unfold frsN
    rw [if_pos hl, hR]
  · unfold frsV
    rw [if_pos hl, hR]
    exact tnF_back h1

/-- What a cut in the last frame leaves. -/
theorem back_cut {V : List (Int × List Nat)} {v : Int × List Nat} {D : List Nat} (h : foF [] (V ++ [v]) = some D) (hb : ∀ x ∈ v.2, x < 2 ^ 8) :
    (frV v.1 v.2).length ≤ D.length ∧ 7 ≤ (frV v.1 v.2).length ∧ ∀ c : Nat, c < (frV v.1 v.2).length → frsN (D.take (D.length - 1 - c)) = (D.length : Int) - ((frV v.1 v.2).length : Int) ∧ (frsV (D.take (D.length - 1 - c))).length = V.length := by
  have hl := foF_len (V ++ [v]) [] D h (by simp)
  obtain ⟨h1, h2⟩ := foF_some (V ++ [v]) [] D h
  have h2' : D = frsB (V.map tnF ++ [(v.1.toNat, v.2)]) := by
    rw [List.nil_append, List.map_append] at h2
    exact h2
  have hv := h1 v (by simp)
  have hv' := of_decide_eq_true hv
  have e1 : frV v.1 v.2 = frB v.1.toNat v.2 := by unfold frV; rw [if_pos hv]
  have hB : ∀ x ∈ frB v.1.toNat v.2, x < 2 ^ 8 := frB_byte (by omega) hb (varV_byte _)
  have hap : D.length = (frsB (V.map tnF)).length + (frB v.1.toNat v.2).length := by
    rw [h2', frsB_append, List.length_append]
    simp only [frsB, List.append_nil]
  have h7 : 7 ≤ (frB v.1.toNat v.2).length := by
    have hb := frP_back v.1.toNat v.2 [] hv'.2.2
    rw [List.append_nil] at hb
    exact (frP_some hB hb).2.2.2.2.1
  rw [e1]
  refine ⟨by omega, h7, fun c hc => ?_⟩
  have hg := frsB_ge (V.map tnF)
  have hlt : (D.take (D.length - 1 - c)).length = D.length - 1 - c := by rw [List.length_take]; omega
  have hcut := frames_cut (P := V.map tnF) (k := v.1.toNat) (L := v.2) (c := c) (f := (D.take (D.length - 1 - c)).length + 1) (tnF_len fun p hp => h1 p (by simp [hp])) hv'.2.2 hB hc (by rw [hlt]; omega)
  rw [← h2'] at hcut
  have hR : frsR (D.take (D.length - 1 - c)) = (V.map tnF, (frsB (V.map tnF)).length) := hcut
  refine ⟨?_, ?_⟩
  · unfold frsN
    rw [if_pos (by omega), hR]
    simp only
    omega
  · unfold frsV
    rw [if_pos (by omega), hR, List.length_map, List.length_map]

end Go.Proofs.YtlbnngolcoefdaaDoor

/- The laws' copy of bytes. -/
namespace Go.Proofs.YtlbnngolcoefdaaDoor
open Go.RowKit
set_option maxRecDepth 100000

set_option maxHeartbeats 400000 in
theorem bytesOf_new (A : Option Addr) (c : Nat) (D : List Nat) (w : World) (hL : Lies w B8 A D) (hA : Tidy A c) (hn : D.length ≤ 1048576) :
    Calls Tryd.prog 24 #[.slice A D.length c] w (NewBytes w D) := by
  have hO : (w.alloc (Obj.cells #[] 5)).ownsRow w.heap.size 5 1 (.slice (some ⟨w.heap.size, 0, none⟩) 0 0) ([] : List Nat).length (([] : List Nat).map B8) := World.ownsRow_lit w _ _ (Nat.le_refl _) (show 0 ≤ maxLen by decide) rfl
  have hb0 : Below w.heap.size w (w.alloc (Obj.cells #[] 5)) := (Below.refl _ _).alloc (Nat.le_refl _) _
  have HO := Lib.hid hO
  have HB0 := Lib.hid hb0
  have HL := Lib.hid (hL.below hb0)
  have HA := Lib.hid hA
  clear hO hb0 hL hA
  go_enter Tryd.func24, Tryd.ntmps24
  go_wp2_with (at_builtin; refine wpList_append_bytes _ rfl _ _ rfl w.heap.size _ [] rfl HO.out A c D rfl HL.out HA.out D rfl (by simp; omega) HB0.out.size ?_)
  intro A4 c4 w4 ho4 hg4
  have HO4 := Lib.hid ho4
  have HB4 := Lib.hid (HB0.out.trans (grown_below HO.out hg4 (Nat.le_refl _) HB0.out.size))
  clear ho4 hg4
  go_wp2
  go_ret
  exact ⟨A4, c4, rfl, HO4.out, HB4.out⟩

end Go.Proofs.YtlbnngolcoefdaaDoor
