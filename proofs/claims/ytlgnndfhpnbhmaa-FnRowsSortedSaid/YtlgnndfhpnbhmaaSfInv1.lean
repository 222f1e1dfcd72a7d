/- Inverse of the program. -/
import Derived.Test.YtlgnndfhpnbhmaaSfInvM
import Derived.Test.YtlgnndfhpnbhmaaSfRep
namespace Go.Proofs.Ytlgnndfhpnbhmaa
open Go.RowKit
set_option maxRecDepth 100000

/-- What Inverse returns: a new list and whether it is one. -/
def InvEnd (w : World) (L : List Int) (e : Ending) (w' : World) : Prop :=
  ∃ A c, e = .returned (.tuple #[.slice A (invV L).length c, .bool (invOk L)]) ∧ w'.ownsRow w.heap.size 3 1 (.slice A (invV L).length c) (invV L).length ((invV L).map I) ∧ Below w.heap.size w w'
theorem invEnd_no {w w' : World} {L : List Int} (h : invOk L = false) (hb : Below w.heap.size w w') : InvEnd w L (.returned (.tuple #[.slice none 0 0, .bool false])) w' := by
  have hv : invV L = [] := by unfold invV; rw [h]; rfl
  unfold InvEnd
  rw [h, hv]
  exact ⟨none, 0, rfl, World.ownsRow_nil _ _ _ _, hb⟩
theorem invEnd_yes {w w' : World} {L : List Int} {A : Option Addr} {c : Nat} (h : invOk L = true) (ho : w'.ownsRow w.heap.size 3 1 (.slice A (invV L).length c) (invV L).length ((invV L).map I)) (hb : Below w.heap.size w w') :
    InvEnd w L (.returned (.tuple #[.slice A (invV L).length c, .bool true])) w' := by
  unfold InvEnd
  rw [h]
  exact ⟨A, c, rfl, ho, hb⟩

theorem plV_map (L : List Int) (k x : Nat) (h : x < L.length) : ((plK L k).map I)[x]? = some (I (if (x : Int) ∈ L.take k then (L.idxOf (x : Int) : Int) else -1)) := by
  rw [List.getElem?_map, plK_get L k x h]
  rfl

set_option maxHeartbeats 1600000 in
theorem implInverse_any (A : Option Addr) (c : Nat) (L : List Int) (w : World) (hL : Lies w I A L) (hbig : L.length ≤ 17592186044416) :
    Calls Try.prog 18 #[.slice A L.length c] w (InvEnd w L) := by
  have HL := Lib.hid hL
  clear hL
  obtain ⟨n, hn⟩ : ∃ n, L.length = n := ⟨_, rfl⟩
  have Hn := Lib.hid hn
  by_cases h3 : n ≤ 301
  · rw [hn]
    have HO1 := Lib.hid (Below.refl w.heap.size w)
    clear hn
    have HR : Hid (Calls Try.prog 46 #[.slice (some ⟨w.heap.size, 0, none⟩) 1 1, .int .i64 n] (w.alloc (Obj.cells #[.int .i64 (-1)] 3)) (NewI (w.alloc (Obj.cells #[.int .i64 (-1)] 3)) (List.replicate n (-1)))) := Lib.hid (repeatI _ 1 (-1) n _ (by
      intro i z hz
      match i with
      | 0 =>
        obtain rfl : -1 = z := by simpa using hz
        exact ⟨_, _, rfl, by simp, cell_one_new _ _ _ 0 _ rfl⟩
      | i + 1 => simp at hz) (by omega))
    have HB0 : Hid (Below w.heap.size w (w.alloc (Obj.cells #[.int .i64 (-1)] 3))) := Lib.hid ((Below.refl _ _).alloc (Nat.le_refl _) _)
    go_enter Try.func18, Try.ntmps18
    go_wp2_with fail
    refine HR.out.mono ?_
    rintro e w1 ⟨Ap, cp, rfl, ho, hb⟩
    have HB1 := Lib.hid (HB0.out.trans (hb.mono (by simp)))
    have HP : Hid (w1.ownsRow w.heap.size 3 1 (.slice Ap n cp) n ((plK L 0).map I)) := Lib.hid (by
      rw [plK_zero, Hn.out]
      rw [List.length_replicate] at ho
      exact own_mono ho (by simp))
    clear ho hb HR HB0
    simp only [List.length_replicate]
    go_wp2
    go_loopw [16] (fun i wr => ∃ k : Nat, k ≤ n ∧ i = .int .i64 k ∧ Hid (wr.ownsRow w.heap.size 3 1 (.slice Ap n cp) n ((plK L k).map I)) ∧ Hid (Below w.heap.size w wr) ∧ Hid ((L.take k).Nodup ∧ ∀ y ∈ L.take k, 0 ≤ y ∧ y < (n : Int))) (fun i _ => n - (intOf i).toNat)
    case atStart => exact ⟨0, Nat.zero_le _, rfl, HP, HB1, Lib.hid (by simp)⟩
    case round =>
      obtain ⟨k, hk, rfl, HO, HB, HI⟩ := hrel
      clear HP HB1
      by_cases hlt : k < n
      · obtain ⟨b, o, x, hA, hbl, hx, hc0⟩ := HL.out.at_ (i := k) (by rw [Hn.out]; exact hlt)
        subst hA
        have hc : wr.cell? ⟨b, o + k, none⟩ = some (I x) := (HB.out.cell (p := ⟨b, o + k, none⟩) hbl).trans hc0
        have HX := Lib.hid hx
        have hmem : x ∈ L := List.mem_of_getElem? hx
        clear hx hc0
        by_cases hneg : x < 0
        · have HE : Hid (invOk L = false) := Lib.hid (by
            cases h : invOk L
            · rfl
            · have := ((invOk_pig h).2 x hmem).1
              omega)
          have hd : decide (x < 0) = true := by simpa using hneg
          clear hmem
          go_wp2
          go_ret2
          exact invEnd_no HE.out HB.out
        · have hd : decide (x < 0) = false := by simp; omega
          by_cases hge : (n : Int) ≤ x
          · have HE : Hid (invOk L = false) := Lib.hid (by
              cases h : invOk L
              · rfl
              · have := ((invOk_pig h).2 x hmem).2
                rw [Hn.out] at this
                omega)
            have hd2 : decide ((n : Int) ≤ x) = true := by simpa using hge
            clear hmem
            go_wp2
            go_ret2
            exact invEnd_no HE.out HB.out
          · have hd2 : decide ((n : Int) ≤ x) = false := by simp; omega
            obtain ⟨u, rfl⟩ := Int.eq_ofNat_of_zero_le (show 0 ≤ x by omega)
            have hu : u < n := by omega
            obtain ⟨g, cap, hv, hg1, hg2⟩ := HO.out.form (by omega)
            cases hv
            have hf := HO.out.frozenAt u
            have hcell := (HO.out.cellAt u (by omega)).trans (plV_map L k u (by rw [Hn.out]; exact hu))
            by_cases hm : (u : Int) ∈ L.take k
            · rw [if_pos hm] at hcell
              have HE : Hid (invOk L = false) := Lib.hid (by
                cases h : invOk L
                · rfl
                · have h1 := (mem_take_iff (invOk_pig h).1 hmem).1 hm
                  rw [idxOf_at (invOk_pig h).1 HX.out] at h1
                  omega)
              obtain ⟨v, hv⟩ : ∃ v, L.idxOf (u : Int) = v := ⟨_, rfl⟩
              rw [hv] at hcell
              have hne : ((v : Int) != -1) = true := by rw [bne_iff_ne]; omega
              have hne2 : ¬ ((v : Int) = -1) := by omega
              clear hmem hm hv
              go_wp2
              go_ret2
              exact invEnd_no HE.out HB.out
            · rw [if_neg hm] at hcell
              have HS := Lib.hid (HO.out.stored u (.int .i64 (k : Int))).1
              have HB2 := Lib.hid (HB.out.setCell (p := ⟨g, u, none⟩) hg1 (.int .i64 (k : Int)))
              have HK : Hid (((plK L k).map I).set u (.int .i64 (k : Int)) = (plK L (k + 1)).map I) := Lib.hid (by
                rw [plK_succ HX.out hm, List.map_set])
              have HI2 : Hid ((L.take (k + 1)).Nodup ∧ ∀ y ∈ L.take (k + 1), 0 ≤ y ∧ y < (n : Int)) := Lib.hid (by
                rw [List.take_add_one, HX.out, Option.toList_some]
                refine ⟨?_, fun y hy => ?_⟩
                · rw [List.nodup_append]
                  refine ⟨HI.out.1, by simp, fun a ha b hb e => ?_⟩
                  simp at hb
                  subst hb e
                  exact hm ha
                · rcases List.mem_append.1 hy with hy | hy
                  · exact HI.out.2 y hy
                  · simp at hy
                    omega)
              clear hmem hm HO HB HI
              go_wp2
              go_roundw
              case rel => exact ⟨k + 1, by omega, by go_num, by rw [← HK.out]; exact HS, HB2, HI2⟩
              case measure => simp [intOf]; omega
      · obtain rfl : k = n := by omega
        have hok : invOk L = true := by
          refine (invOk_iff L).2 ⟨by rw [Hn.out]; exact h3, ?_⟩
          have h1 := HI.out
          rw [List.take_of_length_le (by rw [Hn.out]; exact Nat.le_refl _)] at h1
          exact pig2 _ L rfl h1.1 (by rw [Hn.out]; exact h1.2)
        have HOK := Lib.hid hok
        have HR : Hid (plK L k = invV L) := Lib.hid (by rw [← Hn.out]; exact plK_all hok)
        have HVl : Hid ((invV L).length = k) := Lib.hid (by rw [← HR.out, plK_len, Hn.out])
        clear hok
        go_wp2
        go_ret2
        have h1 := HO.out
        rw [HR.out] at h1
        have h2 := HVl.out
        have := invEnd_yes (w := w) (w' := wr) (L := L) (A := Ap) (c := cp) HOK.out (by rw [h2]; exact h1) HB.out
        rwa [h2] at this
  · have hf : decide ((301 : Int) < (n : Int)) = true := by simp; omega
    have HE : Hid (invOk L = false) := Lib.hid (by
      cases h : invOk L
      · rfl
      · exact absurd ((invOk_iff L).1 h).1 (by omega))
    rw [hn]
    clear hn
    go_enter Try.func18, Try.ntmps18
    go_wp2
    go_ret2
    exact invEnd_no HE.out (Below.refl _ _)

end Go.Proofs.Ytlgnndfhpnbhmaa
