/- The program's map from codes to symbols: symbolsOf. -/
import Derived.Test.YtoehgcakfblblaaHmKey
import Derived.Test.YtoehgcakfblblaaHf7
import Derived.Test.YtoehgcakfblblaaHr1
namespace Go.Proofs.Ytoehgcakfblblaa
open Go.RowKit Go.Maps
set_option maxRecDepth 100000

theorem own_off {w : World} {base : Nat} {e : TypeId} {size n b : Nat} {v : Value} {xs : List Value} (h : w.ownsRow base e size v n xs) (hb : b < base) : v.ownBlock = none ∨ v.ownBlock ≠ some b := by
  cases hv : v.ownBlock with
  | none => exact .inl rfl
  | some k =>
    refine .inr fun e => ?_
    have := (h.lt k hv).1
    injection e with e
    omega
theorem wf_small {x : Nat} (h : x < 2 ^ 60) : (Lit.int .i64 (x : Int)).wf = true := by
  have h1 : IntKind.i64.min = -9223372036854775808 := by decide
  simp [Lit.wf, h1]
  omega

set_option maxHeartbeats 1600000 in
theorem implSymbols_in (B : Option Addr) (n d : Nat) (L : List Int) (w : World) (hL : Lies w I B L) (Hn : Hid (L.length = n)) (ok : okH L = true) :
    Calls Try.prog 76 #[.slice B n d] w fun e w' => e = .returned (.map (some w.heap.size)) ∧ HMap w' w.heap.size n L ∧ Below w.heap.size w w' := by
  have HL := Lib.hid hL
  have HOk := Lib.hid ok
  have hn := okH_len ok
  rw [Hn.out] at hn
  have hmm := @run_makeMap Try.prog
  have CO := Lib.hid fun (W : World) (hW : Below w.heap.size w W) => (implHuffCodes_in B n d L W (HL.out.below hW) Hn HOk.out)
  have HM0 : Hid (HMap (w.alloc (.map #[] 0)) w.heap.size 0 L) := Lib.hid (HMap.made _ _)
  have HB0 : Hid (Below w.heap.size w (w.alloc (.map #[] 0))) := Lib.hid ((Below.refl _ _).alloc (Nat.le_refl _) _)
  have HS0 : Hid (w.heap.size < (w.alloc (.map #[] 0)).heap.size) := Lib.hid (by simp)
  clear hL ok
  go_enter Try.func76, Try.ntmps76
  go_wp2_with fail
  generalize w.alloc (.map #[] 0) = w1 at *
  refine (CO.out w1 HB0.out).mono ?_
  rintro e w2 ⟨A1, c1, rfl, ho2, hb2⟩
  have HO2 := Lib.hid ho2
  have HCl : Hid ((hcodes L).length = n) := Lib.hid (by rw [hcodes_len, Hn.out])
  have HM2 := Lib.hid (HM0.out.below hb2)
  have HB2 := Lib.hid (below_then HB0.out hb2)
  rw [HCl.out] at HO2 ⊢
  clear ho2 hb2 HM0 HB0 CO
  go_wp2_with fail
  go_loopw [10] (fun i wr => ∃ k : Nat, k ≤ n ∧ i = .int .i64 k ∧ Hid (HMap wr w.heap.size k L) ∧ Hid (wr.ownsRow w1.heap.size 3 1 (.slice A1 n c1) n ((hcodes L).map I)) ∧ Hid (Below w.heap.size w wr)) (fun i _ => n - (intOf i).toNat)
  case atStart => exact ⟨0, Nat.zero_le _, rfl, HM2, HO2, HB2⟩
  case round =>
    obtain ⟨k, hk, rfl, HM, HO, HB⟩ := hrel
    clear HM2 HO2 HB2
    by_cases hlt : k < n
    · obtain ⟨bl, ol, l, hBe, hbl, hl, hcl⟩ := (HL.out.below HB.out).at_ (i := k) (by rw [Hn.out]; exact hlt)
      subst hBe
      have hgl := gl_eq hl
      have hl60 := okH_all HOk.out l (List.mem_of_getElem? hl)
      obtain ⟨m, rfl⟩ : ∃ m : Nat, l = (m : Int) := ⟨l.toNat, by omega⟩
      have hcod := hcodes_get (L := L) (j := k) (by rw [Hn.out]; exact hlt)
      obtain ⟨b2, o2, hA1, hbl2, hcc⟩ := (Lies.of_own HO.out) k _ hcod
      subst hA1
      clear hl hcod
      by_cases hm0 : 0 < m
      · rw [hgl, if_pos (by omega)] at hcc
        have hcs := hcode_small HOk.out (i := k) (by rw [Hn.out]; exact hlt) (by rw [hgl]; omega)
        have h0 : 0 < gl L k := by rw [hgl]; omega
        have hpt := fun (w' : World) (D : DataW Unit) (hm : IsMap D) h3 kj hkj hown => HMap.put (w' := w') (b := w.heap.size) HOk.out (j := k) (by rw [Hn.out]; exact hlt) h0 (D := D) hm h3 (kj := kj) hkj hown
        rw [hgl] at hpt
        obtain ⟨q, hq⟩ : ∃ q, hcode L k = q := ⟨_, rfl⟩
        rw [hq] at hcc hcs hpt
        have hkj := codeKey (wf_small (x := q) (by omega)) (wf_small (x := m) (by omega))
        have HPt := Lib.hid fun w' D hm h3 hown => hpt w' D hm h3 _ hkj hown
        have d1 : decide ((0 : Int) < (m : Int)) = true := decide_eq_true (by omega)
        have d1b : decide (0 < m) = true := decide_eq_true hm0
        obtain ⟨D, hD1, hD2, hD3⟩ := HM.out
        have HD1 := Lib.hid hD1
        have HD2 := Lib.hid hD2
        have HD3 := Lib.hid hD3
        have HKj := Lib.hid hkj
        have HEl : Hid (plainElem (H := Unit) Try.prog 3 (.int .i64 (k : Int)) = some (.lit (.int .i64 (k : Int)), [])) := Lib.hid (plainElem_int Try.underlying3 (wf_small (x := k) (by omega)))
        clear hpt hkj hD1 hD2 hD3 hq h0 hgl hl60 hcs
        go_wp2_with (first | (at_mapUpdate; refine wpList_mapUpdate_own _ rfl _ _ _ 87 rfl 90 3 codeKeyed Try.underlying87 _ w.heap.size k D rfl HD1.out (by unfold maxLen; omega) _ _ _ rfl rfl HKj.out _ [] HEl.out ?_))
        intro w8 hown8 hg8
        have HM8 := Lib.hid (HPt.out w8 D HD2.out HD3.out hown8)
        have HO8 := Lib.hid (HO.out.kept hg8 (own_off HO.out HS0.out))
        have HB8 : Hid (Below w.heap.size w w8) := Lib.hid (HB.out.grown hg8 HB.out.size (fun j hj => by cases hj; exact Nat.le_refl _))
        clear hown8 hg8
        go_wp2
        go_roundw
        case rel => exact ⟨k + 1, by omega, by go_num, HM8, HO8, HB8⟩
        case measure => simp [intOf]; omega
      · have HM8 := Lib.hid (HM.out.skip (by rw [hgl]; omega))
        have HM9 := HM8
        have d1 : decide ((0 : Int) < (m : Int)) = false := decide_eq_false (by omega)
        have d1b : decide (0 < m) = false := decide_eq_false hm0
        clear hgl hl60 HM
        go_wp2
        go_roundw
        case rel => exact ⟨k + 1, by omega, by go_num, HM8, HO, HB⟩
        case measure => simp [intOf]; omega
    · obtain rfl : k = n := by omega
      go_wp2
      go_ret
      exact ⟨rfl, HM.out, HB.out⟩

end Go.Proofs.Ytoehgcakfblblaa
