/- HuffCodes of the specification. -/
import Derived.Test.YtoehgcakfblblaaHf1
namespace Go.Proofs.Ytoehgcakfblblaa
open Go.RowKit
set_option maxRecDepth 100000

/-- What HuffCodes returns. -/
def codesV (L : List Int) : List Int := if okH L = true then hcodes L else []
theorem codesV_len (L : List Int) : (codesV L).length ≤ 300 := by
  unfold codesV
  split
  · rename_i h
    rw [hcodes_len]
    exact okH_len h
  · simp
theorem codesV_ok {L : List Int} (h : okH L = true) : codesV L = hcodes L := if_pos h
theorem codesV_no {L : List Int} (h : okH L = false) : codesV L = [] := if_neg (by rw [h]; decide)

theorem box_own {W : World} {g base : Nat} {L : List Int} (h : Box W g 3 (L.map I).toArray) (hb : base ≤ g) (hl : L.length ≤ 1000000) : W.ownsRow base 3 1 (.slice (some ⟨g, 0, none⟩) L.length L.length) L.length (L.map I) := by
  refine ⟨by simp, .inr ⟨g, L.length, _, rfl, hb, h, Nat.le_refl _, by unfold maxLen; omega, by simp, ?_⟩⟩
  rw [Nat.mul_one, List.take_of_length_le (by simp)]

/-- The code and the length before those of length l from symbol i on. -/
def CodeP (L : List Int) (l i code prev : Nat) : Prop := (prev = 0 ∧ code = 0 ∧ hpos L l i = 0) ∨ (1 ≤ prev ∧ prev ≤ l ∧ (code + 1) * hw (prev : Int) = hpos L l i)
theorem CodeP.start (L : List Int) : CodeP L 1 0 0 0 := .inl ⟨rfl, rfl, hpos_start L⟩
theorem CodeP.row {L : List Int} {l code prev : Nat} (h : CodeP L l L.length code prev) : CodeP L (l + 1) 0 code prev := by
  have e := hpos_row L l
  rcases h with ⟨h1, h2, h3⟩ | ⟨h1, h2, h3⟩
  · exact .inl ⟨h1, h2, by rw [e] at h3; exact h3⟩
  · exact .inr ⟨h1, by omega, by rw [e] at h3; exact h3⟩
theorem CodeP.skip {L : List Int} {l i code prev : Nat} (h : CodeP L l i code prev) (hl : 0 < l) (hi : i < L.length) (hne : gl L i ≠ (l : Int)) : CodeP L l (i + 1) code prev := by
  have e := hpos_succ L l i (by omega) hi
  rw [if_neg hne, Nat.add_zero (hpos L l i)] at e
  rcases h with ⟨h1, h2, h3⟩ | ⟨h1, h2, h3⟩
  · exact .inl ⟨h1, h2, by rw [e]; exact h3⟩
  · exact .inr ⟨h1, h2, by rw [e]; exact h3⟩
/-- The next code is the symbol's. -/
theorem CodeP.code {L : List Int} {l i code prev : Nat} (h : CodeP L l i code prev) (hl : 0 < l) (hl2 : l ≤ 60) (he : gl L i = (l : Int)) : (if 0 < prev then (code + 1) * 2 ^ (l - prev) else code) = hcode L i := by
  refine hcode_is (by rw [he]; omega) ?_
  rw [he]
  rcases h with ⟨h1, h2, h3⟩ | ⟨h1, h2, h3⟩
  · rw [if_neg (by omega), h2, h3, Nat.zero_mul]
  · rw [if_pos (by omega), Nat.mul_assoc, ← h3]
    have := hw_split (x := (prev : Int)) (l := (l : Int)) (by omega) (by omega) (by omega)
    rw [this]
    congr 3
    omega
theorem CodeP.next {L : List Int} {l i : Nat} (hl : 0 < l) (hl2 : l ≤ 60) (hi : i < L.length) (he : gl L i = (l : Int)) : CodeP L l (i + 1) (hcode L i) l := by
  refine .inr ⟨hl, Nat.le_refl _, ?_⟩
  have e := hpos_succ L l i (by omega) hi
  rw [if_pos he] at e
  have h := hcode_mul L i (by rw [he]; omega)
  rw [he] at h
  rw [Nat.add_mul, Nat.one_mul, h, e]
theorem CodeP.small {L : List Int} {l i code prev : Nat} (h : CodeP L l i code prev) (ok : okH L = true) : code + 1 ≤ 1152921504606846976 := by
  rcases h with ⟨h1, h2, h3⟩ | ⟨h1, h2, h3⟩
  · omega
  · have h4 := hpos_le L l i
    have h5 := okH_sum ok
    have h6 := hw_ge (l := (prev : Int)) (by omega)
    have h7 : (code + 1) * 1 ≤ (code + 1) * hw (prev : Int) := Nat.mul_le_mul_left _ h6
    omega
theorem hcode_small {L : List Int} (ok : okH L = true) {i : Nat} (hi : i < L.length) (h0 : 0 < gl L i) : hcode L i < 1152921504606846976 := by
  have h1 := hcode_lt ok hi h0
  have h2 := (okH_all ok _ (gl_mem hi)).2
  have h3 : 2 ^ (gl L i).toNat ≤ 2 ^ 60 := Nat.pow_le_pow_right (by omega) (by omega)
  exact Nat.lt_of_lt_of_le h1 h3

theorem hout_put {W : World} {g : Nat} {L : List Int} {i l : Nat} (h : Box W g 3 ((hout L l i).map I).toArray) (hl : 0 < l) (he : gl L i = (l : Int)) : Box (W.setCell ⟨g, i, none⟩ (.int .i64 (hcode L i : Int))) g 3 ((hout L l (i + 1)).map I).toArray := by
  have h1 := h.put i (.int .i64 (hcode L i : Int))
  have e := hout_set L i (by rw [he]; omega)
  rw [he] at e
  rw [e, List.map_set, ← List.setIfInBounds_toArray]
  exact h1

set_option maxHeartbeats 3200000 in
theorem specHuffCodes_in (A : Option Addr) (n c : Nat) (L : List Int) (w : World) (hL : Lies w I A L) (Hn : Hid (L.length = n)) (ok : okH L = true) :
    Calls Try.prog 44 #[.slice A n c] w (NewI w (hcodes L)) := by
  have HL := Lib.hid hL
  have HOk := Lib.hid ok
  have hn := okH_len ok
  rw [Hn.out] at hn
  have hok := specHuffOk_any A c L w hL
  rw [ok, Hn.out] at hok
  have OK := Lib.hid hok
  clear hL ok hok
  have hmk := fun W => run_make_row' (P := Try.prog) 24 3 (.int .i64 0) 8 Try.underlying24 Try.infoInt rfl .i64 .i64 n (by omega) (by omega) W
  have e1 : (madeCells #[Value.int IntKind.i64 0] n) = ((hout L 1 0).map I).toArray := by
    rw [hout_start, Hn.out, List.map_replicate]
    apply Array.ext'
    rw [toList_madeCells_one]
  have HBx : Hid (Box (w.alloc (.cells (madeCells #[Value.int IntKind.i64 0] n) 3)) w.heap.size 3 ((hout L 1 0).map I).toArray) := Lib.hid (by rw [← e1]; exact Box.made _ _ _)
  have HBe : Hid (Below w.heap.size w (w.alloc (.cells (madeCells #[Value.int IntKind.i64 0] n) 3))) := Lib.hid ((Below.refl _ _).alloc (Nat.le_refl _) _)
  have CP := Lib.hid fun (i : Nat) (W : World) (h : i < 62) => powW_any i W h
  clear e1
  go_enter Try.func44, Try.ntmps44
  go_wp2_with fail
  refine OK.out.mono ?_
  rintro e w0 ⟨rfl, rfl⟩
  clear OK
  go_wp2
  generalize w.alloc (.cells (madeCells #[Value.int IntKind.i64 0] n) 3) = w1 at *
  clear hmk
  go_loopw [4, 5, 6] (fun vc vp vl wr => ∃ (l code prev : Nat), vl = .int .i64 l ∧ vc = .int .i64 code ∧ vp = .int .i64 prev ∧ 1 ≤ l ∧ l ≤ 61 ∧ Hid (CodeP L l 0 code prev) ∧ Hid (Box wr w.heap.size 3 ((hout L l 0).map I).toArray) ∧ Hid (Below w.heap.size w wr)) (fun _ _ vl _ => 61 - (intOf vl).toNat)
  case atStart => exact ⟨1, 0, 0, rfl, rfl, rfl, Nat.le_refl _, by omega, Lib.hid (CodeP.start L), HBx, HBe⟩
  case round =>
    clear HBx HBe
    obtain ⟨l, code, prev, rfl, rfl, rfl, hl1, hl2, HC, HBx, HBe⟩ := hrel
    by_cases hl : l ≤ 60
    · have d60 : decide ((l : Int) ≤ 60) = true := by simp; omega
      go_wp2
      go_loopw [4, 5, 7] (fun vc vp vi wr => ∃ (i code prev : Nat), vi = .int .i64 i ∧ vc = .int .i64 code ∧ vp = .int .i64 prev ∧ i ≤ n ∧ Hid (CodeP L l i code prev) ∧ Hid (Box wr w.heap.size 3 ((hout L l i).map I).toArray) ∧ Hid (Below w.heap.size w wr)) (fun _ _ vi _ => n - (intOf vi).toNat)
      case atStart => exact ⟨0, code, prev, rfl, rfl, rfl, Nat.zero_le _, HC, HBx, HBe⟩
      case round =>
        clear HC HBx HBe
        obtain ⟨i, code, prev, rfl, rfl, rfl, hi, HC, HBx, HBe⟩ := hrel
        by_cases hlt : i < n
        · obtain ⟨b, o, x, hA, hbl, hx, hc⟩ := (HL.out.below HBe.out).at_ (i := i) (by rw [Hn.out]; exact hlt)
          subst hA
          have hgx := gl_eq hx
          clear hx
          by_cases hxl : x = (l : Int)
          · have t0 : (x == (l : Int)) = true := by rw [beq_iff_eq]; exact hxl
            have hge : gl L i = (l : Int) := hgx.trans hxl
            have hiL : i < L.length := by rw [Hn.out]; exact hlt
            have hcd := HC.out.code hl1 hl hge
            have hsm := hcode_small HOk.out hiL (by rw [hge]; omega)
            have hcs := HC.out.small HOk.out
            have HC2 := Lib.hid (CodeP.next hl1 hl hiL hge)
            have HBx2 := Lib.hid (hout_put HBx.out hl1 hge)
            have HBe2 := Lib.hid (HBe.out.setCell (p := ⟨w.heap.size, i, none⟩) (Nat.le_refl _) (.int .i64 (hcode L i : Int)))
            have hpl : prev ≤ l := by rcases HC.out with h | h <;> omega
            obtain ⟨y, hy⟩ : ∃ y, hcode L i = y := ⟨_, rfl⟩
            rw [hy] at hcd hsm HC2 HBx2 HBe2
            have hbc : ∃ v, wr.cell? ⟨w.heap.size, i, none⟩ = some v := ⟨_, (HBx.out.cell i).trans (by rw [List.getElem?_toArray, List.getElem?_map, List.getElem?_eq_getElem (by rw [hout_len]; exact hiL)]; rfl)⟩
            obtain ⟨v0, hv0⟩ := hbc
            have hfz := HBx.out.frozen i
            have hgl := HBx.out.lt
            clear hgx hy hiL hge HBx HC
            by_cases hp0 : 0 < prev
            · have d0 : decide ((0 : Int) < (prev : Int)) = true := by simp; omega
              rw [if_pos hp0] at hcd
              obtain ⟨q, hq⟩ : ∃ q, l - prev = q := ⟨_, rfl⟩
              have eq : (l : Int) - (prev : Int) = (q : Int) := by omega
              have wq : IntKind.i64.wrap ((l : Int) - (prev : Int)) = (q : Int) := by rw [IntKind.wrap_i64]; omega
              obtain ⟨c1, hc1⟩ : ∃ c1, code + 1 = c1 := ⟨_, rfl⟩
              have ec : (code : Int) + 1 = (c1 : Int) := by omega
              have wc : IntKind.i64.wrap ((code : Int) + 1) = (c1 : Int) := by rw [IntKind.wrap_i64]; omega
              have xc : IntKind.i64.wrap (c1 : Int) = (c1 : Int) := by rw [IntKind.wrap_i64]; omega
              have C1 := Lib.hid (CP.out q wr (by omega))
              rw [hq, hc1] at hcd
              obtain ⟨P, hP⟩ : ∃ P, 2 ^ q = P := ⟨_, rfl⟩
              rw [hP] at hcd C1
              have ey : (c1 : Int) * (P : Int) = (y : Int) := by rw [← hcd]; simp
              have wy : IntKind.i64.wrap ((c1 : Int) * (P : Int)) = (y : Int) := by rw [ey, IntKind.wrap_i64]; omega
              have xy : IntKind.i64.wrap (y : Int) = (y : Int) := by rw [IntKind.wrap_i64]; omega
              clear hcd hP hq hc1 hcs
              go_wp2_with fail
              refine C1.out.mono ?_
              rintro e w3 ⟨rfl, rfl⟩
              clear C1
              go_wp2
              go_roundw
              case rel => exact ⟨i + 1, y, l, by go_num, rfl, rfl, by omega, HC2, HBx2, HBe2⟩
              case measure => simp [intOf]; omega
            · have d0 : decide ((0 : Int) < (prev : Int)) = false := by simp; omega
              rw [if_neg hp0] at hcd
              subst hcd
              clear hcs
              go_wp2
              go_roundw
              case rel => exact ⟨i + 1, code, l, by go_num, rfl, rfl, by omega, HC2, HBx2, HBe2⟩
              case measure => simp [intOf]; omega
          · have t0 : (x == (l : Int)) = false := by rw [beq_eq_false_iff_ne]; exact hxl
            have hge : gl L i ≠ (l : Int) := by rw [hgx]; exact hxl
            have HC2 := Lib.hid (HC.out.skip hl1 (by rw [Hn.out]; exact hlt) hge)
            have HBx2 : Hid (Box wr w.heap.size 3 ((hout L l (i + 1)).map I).toArray) := Lib.hid (by rw [hout_skip L l i hge]; exact HBx.out)
            clear hgx hge
            go_wp2
            go_roundw
            case rel => exact ⟨i + 1, code, prev, by go_num, rfl, rfl, by omega, HC2, HBx2, HBe⟩
            case measure => simp [intOf]; omega
        · obtain rfl : i = n := by omega
          have HC2 : Hid (CodeP L (l + 1) 0 code prev) := Lib.hid (by
            have h := HC.out
            rw [← Hn.out] at h
            exact h.row)
          have HBx2 : Hid (Box wr w.heap.size 3 ((hout L ((l + 1 : Nat) : Int) 0).map I).toArray) := Lib.hid (by
            have h := HBx.out
            rw [← Hn.out, hout_row] at h
            rw [show ((l + 1 : Nat) : Int) = (l : Int) + 1 by omega]
            exact h)
          clear HC HBx
          go_wp2
          go_roundw
          case rel => exact ⟨l + 1, code, prev, by go_num, rfl, rfl, by omega, by omega, HC2, HBx2, HBe⟩
          case measure => simp [intOf]; omega
    · obtain rfl : l = 61 := by omega
      have HF := Lib.hid (hout_end (L := L) fun x hx => (okH_all HOk.out x hx).2)
      have hlen : (hcodes L).length = n := by rw [hcodes_len, Hn.out]
      have hbox := HBx.out
      rw [show ((61 : Nat) : Int) = 61 from rfl, HF.out] at hbox
      have HO := Lib.hid (box_own hbox (Nat.le_refl w.heap.size) (by rw [hlen]; omega))
      rw [hlen] at HO
      have Hlen := Lib.hid hlen
      clear hbox hlen HBx HC
      go_wp2
      go_ret
      refine ⟨some ⟨w.heap.size, 0, none⟩, n, ?_, ?_, HBe.out⟩
      · rw [Hlen.out]; rfl
      · rw [Hlen.out]; exact HO.out

theorem specHuffCodes_any (A : Option Addr) (c : Nat) (L : List Int) (w : World) (hL : Lies w I A L) :
    Calls Try.prog 44 #[.slice A L.length c] w (NewI w (codesV L)) := by
  cases ok : okH L with
  | true =>
    rw [codesV_ok ok]
    exact specHuffCodes_in A L.length c L w hL (Lib.hid rfl) ok
  | false =>
    rw [codesV_no ok]
    have hok := specHuffOk_any A c L w hL
    rw [ok] at hok
    have OK := Lib.hid hok
    generalize L.length = n at *
    clear hL ok hok
    go_enter Try.func44, Try.ntmps44
    go_wp2_with fail
    refine OK.out.mono ?_
    rintro e w0 ⟨rfl, rfl⟩
    go_wp2
    go_ret
    exact ⟨none, 0, rfl, ⟨rfl, .inl ⟨rfl, rfl⟩⟩, Below.refl _ _⟩

end Go.Proofs.Ytoehgcakfblblaa
