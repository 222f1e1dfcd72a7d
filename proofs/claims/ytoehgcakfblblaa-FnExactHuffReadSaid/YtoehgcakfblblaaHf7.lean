/- HuffCodes of the program, whole. -/
import Derived.Test.YtoehgcakfblblaaHf6
namespace Go.Proofs.Ytoehgcakfblblaa
open Go.RowKit
set_option maxRecDepth 100000

theorem NextP.small {L : List Int} {s : List Nat} {k nx bf x : Nat} (ok : okH L = true) (h : NextP L s k nx bf) (ho : CodeOrd L s) (hx : s[k]? = some x) : nx ≤ 1152921504606846976 := by
  have h1 := ho.pos hx
  have h2 := hpos_le L (gl L x) x
  have h3 := okH_sum ok
  have h4 := h.sum
  have h5 : nx * 1 ≤ nx * 2 ^ (60 - bf) := Nat.mul_le_mul_left _ (Nat.two_pow_pos _)
  omega
theorem cList_put {W : World} {g : Nat} {L : List Int} {s : List Nat} {k x : Nat} (h : Box W g 3 ((cList L s k).map I).toArray) (hx : s[k]? = some x) : Box (W.setCell ⟨g, x, none⟩ (.int .i64 (hcode L x : Int))) g 3 ((cList L s (k + 1)).map I).toArray := by
  have h1 := h.put x (.int .i64 (hcode L x : Int))
  rw [← cList_set hx, List.map_set, ← List.setIfInBounds_toArray]
  exact h1

theorem shift_facts (l bf q d : Nat) (h1 : bf ≤ l) (h2 : l ≤ 60) (hd : l - bf = d) (hq : q < 1152921504606846976) : d ≤ 62 ∧ (l : Int) - (bf : Int) = (d : Int) ∧ IntKind.i64.wrap ((l : Int) - (bf : Int)) = (d : Int) ∧ IntKind.i64.wrap (d : Int) = (d : Int) ∧ IntKind.i64.wrap (q : Int) = (q : Int) ∧ IntKind.i64.wrap ((q : Int) + 1) = (q : Int) + 1 ∧ wrap64 ((q : Int) + 1) = (q : Int) + 1 ∧ wrap64 (q : Int) = (q : Int) ∧ q ≤ 2305843009213693952 := by
  have e : (l : Int) - (bf : Int) = (d : Int) := by omega
  refine ⟨by omega, e, ?_, ?_, ?_, ?_, wrap64_in _ (by omega), wrap64_in _ (by omega), by omega⟩
  · rw [e]; exact IntWalk.i64_in _ (by omega)
  · exact IntWalk.i64_in _ (by omega)
  · exact IntWalk.i64_in _ (by omega)
  · exact IntWalk.i64_in _ (by omega)

set_option maxHeartbeats 3200000 in
theorem implHuffCodes_in (A : Option Addr) (n c : Nat) (L : List Int) (w : World) (hL : Lies w I A L) (Hn : Hid (L.length = n)) (ok : okH L = true) :
    Calls Try.prog 40 #[.slice A n c] w (NewI w (hcodes L)) := by
  have HL := Lib.hid hL
  have HOk := Lib.hid ok
  have hn := okH_len ok
  rw [Hn.out] at hn
  have hok := implHuffOk_any A c L w hL
  rw [ok, Hn.out] at hok
  have OK := Lib.hid hok
  have HBy := Lib.hid fun (W : World) (hW : Below w.heap.size w W) => byLength_any A n c L W (HL.out.below hW) Hn HOk.out
  clear hL ok hok
  have hmk := fun W => run_make_row' (P := Try.prog) 24 3 (.int .i64 0) 8 Try.underlying24 Try.infoInt rfl .i64 .i64 n (by omega) (by omega) W
  have e1 : ∀ s, (madeCells #[Value.int IntKind.i64 0] n) = ((cList L s 0).map I).toArray := fun s => by
    rw [cList_zero, Hn.out, List.map_replicate]
    apply Array.ext'
    rw [toList_madeCells_one]
  go_enter Try.func40, Try.ntmps40
  go_wp2_with fail
  refine OK.out.mono ?_
  rintro e w1 ⟨rfl, hb1⟩
  have HS1 : Hid (w.heap.size ≤ w1.heap.size) := Lib.hid hb1.size
  have HBx : Hid (∀ s, Box (w1.alloc (.cells (madeCells #[Value.int IntKind.i64 0] n) 3)) w1.heap.size 3 ((cList L s 0).map I).toArray) := Lib.hid fun s => by rw [← e1 s]; exact Box.made _ _ _
  have HBe : Hid (Below w.heap.size w (w1.alloc (.cells (madeCells #[Value.int IntKind.i64 0] n) 3))) := Lib.hid (hb1.alloc hb1.size _)
  have HS2 : Hid (w1.heap.size < (w1.alloc (.cells (madeCells #[Value.int IntKind.i64 0] n) 3)).heap.size) := Lib.hid (by rw [World.size_alloc]; omega)
  clear hb1 OK e1
  go_wp2_with fail
  generalize w1.alloc (.cells (madeCells #[Value.int IntKind.i64 0] n) 3) = w2 at *
  obtain ⟨g, hg⟩ : ∃ g, w1.heap.size = g := ⟨_, rfl⟩
  rw [hg] at HBx HS1 HS2 ⊢
  clear hmk hg
  refine (HBy.out w2 HBe.out).mono ?_
  rintro e w3 ⟨s, hs, A3, c3, rfl, ho3, hb3⟩
  have HO := Lib.hid hs
  have HR3 := Lib.hid ho3
  have HB3 := Lib.hid (below_then HBe.out hb3)
  have HX3 := Lib.hid ((HBx.out s).below hb3 HS2.out)
  clear hs ho3 hb3 HBx HBe HBy
  have hSl : (s.map Int.ofNat).length = s.length := List.length_map _
  obtain ⟨N, hN⟩ : ∃ N, (s.map Int.ofNat).length = N := ⟨_, rfl⟩
  have HN : Hid (s.length = N) := Lib.hid (by omega)
  have HSN : Hid ((s.map Int.ofNat).length = N) := Lib.hid hN
  rw [hN] at HR3 ⊢
  have hN3 : N ≤ 300 := by
    rw [← HN.out, HO.out.1.length_eq]
    have := symL_len L L.length
    rw [List.length_map, Hn.out] at this
    rw [Hn.out]
    omega
  clear hSl hN
  go_wp2
  go_loopw [4, 5, 17] (fun vn vb vi wr => ∃ (k nx bf : Nat), vi = .int .i64 k ∧ vn = .int .i64 nx ∧ vb = .int .i64 bf ∧ k ≤ N ∧ Hid (NextP L s k nx bf) ∧ Hid (Box wr g 3 ((cList L s k).map I).toArray) ∧ Hid (wr.ownsRow w2.heap.size 3 1 (.slice A3 N c3) N ((s.map Int.ofNat).map I)) ∧ Hid (Below w.heap.size w wr)) (fun _ _ vi _ => N - (intOf vi).toNat)
  case atStart => exact ⟨0, 0, 0, rfl, rfl, rfl, Nat.zero_le _, Lib.hid (NextP.start L HOk.out s HO.out), HX3, HR3, HB3⟩
  case round =>
    clear HX3 HR3 HB3
    obtain ⟨k, nx, bf, rfl, rfl, rfl, hk, HP, HX, HR, HB⟩ := hrel
    by_cases hlt : k < N
    · have hrl : Lies wr I A3 (s.map Int.ofNat) := by
        have h := HR.out
        rw [← HSN.out] at h
        exact Lies.of_own h
      obtain ⟨b, o, z, hA, hbl, hz, hc⟩ := hrl.at_ (i := k) (by rw [HSN.out]; exact hlt)
      obtain ⟨x, hx⟩ : ∃ x, s[k]? = some x := ⟨s[k]'(by rw [HN.out]; exact hlt), List.getElem?_eq_getElem _⟩
      rw [List.getElem?_map, hx] at hz
      obtain rfl : (x : Int) = z := Option.some.inj hz
      have hm := HO.out.mem.mp (List.mem_of_getElem? hx)
      have hxn : x < n := by rw [← Hn.out]; exact hm.1
      obtain ⟨b', o', y, hA', hbl', hy, hcy⟩ := (HL.out.below HB.out).at_ (i := x) hm.1
      have hgy := gl_eq hy
      have hy60 := okH_all HOk.out y (List.mem_of_getElem? hy)
      obtain ⟨l, rfl⟩ : ∃ l : Nat, y = (l : Int) := ⟨y.toNat, by omega⟩
      have hlow := HP.out.low k x (Nat.le_refl _) hx
      rw [hgy] at hlow
      have HCD := Lib.hid (HP.out.code HOk.out HO.out hx hgy)
      have hnx := HP.out.small HOk.out HO.out hx
      have hys := hcode_small HOk.out hm.1 hm.2
      have HX2 := cList_put HX.out hx
      obtain ⟨q, hq⟩ : ∃ q, hcode L x = q := ⟨_, rfl⟩
      rw [hq] at HCD hys HX2
      have HP2 := Lib.hid HCD.out.2
      obtain ⟨d, hd⟩ : ∃ d, l - bf = d := ⟨_, rfl⟩
      have hbfl : bf ≤ l := Int.ofNat_le.mp hlow
      have hl60 : l ≤ 60 := Int.ofNat_le.mp hy60.2
      obtain ⟨hd62, ed, wd, xd, xq, q1, q2, q3, hq61⟩ := shift_facts l bf q d hbfl hl60 hd hys
      have HQD : Hid (nx * 2 ^ d = q) := Lib.hid (by rw [← hd]; exact HCD.out.1)
      have hsh2 : ∀ W, Sem.run Try.prog (Op.shift BinOp.shl IntKind.i64 (nx : Int) IntKind.i64 (d : Int)) W = Result.ok (Value.int IntKind.i64 (q : Int)) W := fun W => by
        have h := run_shl_h (P := Try.prog) 3 nx d hd62 (by rw [HQD.out]; exact hq61) W
        rw [HQD.out] at h
        exact h
      have wq2 : wrap64 ((nx : Int) * (2 : Int) ^ d) = (q : Int) := by
        have eq : (nx : Int) * (2 : Int) ^ d = (q : Int) := by rw [← HQD.out]; simp
        rw [eq]
        exact q3
      have hx0 : (0 : Int) ≤ (x : Int) := Int.natCast_nonneg x
      have hxn2 : (x : Int) < (n : Int) := Int.ofNat_lt.mpr hxn
      obtain ⟨v0, hv0⟩ : ∃ v, wr.cell? ⟨g, x, none⟩ = some v := ⟨_, (HX.out.cell x).trans (by rw [List.getElem?_toArray, List.getElem?_map, List.getElem?_eq_getElem (by rw [cList_len]; exact hm.1)]; rfl)⟩
      have hfz := HX.out.frozen x
      have hgl := HX.out.lt
      have HX2' := Lib.hid HX2
      have HR2 : Hid ((wr.setCell ⟨g, x, none⟩ (.int .i64 (q : Int))).ownsRow w2.heap.size 3 1 (.slice A3 N c3) N ((s.map Int.ofNat).map I)) := Lib.hid (ownsRow_setCell_below HR.out (by exact HS2.out) _)
      have HB2 := Lib.hid (HB.out.setCell (p := ⟨g, x, none⟩) (by dsimp only; exact HS1.out) (.int .i64 (q : Int)))
      have hgb : b' ≠ g := fun e => by
        obtain ⟨b2, o2, _, e2, h2, _⟩ := HL.out.at_ (i := x) hm.1
        rw [hA'] at e2
        cases e2
        have := HS1.out
        omega
      have hcy2 : (wr.setCell ⟨g, x, none⟩ (.int .i64 (q : Int))).cell? ⟨b', o' + x, none⟩ = some (.int .i64 (l : Int)) := by
        rw [World.cell?_setCell_other _ _ _ _ (fun e => hgb (by simp only [Addr.mk.injEq] at e; exact e.1.symm))]
        exact hcy
      subst hA
      subst hA'
      clear hz hx hm hgy hy hlow HCD hq hd HQD HX2 HP HX HR HB hrl
      go_wp2_with fail
      clear hcy hv0 hfz hc hbl
      have hbl2 : b' < (wr.setCell ⟨g, x, none⟩ (.int .i64 (q : Int))).heap.size := by rw [World.size_setCell]; exact hbl'
      generalize wr.setCell ⟨g, x, none⟩ (.int .i64 (q : Int)) = w5 at *
      go_region
      have HX5 : Hid (Box w5.drew g 3 ((cList L s (k + 1)).map I).toArray) := HX2'
      have HR5 : Hid (w5.drew.ownsRow w2.heap.size 3 1 (.slice (some ⟨b, o, none⟩) N c3) N ((s.map Int.ofNat).map I)) := HR2
      have HB5 := Lib.hid HB2.out.drew
      clear HX2' HR2 HB2 hcy2
      go_wp2
      go_roundw
      case rel => exact ⟨k + 1, q + 1, l, by go_num, by go_num, rfl, by omega, HP2, HX5, HR5, HB5⟩
      case measure => simp [intOf]; omega
    · obtain rfl : k = N := by omega
      have HF := Lib.hid (cList_end HO.out)
      have hlen : (hcodes L).length = n := by rw [hcodes_len, Hn.out]
      have hbox := HX.out
      rw [← HN.out, HF.out] at hbox
      have HOw := Lib.hid (box_own hbox HS1.out (by rw [hlen]; omega))
      rw [hlen] at HOw
      have Hlen := Lib.hid hlen
      clear hbox hlen HX HR HP
      go_wp2
      go_ret
      refine ⟨some ⟨g, 0, none⟩, n, ?_, ?_, HB.out⟩
      · rw [Hlen.out]; rfl
      · rw [Hlen.out]; exact HOw.out

theorem implHuffCodes_any (A : Option Addr) (c : Nat) (L : List Int) (w : World) (hL : Lies w I A L) :
    Calls Try.prog 40 #[.slice A L.length c] w (NewI w (codesV L)) := by
  cases ok : okH L with
  | true =>
    rw [codesV_ok ok]
    exact implHuffCodes_in A L.length c L w hL (Lib.hid rfl) ok
  | false =>
    rw [codesV_no ok]
    have hok := implHuffOk_any A c L w hL
    rw [ok] at hok
    have OK := Lib.hid hok
    generalize L.length = n at *
    clear hL ok hok
    go_enter Try.func40, Try.ntmps40
    go_wp2_with fail
    refine OK.out.mono ?_
    rintro e w0 ⟨rfl, hb⟩
    have HB := Lib.hid hb
    clear hb
    go_wp2
    go_ret
    exact ⟨none, 0, rfl, ⟨rfl, .inl ⟨rfl, rfl⟩⟩, HB.out⟩

end Go.Proofs.Ytoehgcakfblblaa
