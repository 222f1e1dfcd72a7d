/- RowsOf of the program, walked. -/
import Derived.Test.YtlgnndfhpnbhmaaSfR2
import Derived.Laws.EntriesVeiled
namespace Go.Proofs.Ytlgnndfhpnbhmaa
open Go.RowKit
set_option maxRecDepth 100000

set_option maxHeartbeats 1600000 in
theorem implRowsOf_in (A B : Option Addr) (n c d : Nat) (L P : List Nat) (w : World) (hL : Lies w B8 A L) (hP : Lies w B8 B P) (hA : Tidy A c) (hB : Tidy B d) (hl : ∀ x ∈ L, x < 2 ^ 8) (hp : ∀ x ∈ P, x < 2 ^ 8) (Hn : Hid (L.length = n)) (hn : n ≤ 300) (hc : n ≤ c) (hm : P.length ≤ 17592186044416) :
    Calls Try.prog 25 #[.slice A n c, .slice B P.length d] w fun e w' => e = .returned (.tuple #[.int .i64 (loN L P : Nat), .int .i64 ((loN L P : Nat) + ((occK L P (n + 1)).length : Nat))]) ∧ Below w.heap.size w w' := by
  have HL := Lib.hid hL
  have HP := Lib.hid hP
  have HLb := Lib.hid hl
  have HPb := Lib.hid hp
  have HA := Lib.hid hA
  have HB := Lib.hid hB
  clear hL hP hl hp hA hB
  obtain ⟨m, hm1⟩ : ∃ m, n + 1 = m := ⟨_, rfl⟩
  have eg2 : ∀ args w, (callFunc 54 args).run Try.prog w = .ok (.enter 54 args) w := enters_of Try.func54 (by kernel_rfl) rfl
  have eg3 : ∀ args w, (callFunc 55 args).run Try.prog w = .ok (.enter 55 args) w := enters_of Try.func55 (by kernel_rfl) rfl
  have EG2 := Lib.hid eg2
  have EG3 := Lib.hid eg3
  clear eg2 eg3
  have hb0 : Below w.heap.size w ((w.alloc (.cells #[.slice A n c] 22)).alloc (.cells #[.slice B P.length d] 22)) := ((Below.refl _ _).alloc (Nat.le_refl _) _).alloc (by simp) _
  have HB0 := Lib.hid hb0
  have bt0 := (Box.made w 22 #[.slice A n c]).alloc (.cells #[.slice B P.length d] 22)
  have bp0 := Box.made (w.alloc (.cells #[.slice A n c] 22)) 22 #[.slice B P.length d]
  have s1 : (w.alloc (.cells #[.slice A n c] 22)).heap.size = w.heap.size + 1 := by simp
  rw [s1] at bp0
  have ct0 := bt0.cell 0
  have BT0 := Lib.hid bt0
  have BP0 := Lib.hid bp0
  have HS := Lib.hid (implSuffixRows_in A n c L _ (HL.out.below hb0) HLb.out Hn hn)
  clear hb0 bt0 bp0 s1
  go_enter Try.func25, Try.ntmps25
  go_wp2_with fail
  refine HS.out.mono ?_
  rintro e w1 ⟨Ar, cr, rfl, ho, hb⟩
  have hSl : ((sfx L).map Int.ofNat).length = m := by rw [List.length_map, sfx_len, Hn.out, hm1]
  rw [hSl] at ho ⊢
  have hsz0 := HB0.out.size
  have hsz1 := hb.size
  have hbt := BT0.out.lt
  have hbp := BP0.out.lt
  have BT1 := BT0.out.below hb hbt
  have BP1 := BP0.out.below hb hbp
  have hLr1 : Lies w1 I Ar ((sfx L).map Int.ofNat) := Lies.of_own ho
  have HB1 : Hid (Below w.heap.size w w1) := Lib.hid (HB0.out.trans (hb.mono hsz0))
  obtain ⟨bt, hbte⟩ : ∃ bt, w.heap.size = bt := ⟨_, rfl⟩
  obtain ⟨bp, hbpe⟩ : ∃ bp, w.heap.size + 1 = bp := ⟨_, rfl⟩
  obtain ⟨br, hbre⟩ : ∃ br, w1.heap.size = br := ⟨_, rfl⟩
  obtain ⟨bs, hbse⟩ : ∃ bs, w1.heap.size + 1 = bs := ⟨_, rfl⟩
  obtain ⟨fv, hfv⟩ : ∃ fv, Value.func (.func 51) #[] #[.pointer (some ⟨bt, 0, none⟩), .pointer (some ⟨br, 0, none⟩), .pointer (some ⟨bp, 0, none⟩)] = fv := ⟨_, rfl⟩
  have hs1 : (w1.alloc (.cells #[.slice Ar m cr] 25)).heap.size = bs := by simp; omega
  have BR3 := (Box.made w1 25 #[.slice Ar m cr]).alloc (.cells #[fv] 51)
  have BS3 := Box.made (w1.alloc (.cells #[.slice Ar m cr] 25)) 51 #[fv]
  have hb3 : Below w1.heap.size w1 ((w1.alloc (.cells #[.slice Ar m cr] 25)).alloc (.cells #[fv] 51)) := ((Below.refl _ _).alloc (Nat.le_refl _) _).alloc (by simp) _
  obtain ⟨w3, hw3⟩ : ∃ w3, (w1.alloc (.cells #[.slice Ar m cr] 25)).alloc (.cells #[fv] 51) = w3 := ⟨_, rfl⟩
  rw [hs1] at BS3
  rw [hbre] at BR3
  rw [hw3] at BR3 BS3 hb3
  have BT3 := BT1.below hb3 (by omega)
  have BP3 := BP1.below hb3 (by omega)
  rw [hbte] at BT3
  rw [hbpe] at BP3
  have hSide : SideAt w3 bt br bp A Ar B c cr d n L P := ⟨BT3.cell 0, by rw [hm1]; exact BR3.cell 0, BP3.cell 0, BT3.lt, BR3.lt, BP3.lt, (HL.out.below HB1.out).below hb3, hLr1.below hb3, (HP.out.below HB1.out).below hb3⟩
  have hcs : w3.cell? ⟨bs, 0, none⟩ = some fv := BS3.cell 0
  have hls := BS3.lt
  have hlr := BR3.lt
  have S2 := fun (W : World) (hW : Below w3.heap.size w3 W) => search_any 54 #[.pointer (some ⟨bs, 0, none⟩)] m (fun k => decide (0 ≤ sideV L P k)) W EG2.out (by omega)
    (fun W' hW' i hi => ge_any bs bt br bp A Ar B c cr d n i L P W' ((hSide.below hW).below hW') ((hW'.cell (p := ⟨bs, 0, none⟩) (Nat.lt_of_lt_of_le hls hW.size)).trans ((hW.cell (p := ⟨bs, 0, none⟩) hls).trans (by rw [hfv]; exact hcs))) Hn hn hc HA.out HB.out HLb.out HPb.out hm (by omega))
    (fun a b hab hb h => side_ge hab (by rw [Hn.out]; omega) h)
  have S3 := fun (W : World) (hW : Below w3.heap.size w3 W) => search_any 55 #[.pointer (some ⟨bs, 0, none⟩)] m (fun k => decide (0 < sideV L P k)) W EG3.out (by omega)
    (fun W' hW' i hi => gt_any bs bt br bp A Ar B c cr d n i L P W' ((hSide.below hW).below hW') ((hW'.cell (p := ⟨bs, 0, none⟩) (Nat.lt_of_lt_of_le hls hW.size)).trans ((hW.cell (p := ⟨bs, 0, none⟩) hls).trans (by rw [hfv]; exact hcs))) Hn hn hc HA.out HB.out HLb.out HPb.out hm (by omega))
    (fun a b hab hb h => side_gt hab (by rw [Hn.out]; omega) h)
  have hlo : (List.range m).countP (fun k => !decide (0 ≤ sideV L P k)) = loN L P := by rw [← hm1, ← Hn.out]; exact count_lo L P
  have hhi : (List.range m).countP (fun k => !decide (0 < sideV L P k)) = loN L P + (occK L P (n + 1)).length := by rw [← hm1, ← Hn.out]; exact count_hi L P
  rw [hlo] at S2
  rw [hhi] at S3
  have HS2 := Lib.hid S2
  have HS3 := Lib.hid S3
  have HR3 : Hid (w3.cell? ⟨br, 0, none⟩ = some (.slice Ar m cr)) := Lib.hid (BR3.cell 0)
  have HB3 : Hid (Below w.heap.size w w3) := Lib.hid (below_then HB1.out hb3)
  have HW3 := Lib.hid hw3
  obtain ⟨lo, hlov⟩ : ∃ lo, loN L P = lo := ⟨_, rfl⟩
  obtain ⟨hi, hhiv⟩ : ∃ hi, loN L P + (occK L P (n + 1)).length = hi := ⟨_, rfl⟩
  rw [hlov] at HS2
  rw [hhiv] at HS3
  have HLoV := Lib.hid hlov
  have HHiV := Lib.hid hhiv
  have hlr2 := HR3.out
  clear S2 S3 hlo hhi hSide hcs BR3 BS3 BT3 BP3 BT1 BP1 hLr1 hb3 ho hb hlov hhiv HS BT0 BP0 HB0 hbt hbp
  have Hbt := Lib.hid hbte
  have Hbp := Lib.hid hbpe
  have Hbr := Lib.hid hbre
  have Hbs := Lib.hid hbse
  have Hfv := Lib.hid hfv
  clear hbte hbpe hbre hbse hfv hs1 hlr2
  go_wp2_with fail
  rw [Hbs.out, Hbr.out, Hbp.out, Hbt.out, Hfv.out, HW3.out]
  refine (HS2.out w3 (Below.refl _ _)).mono ?_
  rintro e w4 ⟨rfl, hb4⟩
  have hR4 := (hb4.cell (p := ⟨br, 0, none⟩) hlr).trans HR3.out
  have HB4 := Lib.hid hb4
  clear hb4
  go_wp2_with fail
  refine (HS3.out w4 HB4.out).mono ?_
  rintro e w5 ⟨rfl, hb5⟩
  have HB5 : Hid (Below w.heap.size w w5) := Lib.hid (below_then HB3.out (below_then HB4.out hb5))
  clear hb5 HS2 HS3
  go_wp2
  go_ret2
  refine ⟨?_, HB5.out⟩
  rw [HLoV.out, ← HHiV.out, HLoV.out]
  simp

set_option maxHeartbeats 1600000 in
theorem implRowsOf_big (A B : Option Addr) (n c d m : Nat) (L : List Nat) (w : World) (hL : Lies w B8 A L) (hl : ∀ x ∈ L, x < 2 ^ 8) (Hn : Hid (L.length = n)) (hn : ¬ n ≤ 300) :
    Calls Try.prog 25 #[.slice A n c, .slice B m d] w fun e w' => e = .returned (.tuple #[.int .i64 0, .int .i64 0]) ∧ Below w.heap.size w w' := by
  have EG2 : Hid (∀ args w, (callFunc 54 args).run Try.prog w = .ok (.enter 54 args) w) := Lib.hid (enters_of Try.func54 (by kernel_rfl) rfl)
  have EG3 : Hid (∀ args w, (callFunc 55 args).run Try.prog w = .ok (.enter 55 args) w) := Lib.hid (enters_of Try.func55 (by kernel_rfl) rfl)
  have hb0 : Below w.heap.size w ((w.alloc (.cells #[.slice A n c] 22)).alloc (.cells #[.slice B m d] 22)) := ((Below.refl _ _).alloc (Nat.le_refl _) _).alloc (by simp) _
  have HB0 := Lib.hid hb0
  have HS := Lib.hid (implSuffixRows_any A c L _ (hL.below hb0) hl)
  have e : sfxV L = [] := by unfold sfxV; rw [Hn.out, if_neg hn]
  rw [e, Hn.out] at HS
  have bt0 := (Box.made w 22 #[.slice A n c]).alloc (.cells #[.slice B m d] 22)
  have ct0 := bt0.cell 0
  clear hb0 hL hl e bt0
  go_enter Try.func25, Try.ntmps25
  go_wp2_with fail
  refine HS.out.mono ?_
  rintro e w1 ⟨Ar, cr, rfl, ho, hb⟩
  simp only [List.length_nil]
  have HB1 : Hid (Below w.heap.size w w1) := Lib.hid (HB0.out.trans (hb.mono HB0.out.size))
  clear ho hb HS
  have BR3 := fun o => (Box.made w1 25 #[.slice Ar 0 cr]).alloc o
  have S2 := Lib.hid fun (cb : Array Value) (W : World) => search_any 54 cb 0 (fun _ => true) W EG2.out (by omega) (fun W' hW' i hi => absurd hi (by omega)) (fun a b _ hb _ => absurd hb (by omega))
  have S3 := Lib.hid fun (cb : Array Value) (W : World) => search_any 55 cb 0 (fun _ => true) W EG3.out (by omega) (fun W' hW' i hi => absurd hi (by omega)) (fun a b _ hb _ => absurd hb (by omega))
  have HBR := Lib.hid BR3
  clear BR3
  go_wp2_with fail
  refine (S2.out _ _).mono ?_
  rintro e w4 ⟨rfl, hb4⟩
  have hR4 := (hb4.cell (p := ⟨w1.heap.size, 0, none⟩) (HBR.out _).lt).trans ((HBR.out _).cell 0)
  have hR5 : w4.cell? ⟨w1.heap.size, 0, none⟩ = some (.slice Ar 0 cr) := hR4
  have HB4 : Hid (Below w.heap.size w w4) := Lib.hid (below_then (below_then HB1.out (((Below.refl _ _).alloc (Nat.le_refl _) _).alloc (by simp) _)) hb4)
  clear hb4 hR4
  go_wp2_with fail
  refine (S3.out _ w4).mono ?_
  rintro e w5 ⟨rfl, hb5⟩
  have HB5 : Hid (Below w.heap.size w w5) := Lib.hid (below_then HB4.out hb5)
  clear hb5 S2 S3
  go_wp2
  go_ret2
  exact ⟨by simp, HB5.out⟩

theorem implRowsOf_any (A B : Option Addr) (c d : Nat) (L P : List Nat) (w : World) (hL : Lies w B8 A L) (hP : Lies w B8 B P) (hA : Tidy A c) (hB : Tidy B d) (hl : ∀ x ∈ L, x < 2 ^ 8) (hp : ∀ x ∈ P, x < 2 ^ 8) (hc : L.length ≤ c) (hm : P.length ≤ 17592186044416) :
    Calls Try.prog 25 #[.slice A L.length c, .slice B P.length d] w fun e w' => e = .returned (.tuple #[.int .i64 (loR L P), .int .i64 (hiR L P)]) ∧ Below w.heap.size w w' := by
  unfold loR hiR
  by_cases h3 : L.length ≤ 300
  · rw [if_pos h3, if_pos h3]
    exact implRowsOf_in A B L.length c d L P w hL hP hA hB hl hp (Lib.hid rfl) h3 hc hm
  · rw [if_neg h3, if_neg h3]
    exact implRowsOf_big A B L.length c d P.length L w hL hl (Lib.hid rfl) h3

end Go.Proofs.Ytlgnndfhpnbhmaa
