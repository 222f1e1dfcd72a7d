/- RowsOf of the program. -/
import Derived.Test.YtlgnndfhpnbhmaaSfR1
namespace Go.Proofs.Ytlgnndfhpnbhmaa
open Go.RowKit
set_option maxRecDepth 100000

/-- The boxes of RowsOf's own function: the text, its rows, the word. -/
structure SideAt (W : World) (bt br bp : Nat) (A Ar B : Option Addr) (c cr d n : Nat) (L P : List Nat) : Prop where
  ct : W.cell? ⟨bt, 0, none⟩ = some (.slice A n c)
  cr : W.cell? ⟨br, 0, none⟩ = some (.slice Ar (n + 1) cr)
  cp : W.cell? ⟨bp, 0, none⟩ = some (.slice B P.length d)
  lt : bt < W.heap.size
  lr : br < W.heap.size
  lp : bp < W.heap.size
  text : Lies W B8 A L
  rows : Lies W I Ar ((sfx L).map Int.ofNat)
  word : Lies W B8 B P
theorem SideAt.below {W W' : World} {bt br bp : Nat} {A Ar B : Option Addr} {c cr d n : Nat} {L P : List Nat} (h : SideAt W bt br bp A Ar B c cr d n L P) (hb : Below W.heap.size W W') : SideAt W' bt br bp A Ar B c cr d n L P :=
  ⟨(hb.cell (p := ⟨bt, 0, none⟩) h.lt).trans h.ct, (hb.cell (p := ⟨br, 0, none⟩) h.lr).trans h.cr, (hb.cell (p := ⟨bp, 0, none⟩) h.lp).trans h.cp, Nat.lt_of_lt_of_le h.lt hb.size, Nat.lt_of_lt_of_le h.lr hb.size, Nat.lt_of_lt_of_le h.lp hb.size, h.text.below hb, h.rows.below hb, h.word.below hb⟩

set_option maxHeartbeats 1600000 in
theorem side_any (bt br bp : Nat) (A Ar B : Option Addr) (c cr d n k : Nat) (L P : List Nat) (W : World) (h : SideAt W bt br bp A Ar B c cr d n L P) (Hn : Hid (L.length = n)) (hn : n ≤ 300) (hc : n ≤ c) (hA : Tidy A c) (hB : Tidy B d) (hl : ∀ x ∈ L, x < 2 ^ 8) (hp : ∀ x ∈ P, x < 2 ^ 8) (hm : P.length ≤ 17592186044416) (hk : k ≤ n) :
    Calls Try.prog 51 #[.int .i64 k, .pointer (some ⟨bt, 0, none⟩), .pointer (some ⟨br, 0, none⟩), .pointer (some ⟨bp, 0, none⟩)] W fun e w' => e = .returned (.int .i64 (sideV L P k)) ∧ ∃ q, w' = W.drewN q := by
  obtain ⟨ct, cR, cp, _, _, _, text, rows, word⟩ := h
  obtain ⟨x, hx, hxn⟩ := sfx_at (t := L) (k := k) (by rw [Hn.out]; exact hk)
  rw [Hn.out] at hxn
  obtain ⟨b, o, hAr, hbl, hcx⟩ := rows k (x : Int) (ofNat_at hx)
  subst hAr
  obtain ⟨A1, hs1, hL1, hA1⟩ := slice_drop Try.elemBytes Try.sizeByte A n c L x W Hn text hA hxn hc
  have HV : Hid (sideV L P k = lcmp ((L.drop x).take P.length) P) := Lib.hid (by unfold sideV; rw [getM hx])
  have HC := Lib.hid fun (q : Nat) => compareStart_any A1 B (c - x) d (L.drop x) P (W.drewN q) hL1 word hA1 hB (fun x hx => hl x (List.mem_of_mem_drop hx)) hp (by rw [List.length_drop, Hn.out]; omega) (by rw [List.length_drop, Hn.out]; omega) hm
  generalize lcmp ((L.drop x).take P.length) P = r at *
  have hkn : (k : Int) < (n : Int) + 1 := by omega
  have hkn2 : k < n + 1 := by omega
  clear text rows word hL1 hA1 hx hl hp hA hB
  generalize L.drop x = D1 at *
  rw [HV.out]
  clear HV
  go_enter Try.func51, Try.ntmps51
  go_wp2
  go_quiet ((go_at_call 52; exact Calls.quiet_of_same (HC.out _)))
  go_wp2
  go_ret
  exact ⟨rfl, _, rfl⟩

set_option maxHeartbeats 800000 in
theorem ge_any (bs bt br bp : Nat) (A Ar B : Option Addr) (c cr d n k : Nat) (L P : List Nat) (W : World) (h : SideAt W bt br bp A Ar B c cr d n L P) (hbs : W.cell? ⟨bs, 0, none⟩ = some (.func (.func 51) #[] #[.pointer (some ⟨bt, 0, none⟩), .pointer (some ⟨br, 0, none⟩), .pointer (some ⟨bp, 0, none⟩)])) (Hn : Hid (L.length = n)) (hn : n ≤ 300) (hc : n ≤ c) (hA : Tidy A c) (hB : Tidy B d) (hl : ∀ x ∈ L, x < 2 ^ 8) (hp : ∀ x ∈ P, x < 2 ^ 8) (hm : P.length ≤ 17592186044416) (hk : k ≤ n) :
    Calls Try.prog 54 #[.int .i64 k, .pointer (some ⟨bs, 0, none⟩)] W fun e w' => e = .returned (.bool (decide (0 ≤ sideV L P k))) ∧ ∃ q, w' = W.drewN q := by
  have HS := Lib.hid (side_any bt br bp A Ar B c cr d n k L P W h Hn hn hc hA hB hl hp hm hk)
  clear h hA hB hl hp
  generalize sideV L P k = r at *
  go_enter Try.func54, Try.ntmps54
  go_wp2_with fail
  refine HS.out.mono ?_
  rintro e w1 ⟨rfl, q, rfl⟩
  go_wp2
  go_ret
  exact ⟨rfl, q, rfl⟩

set_option maxHeartbeats 800000 in
theorem gt_any (bs bt br bp : Nat) (A Ar B : Option Addr) (c cr d n k : Nat) (L P : List Nat) (W : World) (h : SideAt W bt br bp A Ar B c cr d n L P) (hbs : W.cell? ⟨bs, 0, none⟩ = some (.func (.func 51) #[] #[.pointer (some ⟨bt, 0, none⟩), .pointer (some ⟨br, 0, none⟩), .pointer (some ⟨bp, 0, none⟩)])) (Hn : Hid (L.length = n)) (hn : n ≤ 300) (hc : n ≤ c) (hA : Tidy A c) (hB : Tidy B d) (hl : ∀ x ∈ L, x < 2 ^ 8) (hp : ∀ x ∈ P, x < 2 ^ 8) (hm : P.length ≤ 17592186044416) (hk : k ≤ n) :
    Calls Try.prog 55 #[.int .i64 k, .pointer (some ⟨bs, 0, none⟩)] W fun e w' => e = .returned (.bool (decide (0 < sideV L P k))) ∧ ∃ q, w' = W.drewN q := by
  have HS := Lib.hid (side_any bt br bp A Ar B c cr d n k L P W h Hn hn hc hA hB hl hp hm hk)
  clear h hA hB hl hp
  generalize sideV L P k = r at *
  go_enter Try.func55, Try.ntmps55
  go_wp2_with fail
  refine HS.out.mono ?_
  rintro e w1 ⟨rfl, q, rfl⟩
  go_wp2
  go_ret
  exact ⟨rfl, q, rfl⟩

/-- The library's search, at this program. -/
theorem search_any (g : Nat) (cb : Array Value) (n : Nat) (p : Nat → Bool) (w : World) (eg : ∀ args w, (callFunc g args).run Try.prog w = .ok (.enter g args) w) (hsz : n < 4611686018427387904)
    (hf : ∀ (W : World), Below w.heap.size w W → ∀ i, i < n → Calls Try.prog g (#[.int .i64 i] ++ cb) W fun e w' => e = .returned (.bool (p i)) ∧ ∃ q, w' = W.drewN q)
    (hmono : ∀ a b, a ≤ b → b < n → p a = true → p b = true) :
    Calls Try.prog 53 #[.int .i64 n, .func (.func g) #[] cb] w fun e w' => e = .returned (.int .i64 ((List.range n).countP (fun i => !p i) : Nat)) ∧ Below w.heap.size w w' := by
  have h := Any.sort_Search Try.search g cb n p w eg hsz (fun m os i hi => (hf _ (below_grown_sl w.heap.size w m os (Nat.le_refl _)) i hi).mono fun e w' ⟨he, q, hq⟩ => ⟨he, q, #[], by rw [hq, Go.Sort.grow_empty]⟩) hmono
  change Calls Try.prog 53 _ _ _ at h
  exact h.mono fun e w' ⟨he, q, os, hw⟩ => ⟨he, by rw [hw]; exact below_grown_sl w.heap.size w q os (Nat.le_refl _)⟩

end Go.Proofs.Ytlgnndfhpnbhmaa
