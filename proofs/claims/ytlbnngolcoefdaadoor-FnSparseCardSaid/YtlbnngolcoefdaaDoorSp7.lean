/- The program's iterator over the bits 1 of High. -/
import Derived.Test.YtlbnngolcoefdaaDoorSpOrd2
import Derived.Test.YtlbnngolcoefdaaDoorSp2
import Derived.Test.YtlbnngolcoefdaaDoorAt2
import Derived.Test.YtlbnngolcoefdaaDoorSelMath2
import Derived.Test.YtlbnngolcoefdaaDoorMem3
namespace Go.Proofs.YtlbnngolcoefdaaDoor
open Go.RowKit Go.Shelf
set_option maxRecDepth 100000
attribute [local go_sem] Oper.semAt_some

/-- Blocks of these three types are as they were. -/
def KeepT (A A' : World) : Prop := ∀ (k : Nat) (cs : Array Value) (t : TypeId) (f : Nat × Nat), A.heap[k]? = some (Obj.cells cs t f) → (t = 29 ∨ t = 115 ∨ t = 33) → A'.heap[k]? = A.heap[k]?
/-- What each round keeps. -/
def KpB (n₀ : Nat) (A A' : World) : Prop := Below n₀ A A' ∧ KeepT A A'

theorem keepT_t {A B C : World} (h : KeepT A B) (h' : KeepT B C) : KeepT A C := fun k cs t f hk ht => by
  have h1 := h k cs t f hk ht
  exact (h' k cs t f (h1.trans hk) ht).trans h1
theorem kp_t {n₀ : Nat} {A B C : World} (h : KpB n₀ A B) (h' : KpB n₀ B C) : KpB n₀ A C := ⟨h.1.trans h'.1, keepT_t h.2 h'.2⟩
theorem kp_refl (n₀ : Nat) (A : World) : KpB n₀ A A := ⟨Below.refl _ _, fun _ _ _ _ _ _ => rfl⟩
theorem kp_below {n₀ : Nat} {A B : World} (h : Below A.heap.size A B) (hn : n₀ ≤ A.heap.size) : KpB n₀ A B := ⟨h.mono hn, fun k _ _ _ hk _ => h.block k (Array.getElem?_eq_some_iff.1 hk).1⟩
theorem kp_b {n₀ : Nat} {w : World} (hn : n₀ ≤ w.heap.size) (W : World) (l : Nat) (o o' : Obj) (hl : w.heap.size ≤ l) (h : W.heap[l]? = some o) (h1 : o.isCells = false) (h2 : o.isWalk = false) : KpB n₀ W (W.putObj l o') :=
  ⟨belowK_b hn W l o o' hl h h1 h2, fun k cs t f hk _ => World.putObj_heap_other fun e => by
    subst e
    rw [h] at hk
    cases hk
    cases h1⟩
theorem kp_box {n₀ g : Nat} {A B : World} {cs : Array Value} (h : KpB n₀ A B) (hb : Box A g 29 cs) : Box B g 29 cs := (h.2 g _ _ _ hb (.inl rfl)).trans hb
theorem kp_boxS {n₀ g : Nat} {A B : World} {cs : Array Value} (h : KpB n₀ A B) (hb : Box A g 33 cs) : Box B g 33 cs := (h.2 g _ _ _ hb (.inr (.inr rfl))).trans hb
theorem kp_lies {n₀ : Nat} {A B : World} {ad : Option Addr} {L : List Nat} (h : KpB n₀ A B) (hn : n₀ ≤ A.heap.size) (hL : ∀ (j x : Nat), L[j]? = some x → ∃ b o, ad = some ⟨b, o, none⟩ ∧ b < n₀ ∧ A.cell? ⟨b, o + j, none⟩ = some (U x)) : Lies B U ad L := fun j x hx => by
  obtain ⟨b, o, h1, h2, h3⟩ := hL j x hx
  exact ⟨b, o, h1, Nat.lt_of_lt_of_le h2 (Nat.le_trans hn h.1.size), (h.1.cell (p := ⟨b, o + j, none⟩) h2).trans h3⟩
theorem grown_none {w w' : World} (h : Below w.heap.size w w') : w.grownBy w' none := ⟨h.os, h.tape, h.output, h.size, fun k hk _ => h.block k hk⟩
theorem own_on {β : Type} {B : Nat} {J : β → World → Prop} (h : OwnFrom B J) {s : β} {W W' : World} (hj : J s W) (hb : Below W.heap.size W W') : J s W' := h s W W' none hj (grown_none hb) (fun r e => by cases e)

/-- The bits 1 among the first i. -/
def ups (Vs : List Nat) : Nat → List Nat
  | 0 => []
  | i + 1 => if bitN Vs i = 1 then ups Vs i ++ [i] else ups Vs i
theorem ups_len (Vs : List Nat) : ∀ i, (ups Vs i).length = cnt Vs 1 i
  | 0 => rfl
  | i + 1 => by
    rw [ups, cnt_one]
    split
    · rw [List.length_append, ups_len Vs i]; rfl
    · rw [ups_len Vs i]; rfl
theorem ups_front (Vs : List Nat) (i : Nat) : ∀ j, i ≤ j → ups Vs i <+: ups Vs j
  | 0, h => by rw [Nat.le_zero.1 h]; exact List.prefix_refl _
  | j + 1, h => by
    by_cases e : i = j + 1
    · rw [e]; exact List.prefix_refl _
    · refine (ups_front Vs i j (by omega)).trans ?_
      rw [ups]
      split
      · exact List.prefix_append _ _
      · exact List.prefix_refl _
/-- What is handed over at the bit p of H bits: how many bits 1 and how many bits 0 stand before it. -/
def upAt (Vs : List Nat) (H p : Nat) : Array Value := #[.int .i64 (cnt Vs 1 (min p H)), .int .i64 (cnt Vs 0 (min p H))]

theorem bitAt_bit {H m : Nat} {Vs : List Nat} (hok : okB H Vs = true) (h : m < H) : bitAtV H Vs m = (bitN Vs m : Int) := by
  unfold bitAtV
  rw [if_pos ⟨hok, by omega, by omega⟩, Int.toNat_natCast]

set_option maxHeartbeats 400000 in
theorem uppers_any (H : Int) (A : Option Addr) (n c : Nat) (w : World) :
    Calls Tryd.prog 99 #[.agg #[.int .i64 H, .slice A n c]] w fun e w' => e = .returned (.func (.func 121) #[] #[.pointer (some ⟨w.heap.size, 0, none⟩)]) ∧ w.alloc (.cells #[.int .i64 H, .slice A n c] 29) = w' := by
  go_enter Tryd.func99, Tryd.ntmps99
  go_wp2
  go_ret
  exact ⟨rfl, rfl⟩

set_option maxHeartbeats 2000000 in
theorem uppersO (Bs n₀ c : Nat) (A : Option Addr) (H : Nat) (Vs : List Nat) (hok : okB H Vs = true) (hw : ∀ x ∈ Vs, x < 2 ^ 64) (hH : H ≤ 5000) (w : World) (hn₀ : n₀ ≤ w.heap.size) (hbx : Box w Bs 29 #[.int .i64 H, .slice A Vs.length c])
    (hL : ∀ (j x : Nat), Vs[j]? = some x → ∃ b o, A = some ⟨b, o, none⟩ ∧ b < n₀ ∧ w.cell? ⟨b, o + j, none⟩ = some (U x)) :
    SeqO Tryd.prog 121 #[.pointer (some ⟨Bs, 0, none⟩)] (upAt Vs H) (KpB n₀) (fun ys => ys = ups Vs H) (fun pre => pre <+: ups Vs H) (cnt Vs 1 H) w := by
  intro l J Jx W hW hJ hJx hY h0
  have HK : Hid (∀ wr, KpB n₀ W wr → Lies wr U A Vs ∧ Box wr Bs 29 #[.int .i64 H, .slice A Vs.length c]) := Lib.hid fun wr hk => ⟨kp_lies (kp_t (kp_below hW hn₀) hk) hn₀ hL, kp_box hk (hbx.below hW hbx.lt)⟩
  have HC : Hid (∀ (m : Nat) (wr : World), m < H → Lies wr U A Vs → Calls Tryd.prog 122 #[.agg #[.int .i64 H, .slice A Vs.length c], .int .i64 m] wr fun e w' => e = .returned (.int .i64 (bitN Vs m)) ∧ Below wr.heap.size wr w') :=
    Lib.hid fun m wr hm hl => by
      have h := implAt_any H A c Vs m wr hl hw
      rw [bitAt_bit hok hm] at h
      exact h
  have HJ := Lib.hid hJ
  have HY := Lib.hid hY
  have HN : Hid (n₀ ≤ W.heap.size) := Lib.hid (Nat.le_trans hn₀ hW.size)
  have f0 := (HK.out W (kp_refl _ _)).2.cell 0
  have f1 := (HK.out W (kp_refl _ _)).2.cell 1
  simp only [List.getElem?_toArray, List.getElem?_cons_zero, List.getElem?_cons_succ] at f0 f1
  clear hJ hJx hY hW hbx hL hok hw hn₀
  refine callsIn_of_wp Tryd.func121 rfl trivial ?_ rfl
  simp only [Tryd.ntmps121, List.size_toArray, List.length_cons, List.length_nil, Nat.reduceAdd, Nat.reduceSub, Array.replicate_succ, Array.replicate_zero, List.push_toArray, List.append_toArray, List.nil_append, List.cons_append]
  gi_wp2
  clear f0 f1
  gi_loopw [3, 7] (fun k i wr => ∃ m : Nat, m ≤ H ∧ i = .int .i64 m ∧ k = .int .i64 (cnt Vs 1 m) ∧ J (ups Vs m) wr ∧ KpB n₀ W wr)
    (fun _ i _ => H - (intOf i).toNat)
  case atStart => exact ⟨0, Nat.zero_le _, rfl, rfl, h0, kp_refl _ _⟩
  case round =>
    obtain ⟨m, hm, rfl, rfl, hJs, hkp⟩ := hrel
    by_cases hlt : m < H
    · obtain ⟨hl, hb⟩ := HK.out wr hkp
      have f0 := hb.cell 0
      have f1 := hb.cell 1
      simp only [List.getElem?_toArray, List.getElem?_cons_zero, List.getElem?_cons_succ] at f0 f1
      have CB := Lib.hid (HC.out m wr hlt hl)
      have hsz : n₀ ≤ wr.heap.size := Nat.le_trans HN.out hkp.1.size
      have hbl := bitN_lt Vs m
      have hcl := cnt_le Vs 1 m
      have hcs := cnt_sum Vs m
      have HU : Hid (ups Vs (m + 1) = if bitN Vs m = 1 then ups Vs m ++ [m] else ups Vs m) := Lib.hid rfl
      have HA : Hid (upAt Vs H m = #[.int .i64 (cnt Vs 1 m), .int .i64 (cnt Vs 0 m)]) := Lib.hid (by unfold upAt; rw [Nat.min_eq_left (by omega)])
      have HO := Lib.hid (cnt_one Vs m)
      have HF := Lib.hid (ups_front Vs (m + 1) H hlt)
      have HLt := Lib.hid fun h => cntS_lt Vs hlt h
      have HL := Lib.hid (ups_len Vs m)
      clear hl hb
      by_cases hbit : bitN Vs m = 1
      · rw [hbit] at CB
        rw [if_pos hbit] at HO HU
        have hl2 := HLt.out hbit
        have hsub : (m : Int) - (cnt Vs 1 m : Int) = (cnt Vs 0 m : Int) := by omega
        generalize cnt Vs 1 m = c1 at *
        generalize cnt Vs 0 m = c0 at *
        clear hbit hbl HLt
        gi_wp2_with fail
        refine ⟨trivial, rfl, (callsIn_wide.2 CB.out).mono ?_⟩
        rintro e w1 ⟨rfl, hb1⟩
        obtain ⟨fn, tmps, assign, body, hy, hR⟩ := yield_wide (m' := 0) (HY.out (ups Vs m) m w1 (own_on HJ.out hJs hb1) (by rw [HL.out]; exact hl2))
        rw [HA.out] at hy
        have HK1 := Lib.hid (kp_t hkp (kp_below hb1 hsz))
        clear hb1 hkp
        gi_wp2
        refine ⟨rfl, hR.mono ?_⟩
        rintro e W3 (⟨rfl, hJ3, hk3, _⟩ | ⟨rfl, hJx3, _⟩)
        · gi_wp2
          go_roundw
          case rel => exact ⟨m + 1, by omega, by go_num, by rw [HO.out]; simp, by rw [HU.out]; exact hJ3, kp_t HK1.out hk3⟩
          case measure => simp [intOf]; omega
        · gi_wp2
          refine bodyPost_ret (results_none rfl _ _ _) rfl ?_
          exact ⟨⟨_, rfl⟩, .inr ⟨_, by rw [← HU.out]; exact HF.out, hJx3⟩⟩
      · have h0 : bitN Vs m = 0 := by omega
        rw [h0] at CB
        rw [if_neg hbit] at HO HU
        generalize cnt Vs 1 m = c1 at *
        clear hbit hbl HLt h0
        gi_wp2_with fail
        refine ⟨trivial, rfl, (callsIn_wide.2 CB.out).mono ?_⟩
        rintro e w1 ⟨rfl, hb1⟩
        have hJ1 := own_on HJ.out hJs hb1
        have HK1 := Lib.hid (kp_t hkp (kp_below hb1 hsz))
        clear hb1 hkp
        gi_wp2
        go_roundw
        case rel => exact ⟨m + 1, by omega, by go_num, by rw [HO.out]; simp, by rw [HU.out]; exact hJ1, HK1.out⟩
        case measure => simp [intOf]; omega
    · obtain rfl : m = H := by omega
      gi_wp2
      go_end0
      exact ⟨⟨_, rfl⟩, .inl ⟨_, rfl, hJs⟩⟩

end Go.Proofs.YtlbnngolcoefdaaDoor
