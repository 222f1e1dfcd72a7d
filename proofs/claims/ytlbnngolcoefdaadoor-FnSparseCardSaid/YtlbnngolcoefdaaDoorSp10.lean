import Derived.Test.YtlbnngolcoefdaaDoorPop1
import Derived.Test.YtlbnngolcoefdaaDoorRank3d
import Derived.Test.YtlbnngolcoefdaaDoorSp4
import Derived.Deep.RegionWith
import Derived.Deep.RegionHeld3
import Derived.Test.YtlbnngolcoefdaaDoorFlipMath
/- Rank, both. -/
namespace Go.Proofs.YtlbnngolcoefdaaDoor
open Go.RowKit
set_option maxRecDepth 100000

set_option maxHeartbeats 400000 in
theorem implRank_in (n : Nat) (A : Option Addr) (c : Nat) (L : List Nat) (b : Int) (i : Nat) (w : World) (hL : Lies w U A L) (hw : ∀ x ∈ L, x < 2 ^ 64) (hok : okB n L = true) (hb01 : b = 0 ∨ b = 1) (hi : i ≤ n) (hn : n ≤ 5000) (Hl : Hid (L.length = (n + 63) / 64)) (hlc : L.length ≤ c) (hcm : c ≤ 9223372036854775807) :
    Calls Tryd.prog 67 #[.agg #[.int .i64 n, .slice A L.length c], .int .i64 b, .int .i64 i] w fun e w' => e = .returned (.int .i64 (cnt L b i)) ∧ Below w.heap.size w w' := by
  have HW := Lib.hid hw
  have HL := Lib.hid hL
  have Hb := Lib.hid hb01
  clear hw hL hb01
  have hcs := cnt_sum L i
  have hcl := cnt_le L 1 i
  go_enter Tryd.func67, Tryd.ntmps67
  have sc : Scene w w [] := Scene.start w
  go_wp2_with fail
  replace sc := sc.box 29 #[.int .i64 n, .slice A L.length c]
  generalize w.alloc (Obj.cells #[.int .i64 n, .slice A L.length c] 29) = W0 at *
  refine (implOk_any n A c L _ (sc.liesOld HL.out) HW.out).mono ?_
  rintro e w1 ⟨rfl, hb⟩
  replace sc := sc.step hb
  rw [hok]
  clear hb hok
  go_wp2_with fail
  refine (isBit_sel b _).mono ?_
  rintro e w2 ⟨rfl, rfl⟩
  rw [decide_eq_true Hb.out]
  obtain ⟨fa0, fa1, fal⟩ := sc.two 0 rfl
  go_wp2_with fail
  refine (onesBefore_any A c L i _ (sc.liesOld HL.out) HW.out (by omega) (by have := Hl.out; omega) (by have := Hl.out; omega) hlc hcm).mono ?_
  rintro e w3 ⟨rfl, hb⟩
  replace sc := sc.step hb
  have HB := Lib.hid sc.below
  clear hb sc fa0 fa1 fal
  rcases Hb.out with rfl | rfl
  · have HE : Hid ((i : Int) - (cnt L 1 i : Int) = (cnt L 0 i : Int)) := Lib.hid (by omega)
    clear hcs
    generalize cnt L 1 i = p at *
    go_wp2
    go_ret
    exact ⟨ret_int HE.out, HB.out⟩
  · clear hcs
    obtain ⟨p, hp⟩ : ∃ p, cnt L 1 i = p := ⟨_, rfl⟩
    rw [hp] at hcl ⊢
    have HP := Lib.hid hp
    clear hp
    go_wp2
    go_ret
    exact ⟨ret_int (by rw [HP.out]), HB.out⟩

theorem implRank_any (N : Int) (A : Option Addr) (c : Nat) (L : List Nat) (b i : Int) (w : World) (hL : Lies w U A L) (hw : ∀ x ∈ L, x < 2 ^ 64) (hlc : L.length ≤ c) (hcm : c ≤ 9223372036854775807) :
    Calls Tryd.prog 67 #[.agg #[.int .i64 N, .slice A L.length c], .int .i64 b, .int .i64 i] w fun e w' => e = .returned (.int .i64 (rankV N L b i)) ∧ Below w.heap.size w w' := by
  unfold rankV
  cases hok : okB N L
  · rw [if_neg (fun h => by cases h.1)]
    exact implRank_bad N A c L b i w hL hw hok
  · by_cases hi : (b = 0 ∨ b = 1) ∧ 0 ≤ i ∧ i ≤ N
    · obtain ⟨n, rfl, hn, hl, _⟩ := okB_nat hok
      obtain ⟨j, rfl⟩ := Int.eq_ofNat_of_zero_le hi.2.1
      rw [if_pos ⟨rfl, hi⟩]
      exact implRank_in n A c L b j w hL hw hok hi.1 (by omega) hn (Lib.hid hl) hlc hcm
    · rw [if_neg (fun h => hi h.2)]
      refine implRank_out N A c L b i w hL hw hok ?_
      by_cases h : b = 0 ∨ b = 1
      · right; omega
      · exact .inl h

/-- A row's slice has room for its length. -/
theorem own_cap {w : World} {base n c : Nat} {e : TypeId} {A : Option Addr} {xs : List Value} (h : w.ownsRow base e 1 (.slice A n c) n xs) : n ≤ c ∧ c ≤ 9223372036854775807 := by
  obtain ⟨_, h⟩ := h
  rcases h with ⟨h, _⟩ | ⟨g, cap, cur, h, _, _, h1, h2, _⟩
  · injection h with _ h1 h2
    omega
  · injection h with _ _ h3
    unfold maxLen at h2
    omega

end Go.Proofs.YtlbnngolcoefdaaDoor

/- A scene's boxes of four cells. Nothing of the program stands here. -/
namespace Go.Proofs.YtlbnngolcoefdaaDoor
open Go.RowKit

theorem Scene.four {w0 w : World} {its : List Item} (h : Scene w0 w its) (i : Nat) {g : Nat} {t : TypeId} {a b c d : Value} (hi : its[i]? = some (.box g t #[a, b, c, d])) :
    w.cell? ⟨g, 0, none⟩ = some a ∧ w.cell? ⟨g, 1, none⟩ = some b ∧ w.cell? ⟨g, 2, none⟩ = some c ∧ w.cell? ⟨g, 3, none⟩ = some d ∧ g < w.heap.size := by
  have hx := h.getBox i hi
  exact ⟨hx.cell 0, hx.cell 1, hx.cell 2, hx.cell 3, hx.lt⟩

end Go.Proofs.YtlbnngolcoefdaaDoor

/- The program's SparseOk. -/
namespace Go.Proofs.YtlbnngolcoefdaaDoor
open Go.RowKit
set_option maxRecDepth 100000

/-- The numbers of a sparse list. -/
def splV (P M K : Int) (Ws : List Nat) (H : Int) (Vs : List Nat) : List Int := spl P.toNat (plV P M K Ws) Vs H.toNat
/-- Which values are sparse lists. -/
def okS (V N P M K : Int) (Ws : List Nat) (H : Int) (Vs : List Nat) : Bool :=
  (decide (0 ≤ N) && spFits N.toNat V) && (okP P M K Ws && (okB H Vs && ((decide (M = N) && decide (P = (lowV N.toNat V.toNat : Int))) && ((decide (H = (hiV N.toNat V.toNat : Int)) && decide ((cnt Vs 1 H.toNat : Int) = N)) && srt V 0 (splV P M K Ws H Vs)))))

set_option maxHeartbeats 800000 in
theorem sparseFits_int (n u : Int) (w : World) (hn : n ≤ 9223372036854775807) :
    Calls Tryd.prog 54 #[.int .i64 n, .int .i64 u] w fun e w' => e = .returned (.bool (decide (0 ≤ n) && spFits n.toNat u)) ∧ w = w' := by
  by_cases h0 : n < 0
  · rw [decide_eq_false (by omega), Bool.false_and]
    have d0 : decide (n < 0) = true := by simpa using h0
    go_enter Tryd.func54, Tryd.ntmps54
    go_wp2
    go_ret
    exact ⟨rfl, rfl⟩
  · obtain ⟨m, rfl⟩ := Int.eq_ofNat_of_zero_le (show 0 ≤ n by omega)
    rw [decide_eq_true (by omega), Bool.true_and, Int.toNat_natCast]
    by_cases hb : m ≤ 1000000000000000000
    · exact sparseFits_any m u w hb
    · have hfit : ∀ l : Int, fitsB (m : Int) l = false := fun l => by
        unfold fitsB
        rw [decide_eq_false_iff_not]
        omega
      have hsp : spFits m u = false := by
        unfold spFits
        rw [hfit]
        simp
      rw [hsp]
      by_cases h : 0 ≤ u ∧ u ≤ 1000000
      · obtain ⟨v, rfl⟩ := Int.eq_ofNat_of_zero_le h.1
        have C1 := Lib.hid fun W : World => implLow_any m v W (by omega) (by omega)
        have C3 := Lib.hid fun W : World => packFits_any m (lowV m v) W
        rw [hfit] at C3
        have hl := lowV_le m v (by omega)
        generalize lowV m v = l at *
        clear hfit hsp
        go_enter Tryd.func54, Tryd.ntmps54
        go_wp2_with (first | (go_at_call 57; refine (C1.out _).mono ?_; rintro e w' ⟨rfl, rfl⟩) | (go_at_call 91; refine (C3.out _).mono ?_; rintro e w' ⟨rfl, rfl⟩))
        go_ret
        exact ⟨rfl, rfl⟩
      · by_cases h1 : u < 0
        all_goals (
          have hx : ¬ u < 0 → 1000000 < u := by omega
          clear hfit hsp
          go_enter Tryd.func54, Tryd.ntmps54
          go_wp2
          go_ret
          exact ⟨rfl, rfl⟩)

/-- The box of a sparse list. -/
abbrev SPC (V N P M K : Int) (a : Value) (H : Int) (b : Value) : Array Value := #[.int .i64 V, .int .i64 N, .int .i64 P, .int .i64 M, .int .i64 K, a, .int .i64 H, b]

set_option maxHeartbeats 1600000 in
theorem implSparseOk_bad (V N P M K H : Int) (A A' : Option Addr) (c c' : Nat) (Ws Vs : List Nat) (w : World) (hL : Lies w U A Ws) (hL' : Lies w U A' Vs) (hw : ∀ x ∈ Ws, x < 2 ^ 64) (hw' : ∀ x ∈ Vs, x < 2 ^ 64) (hN : N ≤ 9223372036854775807)
    (hbad : (decide (0 ≤ N) && spFits N.toNat V) = false ∨ okP P M K Ws = false ∨ okB H Vs = false) :
    Calls Tryd.prog 16 #[SP V N P M K (.slice A Ws.length c) H (.slice A' Vs.length c')] w fun e w' => e = .returned (.bool (okS V N P M K Ws H Vs)) ∧ Below w.heap.size w w' := by
  have hno : okS V N P M K Ws H Vs = false := by
    unfold okS
    rcases hbad with h | h | h
    · rw [h, Bool.false_and]
    · rw [h, Bool.false_and, Bool.and_false]
    · rw [h, Bool.false_and, Bool.and_false, Bool.and_false]
  rw [hno]
  have CF := Lib.hid fun W : World => sparseFits_int N V W hN
  have HL := Lib.hid hL
  have HL' := Lib.hid hL'
  have HW := Lib.hid hw
  have HW' := Lib.hid hw'
  clear hL hL' hw hw' hno
  go_enter Tryd.func16, Tryd.ntmps16
  go_wp2_with fail
  have sc := (Scene.start w).box 33 (SPC V N P M K (.slice A Ws.length c) H (.slice A' Vs.length c'))
  generalize w.alloc (Obj.cells (SPC V N P M K (.slice A Ws.length c) H (.slice A' Vs.length c')) 33) = w1 at *
  refine (CF.out _).mono ?_
  rintro e w2 ⟨rfl, rfl⟩
  obtain ⟨⟨p0, p1, p2, p3, p4, p5, p6, p7⟩, _, hbl⟩ := box_eight (sc.getBox 0 rfl)
  cases hf : (decide (0 ≤ N) && spFits N.toNat V)
  · have HB := Lib.hid sc.below
    clear sc hbad
    go_wp2
    go_ret
    exact ⟨rfl, HB.out⟩
  · rw [hf] at hbad
    go_wp2_with fail
    clear p0 p1 p2 p3 p4 p5 p6 p7 hbl
    refine (implPackOk_any P M K A c Ws _ (sc.liesOld HL.out) HW.out).mono ?_
    rintro e w2 ⟨rfl, hb⟩
    replace sc := sc.step hb
    clear hb
    obtain ⟨⟨p0, p1, p2, p3, p4, p5, p6, p7⟩, _, hbl⟩ := box_eight (sc.getBox 0 rfl)
    cases hp : okP P M K Ws
    · have HB := Lib.hid sc.below
      clear sc hbad
      go_wp2
      go_ret
      exact ⟨rfl, HB.out⟩
    · rw [hp] at hbad
      have hb0 : okB H Vs = false := by simpa using hbad
      go_wp2_with fail
      clear p0 p1 p2 p3 p4 p5 p6 p7 hbl
      refine (implOk_any H A' c' Vs _ (sc.liesOld HL'.out) HW'.out).mono ?_
      rintro e w3 ⟨rfl, hb⟩
      rw [hb0]
      replace sc := sc.step hb
      have HB := Lib.hid sc.below
      clear sc hbad hb
      go_wp2
      go_ret
      exact ⟨rfl, HB.out⟩

end Go.Proofs.YtlbnngolcoefdaaDoor
