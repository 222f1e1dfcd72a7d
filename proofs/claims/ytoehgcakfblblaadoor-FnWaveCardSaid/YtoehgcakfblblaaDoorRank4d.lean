/- Rank, both. -/
import Derived.Test.YtoehgcakfblblaaDoorRank2d
import Derived.Test.YtoehgcakfblblaaDoorRank3d
namespace Go.Proofs.YtoehgcakfblblaaDoor
open Go.RowKit
set_option maxRecDepth 100000

set_option maxHeartbeats 400000 in
theorem implRank_in (n : Nat) (A : Option Addr) (c : Nat) (L : List Nat) (b : Int) (i : Nat) (w : World) (hL : Lies w U A L) (hw : ∀ x ∈ L, x < 2 ^ 64) (hok : okB n L = true) (hb01 : b = 0 ∨ b = 1) (hi : i ≤ n) (hn : n ≤ 5000) (Hl : Hid (L.length = (n + 63) / 64)) (hlc : L.length ≤ c) (hcm : c ≤ 9223372036854775807) :
    Calls Tryd.prog 26 #[.agg #[.int .i64 n, .slice A L.length c], .int .i64 b, .int .i64 i] w fun e w' => e = .returned (.int .i64 (cnt L b i)) ∧ Below w.heap.size w w' := by
  have HW := Lib.hid hw
  have HL := Lib.hid hL
  have Hb := Lib.hid hb01
  clear hw hL hb01
  have hcs := cnt_sum L i
  have hcl := cnt_le L 1 i
  go_enter Tryd.func26, Tryd.ntmps26
  have sc : Scene w w [] := Scene.start w
  go_wp2_with fail
  replace sc := sc.box 46 #[.int .i64 n, .slice A L.length c]
  generalize w.alloc (Obj.cells #[.int .i64 n, .slice A L.length c] 46) = W0 at *
  refine (implOk_any n A c L _ (sc.liesOld HL.out) HW.out).mono ?_
  rintro e w1 ⟨rfl, hb⟩
  replace sc := sc.step hb
  rw [hok]
  clear hb hok
  go_wp2_with fail
  refine (isBit_sel b _).mono ?_
  rintro e w2 ⟨rfl, rfl⟩
  rw [decide_eq_true Hb.out]
  obtain ⟨fa0, fa1, fal⟩ := sc.two 0 rfl
  go_wp2_with fail
  refine (onesBefore_any A c L i _ (sc.liesOld HL.out) HW.out (by omega) (by have := Hl.out; omega) (by have := Hl.out; omega) hlc hcm).mono ?_
  rintro e w3 ⟨rfl, hb⟩
  replace sc := sc.step hb
  have HB := Lib.hid sc.below
  clear hb sc fa0 fa1 fal
  rcases Hb.out with rfl | rfl
  · have HE : Hid ((i : Int) - (cnt L 1 i : Int) = (cnt L 0 i : Int)) := Lib.hid (by omega)
    clear hcs
    generalize cnt L 1 i = p at *
    go_wp2
    go_ret
    exact ⟨ret_int HE.out, HB.out⟩
  · clear hcs
    obtain ⟨p, hp⟩ : ∃ p, cnt L 1 i = p := ⟨_, rfl⟩
    rw [hp] at hcl ⊢
    have HP := Lib.hid hp
    clear hp
    go_wp2
    go_ret
    exact ⟨ret_int (by rw [HP.out]), HB.out⟩

theorem implRank_any (N : Int) (A : Option Addr) (c : Nat) (L : List Nat) (b i : Int) (w : World) (hL : Lies w U A L) (hw : ∀ x ∈ L, x < 2 ^ 64) (hlc : L.length ≤ c) (hcm : c ≤ 9223372036854775807) :
    Calls Tryd.prog 26 #[.agg #[.int .i64 N, .slice A L.length c], .int .i64 b, .int .i64 i] w fun e w' => e = .returned (.int .i64 (rankV N L b i)) ∧ Below w.heap.size w w' := by
  unfold rankV
  cases hok : okB N L
  · rw [if_neg (fun h => by cases h.1)]
    exact implRank_bad N A c L b i w hL hw hok
  · by_cases hi : (b = 0 ∨ b = 1) ∧ 0 ≤ i ∧ i ≤ N
    · obtain ⟨n, rfl, hn, hl, _⟩ := okB_nat hok
      obtain ⟨j, rfl⟩ := Int.eq_ofNat_of_zero_le hi.2.1
      rw [if_pos ⟨rfl, hi⟩]
      exact implRank_in n A c L b j w hL hw hok hi.1 (by omega) hn (Lib.hid hl) hlc hcm
    · rw [if_neg (fun h => hi h.2)]
      refine implRank_out N A c L b i w hL hw hok ?_
      by_cases h : b = 0 ∨ b = 1
      · right; omega
      · exact .inl h

/-- A row's slice has room for its length. -/
theorem own_cap {w : World} {base n c : Nat} {e : TypeId} {A : Option Addr} {xs : List Value} (h : w.ownsRow base e 1 (.slice A n c) n xs) : n ≤ c ∧ c ≤ 9223372036854775807 := by
  obtain ⟨_, h⟩ := h
  rcases h with ⟨h, _⟩ | ⟨g, cap, cur, h, _, _, h1, h2, _⟩
  · injection h with _ h1 h2
    omega
  · injection h with _ _ h3
    unfold maxLen at h2
    omega

end Go.Proofs.YtoehgcakfblblaaDoor
