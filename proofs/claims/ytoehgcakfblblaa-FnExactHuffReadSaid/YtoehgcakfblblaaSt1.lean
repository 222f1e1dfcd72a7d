/- The library's swapRange and rotate, over rows of small numbers. -/
import Derived.Test.YtoehgcakfblblaaStM
import Derived.Test.YtoehgcakfblblaaNewI
import Derived.Shelf.SlSortCmp.Insertion1
namespace Go.Proofs.Ytoehgcakfblblaa
open Go.RowKit Go.Sort Go.Shelf Go.Lib
set_option maxRecDepth 100000

/-- Numbers below m + 1 as the program has them. -/
def encS (m : Nat) (x : Fin (m + 1)) : Value := .int .i64 (x.val : Int)
theorem encS_cell (m : Nat) : OneCell (encS m) := fun _ => rfl

section
variable {m blk off : Nat} {w0 : World} {d0 : Array (Fin (m + 1))}

set_option maxHeartbeats 1600000 in
theorem swapRange_any (R : Row1 (encS m) w0 blk off d0) (fv : Value) (cap a b n : Nat) (d : Array (Fin (m + 1))) (w : World) (hs : d.size = d0.size) (S : SW (encS m) w0 blk off d w) (hab : a + n ≤ b) (hb : b + n ≤ d.size) (hsz : d.size ≤ 1000) :
    Calls Try.prog 139 #[.slice (some ⟨blk, off, none⟩) d.size cap, .int .i64 a, .int .i64 b, .int .i64 n, fv] w fun e w' => e = .returned (.tuple #[]) ∧ ∃ d', SW (encS m) w0 blk off d' w' ∧ Moved (swS a b n) d d' ∧ PermIn a (b + n) d d' := by
  have mixed : Try.prog.follows .mixedOrders = true := by kernel_rfl
  have S0 : Hid (SW (encS m) w0 blk off d w) := S
  clear S
  obtain ⟨N, hN⟩ : ∃ N, d.size = N := ⟨_, rfl⟩
  have HN := Lib.hid hN
  rw [hN] at hb hsz hs
  rw [hN]
  clear hN
  go_enter Try.func139, Try.ntmps139
  go_wp2
  go_loopw [10] (fun vi wr => ∃ (i : Nat) (dk : Array (Fin (m + 1))), vi = .int .i64 i ∧ i ≤ n ∧ Hid (SW (encS m) w0 blk off dk wr) ∧ Hid (Moved (swS a b i) d dk) ∧ Hid (PermIn a (b + n) d dk)) (fun vi _ => n - (intOf vi).toNat)
  case atStart => exact ⟨0, d, rfl, Nat.zero_le _, S0, Lib.hid (Moved.refl _ (swS_zero a b) d), Lib.hid (permIn_refl d _ _)⟩
  case round =>
    clear S0
    obtain ⟨i, dk, rfl, hi, S1, HM, HP⟩ := hrel
    by_cases hlt : i < n
    · have hltz : (i : Int) < (n : Int) := by omega
      have hsk : dk.size = N := by rw [HM.out.1, HN.out]
      obtain ⟨p, hp⟩ : ∃ p, a + i = p := ⟨_, rfl⟩
      obtain ⟨q, hq⟩ : ∃ q, b + i = q := ⟨_, rfl⟩
      have ra : IntKind.i64.wrap ((a : Int) + (i : Int)) = (a : Int) + (i : Int) := by rw [IntKind.wrap_i64]; omega
      have rb : IntKind.i64.wrap ((b : Int) + (i : Int)) = (b : Int) + (i : Int) := by rw [IntKind.wrap_i64]; omega
      have ea : ((a : Int) + (i : Int)).toNat = p := by omega
      have eb : ((b : Int) + (i : Int)).toNat = q := by omega
      have pa : (0 : Int) ≤ (a : Int) + (i : Int) := by omega
      have pb : (0 : Int) ≤ (b : Int) + (i : Int) := by omega
      have ba : (a : Int) + (i : Int) < (N : Int) := by omega
      have bb : (b : Int) + (i : Int) < (N : Int) := by omega
      have hss : dk.size = d0.size := by omega
      have c1 := S1.out.c1 R hss p (by omega)
      have c2 := S1.out.c1 R hss q (by omega)
      have f1 := S1.out.f1 R hss p (by omega)
      have f2 := S1.out.f1 R hss q (by omega)
      obtain ⟨u, c3⟩ := S1.out.c2 R hss p q (by omega) (by omega) (encS m dk[q]!)
      have HM2 : Hid (Moved (swS a b (i + 1)) d (swp dk p q)) := Lib.hid (HM.out.swp (by rw [HN.out]; omega) (by rw [HN.out]; omega) fun k => by rw [← hp, ← hq]; exact swS_step a b i k (by omega))
      have HP2 : Hid (PermIn a (b + n) d (swp dk p q)) := Lib.hid (permIn_trans _ _ _ _ _ HP.out (swp_permIn dk a (b + n) p q (by omega) (by omega) (by omega) (by omega) (by omega)))
      unfold encS at c1 c2 c3
      obtain ⟨x, hx⟩ : ∃ x : Int, ((dk[p]!).val : Int) = x := ⟨_, rfl⟩
      obtain ⟨y, hy⟩ : ∃ y : Int, ((dk[q]!).val : Int) = y := ⟨_, rfl⟩
      have S2 : Hid (SW (encS m) w0 blk off (swp dk p q) ((wr.setCell ⟨blk, off + p, none⟩ (.int .i64 y)).setCell ⟨blk, off + q, none⟩ (.int .i64 x)).drew) := Lib.hid (by rw [← hx, ← hy]; exact S1.out.swapped R p q (by omega) (by omega))
      rw [hx] at c1
      rw [hy] at c2 c3
      clear hx hy S1 hss hp hq
      go_wp2_with fail
      go_big_region_o
      clear c1 c2 c3 f1 f2
      generalize ((wr.setCell ⟨blk, off + p, none⟩ (.int .i64 y)).setCell ⟨blk, off + q, none⟩ (.int .i64 x)).drew = w3 at S2 ⊢
      clear ea eb
      go_wp2
      go_roundw
      case rel => exact ⟨i + 1, swp dk p q, by go_num, by omega, S2, HM2, HP2⟩
      case measure => simp [intOf]; omega
    · have hltz : ¬ (i : Int) < (n : Int) := by omega
      obtain rfl : i = n := by omega
      go_wp2
      go_end0
      exact ⟨rfl, dk, S1.out, HM.out, HP.out⟩

set_option maxHeartbeats 1600000 in
theorem rotate_any (R : Row1 (encS m) w0 blk off d0) (fv : Value) (cap a c b : Nat) (d : Array (Fin (m + 1))) (w : World) (hs : d.size = d0.size) (S : SW (encS m) w0 blk off d w) (hac : a < c) (hcb : c < b) (hb : b ≤ d.size) (hsz : d.size ≤ 1000) :
    Calls Try.prog 138 #[.slice (some ⟨blk, off, none⟩) d.size cap, .int .i64 a, .int .i64 c, .int .i64 b, fv] w fun e w' => e = .returned (.tuple #[]) ∧ ∃ d', SW (encS m) w0 blk off d' w' ∧ Moved (rotS a c b) d d' ∧ PermIn a b d d' := by
  have S0 : Hid (SW (encS m) w0 blk off d w) := S
  clear S
  obtain ⟨N, hN⟩ : ∃ N, d.size = N := ⟨_, rfl⟩
  have HN := Lib.hid hN
  rw [hN] at hb hsz hs
  have CS := Lib.hid fun (x y n : Nat) (dk : Array (Fin (m + 1))) (W : World) (hk : dk.size = N) (h : SW (encS m) w0 blk off dk W) (h1 : x + n ≤ y) (h2 : y + n ≤ N) => swapRange_any R fv cap x y n dk W (by omega) h h1 (by omega) (by omega)
  rw [hN]
  clear hN hs
  obtain ⟨ia, hia⟩ : ∃ ia, c - a = ia := ⟨_, rfl⟩
  have eia : (c : Int) - (a : Int) = (ia : Int) := by omega
  have wia : IntKind.i64.wrap ((c : Int) - (a : Int)) = (ia : Int) := by rw [IntKind.wrap_i64]; omega
  have xia : IntKind.i64.wrap (ia : Int) = (ia : Int) := by rw [IntKind.wrap_i64]; omega
  obtain ⟨jb, hjb⟩ : ∃ jb, b - c = jb := ⟨_, rfl⟩
  have ejb : (b : Int) - (c : Int) = (jb : Int) := by omega
  have wjb : IntKind.i64.wrap ((b : Int) - (c : Int)) = (jb : Int) := by rw [IntKind.wrap_i64]; omega
  have xjb : IntKind.i64.wrap (jb : Int) = (jb : Int) := by rw [IntKind.wrap_i64]; omega
  go_enter Try.func138, Try.ntmps138
  go_wp2
  go_loopw [10, 11] (fun vi vj wr => ∃ (i j : Nat) (dk : Array (Fin (m + 1))), vi = .int .i64 i ∧ vj = .int .i64 j ∧ 0 < i ∧ 0 < j ∧ a + i ≤ c ∧ c + j ≤ b ∧ Hid (SW (encS m) w0 blk off dk wr) ∧ dk.size = N ∧ Hid (∀ k, ∃ q, rotS a c b k = q ∧ dk[rotS (c - i) c (c + j) k]! = d[q]!) ∧ Hid (PermIn a b d dk)) (fun vi vj _ => (intOf vi).toNat + (intOf vj).toNat)
  case atStart => exact ⟨ia, jb, d, by first | rfl | go_num, by first | rfl | go_num, by omega, by omega, by omega, by omega, S0, HN.out, Lib.hid fun k => ⟨_, rfl, by rw [show c - ia = a by omega, show c + jb = b by omega]⟩, Lib.hid (permIn_refl d _ _)⟩
  case round =>
    clear S0
    obtain ⟨i, j, dk, rfl, rfl, hi0, hj0, hi, hj, S1, hsk, HM, HP⟩ := hrel
    obtain ⟨u, hu⟩ : ∃ u, c - i = u := ⟨_, rfl⟩
    have eu : (c : Int) - (i : Int) = (u : Int) := by omega
    have wu : IntKind.i64.wrap ((c : Int) - (i : Int)) = (u : Int) := by rw [IntKind.wrap_i64]; omega
    have xu : IntKind.i64.wrap (u : Int) = (u : Int) := by rw [IntKind.wrap_i64]; omega
    by_cases hij : i = j
    · subst hij
      have t0 : ((i : Int) != (i : Int)) = false := by simp
      have C1 := Lib.hid (CS.out u c i dk wr hsk S1.out (by omega) (by omega))
      rw [hsk] at C1
      clear S1 CS
      go_wp2_with fail
      refine C1.out.mono ?_
      rintro e w2 ⟨rfl, d', h1, h2, h3⟩
      have H1 := Lib.hid h1
      have HM' : Hid (Moved (rotS a c b) d d') := Lib.hid ⟨by rw [h2.1, hsk, HN.out], fun k => by
        obtain ⟨q, hq, hk⟩ := HM.out k
        rw [h2.2 k, ← hu, rotS_eq c i k (by omega), hk, hq]⟩
      have HP' : Hid (PermIn a b d d') := Lib.hid (permIn_trans _ _ _ _ _ HP.out (permIn_mono _ _ _ _ _ _ (by omega) (by omega) (by omega) h3))
      clear h1 h2 h3 C1 HM HP
      go_wp2
      go_end0
      exact ⟨rfl, d', H1.out, HM'.out, HP'.out⟩
    · have t0 : ((i : Int) != (j : Int)) = true := by simp; omega
      by_cases hgt : j < i
      · have t1 : decide ((j : Int) < (i : Int)) = true := by simp; omega
        obtain ⟨v, hv⟩ : ∃ v, i - j = v := ⟨_, rfl⟩
        have ev : (i : Int) - (j : Int) = (v : Int) := by omega
        have wv : IntKind.i64.wrap ((i : Int) - (j : Int)) = (v : Int) := by rw [IntKind.wrap_i64]; omega
        have xv : IntKind.i64.wrap (v : Int) = (v : Int) := by rw [IntKind.wrap_i64]; omega
        have C1 := Lib.hid (CS.out u c j dk wr hsk S1.out (by omega) (by omega))
        rw [hsk] at C1
        clear S1
        go_wp2_with fail
        refine C1.out.mono ?_
        rintro e w2 ⟨rfl, d', h1, h2, h3⟩
        have H1 := Lib.hid h1
        have hsd : d'.size = N := by rw [h2.1, hsk]
        have HM' : Hid (∀ k, ∃ q, rotS a c b k = q ∧ d'[rotS (c - (i - j)) c (c + j) k]! = d[q]!) := Lib.hid fun k => by
          obtain ⟨q, hq, hk⟩ := HM.out k
          refine ⟨q, hq, ?_⟩
          rw [h2.2, ← hu, show c - (i - j) = c - i + j by omega, rotS_gt c i j k (by omega) hj0 hgt, hk]
        have HP' : Hid (PermIn a b d d') := Lib.hid (permIn_trans _ _ _ _ _ HP.out (permIn_mono _ _ _ _ _ _ (by omega) (by omega) (by omega) h3))
        clear h1 h2 h3 C1 HM HP
        go_wp2
        go_roundw
        case rel => exact ⟨v, j, d', by first | rfl | go_num, rfl, by omega, hj0, by omega, hj, H1, hsd, by rw [hv] at HM'; exact HM', HP'⟩
        case measure => simp [intOf]; omega
      · have t1 : decide ((j : Int) < (i : Int)) = false := by simp; omega
        obtain ⟨x, hx⟩ : ∃ x, j - i = x := ⟨_, rfl⟩
        have ex : (j : Int) - (i : Int) = (x : Int) := by omega
        have wx : IntKind.i64.wrap ((j : Int) - (i : Int)) = (x : Int) := by rw [IntKind.wrap_i64]; omega
        have xx : IntKind.i64.wrap (x : Int) = (x : Int) := by rw [IntKind.wrap_i64]; omega
        obtain ⟨y, hy⟩ : ∃ y, c + j = y := ⟨_, rfl⟩
        have ey : (c : Int) + (j : Int) = (y : Int) := by omega
        have wy : IntKind.i64.wrap ((c : Int) + (j : Int)) = (y : Int) := by rw [IntKind.wrap_i64]; omega
        have xy : IntKind.i64.wrap (y : Int) = (y : Int) := by rw [IntKind.wrap_i64]; omega
        obtain ⟨v, hv⟩ : ∃ v, c + j - i = v := ⟨_, rfl⟩
        have ev : (y : Int) - (i : Int) = (v : Int) := by omega
        have wv : IntKind.i64.wrap ((y : Int) - (i : Int)) = (v : Int) := by rw [IntKind.wrap_i64]; omega
        have xv : IntKind.i64.wrap (v : Int) = (v : Int) := by rw [IntKind.wrap_i64]; omega
        have C1 := Lib.hid (CS.out u v i dk wr hsk S1.out (by omega) (by omega))
        rw [hsk] at C1
        clear S1
        go_wp2_with fail
        refine C1.out.mono ?_
        rintro e w2 ⟨rfl, d', h1, h2, h3⟩
        have H1 := Lib.hid h1
        have hsd : d'.size = N := by rw [h2.1, hsk]
        have HM' : Hid (∀ k, ∃ q, rotS a c b k = q ∧ d'[rotS (c - i) c (c + (j - i)) k]! = d[q]!) := Lib.hid fun k => by
          obtain ⟨q, hq, hk⟩ := HM.out k
          refine ⟨q, hq, ?_⟩
          rw [h2.2, ← hu, ← hv, show c + (j - i) = c + j - i by omega, rotS_lt c i j k (by omega) hi0 (by omega), hk]
        have HP' : Hid (PermIn a b d d') := Lib.hid (permIn_trans _ _ _ _ _ HP.out (permIn_mono _ _ _ _ _ _ (by omega) (by omega) (by omega) h3))
        clear h1 h2 h3 C1 HM HP
        go_wp2
        go_roundw
        case rel => exact ⟨i, x, d', rfl, by first | rfl | go_num, hi0, by omega, hi, by omega, H1, hsd, by rw [hx] at HM'; exact HM', HP'⟩
        case measure => simp [intOf]; omega

end

end Go.Proofs.Ytoehgcakfblblaa
