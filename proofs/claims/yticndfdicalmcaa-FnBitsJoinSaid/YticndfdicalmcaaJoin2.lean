/- The specification's BitsJoin, of two valid bit vectors. -/
import Derived.Test.YticndfdicalmcaaJoin1
import Derived.Test.YticndfdicalmcaaScene2
namespace Go.Proofs.Yticndfdicalmcaa
open Go.RowKit
set_option maxRecDepth 100000

theorem list_new (n : Nat) (A : Option Addr) (c : Nat) (L : List Nat) (w : World) (hL : Lies w U A L) (hl : L.length = (n + 63) / 64) (hn : n ≤ 5000) (hw : ∀ x ∈ L, x < 2 ^ 64) :
    Calls Try.prog 64 #[.agg #[.int .i64 n, .slice A L.length c]] w fun e w' => ∃ A' c', e = .returned (.slice A' n c') ∧ w'.ownsRow w.heap.size 3 1 (.slice A' n c') n ((bitsOf n L).map I) ∧ Below w.heap.size w w' :=
  (list_any n A c L w hL (by omega) hn (by omega) hw).mono fun e w' h => by
    obtain ⟨v, he, ho, hb⟩ := h
    obtain ⟨A', c', rfl⟩ := own_slice ho
    exact ⟨A', c', he, ho, hb⟩

theorem specOf_n (A : Option Addr) (n c : Nat) (B : List Int) (w : World) (hB : Lies w I A B) (hl : B.length = n) (hn : n ≤ 17592186044416) :
    Calls Try.prog 63 #[.slice A n c] w (NewBits w (resN B) (resW B) (okBits B)) := by
  subst hl
  exact (specOf_any A c B w hB hn).mono fun e w' h => newBits_of h

theorem keep2 {w : World} {P o Q r : Nat} {a b : Value} {B O : Nat} {d : Value} (h : w.cell? ⟨B, O, none⟩ = some d) (h1 : B < P) (h2 : B < Q) : ((w.setCell ⟨P, o, none⟩ a).setCell ⟨Q, r, none⟩ b).cell? ⟨B, O, none⟩ = some d := by
  rw [World.cell?_setCell_other, World.cell?_setCell_other, h]
  · intro e
    injection e
    omega
  · intro e
    injection e
    omega

set_option maxHeartbeats 800000 in
theorem specJoin_ok (n : Nat) (A : Option Addr) (c : Nat) (L : List Nat) (m : Nat) (B : Option Addr) (d : Nat) (K : List Nat) (w : World) (hL : Lies w U A L) (hw : ∀ x ∈ L, x < 2 ^ 64) (hK : Lies w U B K) (hw2 : ∀ x ∈ K, x < 2 ^ 64)
    (hok : okB n L = true) (hok2 : okB m K = true) (hn : n ≤ 5000) (hm : m ≤ 5000) (Hl : Hid (L.length = (n + 63) / 64)) (Hk : Hid (K.length = (m + 63) / 64)) :
    Calls Try.prog 17 #[.agg #[.int .i64 n, .slice A L.length c], .agg #[.int .i64 m, .slice B K.length d]] w (NewBits w (resN (bitsOf n L ++ bitsOf m K)) (resW (bitsOf n L ++ bitsOf m K)) (okBits (bitsOf n L ++ bitsOf m K))) := by
  have HW := Lib.hid hw
  have HL := Lib.hid hL
  have HW2 := Lib.hid hw2
  have HK := Lib.hid hK
  clear hw hL hw2 hK
  obtain ⟨i0, hi, hz0, hz1, hz2⟩ := info_parts Try.infoInt
  have HLen : Hid ((bitsOf n L ++ bitsOf m K).length = n + m) := Lib.hid (by rw [List.length_append, bitsOf_len, bitsOf_len])
  go_enter Try.func17, Try.ntmps17
  have sc : Scene w w [] := Scene.start w
  go_wp2_with fail
  replace sc := sc.box 26 #[.int .i64 n, .slice A L.length c]
  replace sc := sc.box 26 #[.int .i64 m, .slice B K.length d]
  replace sc := sc.box 26 #[.int .i64 0, .slice none 0 0]
  generalize ((w.alloc (Obj.cells #[.int .i64 n, .slice A L.length c] 26)).alloc (Obj.cells #[.int .i64 m, .slice B K.length d] 26)).alloc (Obj.cells #[.int .i64 0, .slice none 0 0] 26) = W0 at *
  simp only [World.size_alloc] at sc
  refine (specOk_any n A c L _ (sc.liesOld HL.out) HW.out).mono ?_
  rintro e w1 ⟨rfl, hb⟩
  replace sc := sc.step hb
  rw [hok]
  clear hb hok
  obtain ⟨p0, p1, _⟩ := sc.two 1 rfl
  go_wp2_with fail
  clear p0 p1
  refine (specOk_any m B d K _ (sc.liesOld HK.out) HW2.out).mono ?_
  rintro e w2 ⟨rfl, hb⟩
  replace sc := sc.step hb
  rw [hok2]
  clear hb hok2
  obtain ⟨fa0, fa1, fal⟩ := sc.two 2 rfl
  obtain ⟨fb0, fb1, fbl⟩ := sc.two 1 rfl
  go_wp2_with fail
  replace sc := sc.drew
  go_region_held3 (fun w' => w'.cell? ⟨w.heap.size, 0, none⟩ = some (.int .i64 n) ∧ w'.cell? ⟨w.heap.size, 1, none⟩ = some (.slice A L.length c) ∧ w'.cell? ⟨w.heap.size + 1, 0, none⟩ = some (.int .i64 m) ∧ w'.cell? ⟨w.heap.size + 1, 1, none⟩ = some (.slice B K.length d)) (first | (go_keep; done) | (refine ⟨?_, ?_, ?_, ?_⟩ <;> assumption) | (refine ⟨?_, ?_, ?_, ?_⟩ <;> (refine keep2 ?_ ?_ ?_; assumption; omega; omega)) | trivial) (first | (go_at_call 64; (with_reducible refine Calls.mono (list_new n A c L _ ?_ Hl.out hn HW.out) ?_); exact sc.liesOld HL.out; rintro e w3 ⟨A3, c3, rfl, ho, hb⟩; replace sc := sc.row hb ho; clear hb ho; obtain ⟨ga0, ga1, gal⟩ := sc.two 3 rfl; obtain ⟨gb0, gb1, gbl⟩ := sc.two 2 rfl) | (go_at_call 64; (with_reducible refine Calls.mono (list_new m B d K _ ?_ Hk.out hm HW2.out) ?_); exact sc.liesOld HK.out; rintro e w4 ⟨A4, c4, rfl, ho, hb⟩; replace sc := sc.row hb ho; clear hb ho; obtain ⟨lo, hlo, hown, hits⟩ := sc.pick 1 rfl; have how2 := sc.getRow 0 rfl; have HBel := Lib.hid sc.below; have HIts := Lib.hid hits; have HOwn := Lib.hid hown; have HOw2 := Lib.hid how2; obtain ⟨ka0, ka1, kal⟩ := sc.two 4 rfl; obtain ⟨kb0, kb1, kbl⟩ := sc.two 3 rfl; clear hits hown how2 sc) | (go_at_call 63; (with_reducible refine Calls.mono (specOf_n A5 (n + m) c5 (bitsOf n L ++ bitsOf m K) _ ?_ HLen.out (by omega)) ?_); exact sc.lies 0 rfl; rintro e w6 ⟨A6, c6, rfl, ho, hb⟩; have HO6 := Lib.hid ho; replace sc := sc.row hb ho; clear hb ho; obtain ⟨na0, na1, nal⟩ := sc.two 4 rfl; obtain ⟨nb0, nb1, nbl⟩ := sc.two 3 rfl; obtain ⟨nc0, nc1, ncl⟩ := sc.two 2 rfl; have ncf0 := (sc.getBox 2 rfl).frozen 0; have ncf1 := (sc.getBox 2 rfl).frozen 1) | (refine step_append_rows _ (by rfl) _ _ _ (by rfl) lo 0 3 i0 (.int .i64 0) 8 Try.underlying35 hi hz0 hz1 hz2 rfl _ n _ (by rfl) HOwn.out _ m _ (by rfl) HOw2.out (ints_oneCell .i64 _) (by unfold maxLen; omega) (by omega) hlo ?_; intro v5 w5 ho5 hg5 _; rw [← List.map_append] at ho5; obtain ⟨A5, c5, rfl⟩ := own_slice ho5; have sc := Scene.grow HBel.out HIts.out hlo HOwn.out hg5 ho5; obtain ⟨ma0, ma1, mal⟩ := sc.two 3 rfl; obtain ⟨mb0, mb1, mbl⟩ := sc.two 2 rfl; obtain ⟨_, _, mcl⟩ := sc.two 1 rfl; have HS5 := Lib.hid sc.below.size; clear ho5 hg5))
  have HB := Lib.hid sc.below
  clear ka0 ka1 kb0 kb1 ga0 ga1 gb0 gb1 fa0 fa1 fb0 fb1 ma0 ma1 mb0 mb1 sc
  go_wp2
  refine bodyPost_ret (v := .tuple #[.agg #[.int .i64 (resN (bitsOf n L ++ bitsOf m K)), .slice A6 (resW (bitsOf n L ++ bitsOf m K)).length c6], .bool (okBits (bitsOf n L ++ bitsOf m K))]) (by simp [results, Try.results17, go_sem, nc0, nc1]) rfl ?_
  refine ⟨A6, c6, rfl, ?_, ?_⟩
  · exact own_mono (ownsRow_setCell_below (ownsRow_setCell_below HO6.out (a := ⟨w.heap.size + 1 + 1, 0, none⟩) mcl _) (a := ⟨w.heap.size + 1 + 1, 1, none⟩) mcl _) HS5.out
  · exact (HB.out.setCell (p := ⟨w.heap.size + 1 + 1, 0, none⟩) (by simp; omega) _).setCell (p := ⟨w.heap.size + 1 + 1, 1, none⟩) (by simp; omega) _

end Go.Proofs.Yticndfdicalmcaa
