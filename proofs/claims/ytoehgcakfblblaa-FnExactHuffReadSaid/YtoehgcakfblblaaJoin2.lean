/- The specification's BitsJoin, of two valid bit vectors. -/
import Derived.Test.YtoehgcakfblblaaJoin1
import Derived.Test.YtoehgcakfblblaaScene2
namespace Go.Proofs.Ytoehgcakfblblaa
open Go.RowKit
set_option maxRecDepth 100000

theorem list_new (n : Nat) (A : Option Addr) (c : Nat) (L : List Nat) (w : World) (hL : Lies w U A L) (hl : L.length = (n + 63) / 64) (hn : n ≤ 5000) (hw : ∀ x ∈ L, x < 2 ^ 64) :
    Calls Try.prog 96 #[.agg #[.int .i64 n, .slice A L.length c]] w fun e w' => ∃ A' c', e = .returned (.slice A' n c') ∧ w'.ownsRow w.heap.size 3 1 (.slice A' n c') n ((bitsOf n L).map I) ∧ Below w.heap.size w w' :=
  (list_any n A c L w hL (by omega) hn (by omega) hw).mono fun e w' h => by
    obtain ⟨v, he, ho, hb⟩ := h
    obtain ⟨A', c', rfl⟩ := own_slice ho
    exact ⟨A', c', he, ho, hb⟩

theorem specOf_n (A : Option Addr) (n c : Nat) (B : List Int) (w : World) (hB : Lies w I A B) (hl : B.length = n) (hn : n ≤ 17592186044416) :
    Calls Try.prog 65 #[.slice A n c] w (NewBits w (resN B) (resW B) (okBits B)) := by
  subst hl
  exact (specOf_any A c B w hB hn).mono fun e w' h => newBits_of h

theorem keep2 {w : World} {P o Q r : Nat} {a b : Value} {B O : Nat} {d : Value} (h : w.cell? ⟨B, O, none⟩ = some d) (h1 : B < P) (h2 : B < Q) : ((w.setCell ⟨P, o, none⟩ a).setCell ⟨Q, r, none⟩ b).cell? ⟨B, O, none⟩ = some d := by
  rw [World.cell?_setCell_other, World.cell?_setCell_other, h]
  · intro e
    injection e
    omega
  · intro e
    injection e
    omega

end Go.Proofs.Ytoehgcakfblblaa
