/- The cursor by which the specification draws its inputs, and its pick. -/
import Derived.Test.YtkjelakdejbolaaProg
import Derived.Test.YtkjelakdejbolaaMem2
namespace Go.Proofs.Ytkjelakdejbolaa
open Go.RowKit
set_option maxRecDepth 100000

/-- The cursor lies in block g: a code, how many numbers were drawn (at most K), a seed. -/
structure Cur (w : World) (g : Nat) (A : Option Addr) (c : Nat) (D : List Nat) (K : Nat) : Prop where
  lies : Lies w B8 A D
  apart : ∀ b o, 0 < D.length → A = some ⟨b, o, none⟩ → b ≠ g
  bytes : ∀ x ∈ D, x < 2 ^ 8
  len : D.length ≤ 1048576
  box : ∃ a s : Nat, a ≤ K ∧ s < 65521 ∧ Box w g 48 #[.slice A D.length c, .int .i64 a, .int .i64 s]

theorem Lies.turn {α : Type} {f : α → Value} {w w' : World} {A : Option Addr} {L : List α} (h : Lies w f A L) (hs : w.heap.size ≤ w'.heap.size) (hk : ∀ b o, 0 < L.length → A = some ⟨b, o, none⟩ → b < w.heap.size → w'.heap[b]? = w.heap[b]?) : Lies w' f A L := fun i x hx => by
  obtain ⟨b, o, h1, h2, h3⟩ := h i x hx
  have hl : 0 < L.length := Nat.lt_of_le_of_lt (Nat.zero_le _) (List.getElem?_eq_some_iff.1 hx).1
  exact ⟨b, o, h1, Nat.lt_of_lt_of_le h2 hs, (World.cell?_of_block (a := ⟨b, o + i, none⟩) (hk b o hl h1 h2)).trans h3⟩
theorem Lies.grown {α : Type} {f : α → Value} {w w' : World} {A : Option Addr} {L : List α} {g : Nat} (h : Lies w f A L) (hg : w.grownBy w' (some g)) (ha : ∀ b o, 0 < L.length → A = some ⟨b, o, none⟩ → b ≠ g) : Lies w' f A L :=
  h.turn hg.size fun b o hl hA hb => hg.block b hb fun e => ha b o hl hA (Option.some.inj e)

section
variable {w w' : World} {g : Nat} {A : Option Addr} {c : Nat} {D : List Nat} {K : Nat}
theorem Cur.lt (h : Cur w g A c D K) : g < w.heap.size := by
  obtain ⟨a, s, _, _, hb⟩ := h.box
  exact hb.lt
theorem Cur.more (h : Cur w g A c D K) {K' : Nat} (hK : K ≤ K') : Cur w g A c D K' := by
  obtain ⟨a, s, h1, h2, hb⟩ := h.box
  exact ⟨h.lies, h.apart, h.bytes, h.len, a, s, Nat.le_trans h1 hK, h2, hb⟩
/-- Nothing of the cursor's is touched. -/
theorem Cur.turn (h : Cur w g A c D K) (hs : w.heap.size ≤ w'.heap.size) (hk : ∀ k, k < w.heap.size → (k = g ∨ ∃ o, 0 < D.length ∧ A = some ⟨k, o, none⟩) → w'.heap[k]? = w.heap[k]?) : Cur w' g A c D K := by
  have hlt := h.lt
  obtain ⟨a, s, h1, h2, hb⟩ := h.box
  exact ⟨h.lies.turn hs fun b o hl hA hb => hk b hb (.inr ⟨o, hl, hA⟩), h.apart, h.bytes, h.len, a, s, h1, h2, (hk g hlt (.inl rfl)).trans hb⟩
theorem Cur.below (h : Cur w g A c D K) (hb : Below w.heap.size w w') : Cur w' g A c D K := h.turn hb.size fun k hk _ => hb.block k hk
theorem Cur.drew (h : Cur w g A c D K) (n : Nat) : Cur (w.drewN n) g A c D K := h.turn (Nat.le_refl _) fun _ _ _ => rfl
/-- The cursor's own numbers are set anew. -/
theorem Cur.set (h : Cur w g A c D K) {K' : Nat} (a s : Nat) (ha : a ≤ K') (hs : s < 65521) (hb : Box w' g 48 #[.slice A D.length c, .int .i64 a, .int .i64 s]) (hg : w.grownBy w' (some g)) : Cur w' g A c D K' :=
  ⟨h.lies.grown hg h.apart, h.apart, h.bytes, h.len, a, s, ha, hs, hb⟩
end
theorem grownBy_setCell (w : World) (g i : Nat) (v : Value) : w.grownBy (w.setCell ⟨g, i, none⟩ v) (some g) := by
  have h := (Below.refl 0 w).setCell (p := ⟨g, i, none⟩) (Nat.zero_le _) v
  exact ⟨h.os, h.tape, h.output, h.size, fun k _ hk => Below.heap_setCell w ⟨g, i, none⟩ v k (fun e => hk (congrArg some e))⟩
theorem grownBy_drew (w : World) (n : Nat) (row : Option Nat) : w.grownBy (w.drewN n) row := ⟨rfl, rfl, rfl, Nat.le_refl _, fun _ _ _ => rfl⟩

/-- A number was drawn: what holds then. -/
def Drew (w : World) (g : Nat) (A : Option Addr) (c : Nat) (D : List Nat) (K : Nat) (n : Int) (e : Ending) (w' : World) : Prop :=
  ∃ r : Nat, e = .returned (.int .i64 r) ∧ (2 ≤ n → (r : Int) < n) ∧ (n < 2 → r = 0) ∧ Cur w' g A c D (K + 1) ∧ w.grownBy w' (some g)

set_option maxHeartbeats 400000 in
theorem pick_small (g : Nat) (A : Option Addr) (c : Nat) (D : List Nat) (K : Nat) (n : Int) (w : World) (h : Cur w g A c D K) (hn : n < 2) :
    Calls Try.prog 53 #[.pointer (some ⟨g, 0, none⟩), .int .i64 n] w (Drew w g A c D K n) := by
  have H := Lib.hid h
  clear h
  go_enter Try.func53, Try.ntmps53
  go_wp2
  go_ret
  exact ⟨0, rfl, fun h => by omega, fun _ => rfl, H.out.more (Nat.le_succ _), World.grownBy.refl _ _⟩

theorem rem_form (x : Nat) (n : Nat) (hn : 2 ≤ n) : (x : Int).tmod (n : Int) = ((x % n : Nat) : Int) := by
  rw [Int.tmod_eq_emod_of_nonneg (by omega)]
  simp

set_option maxHeartbeats 800000 in
theorem pick_code (g : Nat) (A : Option Addr) (c : Nat) (D : List Nat) (K : Nat) (n : Nat) (w : World) (h : Cur w g A c D K) (hn : 2 ≤ n) (hn2 : n ≤ 9223372036854775807) (a s : Nat) (haK : a ≤ K) (hs : s < 65521) (hbox : Box w g 48 #[.slice A D.length c, .int .i64 a, .int .i64 s]) (hK : K ≤ 4611686018427387904) (hlt : a < D.length) :
    Calls Try.prog 53 #[.pointer (some ⟨g, 0, none⟩), .int .i64 n] w (Drew w g A c D K n) := by
  have H := Lib.hid h
  obtain ⟨b, o, x, rfl, hbl, hx, hc⟩ := h.lies.at_ hlt
  have hx8 := h.bytes x (List.mem_of_getElem? hx)
  have hbg : b ≠ g := h.apart b o (by omega) rfl
  have f0 := hbox.cell 0
  have f1 := hbox.cell 1
  have f2 := hbox.cell 2
  have z1 := hbox.frozen 1
  have z2 := hbox.frozen 2
  have hgl := hbox.lt
  simp only [List.getElem?_toArray, List.getElem?_cons_zero, List.getElem?_cons_succ] at f0 f1 f2
  have t1 : decide ((a : Int) < (D.length : Int)) = true := by simp; omega
  have t1n : decide (a < D.length) = true := by simp; omega
  have hrem := rem_form x n hn
  have HB := Lib.hid hbox
  have hlen := h.len
  clear h hx hbox
  go_enter Try.func53, Try.ntmps53
  go_wp2
  go_quiet (fail)
  go_wp2
  go_quiet (fail)
  go_wp2
  go_ret
  refine ⟨x % n, ret_int (by simp), fun _ => Int.ofNat_lt.2 (Nat.mod_lt _ (by omega)), fun h => by omega, ?_, (grownBy_drew _ _ _).trans (grownBy_setCell _ _ _ _)⟩
  exact H.out.set (a + 1) s (by omega) hs ((HB.out.draw _).put 1 _) ((grownBy_drew _ _ _).trans (grownBy_setCell _ _ _ _))

set_option maxHeartbeats 800000 in
theorem pick_rest (g : Nat) (A : Option Addr) (c : Nat) (D : List Nat) (K : Nat) (n : Nat) (w : World) (h : Cur w g A c D K) (hn : 2 ≤ n) (hn2 : n ≤ 9223372036854775807) (a s : Nat) (haK : a ≤ K) (hs : s < 65521) (hbox : Box w g 48 #[.slice A D.length c, .int .i64 a, .int .i64 s]) (hK : K ≤ 4611686018427387904) (hge : D.length ≤ a) :
    Calls Try.prog 53 #[.pointer (some ⟨g, 0, none⟩), .int .i64 n] w (Drew w g A c D K n) := by
  have H := Lib.hid h
  have f0 := hbox.cell 0
  have f1 := hbox.cell 1
  have f2 := hbox.cell 2
  have z1 := hbox.frozen 1
  have z2 := hbox.frozen 2
  have hgl := hbox.lt
  simp only [List.getElem?_toArray, List.getElem?_cons_zero, List.getElem?_cons_succ] at f0 f1 f2
  have t1 : decide ((a : Int) < (D.length : Int)) = false := by simp; omega
  have t1n : decide (a < D.length) = false := by simp; omega
  obtain ⟨q, hq⟩ : ∃ q, (s * 1103 + 12345) % 65521 = q := ⟨_, rfl⟩
  have hqi : ((s : Int) * 1103 + 12345) % 65521 = (q : Int) := by omega
  have hqt : ((s : Int) * 1103 + 12345).tmod 65521 = (q : Int) := by rw [IntWalk.rem_in _ _ (by omega)]; omega
  have hq5 : q < 65521 := by omega
  have HB := Lib.hid hbox
  have hlen := h.len
  by_cases h0 : D.length = 0
  · have t2 : decide ((0 : Int) < (D.length : Int)) = false := decide_eq_false (by omega)
    have t2n : decide (0 < D.length) = false := decide_eq_false (by omega)
    clear h hbox hq h0
    go_enter Try.func53, Try.ntmps53
    go_wp2
    go_quiet (fail)
    go_wp2
    go_ret
    have hg := ((grownBy_drew w nq (some g)).trans (grownBy_setCell _ g 2 (Value.int IntKind.i64 (q : Int)))).trans (grownBy_setCell _ g 1 (Value.int IntKind.i64 ((a : Int) + 1)))
    exact ⟨0, rfl, fun _ => by omega, fun h => by omega, H.out.set (a + 1) q (by omega) hq5 (((HB.out.draw _).put 2 _).put 1 _) hg, hg⟩
  · obtain ⟨i, hi⟩ : ∃ i, a % D.length = i := ⟨_, rfl⟩
    have hil : i < D.length := by rw [← hi]; exact Nat.mod_lt _ (by omega)
    have hit : (a : Int).tmod (D.length : Int) = (i : Int) := by
      rw [Int.tmod_eq_emod_of_nonneg (by omega), ← hi]
      simp
    obtain ⟨b, o, x, rfl, hbl, hx, hc⟩ := h.lies.at_ hil
    have hx8 := h.bytes x (List.mem_of_getElem? hx)
    have hbg : b ≠ g := h.apart b o (by omega) rfl
    have t2 : decide ((0 : Int) < (D.length : Int)) = true := by simp; omega
    have t2n : decide (0 < D.length) = true := by simp; omega
    have h0i : ((D.length : Int) == 0) = false := by rw [beq_eq_false_iff_ne]; omega
    obtain ⟨y, hy⟩ : ∃ y, q / 7 + x = y := ⟨_, rfl⟩
    have hyi : (q : Int) / 7 + (x : Int) = (y : Int) := by omega
    have hy1 : IntKind.i64.wrap ((q : Int) / 7) = (q : Int) / 7 := IntWalk.i64_in _ (by omega)
    have hy2 : IntKind.i64.wrap ((q : Int) / 7 + (x : Int)) = (y : Int) := by rw [hyi]; exact IntWalk.i64_in _ (by omega)
    have hrem := rem_form y n hn
    clear h hbox hq hi hx hy
    go_enter Try.func53, Try.ntmps53
    go_wp2
    go_quiet (fail)
    go_wp2
    go_quiet (fail)
    go_wp2
    go_ret
    refine ⟨y % n, ret_int (by simp), fun _ => Int.ofNat_lt.2 (Nat.mod_lt _ (by omega)), fun h => by omega, ?_, ?_⟩
    · refine H.out.set (a + 1) q (by omega) hq5 ((((HB.out.draw _).put 2 _).draw _).put 1 _) ?_
      exact (((grownBy_drew w _ (some g)).trans (grownBy_setCell _ g 2 _)).trans (grownBy_drew _ _ _)).trans (grownBy_setCell _ g 1 _)
    · exact (((grownBy_drew w _ (some g)).trans (grownBy_setCell _ g 2 _)).trans (grownBy_drew _ _ _)).trans (grownBy_setCell _ g 1 _)

theorem pick_any (g : Nat) (A : Option Addr) (c : Nat) (D : List Nat) (K : Nat) (n : Int) (w : World) (h : Cur w g A c D K) (hn2 : n ≤ 9223372036854775807) (hK : K ≤ 4611686018427387904) :
    Calls Try.prog 53 #[.pointer (some ⟨g, 0, none⟩), .int .i64 n] w (Drew w g A c D K n) := by
  by_cases hn : n < 2
  · exact pick_small g A c D K n w h hn
  · obtain ⟨m, rfl⟩ := Int.eq_ofNat_of_zero_le (show 0 ≤ n by omega)
    obtain ⟨a, s, haK, hs, hbox⟩ := h.box
    by_cases hlt : a < D.length
    · exact pick_code g A c D K m w h (by omega) (by omega) a s haK hs hbox hK hlt
    · exact pick_rest g A c D K m w h (by omega) (by omega) a s haK hs hbox hK (by omega)

end Go.Proofs.Ytkjelakdejbolaa
