import Derived.Test.YtoehgcakfblblaaDoorDraw3
import Derived.Test.YtoehgcakfblblaaDoorBytes1
/- The checksum as mathematics: its steps, that they keep to 32 bits, and that one changed byte changes it. -/
namespace Go.Proofs.YtoehgcakfblblaaDoor
open Go.RowKit

def crcStep (x : Nat) : Nat := if x % 2 = 1 then (x / 2) ^^^ 3988292384 else x / 2
def crcN : Nat → Nat → Nat
  | 0, x => x
  | k + 1, x => crcN k (crcStep x)
/-- The value after the bytes of a list. -/
def crcF (s : Nat) : List Nat → Nat
  | [] => s
  | b :: L => crcF (crcN 8 (s ^^^ b)) L
def crcL (L : List Nat) : Nat := crcF 4294967295 L ^^^ 4294967295
/-- What Crc is to return. -/
def crcV (L : List Nat) : Int := if 16000 < L.length then -1 else (crcL L : Int)

theorem crcStep_lt {x : Nat} (h : x < 2 ^ 32) : crcStep x < 2 ^ 32 := by
  unfold crcStep
  split
  · exact Nat.xor_lt_two_pow (by omega) (by decide)
  · omega
theorem crcN_lt : ∀ (k : Nat) {x : Nat}, x < 2 ^ 32 → crcN k x < 2 ^ 32
  | 0, _, h => h
  | k + 1, _, h => crcN_lt k (crcStep_lt h)
theorem crcN_succ : ∀ (k x : Nat), crcN (k + 1) x = crcStep (crcN k x)
  | 0, _ => rfl
  | k + 1, x => by rw [crcN, crcN_succ k]; rfl
theorem xor_byte_lt {s b : Nat} (hs : s < 2 ^ 32) (hb : b < 2 ^ 8) : s ^^^ b < 2 ^ 32 := Nat.xor_lt_two_pow hs (by omega)
theorem crcF_lt : ∀ (L : List Nat) {s : Nat}, s < 2 ^ 32 → (∀ x ∈ L, x < 2 ^ 8) → crcF s L < 2 ^ 32
  | [], _, h, _ => h
  | b :: L, _, h, hL => crcF_lt L (crcN_lt 8 (xor_byte_lt h (hL b (by simp)))) fun x hx => hL x (by simp [hx])
theorem crcL_lt (L : List Nat) (hL : ∀ x ∈ L, x < 2 ^ 8) : crcL L < 2 ^ 32 := Nat.xor_lt_two_pow (crcF_lt L (by decide) hL) (by decide)
theorem crcF_append : ∀ (L K : List Nat) (s : Nat), crcF s (L ++ K) = crcF (crcF s L) K
  | [], _, _ => rfl
  | b :: L, K, s => crcF_append L K _
theorem crcF_snoc (L : List Nat) (x s : Nat) : crcF s (L ++ [x]) = crcN 8 (crcF s L ^^^ x) := by rw [crcF_append]; rfl
theorem crcF_take (L : List Nat) (k x s : Nat) (h : L[k]? = some x) : crcF s (L.take (k + 1)) = crcN 8 (crcF s (L.take k) ^^^ x) := by
  rw [← crcF_snoc]
  congr 1
  obtain ⟨hk, he⟩ := List.getElem?_eq_some_iff.1 h
  rw [List.take_succ_eq_append_getElem hk, he]

theorem xor_right_inj {a b c : Nat} (h : a ^^^ c = b ^^^ c) : a = b := by
  have : (a ^^^ c) ^^^ c = (b ^^^ c) ^^^ c := by rw [h]
  simpa [Nat.xor_assoc] using this
theorem xor_left_inj {a b c : Nat} (h : c ^^^ a = c ^^^ b) : a = b := by
  rw [Nat.xor_comm c a, Nat.xor_comm c b] at h
  exact xor_right_inj h
/-- A step can be undone: its highest bit tells whether a one was shifted out. -/
theorem crcStep_inj {x y : Nat} (hx : x < 2 ^ 32) (hy : y < 2 ^ 32) (h : crcStep x = crcStep y) : x = y := by
  have top : ∀ z : Nat, z < 2 ^ 31 → (z ^^^ 3988292384).testBit 31 = true := fun z hz => by
    rw [Nat.testBit_xor, Nat.testBit_lt_two_pow hz]; rfl
  have low : ∀ z : Nat, z < 2 ^ 31 → z.testBit 31 = false := fun z hz => Nat.testBit_lt_two_pow hz
  unfold crcStep at h
  split at h <;> split at h
  · have := xor_right_inj h; omega
  · have h1 := top (x / 2) (by omega)
    rw [h, low _ (by omega)] at h1
    cases h1
  · have h1 := top (y / 2) (by omega)
    rw [← h, low _ (by omega)] at h1
    cases h1
  · omega
theorem crcN_inj : ∀ (k : Nat) {x y : Nat}, x < 2 ^ 32 → y < 2 ^ 32 → crcN k x = crcN k y → x = y
  | 0, _, _, _, _, h => h
  | k + 1, _, _, hx, hy, h => crcStep_inj hx hy (crcN_inj k (crcStep_lt hx) (crcStep_lt hy) h)
theorem crcF_inj : ∀ (L : List Nat) {s t : Nat}, s < 2 ^ 32 → t < 2 ^ 32 → (∀ x ∈ L, x < 2 ^ 8) → crcF s L = crcF t L → s = t
  | [], _, _, _, _, _, h => h
  | b :: L, s, t, hs, ht, hL, h => by
    have hb := hL b (by simp)
    exact xor_right_inj (crcN_inj 8 (xor_byte_lt hs hb) (xor_byte_lt ht hb) (crcF_inj L (crcN_lt 8 (xor_byte_lt hs hb)) (crcN_lt 8 (xor_byte_lt ht hb)) (fun x hx => hL x (by simp [hx])) h))
/-- One changed byte changes the checksum. -/
theorem crcL_one (P Q : List Nat) (x y : Nat) (hP : ∀ z ∈ P, z < 2 ^ 8) (hQ : ∀ z ∈ Q, z < 2 ^ 8) (hx : x < 2 ^ 8) (hy : y < 2 ^ 8) (h : crcL (P ++ x :: Q) = crcL (P ++ y :: Q)) : x = y := by
  unfold crcL at h
  have h1 := xor_right_inj h
  rw [crcF_append, crcF_append] at h1
  have hs := crcF_lt P (s := 4294967295) (by decide) hP
  have h2 : crcN 8 (crcF 4294967295 P ^^^ x) = crcN 8 (crcF 4294967295 P ^^^ y) := crcF_inj Q (crcN_lt 8 (xor_byte_lt hs hx)) (crcN_lt 8 (xor_byte_lt hs hy)) hQ h1
  exact xor_left_inj (crcN_inj 8 (xor_byte_lt hs hx) (xor_byte_lt hs hy) h2)

theorem i64_xor_nat (a b : Nat) (ha : a < 2 ^ 32) (hb : b < 2 ^ 32) : bits .xor .i64 (a : Int) (b : Int) = ((a ^^^ b : Nat) : Int) := by
  have e1 : (BitVec.ofInt 64 (a : Int)).toNat = a := by rw [BitVec.ofInt_natCast, BitVec.toNat_ofNat]; exact Nat.mod_eq_of_lt (by omega)
  have e2 : (BitVec.ofInt 64 (b : Int)).toNat = b := by rw [BitVec.ofInt_natCast, BitVec.toNat_ofNat]; exact Nat.mod_eq_of_lt (by omega)
  have h := Nat.xor_lt_two_pow ha hb
  show IntKind.i64.wrap ((BitVec.ofInt 64 (a : Int) ^^^ BitVec.ofInt 64 (b : Int)).toNat : Int) = _
  rw [BitVec.toNat_xor, e1, e2]
  exact IntWalk.i64_in _ (by omega)
theorem u32_xor_nat (a b : Nat) (ha : a < 2 ^ 32) (hb : b < 2 ^ 32) : bits .xor .u32 (a : Int) (b : Int) = ((a ^^^ b : Nat) : Int) := by
  have e1 : (BitVec.ofInt 32 (a : Int)).toNat = a := by rw [BitVec.ofInt_natCast, BitVec.toNat_ofNat]; exact Nat.mod_eq_of_lt (by omega)
  have e2 : (BitVec.ofInt 32 (b : Int)).toNat = b := by rw [BitVec.ofInt_natCast, BitVec.toNat_ofNat]; exact Nat.mod_eq_of_lt (by omega)
  have h := Nat.xor_lt_two_pow ha hb
  show IntKind.u32.wrap ((BitVec.ofInt 32 (a : Int) ^^^ BitVec.ofInt 32 (b : Int)).toNat : Int) = _
  rw [BitVec.toNat_xor, e1, e2]
  simp only [IntKind.wrap, IntKind.signed, IntKind.bits]
  simp
  omega

/-- The four bytes of a number. -/
def four (n : Nat) : List Nat := [n % 256, n / 256 % 256, n / 65536 % 256, n / 16777216 % 256]
theorem four_byte (n : Nat) : ∀ x ∈ four n, x < 2 ^ 8 := by
  unfold four
  simp
  omega
theorem four_inj {m n : Nat} (hm : m < 2 ^ 32) (hn : n < 2 ^ 32) (h : four m = four n) : m = n := by
  unfold four at h
  simp at h
  omega

end Go.Proofs.YtoehgcakfblblaaDoor

/- More words of my own: rows that lie apart. Nothing of the program stands here. -/
namespace Go.Proofs.YtoehgcakfblblaaDoor
open Go.RowKit

/-- A row that was there before another one was made lies apart from it. -/
theorem rows_apart {w w' : World} {b b' : Nat} {e e' : TypeId} {s s' n n' : Nat} {v v' : Value} {xs xs' : List Value} (h : w.ownsRow b e s v n xs) (h' : w'.ownsRow b' e' s' v' n' xs') (hb : w.heap.size ≤ b') :
    (v.ownBlock = none ∨ v.ownBlock ≠ v'.ownBlock) ∧ (v'.ownBlock = none ∨ v'.ownBlock ≠ v.ownBlock) := by
  have key : ∀ k, v.ownBlock = some k → v'.ownBlock ≠ some k := fun k hk hk' => by
    have h1 := (h.lt k hk).2
    have h2 := (h'.lt k hk').1
    omega
  constructor
  · cases hv : v.ownBlock with
    | none => exact .inl rfl
    | some k => exact .inr fun e => key k hv e.symm
  · cases hv : v'.ownBlock with
    | none => exact .inl rfl
    | some k => exact .inr fun e => key k e.symm hv

theorem grown_below {w w' : World} {base : Nat} {e : TypeId} {size n : Nat} {v : Value} {xs : List Value} {B : Nat} (h : w.ownsRow base e size v n xs) (hg : w.grownBy w' v.ownBlock) (hB : B ≤ base) (hs : B ≤ w.heap.size) : Below B w w' :=
  (Below.refl B w).grown hg hs fun k hk => Nat.le_trans hB (h.lt k hk).1

theorem box_grown {w w' : World} {base : Nat} {e : TypeId} {size n : Nat} {v : Value} {xs : List Value} {g : Nat} {t : TypeId} {cs : Array Value} (hx : Box w g t cs) (h : w.ownsRow base e size v n xs) (hg : w.grownBy w' v.ownBlock) (hlt : g < base) : Box w' g t cs :=
  hx.grown hg (own_apart h hlt)

/-- A block that was made later than a row is none of its. -/
theorem box_apart {w w' w1 : World} {base : Nat} {e : TypeId} {size n : Nat} {v : Value} {xs : List Value} {g : Nat} {t : TypeId} {cs : Array Value} (hx : Box w g t cs) (h0 : w1.ownsRow base e size v n xs) (hlt : w1.heap.size ≤ g) (hg : w.grownBy w' v.ownBlock) : Box w' g t cs :=
  hx.grown hg fun he => by have := (h0.lt g he).2; omega

end Go.Proofs.YtoehgcakfblblaaDoor

/- Bytes appended to a row of the call's own, whatever they lie in; the four bytes of a number. -/
namespace Go.Proofs.YtoehgcakfblblaaDoor
open Go.RowKit
set_option maxRecDepth 100000

/-- A slice that is nil has no room; one that is not has an address in a plain block. -/
def Tidy (A : Option Addr) (c : Nat) : Prop := (A = none ∧ c = 0) ∨ ∃ b o, A = some ⟨b, o, none⟩
theorem own_tidy {w : World} {base n c : Nat} {e : TypeId} {A : Option Addr} {xs : List Value} (h : w.ownsRow base e 1 (.slice A n c) n xs) : Tidy A c := by
  rcases h.2 with ⟨h, _⟩ | ⟨g, cap, cur, hv, _⟩
  · injection h with h1 _ h2
    exact .inl ⟨h1, h2⟩
  · injection hv with h1
    exact .inr ⟨_, _, h1⟩
theorem bytes_oneCell (M : List Nat) : ∀ y ∈ M.map B8, y.oneCell' = true := by
  intro y hy
  obtain ⟨x, _, rfl⟩ := List.mem_map.1 hy
  rfl

theorem lies_cells {w : World} {b o : Nat} {M : List Nat} (h : Lies w B8 (some ⟨b, o, none⟩) M) : ∀ j u, (M.map B8)[j]? = some u → w.cell? ((⟨b, o, none⟩ : Addr).add j) = some u := by
  intro j u hu
  rw [List.getElem?_map] at hu
  obtain ⟨x, hx, rfl⟩ := Option.map_eq_some_iff.1 hu
  obtain ⟨b', o', e, _, hc⟩ := h j x hx
  injection e with e
  injection e with e1 e2
  subst e1 e2
  have hadd : (⟨b, o, none⟩ : Addr).add j = ⟨b, o + j, none⟩ := by unfold Addr.add; split <;> simp_all
  rw [hadd]
  exact hc

section
variable (w : World)
theorem run_append_bytes (ty : TypeId) (base : Nat) (v : Value) (D : List Nat) (hown : w.ownsRow base 5 1 v D.length (D.map B8)) (B : Option Addr) (c : Nat) (M : List Nat) (hM : Lies w B8 B M) (hB : Tidy B c)
    (hlen : D.length + M.length ≤ 1073741824) (hbase : base ≤ w.heap.size) :
    ∃ A' c' w', (Builtin.append_ #[22, 22] ty #[v, .slice B M.length c]).run Tryd.prog w = .ok (.slice A' (D ++ M).length c') w' ∧
      w'.ownsRow base 5 1 (.slice A' (D ++ M).length c') (D ++ M).length ((D ++ M).map B8) ∧ w.grownBy w' v.ownBlock := by
  obtain ⟨i0, hi, hz0, hz1, hz2⟩ := info_parts Tryd.infoU8
  rcases hB with ⟨rfl, rfl⟩ | ⟨b, o, rfl⟩
  · have e0 : M = [] := by
      cases M with
      | nil => rfl
      | cons x r => obtain ⟨b, o, e, _⟩ := hM 0 x rfl; cases e
    subst e0
    obtain ⟨A, c, rfl⟩ := own_slice hown
    refine ⟨A, c, w, ?_, ?_, World.grownBy.refl w _⟩
    · rw [List.append_nil]
      exact run_append_owned_none (P := Tryd.prog) w base 22 ty 5 i0 1 Tryd.underlying22 hi _ _ _ hown
    · rw [List.append_nil]
      exact hown
  · obtain ⟨v', w', hr, h1, h2, _⟩ := run_append_own_at (P := Tryd.prog) w base 22 ty 5 i0 (.int .u8 0) 1 1 Tryd.underlying22 hi hz0 hz1 hz2 rfl (by decide) v D.length (D.map B8) hown ⟨b, o, none⟩ M.length c (M.map B8) (by simp) (lies_cells hM) (bytes_oneCell M) (by unfold maxLen; omega) (by omega) hbase
    rw [← List.map_append, ← List.length_append] at h1
    obtain ⟨A, c', rfl⟩ := own_slice h1
    exact ⟨A, c', w', hr, h1, h2⟩

theorem wpList_append_bytes {ops : Array Oper} {rest : List Oper} {o : Oper} {a : Act} {Q : Exit → Act → World → Prop} (hgd : o.guard = none) (s x : Operand)
    (ho : o.op = .call { callee := .builtin .append, args := #[s, x], argTypes := #[22, 22] })
    (base : Nat) (v : Value) (D : List Nat) (hs : a.eval s = v) (hown : w.ownsRow base 5 1 v D.length (D.map B8)) (B : Option Addr) (c : Nat) (M : List Nat) (hx : a.eval x = .slice B M.length c) (hM : Lies w B8 B M) (hB : Tidy B c) (E : List Nat) (hE : D ++ M = E)
    (hlen : D.length + M.length ≤ 1073741824) (hbase : base ≤ w.heap.size)
    (h : ∀ A' c' w', w'.ownsRow base 5 1 (.slice A' E.length c') E.length (E.map B8) → w.grownBy w' v.ownBlock → wpList Tryd.prog ops Q rest (a.put o.dst (.slice A' E.length c')) w') : wpList Tryd.prog ops Q (o :: rest) a w := by
  refine wpList_plain hgd fun _ hK => ?_
  subst hE
  obtain ⟨A', c', w', hr, h2, h3⟩ := run_append_bytes w o.type base v D hown B c M hM hB hlen hbase
  unfold Oper.wp execOp
  simp only [ho, resolve, invoke, builtin, Sem.run_bind, Sem.run_pure, Result.andThen_ok, List.map_toArray, List.map_cons, List.map_nil, hs, hx, hr]
  exact hK _ _ (h A' c' w' h2 h3)

theorem step_append_bytes {ops : Array Oper} {o : Oper} {a : Act} {K : Act → World → Prop} {Q : Exit → Act → World → Prop} {Z : Prop} (hgd : o.guard = none) (s x : Operand)
    (ho : o.op = .call { callee := .builtin .append, args := #[s, x], argTypes := #[22, 22] })
    (base : Nat) (v : Value) (D : List Nat) (hs : a.eval s = v) (hown : w.ownsRow base 5 1 v D.length (D.map B8)) (B : Option Addr) (c : Nat) (M : List Nat) (hx : a.eval x = .slice B M.length c) (hM : Lies w B8 B M) (hB : Tidy B c) (E : List Nat) (hE : D ++ M = E)
    (hlen : D.length + M.length ≤ 1073741824) (hbase : base ≤ w.heap.size)
    (h : ∀ A' c' w', w'.ownsRow base 5 1 (.slice A' E.length c') E.length (E.map B8) → w.grownBy w' v.ownBlock → K (a.put o.dst (.slice A' E.length c')) w') :
    if Region.wanted o (yielded ops a.tmps) = true then Oper.wp Tryd.prog o a w K Q else Z := by
  subst hE
  obtain ⟨A', c', w', hr, h2, h3⟩ := run_append_bytes w o.type base v D hown B c M hM hB hlen hbase
  rw [if_pos (by simp [Region.wanted, hgd])]
  unfold Oper.wp execOp
  simp only [ho, resolve, invoke, builtin, Sem.run_bind, Sem.run_pure, Result.andThen_ok, List.map_toArray, List.map_cons, List.map_nil, hs, hx, hr]
  exact h A' c' w' h2 h3
end

theorem four_own (w : World) (n : Nat) : NewBytes w (four n) (.returned (.slice (some ⟨w.heap.size, 0, none⟩) 4 4)) (w.alloc (.cells #[B8 (n % 256), B8 (n / 256 % 256), B8 (n / 65536 % 256), B8 (n / 16777216 % 256)] 5)) :=
  ⟨_, _, rfl, World.ownsRow_lit w _ _ (Nat.le_refl _) (show 4 ≤ maxLen by decide) rfl, (Below.refl _ _).alloc (Nat.le_refl _) _⟩

end Go.Proofs.YtoehgcakfblblaaDoor

/- Slices cut: what lies behind a slice's piece. Nothing of the program stands here. -/
namespace Go.Proofs.YtoehgcakfblblaaDoor
open Go.RowKit

section
variable {P : Program} {α : Type} {f : α → Value} {T : TypeId}

theorem slice_drop (ht : P.underlying T = some (.slice (P.elem T))) (hz : ∀ W : World, (sizeOf (P.elem T)).run P W = .ok 1 W) (A : Option Addr) (n c : Nat) (L : List α) (i : Nat) (w : World) (Hn : Hid (L.length = n)) (hL : Lies w f A L) (hA : Tidy A c) (hi : i ≤ n) (hc : n ≤ c) :
    ∃ A', (∀ W : World, (Instr.slice T (.slice A n c) (some (.int .i64 (i : Int))) none none).run P W = .ok (.slice A' (L.drop i).length (c - i)) W) ∧ Lies w f A' (L.drop i) ∧ Tidy A' (c - i) := by
  have hn := Hn.out
  have e : (L.drop i).length = n - i := by rw [List.length_drop, hn]
  rw [e]
  rcases hA with ⟨rfl, rfl⟩ | ⟨b, o, rfl⟩
  · obtain rfl : i = 0 := by omega
    refine ⟨none, fun W => ?_, by simpa using hL, .inl ⟨rfl, rfl⟩⟩
    rw [run_slice_l (P := P) W T none n 0 ht .i64 ((0 : Nat) : Int) (by omega) (by omega), hz]
    rfl
  · by_cases hct : c = i
    · refine ⟨some ⟨b, o, none⟩, fun W => ?_, ?_, .inr ⟨_, _, rfl⟩⟩
      · rw [run_slice_l (P := P) W T _ n c ht .i64 (i : Int) (by omega) (by omega), hz, Int.toNat_natCast]
        simp [Result.andThen, sliced, hct]
      · have : L.drop i = [] := List.length_eq_zero_iff.1 (by omega)
        rw [this]
        exact Lies.nil_
    · refine ⟨some ⟨b, o + i, none⟩, fun W => ?_, ?_, .inr ⟨_, _, rfl⟩⟩
      · rw [run_slice_l (P := P) W T _ n c ht .i64 (i : Int) (by omega) (by omega), hz, Int.toNat_natCast]
        simp [Result.andThen, sliced, hct, Addr.add]
      · have h := hL.piece i (n - i)
        rwa [List.take_of_length_le (by omega)] at h

theorem slice_take (ht : P.underlying T = some (.slice (P.elem T))) (hz : ∀ W : World, (sizeOf (P.elem T)).run P W = .ok 1 W) (A : Option Addr) (n c : Nat) (L : List α) (i : Nat) (w : World) (Hn : Hid (L.length = n)) (hL : Lies w f A L) (hA : Tidy A c) (hi : i ≤ n) (hc : n ≤ c) :
    ∃ A', (∀ W : World, (Instr.slice T (.slice A n c) none (some (.int .i64 (i : Int))) none).run P W = .ok (.slice A' (L.take i).length c) W) ∧ Lies w f A' (L.take i) ∧ Tidy A' c := by
  have hn := Hn.out
  have e : (L.take i).length = i := by rw [List.length_take, hn]; omega
  rw [e]
  refine ⟨A, fun W => ?_, hL.front i, hA⟩
  rw [run_slice_h (P := P) W T A n c ht .i64 (i : Int) (by omega) (by omega), hz, Int.toNat_natCast]
  rcases hA with ⟨rfl, rfl⟩ | ⟨b, o, rfl⟩
  · simp [Result.andThen, sliced]
  · simp [Result.andThen, sliced, Addr.add]
end

theorem row_cap {w : World} {base n c : Nat} {e : TypeId} {A : Option Addr} {xs : List Value} (h : w.ownsRow base e 1 (.slice A n c) n xs) : n ≤ c ∧ c ≤ 9223372036854775807 := by
  rcases h.2 with ⟨h, hn⟩ | ⟨g, cap, cur, hv, _, _, h1, h2, _⟩
  · injection h with _ e1 e2
    omega
  · injection hv with _ _ e
    unfold maxLen at h2
    omega

theorem Drawn.b {w w' : World} (h : Drawn w w') : Below w.heap.size w w' := h.below _

theorem Tryd.elemBytes : Tryd.prog.underlying 22 = some (.slice (Tryd.prog.elem 22)) := by kernel_rfl
theorem Tryd.sizeByte (W : World) : (sizeOf (Tryd.prog.elem 22)).run Tryd.prog W = .ok 1 W := by kernel_rfl
theorem Tryd.elemInts : Tryd.prog.underlying 24 = some (.slice (Tryd.prog.elem 24)) := by kernel_rfl
theorem Tryd.sizeInt (W : World) : (sizeOf (Tryd.prog.elem 24)).run Tryd.prog W = .ok 1 W := by kernel_rfl

end Go.Proofs.YtoehgcakfblblaaDoor

/- A scene: what a law's walk holds of its own memory, newest first, each thing in blocks of its own; how it outlives each step. Nothing of the program stands here. -/
namespace Go.Proofs.YtoehgcakfblblaaDoor
open Go.RowKit

inductive Item where
  | box (g : Nat) (t : TypeId) (cs : Array Value)
  | row (e : TypeId) (v : Value) (n : Nat) (xs : List Value)

/-- The thing is there, in blocks from lo on and before hi. -/
def Item.ok (w : World) (lo hi : Nat) : Item → Prop
  | .box g t cs => Box w g t cs ∧ lo ≤ g ∧ g < hi
  | .row e v n xs => w.ownsRow lo e 1 v n xs ∧ ∀ k, v.ownBlock = some k → k < hi

/-- All things of a list are there, each in blocks that lie before those of the ones ahead of it, and from S on. -/
def Items (S : Nat) (w : World) : Nat → List Item → Prop
  | hi, [] => S ≤ hi
  | hi, it :: rest => ∃ lo, lo ≤ hi ∧ it.ok w lo hi ∧ Items S w lo rest

theorem own_turn {w w' : World} {b b' : Nat} {e : TypeId} {size n : Nat} {v : Value} {xs : List Value} (h : w.ownsRow b e size v n xs) (hk : ∀ k, v.ownBlock = some k → b' ≤ k ∧ w'.heap[k]? = w.heap[k]?) : w'.ownsRow b' e size v n xs := by
  obtain ⟨h1, h2⟩ := h
  refine ⟨h1, ?_⟩
  rcases h2 with h2 | ⟨g, cap, cur, hv, hg, hh, r⟩
  · exact .inl h2
  · obtain ⟨h3, h4⟩ := hk g (by rw [hv]; rfl)
    exact .inr ⟨g, cap, cur, hv, h3, h4.trans hh, r⟩

theorem item_turn {w w' : World} {lo hi : Nat} {it : Item} (h : it.ok w lo hi) (hk : ∀ k, lo ≤ k → k < hi → w'.heap[k]? = w.heap[k]?) : it.ok w' lo hi := by
  cases it with
  | box g t cs => exact ⟨(hk g h.2.1 h.2.2).trans h.1, h.2⟩
  | row e v n xs => exact ⟨own_turn h.1 fun k hv => ⟨(h.1.lt k hv).1, hk k (h.1.lt k hv).1 (h.2 k hv)⟩, h.2⟩

theorem item_wide {w : World} {lo hi hi' : Nat} {it : Item} (h : it.ok w lo hi) (hh : hi ≤ hi') : it.ok w lo hi' := by
  cases it with
  | box g t cs => exact ⟨h.1, h.2.1, Nat.lt_of_lt_of_le h.2.2 hh⟩
  | row e v n xs => exact ⟨h.1, fun k hv => Nat.lt_of_lt_of_le (h.2 k hv) hh⟩

theorem Items.turn {S : Nat} {w w' : World} : ∀ {hi : Nat} {its : List Item}, Items S w hi its → (∀ k, S ≤ k → k < hi → w'.heap[k]? = w.heap[k]?) → Items S w' hi its
  | hi, [], h, _ => h
  | hi, it :: rest, ⟨lo, h1, h2, h3⟩, hk => by
    have hS : S ≤ lo := by
      clear h2 hk h1
      induction rest generalizing lo with
      | nil => exact h3
      | cons i r ih =>
        obtain ⟨lo', h1, _, h3⟩ := h3
        exact Nat.le_trans (ih lo' h3) h1
    exact ⟨lo, h1, item_turn h2 fun k hk1 hk2 => hk k (Nat.le_trans hS hk1) hk2, Items.turn h3 fun k hk1 hk2 => hk k hk1 (Nat.lt_of_lt_of_le hk2 h1)⟩

theorem Items.wide {S : Nat} {w : World} {hi hi' : Nat} {its : List Item} (h : Items S w hi its) (hh : hi ≤ hi') : Items S w hi' its := by
  cases its with
  | nil => exact Nat.le_trans h hh
  | cons it rest =>
    obtain ⟨lo, h1, h2, h3⟩ := h
    exact ⟨lo, Nat.le_trans h1 hh, item_wide h2 hh, h3⟩

theorem Items.get {S : Nat} {w : World} : ∀ {hi : Nat} {its : List Item} (_ : Items S w hi its) (i : Nat) (it : Item), its[i]? = some it → ∃ lo hi', it.ok w lo hi' ∧ S ≤ lo ∧ hi' ≤ hi
  | hi, it :: rest, ⟨lo, h1, h2, h3⟩, 0, it', h => by
    have hS : S ≤ lo := by
      clear h2 h1 h
      induction rest generalizing lo with
      | nil => exact h3
      | cons i r ih =>
        obtain ⟨lo', h1, _, h3⟩ := h3
        exact Nat.le_trans (ih lo' h3) h1
    obtain rfl : it = it' := by simpa using h
    exact ⟨lo, hi, h2, hS, Nat.le_refl _⟩
  | hi, it :: rest, ⟨lo, h1, h2, h3⟩, i + 1, it', h => by
    obtain ⟨lo', hi', a, b, c⟩ := Items.get h3 i it' (by simpa using h)
    exact ⟨lo', hi', a, b, Nat.le_trans c h1⟩

/-- One row is written into; everything else stays. -/
theorem Items.mark {S : Nat} {w w' : World} {b : Nat} {e : TypeId} {v : Value} {n : Nat} {xs ys : List Value} (hg : w.grownBy w' v.ownBlock) (ho : w'.ownsRow b e 1 v n ys) : ∀ {hi : Nat} {its : List Item} (_ : Items S w hi its) (_ : hi ≤ w.heap.size) (i : Nat),
    its[i]? = some (.row e v n xs) → Items S w' hi (its.set i (.row e v n ys))
  | hi, it :: rest, ⟨lo, h1, h2, h3⟩, hw, 0, h => by
    obtain rfl : it = .row e v n xs := by simpa using h
    refine ⟨lo, h1, ⟨own_turn ho fun k hv => ⟨(h2.1.lt k hv).1, rfl⟩, h2.2⟩, h3.turn fun k _ hk2 => hg.block k (by omega) fun he => ?_⟩
    have := (h2.1.lt k he.symm).1
    omega
  | hi, it :: rest, ⟨lo, h1, h2, h3⟩, hw, i + 1, h => by
    have h' : rest[i]? = some (.row e v n xs) := by simpa using h
    obtain ⟨lo', hi', a, _, c⟩ := h3.get i _ h'
    refine ⟨lo, h1, item_turn h2 fun k hk1 hk2 => hg.block k (by omega) fun he => ?_, Items.mark hg ho h3 (by omega) i h'⟩
    have := a.2 k he.symm
    omega

/-- The scene: what was there at the start is untouched, and the walk's own things are there. -/
structure Scene (w0 w : World) (its : List Item) : Prop where
  below : Below w0.heap.size w0 w
  items : Items w0.heap.size w w.heap.size its

section
variable {w0 w w' : World} {its : List Item}
theorem Scene.start (w0 : World) : Scene w0 w0 [] := ⟨Below.refl _ _, Nat.le_refl _⟩
theorem Scene.step (h : Scene w0 w its) (hb : Below w.heap.size w w') : Scene w0 w' its :=
  ⟨below_then h.below hb, (h.items.turn fun k _ hk => hb.block k hk).wide hb.size⟩
theorem Scene.draw (h : Scene w0 w its) (n : Nat) : Scene w0 (w.drewN n) its := ⟨below_dN h.below n, h.items.turn fun _ _ _ => rfl⟩
theorem Scene.drew (h : Scene w0 w its) : Scene w0 w.drew its := ⟨h.below.drew, h.items.turn fun _ _ _ => rfl⟩
theorem Scene.row (h : Scene w0 w its) (hb : Below w.heap.size w w') {e : TypeId} {v : Value} {n : Nat} {xs : List Value} (ho : w'.ownsRow w.heap.size e 1 v n xs) : Scene w0 w' (.row e v n xs :: its) :=
  ⟨below_then h.below hb, w.heap.size, hb.size, ⟨ho, fun k hv => (ho.lt k hv).2⟩, h.items.turn fun k _ hk => hb.block k hk⟩
theorem Scene.box (h : Scene w0 w its) (t : TypeId) (cs : Array Value) : Scene w0 (w.alloc (.cells cs t)) (.box w.heap.size t cs :: its) :=
  ⟨h.below.alloc h.below.size _, w.heap.size, by simp, ⟨Box.made w t cs, Nat.le_refl _, by simp⟩, h.items.turn fun k _ hk => Below.heap_alloc w _ k hk⟩
theorem Scene.mark (h : Scene w0 w its) (i : Nat) {b : Nat} {e : TypeId} {v : Value} {n : Nat} {xs ys : List Value} (hi : its[i]? = some (.row e v n xs)) (hg : w.grownBy w' v.ownBlock) (ho : w'.ownsRow b e 1 v n ys) : Scene w0 w' (its.set i (.row e v n ys)) := by
  obtain ⟨lo, hi', a, hS, _⟩ := h.items.get i _ hi
  exact ⟨h.below.trans (grown_below a.1 hg hS h.below.size), (h.items.mark hg ho (Nat.le_refl _) i hi).wide hg.size⟩
theorem Scene.getBox (h : Scene w0 w its) (i : Nat) {g : Nat} {t : TypeId} {cs : Array Value} (hi : its[i]? = some (.box g t cs)) : Box w g t cs := by
  obtain ⟨lo, hi', a, _⟩ := h.items.get i _ hi
  exact a.1
theorem Scene.getRow (h : Scene w0 w its) (i : Nat) {e : TypeId} {v : Value} {n : Nat} {xs : List Value} (hi : its[i]? = some (.row e v n xs)) : w.ownsRow 0 e 1 v n xs := by
  obtain ⟨lo, hi', a, _⟩ := h.items.get i _ hi
  exact own_mono a.1 (Nat.zero_le _)
theorem Scene.lies (h : Scene w0 w its) (i : Nat) {α : Type} {f : α → Value} {e : TypeId} {A : Option Addr} {n c : Nat} {L : List α} (hi : its[i]? = some (.row e (.slice A n c) n (L.map f))) : Lies w f A L :=
  Lies.of_own (h.getRow i hi)
theorem Scene.liesOld (h : Scene w0 w its) {α : Type} {f : α → Value} {A : Option Addr} {L : List α} (hL : Lies w0 f A L) : Lies w f A L := hL.below h.below
/-- The two cells of a box, and that its block is there. -/
theorem Scene.two (h : Scene w0 w its) (i : Nat) {g : Nat} {t : TypeId} {a b : Value} (hi : its[i]? = some (.box g t #[a, b])) : w.cell? ⟨g, 0, none⟩ = some a ∧ w.cell? ⟨g, 1, none⟩ = some b ∧ g < w.heap.size := by
  have hx := h.getBox i hi
  exact ⟨hx.cell 0, hx.cell 1, hx.lt⟩
/-- Some things are forgotten. -/
theorem Scene.drop (h : Scene w0 w its) (n : Nat) : Scene w0 w (its.drop n) := by
  refine ⟨h.below, ?_⟩
  obtain ⟨hb, hi⟩ := h
  have key : ∀ (n : Nat) (hi : Nat) (its : List Item), Items w0.heap.size w hi its → hi ≤ w.heap.size → Items w0.heap.size w w.heap.size (its.drop n) := by
    intro n
    induction n with
    | zero => intro hi its h hh; exact h.wide hh
    | succ n ih =>
      intro hi its h hh
      cases its with
      | nil => exact Nat.le_trans h hh
      | cons it rest =>
        obtain ⟨lo, h1, _, h3⟩ := h
        exact ih lo rest h3 (Nat.le_trans h1 hh)
  exact key n _ _ hi (Nat.le_refl _)
end

end Go.Proofs.YtoehgcakfblblaaDoor

/- Drawn texts. -/
namespace Go.Proofs.YtoehgcakfblblaaDoor
open Go.RowKit
set_option maxRecDepth 100000

set_option maxHeartbeats 1600000 in
theorem sizeN_any (g : Nat) (A : Option Addr) (c : Nat) (D : List Nat) (K top : Nat) (w : World) (h : Cur w g A c D K) (hK : K ≤ 4611686018427387000) (ht : top ≤ 1000) (ht1 : 1 ≤ top) :
    Calls Tryd.prog 32 #[.pointer (some ⟨g, 0, none⟩), .int .i64 top] w fun e w' => ∃ r : Nat, e = .returned (.int .i64 r) ∧ r ≤ top ∧ Cur w' g A c D (K + 1) ∧ w.grownBy w' (some g) := by
  obtain ⟨a, s, _, _, hbox⟩ := h.box
  have f0 := hbox.cell 0
  simp only [List.getElem?_toArray, List.getElem?_cons_zero, List.getElem?_cons_succ] at f0
  obtain ⟨n, hni, hn20, hn1, hn5⟩ : ∃ n : Nat, (if 1 + (D.length : Int) / 8 < (top : Int) then 1 + (D.length : Int) / 8 else (top : Int)) = (n : Int) ∧ n ≤ top ∧ 1 ≤ n ∧ min (top : Int) (1 + (D.length : Int) / 8) = (n : Int) := by
    by_cases h8 : 1 + D.length / 8 < top
    · exact ⟨1 + D.length / 8, by rw [if_pos (by omega)]; omega, by omega, by omega, by omega⟩
    · exact ⟨top, by rw [if_neg (by omega)], by omega, by omega, by omega⟩
  have hlen := h.len
  clear hbox
  go_enter Tryd.func32, Tryd.ntmps32
  go_wp2_with fail
  refine (pick_any g A c D K ((n : Int) + 1) w h (by omega) (by omega)).mono ?_
  rintro e w1 ⟨r, rfl, hr, _, hc1, hg1⟩
  have hr2 : (r : Int) < (n : Int) + 1 := hr (by omega)
  have HC := Lib.hid hc1
  have HG := Lib.hid hg1
  clear hr hc1 hg1 h f0
  go_wp2
  go_ret
  exact ⟨r, rfl, by omega, HC.out, HG.out⟩

set_option maxHeartbeats 400000 in
theorem onceN_any (g : Nat) (A : Option Addr) (c : Nat) (D : List Nat) (K n : Nat) (w : World) (h : Cur w g A c D K) (hn : n ≤ 9223372036854775807) (hK : K ≤ 4611686018427387000) :
    Calls Tryd.prog 20 #[.pointer (some ⟨g, 0, none⟩), .int .i64 n] w fun e w' => ∃ b : Bool, e = .returned (.bool b) ∧ Cur w' g A c D (K + 1) ∧ w.grownBy w' (some g) := by
  go_enter Tryd.func20, Tryd.ntmps20
  go_wp2_with fail
  refine (pick_any g A c D K n w h (by omega) (by omega)).mono ?_
  rintro e w1 ⟨r, rfl, _, _, hc1, hg1⟩
  have HC := Lib.hid hc1
  have HG := Lib.hid hg1
  clear hc1 hg1 h
  go_wp2
  go_ret
  exact ⟨_, rfl, HC.out, HG.out⟩

theorem own_pastG {w w' : World} {b g : Nat} {e : TypeId} {n : Nat} {v : Value} {xs : List Value} (h : w.ownsRow b e 1 v n xs) (hg : w.grownBy w' (some g)) (hb : g < b) : w'.ownsRow b e 1 v n xs :=
  own_turn h fun k hk => ⟨(h.lt k hk).1, hg.block k (h.lt k hk).2 fun e => by
    have := (h.lt k hk).1
    have := Option.some.inj e
    omega⟩
theorem grown_pastG {w w1 w2 : World} {g : Nat} {row : Option Nat} (h : w.grownBy w1 (some g)) (k : w1.grownBy w2 row) (hr : ∀ j, row = some j → w.heap.size ≤ j) : w.grownBy w2 (some g) :=
  h.andThen k fun j hj => .inl (hr j hj)
/-- The cursor stays where only a block changes that was made behind it. -/
theorem Cur.push {w0 w w' : World} {g : Nat} {A : Option Addr} {c : Nat} {D : List Nat} {K : Nat} {row : Option Nat} (h : Cur w g A c D K) (hD : Lies w0 B8 A D) (hg0 : g < w0.heap.size) (hg : w.grownBy w' row) (hr : ∀ j, row = some j → w0.heap.size ≤ j) : Cur w' g A c D K :=
  h.turn hg.size fun k hk hc => hg.block k hk fun e => by
    have h1 := hr k e.symm
    rcases hc with rfl | ⟨o, hl, hA⟩
    · omega
    · obtain ⟨b, o', _, hA', hb, _⟩ := hD.at_ hl
      rw [hA] at hA'
      injection hA' with hA'
      injection hA' with e1 e2
      omega

/-- A piece of a slice of bytes, from i up to j. -/
theorem slice_mid {P : Program} {T : TypeId} (ht : P.underlying T = some (.slice (P.elem T))) (hz : ∀ W : World, (sizeOf (P.elem T)).run P W = .ok 1 W) (b o n c : Nat) (L : List Nat) (i j : Nat) (w : World) (Hn : Hid (L.length = n)) (hL : Lies w B8 (some ⟨b, o, none⟩) L) (hij : i ≤ j) (hj : j ≤ n) (hc : n ≤ c) :
    ∃ o', (∀ W : World, (Instr.slice T (.slice (some ⟨b, o, none⟩) n c) (some (.int .i64 (i : Int))) (some (.int .i64 (j : Int))) none).run P W = .ok (.slice (some ⟨b, o', none⟩) ((L.drop i).take (j - i)).length (c - i)) W) ∧ Lies w B8 (some ⟨b, o', none⟩) ((L.drop i).take (j - i)) := by
  have hn := Hn.out
  have e : ((L.drop i).take (j - i)).length = j - i := by rw [List.length_take, List.length_drop, hn]; omega
  rw [e]
  by_cases hct : c = i
  · refine ⟨o, fun W => ?_, ?_⟩
    · rw [run_slice_lh (P := P) W T _ n c ht .i64 .i64 (i : Int) (j : Int) (by omega) (by omega) (by omega), Int.toNat_natCast, Int.toNat_natCast, hz]
      simp [Result.andThen, sliced, hct]
    · have : (L.drop i).take (j - i) = [] := List.length_eq_zero_iff.1 (by omega)
      rw [this]
      exact Lies.nil_
  · refine ⟨o + i, fun W => ?_, hL.piece i (j - i)⟩
    rw [run_slice_lh (P := P) W T _ n c ht .i64 .i64 (i : Int) (j : Int) (by omega) (by omega) (by omega), Int.toNat_natCast, Int.toNat_natCast, hz]
    simp [Result.andThen, sliced, hct, Addr.add]

/-- A list of bytes was drawn: a row of the call's own. -/
def DrewT (w : World) (g : Nat) (A : Option Addr) (c : Nat) (D : List Nat) (K top : Nat) (e : Ending) (w' : World) : Prop :=
  ∃ (A' : Option Addr) (c' : Nat) (T : List Nat), e = .returned (.slice A' T.length c') ∧ T.length ≤ top ∧ (∀ x ∈ T, x < 2 ^ 8) ∧ w'.ownsRow w.heap.size 5 1 (.slice A' T.length c') T.length (T.map B8) ∧ Cur w' g A c D K ∧ w.grownBy w' (some g)

end Go.Proofs.YtoehgcakfblblaaDoor
