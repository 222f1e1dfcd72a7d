/- The program's word methods that BitsOf calls, and one word of bits. -/
import Derived.Test.YtoehgcakfblblaaImpl2
import Derived.Test.YtoehgcakfblblaaBitMath2
import Derived.Test.YtoehgcakfblblaaMem3
namespace Go.Proofs.Ytoehgcakfblblaa
open Go.RowKit
set_option maxRecDepth 100000

set_option maxHeartbeats 400000 in
theorem isBit_any (b : Int) (w : World) :
    Calls Try.prog 111 #[.int .i64 b] w fun e w' => e = .returned (.bool (decide (b = 0 ∨ b = 1))) ∧ w = w' := by
  by_cases h0 : b = 0
  · subst h0
    go_enter Try.func111, Try.ntmps111
    go_wp2
    go_ret
    exact ⟨rfl, rfl⟩
  · have t0 : (b == 0) = false := by rw [beq_eq_false_iff_ne]; exact h0
    by_cases h1 : b = 1
    · subst h1
      go_enter Try.func111, Try.ntmps111
      go_wp2
      go_ret
      exact ⟨rfl, rfl⟩
    · have t1 : (b == 1) = false := by rw [beq_eq_false_iff_ne]; exact h1
      have HF := Lib.hid (decide_eq_false (show ¬ (b = 0 ∨ b = 1) by omega))
      clear h0 h1
      go_enter Try.func111, Try.ntmps111
      go_wp2
      go_ret
      exact ⟨ret_bool HF.out.symm, rfl⟩

theorem or_bit (x i : Nat) (h : x < 2 ^ i) : x ||| 2 ^ i = x + 2 ^ i := by
  rw [Nat.or_comm, nat_join i (2 ^ i) x (Nat.mod_self _) h, Nat.add_comm]

/-- A bit set in a word, as the walk spells it. -/
theorem set_form (x i : Nat) (hx : x < 2 ^ i) (hi : i < 64) : bits .or .u64 (x : Int) (IntKind.u64.wrap (2 ^ i)) = ((x + 2 ^ i : Nat) : Int) := by
  have hp : 2 ^ i < 2 ^ 64 := Nat.pow_lt_pow_right (by omega) hi
  have e : (2 : Int) ^ i = ((2 ^ i : Nat) : Int) := by simp
  have hw : IntKind.u64.wrap (2 ^ i) = ((2 ^ i : Nat) : Int) := by rw [e]; exact IntWalk.u64_in _ (by omega)
  rw [hw, u64_or_nat x (2 ^ i) (by omega) hp, or_bit x i hx]

set_option maxHeartbeats 400000 in
theorem wordSet_any (g : Nat) (x i : Nat) (w : World) (hc : w.cell? ⟨g, 0, none⟩ = some (U x)) (hf : w.frozen? ⟨g, 0, none⟩ = false) (hx : x < 2 ^ i) (hi : i < 64) :
    Calls Try.prog 125 #[.pointer (some ⟨g, 0, none⟩), .int .i64 i] w fun e w' => e = .returned (.tuple #[]) ∧ (w.setCell ⟨g, 0, none⟩ (U (x + 2 ^ i))).drew = w' := by
  have HS := Lib.hid (set_form x i hx hi)
  clear hx
  go_enter Try.func125, Try.ntmps125
  go_wp2
  go_still_tail 7, (by kernel_rfl)
  change wpList _ _ _ _ _ w.drew
  go_wp2
  go_end0
  exact ⟨rfl, by rw [HS.out]⟩

theorem val_take_succ {B : List Int} {k : Nat} {x : Int} (hx : B[k]? = some x) (h01 : x = 0 ∨ x = 1) : val (B.take (k + 1)) = if x = 1 then val (B.take k) + 2 ^ k else val (B.take k) := by
  obtain ⟨hk, rfl⟩ := List.getElem?_eq_some_iff.1 hx
  have hl : (B.take k).length = k := by rw [List.length_take]; omega
  rw [List.take_succ_eq_append_getElem hk, val_append, hl]
  rcases h01 with h | h <;> simp [h, val]

theorem bits_more {B : List Int} {k : Nat} {x : Int} (h : IsBits (B.take k)) (hx : B[k]? = some x) (h01 : x = 0 ∨ x = 1) : IsBits (B.take (k + 1)) := by
  intro b hb
  rw [List.take_add_one, hx] at hb
  rcases List.mem_append.1 hb with hb | hb
  · exact h b hb
  · simp at hb
    subst hb
    exact h01

/-- What one word of bits is to be. -/
def WordPost (B : List Int) (w : World) (e : Ending) (w' : World) : Prop :=
  Below w.heap.size w w' ∧ ((IsBits B ∧ e = .returned (.tuple #[U (val B), .bool true])) ∨ (¬ IsBits B ∧ e = .returned (.tuple #[U 0, .bool false])))

set_option maxHeartbeats 400000 in
theorem wordOf_any (A : Option Addr) (n c : Nat) (B : List Int) (w : World) (hB : Lies w I A B) (hl : Hid (B.length = n)) (hn : n ≤ 64) :
    Calls Try.prog 110 #[.slice A n c] w (WordPost B w) := by
  go_enter Try.func110, Try.ntmps110
  go_wp2
  go_loopw [9] (fun i wr => ∃ k : Nat, k ≤ n ∧ i = .int .i64 k ∧ IsBits (B.take k) ∧ Box wr w.heap.size 128 #[U (val (B.take k))] ∧ Below w.heap.size w wr) (fun i _ => n - (intOf i).toNat)
  case atStart => exact ⟨0, Nat.zero_le _, rfl, by intro b hb; simp at hb, Box.made _ _ _, by go_grown⟩
  case round =>
    obtain ⟨k, hk, rfl, hbits, hbox, hb⟩ := hrel
    have HBits := Lib.hid hbits
    have f0 := hbox.cell 0
    have ff := hbox.frozen 0
    simp only [List.getElem?_toArray, List.getElem?_cons_zero] at f0
    have hval := val_lt _ hbits
    rw [List.length_take, hl.out, Nat.min_eq_left hk] at hval
    clear hbits
    by_cases hlt : k < n
    · obtain ⟨b, o, x, rfl, hbl, hx, hc⟩ := hB.at_ (i := k) (by rw [hl.out]; exact hlt)
      have hc' : wr.cell? ⟨b, o + k, none⟩ = some (.int .i64 x) := (hb.cell (p := ⟨b, o + k, none⟩) hbl).trans hc
      have HX := Lib.hid hx
      have Hbox := Lib.hid hbox
      have HBl := Lib.hid hb
      clear hx hc hB hbox hb
      have CB := Lib.hid (fun W => isBit_any x W)
      by_cases h01 : x = 0 ∨ x = 1
      · have HM := Lib.hid (bits_more HBits.out HX.out h01)
        have HV := Lib.hid (val_take_succ HX.out h01)
        have HD := Lib.hid (decide_eq_true h01)
        rcases h01 with rfl | rfl
        · go_wp2_with fail
          refine (CB.out _).mono ?_
          rintro e w2 ⟨rfl, rfl⟩
          rw [HD.out]
          go_wp2
          go_roundw
          case rel => exact ⟨k + 1, by omega, by go_num, HM.out, by rw [HV.out]; exact Hbox.out, HBl.out⟩
          case measure => simp [intOf]; omega
        · go_wp2_with fail
          refine (CB.out _).mono ?_
          rintro e w2 ⟨rfl, rfl⟩
          rw [HD.out]
          go_wp2_with fail
          refine (wordSet_any w.heap.size (val (B.take k)) k _ f0 ff hval (by omega)).mono ?_
          rintro e w3 ⟨rfl, rfl⟩
          go_wp2
          go_roundw
          case rel =>
            refine ⟨k + 1, by omega, by go_num, HM.out, ?_, (HBl.out.setCell (Nat.le_refl _) _).drew⟩
            rw [HV.out, if_pos trivial]
            exact Hbox.out.put 0 _
          case measure => simp [intOf]; omega
      · have HD := Lib.hid (decide_eq_false h01)
        have HN : Hid (¬ IsBits B) := Lib.hid fun h => h01 (h x (List.mem_of_getElem? HX.out))
        clear h01
        go_wp2_with fail
        refine (CB.out _).mono ?_
        rintro e w2 ⟨rfl, rfl⟩
        rw [HD.out]
        go_wp2
        go_ret2
        exact ⟨HBl.out, .inr ⟨HN.out, rfl⟩⟩
    · go_wp2
      go_ret2
      have e : B.take k = B := List.take_of_length_le (by rw [hl.out]; omega)
      refine ⟨hb, .inl ⟨?_, ?_⟩⟩
      · rw [← e]; exact HBits.out
      · rw [e]; rfl

end Go.Proofs.Ytoehgcakfblblaa
