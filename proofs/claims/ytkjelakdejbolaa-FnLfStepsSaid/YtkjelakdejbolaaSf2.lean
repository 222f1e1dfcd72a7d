import Derived.Test.YtkjelakdejbolaaSfMath
import Derived.Test.YtkjelakdejbolaaBytes1
import Derived.Test.YtkjelakdejbolaaVarRd2
import Derived.Test.YtkjelakdejbolaaSlCut
import Derived.Lib.BytesEntry
import Derived.Laws.Externs
/- Bytes compared: the library's entry, the specification's loop; suffixes compared. -/
namespace Go.Proofs.Ytkjelakdejbolaa
open Go.RowKit
set_option maxRecDepth 100000

theorem find_lcmp : ∀ L M : List Nat, (match (List.range (min L.length M.length)).find? (fun i => L.getD i 0 != M.getD i 0) with | some i => if L.getD i 0 < M.getD i 0 then (-1 : Int) else 1 | none => if L.length < M.length then -1 else if L.length > M.length then 1 else 0) = lcmp L M
  | [], [] => rfl
  | [], _ :: _ => by simp [lcmp]
  | _ :: _, [] => by simp [lcmp]
  | a :: us, b :: vs => by
    have ih := find_lcmp us vs
    rw [lcmp_cons]
    have e : min (a :: us).length (b :: vs).length = min us.length vs.length + 1 := by simp
    rw [e, List.range_succ_eq_map, List.find?_cons]
    by_cases h : a = b
    · subst h
      have e0 : ((a :: us).getD 0 0 != (a :: vs).getD 0 0) = false := by simp
      simp only [e0, List.find?_map, Function.comp_def]
      have e1 : (fun i => (a :: us).getD (Nat.succ i) 0 != (a :: vs).getD (Nat.succ i) 0) = (fun i => us.getD i 0 != vs.getD i 0) := by
        funext i
        simp
      rw [e1, show (if a < a then (-1 : Int) else if a < a then 1 else lcmp us vs) = lcmp us vs by simp, ← ih]
      cases (List.range (min us.length vs.length)).find? (fun i => us.getD i 0 != vs.getD i 0) <;> simp
    · have e0 : ((a :: us).getD 0 0 != (b :: vs).getD 0 0) = true := by simpa using h
      simp only [e0]
      simp only [List.getD_cons_zero]
      by_cases h1 : a < b
      · rw [if_pos h1, if_pos h1]
      · rw [if_neg h1, if_neg h1, if_pos (by omega)]

theorem bstr_size (L : List Nat) : (bstr L).size = L.length := by
  unfold bstr
  rw [strOfNums_size, List.length_map]
theorem bstr_get (L : List Nat) (i : Nat) : (bstr L)[i]! = UInt8.ofNat (L.getD i 0) := by
  have hs := bstr_size L
  by_cases h : i < L.length
  · rw [getElem!_pos (bstr L) i (by omega)]
    show (bstr L).data[i]'(show i < (bstr L).size by omega) = _
    have e : (bstr L).data = (L.map fun n => UInt8.ofNat n).toArray := by
      unfold bstr strOfNums
      simp [Function.comp_def]
    simp [e, List.getD_eq_getElem?_getD, h]
  · rw [getElem!_neg (bstr L) i (by omega), List.getD_eq_getElem?_getD, List.getElem?_eq_none (by omega)]
    rfl
theorem cmp_bstr {L M : List Nat} (hl : ∀ x ∈ L, x < 2 ^ 8) (hm : ∀ x ∈ M, x < 2 ^ 8) : Extern.BytealgCompare.cmp (bstr L) (bstr M) = lcmp L M := by
  have g : ∀ {K : List Nat}, (∀ x ∈ K, x < 2 ^ 8) → ∀ i, K.getD i 0 < 256 := fun {K} hK i => by
    rw [List.getD_eq_getElem?_getD]
    by_cases h : i < K.length
    · rw [List.getElem?_eq_getElem h]
      exact hK _ (List.getElem_mem h)
    · rw [List.getElem?_eq_none (by omega)]
      decide
  have e1 : ∀ i, ((bstr L)[i]! != (bstr M)[i]!) = (L.getD i 0 != M.getD i 0) := fun i => by
    rw [bstr_get, bstr_get]
    have a := g hl i
    have b := g hm i
    by_cases h : L.getD i 0 = M.getD i 0
    · rw [h]; simp
    · have h2 : UInt8.ofNat (L.getD i 0) ≠ UInt8.ofNat (M.getD i 0) := fun e => h (by
        have := congrArg UInt8.toNat e
        simp only [UInt8.toNat_ofNat'] at this
        omega)
      rw [bne_iff_ne.2 h, bne_iff_ne.2 h2]
  have e2 : ∀ i, ((bstr L)[i]! < (bstr M)[i]!) ↔ (L.getD i 0 < M.getD i 0) := fun i => by
    rw [bstr_get, bstr_get, UInt8.lt_iff_toNat_lt]
    have a := g hl i
    have b := g hm i
    simp only [UInt8.toNat_ofNat']
    omega
  rw [← find_lcmp]
  unfold Extern.BytealgCompare.cmp
  simp only [e1, e2, bstr_size]
  rfl

theorem run_bytesOf {P : Program} (w : World) {A : Option Addr} {c : Nat} {L : List Nat} (hL : Lies w B8 A L) (hA : Tidy A c) : (Extern.Bytes.bytesOf (.slice A L.length c)).run P w = .ok (bstr L) w := by
  rcases hA with ⟨rfl, rfl⟩ | ⟨b, o, rfl⟩
  · cases L with
    | nil => rfl
    | cons x r => obtain ⟨b, o, h, _⟩ := hL 0 x rfl; cases h
  · have h := Lib.run_loadBytesX (P := P) w (L.map Int.ofNat) ⟨b, o, none⟩ .empty (fun j x hj => by
      rw [List.getElem?_map] at hj
      obtain ⟨y, hy, rfl⟩ := Option.map_eq_some_iff.1 hj
      exact lies_cells hL j _ (by rw [List.getElem?_map, hy]; rfl))
    rw [List.length_map] at h
    show (Extern.Bytes.loadBytes ⟨b, o, none⟩ L.length .empty).run P w = _
    rw [h]
    congr 1
    apply ByteArray.ext
    simp [bstr, strOfNums, Lib.bytesOf]

theorem run_compare {P : Program} (w : World) {A B : Option Addr} {c d : Nat} {L M : List Nat} (hL : Lies w B8 A L) (hM : Lies w B8 B M) (hA : Tidy A c) (hB : Tidy B d) (hl : ∀ x ∈ L, x < 2 ^ 8) (hm : ∀ x ∈ M, x < 2 ^ 8) :
    (Extern.BytealgCompare.compare #[.slice A L.length c, .slice B M.length d]).run P w = .ok (.int .i64 (lcmp L M)) w := by
  show Sem.run P (do pure (goInt (Extern.BytealgCompare.cmp (← Extern.Bytes.bytesOf (.slice A L.length c)) (← Extern.Bytes.bytesOf (.slice B M.length d))))) w = _
  simp only [Sem.run_bind, Sem.run_pure, run_bytesOf w hL hA, run_bytesOf w hM hB, Result.andThen, cmp_bstr hl hm]
  rfl

end Go.Proofs.Ytkjelakdejbolaa

/- TextOk and SuffixCmp, of the program and of the specification. -/
namespace Go.Proofs.Ytkjelakdejbolaa
open Go.RowKit
set_option maxRecDepth 100000

set_option maxHeartbeats 400000 in
theorem implTextOk_any (A : Option Addr) (n c : Nat) (w : World) :
    Calls Try.prog 45 #[.slice A n c] w fun e w' => e = .returned (.bool (decide (n ≤ 300))) ∧ w' = w := by
  go_enter Try.func45, Try.ntmps45
  go_wp2
  go_ret
  exact ⟨ret_bool (by simp; omega), rfl⟩

set_option maxHeartbeats 400000 in
theorem specTextOk_any (A : Option Addr) (n c : Nat) (w : World) :
    Calls Try.prog 17 #[.slice A n c] w fun e w' => e = .returned (.bool (decide (n ≤ 300))) ∧ w' = w := by
  go_enter Try.func17, Try.ntmps17
  go_wp2
  go_ret
  exact ⟨ret_bool (by simp; omega), rfl⟩

theorem Drawn.three (w : World) (a b c : Nat) : Drawn w (((w.drewN a).drewN b).drewN c) := ⟨a + b + c, by simp⟩

theorem lcmp_same {k : Nat} {L M : List Nat} (h : L.take k = M.take k) : lcmp L M = lcmp (L.drop k) (M.drop k) := by
  rw [lcmp_split k, h, lcmp_self, if_pos rfl]
theorem lcmp_at {k : Nat} {L M : List Nat} {x y : Nat} (h : L.take k = M.take k) (hx : L[k]? = some x) (hy : M[k]? = some y) (hne : x ≠ y) : lcmp L M = if x < y then -1 else 1 := by
  obtain ⟨hk, rfl⟩ := List.getElem?_eq_some_iff.1 hx
  obtain ⟨hk', rfl⟩ := List.getElem?_eq_some_iff.1 hy
  rw [lcmp_same h, List.drop_eq_getElem_cons hk, List.drop_eq_getElem_cons hk', lcmp_cons]
  by_cases h1 : L[k] < M[k]
  · rw [if_pos h1, if_pos h1]
  · rw [if_neg h1, if_neg h1, if_pos (by omega)]
theorem lcmp_end {k : Nat} {L M : List Nat} (h : L.take k = M.take k) (hk : k = L.length ∨ k = M.length) (h1 : k ≤ L.length) (h2 : k ≤ M.length) : lcmp L M = if L.length < M.length then -1 else if M.length < L.length then 1 else 0 := by
  rw [lcmp_same h]
  rcases hk with rfl | rfl
  · rw [List.drop_of_length_le (Nat.le_refl _)]
    cases hm : M.drop L.length with
    | nil =>
      have := congrArg List.length hm
      simp at this
      rw [if_neg (by omega), if_neg (by omega)]
      rfl
    | cons y r =>
      have := congrArg List.length hm
      simp at this
      rw [if_pos (by omega)]
      rfl
  · rw [List.drop_of_length_le (l := M) (Nat.le_refl _)]
    cases hm : L.drop M.length with
    | nil =>
      have := congrArg List.length hm
      simp at this
      rw [if_neg (by omega), if_neg (by omega)]
      rfl
    | cons y r =>
      have := congrArg List.length hm
      simp at this
      rw [if_neg (by omega), if_pos (by omega)]
      rfl

set_option maxHeartbeats 800000 in
theorem specCmp_any (A B : Option Addr) (c d : Nat) (L M : List Nat) (w : World) (hL : Lies w B8 A L) (hM : Lies w B8 B M) (hn : L.length ≤ 17592186044416) (hm : M.length ≤ 17592186044416) :
    Calls Try.prog 48 #[.slice A L.length c, .slice B M.length d] w fun e w' => e = .returned (.int .i64 (lcmp L M)) ∧ Drawn w w' := by
  go_enter Try.func48, Try.ntmps48
  go_wp2
  go_loopw [5] (fun i wr => ∃ k : Nat, k ≤ L.length ∧ k ≤ M.length ∧ i = .int .i64 k ∧ Hid (L.take k = M.take k) ∧ Drawn w wr) (fun i _ => L.length - (intOf i).toNat)
  case atStart => exact ⟨0, Nat.zero_le _, Nat.zero_le _, rfl, Lib.hid (by simp), Drawn.refl _⟩
  case round =>
    obtain ⟨k, hk, hk2, rfl, HT, m, rfl⟩ := hrel
    by_cases hlt : k < L.length
    · by_cases hlt2 : k < M.length
      · obtain ⟨b, o, x, rfl, hbl, hx, hc⟩ := hL.at_ (i := k) hlt
        obtain ⟨b', o', y, rfl, hbl', hy, hc'⟩ := hM.at_ (i := k) hlt2
        have HX := Lib.hid hx
        have HY := Lib.hid hy
        clear hx hy hL hM
        by_cases hxy : x = y
        · subst hxy
          go_wp2
          go_quiet (fail)
          go_wp2
          go_quiet (fail)
          go_wp2
          go_roundw
          case rel => exact ⟨k + 1, by omega, by omega, by go_num, Lib.hid (take_same_succ HT.out HX.out HY.out), ⟨_, rfl⟩⟩
          case measure => simp [intOf]; omega
        · have HV := Lib.hid (lcmp_at HT.out HX.out HY.out hxy)
          by_cases h1 : x < y
          · rw [if_pos h1] at HV
            go_wp2
            go_quiet (fail)
            go_wp2
            go_ret
            exact ⟨ret_int HV.out.symm, Drawn.two _ _ _⟩
          · rw [if_neg h1] at HV
            have h2 : y < x := by omega
            go_wp2
            go_quiet (fail)
            go_wp2
            go_quiet (fail)
            go_wp2
            go_ret
            exact ⟨ret_int HV.out.symm, Drawn.three _ _ _ _⟩
      · have HV := Lib.hid (lcmp_end HT.out (.inr (by omega)) (by omega) (by omega))
        clear hL hM
        have h1 : M.length < L.length := by omega
        rw [if_neg (by omega), if_pos h1] at HV
        go_wp2
        go_ret
        exact ⟨ret_int HV.out.symm, ⟨_, rfl⟩⟩
    · have HV := Lib.hid (lcmp_end HT.out (.inl (by omega)) (by omega) (by omega))
      clear hL hM
      by_cases h1 : L.length < M.length
      · rw [if_pos h1] at HV
        go_wp2
        go_ret
        exact ⟨ret_int HV.out.symm, ⟨_, rfl⟩⟩
      · rw [if_neg h1, if_neg (by omega)] at HV
        go_wp2
        go_ret
        exact ⟨ret_int HV.out.symm, ⟨_, rfl⟩⟩

end Go.Proofs.Ytkjelakdejbolaa
