/- Bytes compared: the library's entry, the specification's loop; suffixes compared. -/
import Derived.Test.YtkjelakdejbolaaSfMath
import Derived.Test.YtkjelakdejbolaaBytes1
import Derived.Test.YtkjelakdejbolaaVarRd2
import Derived.Test.YtkjelakdejbolaaAppB
import Derived.Lib.BytesEntry
import Derived.Laws.Externs
namespace Go.Proofs.Ytkjelakdejbolaa
open Go.RowKit
set_option maxRecDepth 100000

theorem find_lcmp : ∀ L M : List Nat, (match (List.range (min L.length M.length)).find? (fun i => L.getD i 0 != M.getD i 0) with | some i => if L.getD i 0 < M.getD i 0 then (-1 : Int) else 1 | none => if L.length < M.length then -1 else if L.length > M.length then 1 else 0) = lcmp L M
  | [], [] => rfl
  | [], _ :: _ => by simp [lcmp]
  | _ :: _, [] => by simp [lcmp]
  | a :: us, b :: vs => by
    have ih := find_lcmp us vs
    rw [lcmp_cons]
    have e : min (a :: us).length (b :: vs).length = min us.length vs.length + 1 := by simp
    rw [e, List.range_succ_eq_map, List.find?_cons]
    by_cases h : a = b
    · subst h
      have e0 : ((a :: us).getD 0 0 != (a :: vs).getD 0 0) = false := by simp
      simp only [e0, List.find?_map, Function.comp_def]
      have e1 : (fun i => (a :: us).getD (Nat.succ i) 0 != (a :: vs).getD (Nat.succ i) 0) = (fun i => us.getD i 0 != vs.getD i 0) := by
        funext i
        simp
      rw [e1, show (if a < a then (-1 : Int) else if a < a then 1 else lcmp us vs) = lcmp us vs by simp, ← ih]
      cases (List.range (min us.length vs.length)).find? (fun i => us.getD i 0 != vs.getD i 0) <;> simp
    · have e0 : ((a :: us).getD 0 0 != (b :: vs).getD 0 0) = true := by simpa using h
      simp only [e0]
      simp only [List.getD_cons_zero]
      by_cases h1 : a < b
      · rw [if_pos h1, if_pos h1]
      · rw [if_neg h1, if_neg h1, if_pos (by omega)]

theorem bstr_size (L : List Nat) : (bstr L).size = L.length := by
  unfold bstr
  rw [strOfNums_size, List.length_map]
theorem bstr_get (L : List Nat) (i : Nat) : (bstr L)[i]! = UInt8.ofNat (L.getD i 0) := by
  have hs := bstr_size L
  by_cases h : i < L.length
  · rw [getElem!_pos (bstr L) i (by omega)]
    show (bstr L).data[i]'(show i < (bstr L).size by omega) = _
    have e : (bstr L).data = (L.map fun n => UInt8.ofNat n).toArray := by
      unfold bstr strOfNums
      simp [Function.comp_def]
    simp [e, List.getD_eq_getElem?_getD, h]
  · rw [getElem!_neg (bstr L) i (by omega), List.getD_eq_getElem?_getD, List.getElem?_eq_none (by omega)]
    rfl
theorem cmp_bstr {L M : List Nat} (hl : ∀ x ∈ L, x < 2 ^ 8) (hm : ∀ x ∈ M, x < 2 ^ 8) : Extern.BytealgCompare.cmp (bstr L) (bstr M) = lcmp L M := by
  have g : ∀ {K : List Nat}, (∀ x ∈ K, x < 2 ^ 8) → ∀ i, K.getD i 0 < 256 := fun {K} hK i => by
    rw [List.getD_eq_getElem?_getD]
    by_cases h : i < K.length
    · rw [List.getElem?_eq_getElem h]
      exact hK _ (List.getElem_mem h)
    · rw [List.getElem?_eq_none (by omega)]
      decide
  have e1 : ∀ i, ((bstr L)[i]! != (bstr M)[i]!) = (L.getD i 0 != M.getD i 0) := fun i => by
    rw [bstr_get, bstr_get]
    have a := g hl i
    have b := g hm i
    by_cases h : L.getD i 0 = M.getD i 0
    · rw [h]; simp
    · have h2 : UInt8.ofNat (L.getD i 0) ≠ UInt8.ofNat (M.getD i 0) := fun e => h (by
        have := congrArg UInt8.toNat e
        simp only [UInt8.toNat_ofNat'] at this
        omega)
      rw [bne_iff_ne.2 h, bne_iff_ne.2 h2]
  have e2 : ∀ i, ((bstr L)[i]! < (bstr M)[i]!) ↔ (L.getD i 0 < M.getD i 0) := fun i => by
    rw [bstr_get, bstr_get, UInt8.lt_iff_toNat_lt]
    have a := g hl i
    have b := g hm i
    simp only [UInt8.toNat_ofNat']
    omega
  rw [← find_lcmp]
  unfold Extern.BytealgCompare.cmp
  simp only [e1, e2, bstr_size]
  rfl

theorem run_bytesOf {P : Program} (w : World) {A : Option Addr} {c : Nat} {L : List Nat} (hL : Lies w B8 A L) (hA : Tidy A c) : (Extern.Bytes.bytesOf (.slice A L.length c)).run P w = .ok (bstr L) w := by
  rcases hA with ⟨rfl, rfl⟩ | ⟨b, o, rfl⟩
  · cases L with
    | nil => rfl
    | cons x r => obtain ⟨b, o, h, _⟩ := hL 0 x rfl; cases h
  · have h := Lib.run_loadBytesX (P := P) w (L.map Int.ofNat) ⟨b, o, none⟩ .empty (fun j x hj => by
      rw [List.getElem?_map] at hj
      obtain ⟨y, hy, rfl⟩ := Option.map_eq_some_iff.1 hj
      exact lies_cells hL j _ (by rw [List.getElem?_map, hy]; rfl))
    rw [List.length_map] at h
    show (Extern.Bytes.loadBytes ⟨b, o, none⟩ L.length .empty).run P w = _
    rw [h]
    congr 1
    apply ByteArray.ext
    simp [bstr, strOfNums, Lib.bytesOf]

theorem run_compare {P : Program} (w : World) {A B : Option Addr} {c d : Nat} {L M : List Nat} (hL : Lies w B8 A L) (hM : Lies w B8 B M) (hA : Tidy A c) (hB : Tidy B d) (hl : ∀ x ∈ L, x < 2 ^ 8) (hm : ∀ x ∈ M, x < 2 ^ 8) :
    (Extern.BytealgCompare.compare #[.slice A L.length c, .slice B M.length d]).run P w = .ok (.int .i64 (lcmp L M)) w := by
  show Sem.run P (do pure (goInt (Extern.BytealgCompare.cmp (← Extern.Bytes.bytesOf (.slice A L.length c)) (← Extern.Bytes.bytesOf (.slice B M.length d))))) w = _
  simp only [Sem.run_bind, Sem.run_pure, run_bytesOf w hL hA, run_bytesOf w hM hB, Result.andThen, cmp_bstr hl hm]
  rfl

end Go.Proofs.Ytkjelakdejbolaa
