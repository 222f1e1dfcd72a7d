import Derived.Test.YtlbnngolcoefdaaDoorSp10
import Derived.Test.YtlbnngolcoefdaaDoorSp6b
import Derived.Test.YtlbnngolcoefdaaDoorJMath
import Derived.Test.YtlbnngolcoefdaaDoorSp5
/- SparseOk: what the specification asks (the list that is read gives the same sparse list again) and what the program asks are the same. -/
namespace Go.Proofs.YtlbnngolcoefdaaDoor

theorem pl_low {P M K : Int} {Ws : List Nat} (hok : okP P M K Ws = true) : ∀ y ∈ plV P M K Ws, 0 ≤ y ∧ y < 2 ^ P.toNat := by
  intro y hy
  unfold plV at hy
  rw [if_pos hok] at hy
  unfold unpack at hy
  obtain ⟨i, _, rfl⟩ := List.mem_map.1 hy
  have h := Nat.mod_lt (val (bitsOf M.toNat Ws) / 2 ^ (i * P.toNat)) (Nat.two_pow_pos P.toNat)
  constructor
  · omega
  · rw [← pow_int]
    exact Int.ofNat_lt.2 (Nat.mod_lt _ (Nat.two_pow_pos _))
theorem pl_count {P M K : Int} {Ws : List Nat} (hok : okP P M K Ws = true) : ((plV P M K Ws).length : Int) = M := by
  obtain ⟨wd, n, m, rfl, rfl, rfl, _⟩ := okP_nat hok
  unfold plV
  rw [if_pos hok, unpack_len, Int.toNat_natCast]

/-- The low parts are packed to the words again. -/
theorem pl_packed {P M K : Int} {Ws : List Nat} (hok : okP P M K Ws = true) (hw : ∀ x ∈ Ws, x < 2 ^ 64) (hfit : fitsB M P = true) : poOk (plV P M K Ws) P = true ∧ poP (plV P M K Ws) P = P ∧ poN (plV P M K Ws) P = M ∧ poM (plV P M K Ws) P = K ∧ poW (plV P M K Ws) P = Ws := by
  have hc := pl_count hok
  have hlow := pl_low hok
  have hp : poOk (plV P M K Ws) P = true := by
    unfold poOk
    rw [hc, hfit, Bool.true_and, List.all_eq_true]
    intro y hy
    exact decide_eq_true (hlow y hy)
  refine ⟨hp, if_pos hp, ?_, ?_, ?_⟩
  · unfold poN; rw [if_pos hp, hc]
  · unfold poM; rw [if_pos hp, hc]; exact ((okP_fits hok).2.1).symm
  · obtain ⟨wd, n, m, rfl, rfl, rfl, hm, _, _, _, hb, hl, ht⟩ := okP_nat hok
    unfold poW
    rw [if_pos hp, Int.toNat_natCast]
    unfold plV
    rw [if_pos hok, Int.toNat_natCast, Int.toNat_natCast, Int.toNat_natCast, unpack_len, packNum_unpack, ← hm, Nat.mod_eq_of_lt (by have := val_lt (bitsOf m Ws) (bitsOf_bits m Ws); rwa [bitsOf_len] at this), ← hl]
    exact (valid_digits m Ws hl hw ht).symm

theorem hb_ok (B : List Int) (wd k m : Nat) (hm : m ≤ 5000) : okBits (hb B wd k m) = true := (okBits_iff _).2 ⟨by rw [hb_len]; exact hm, hb_bits B wd k m⟩

/-- What the specification asks. -/
def okT (V N P M K : Int) (Ws : List Nat) (H : Int) (Vs : List Nat) : Bool :=
  okP P M K Ws && (okB H Vs && (decide (P ≤ 20) && (spOk (splV P M K Ws H Vs) V && (decide (spN (splV P M K Ws H Vs) V = N) && (decide (spP (splV P M K Ws H Vs) V = P) && (decide (spM (splV P M K Ws H Vs) V = M) &&
    (decide (spK (splV P M K Ws H Vs) V = K ∧ spW (splV P M K Ws H Vs) V = Ws) && decide (spH (splV P M K Ws H Vs) V = H ∧ spV (splV P M K Ws H Vs) V = Vs))))))))

theorem okS_okT {V N P M K : Int} {Ws : List Nat} {H : Int} {Vs : List Nat} (hw : ∀ x ∈ Ws, x < 2 ^ 64) (hw' : ∀ x ∈ Vs, x < 2 ^ 64) (h : okS V N P M K Ws H Vs = true) : okT V N P M K Ws H Vs = true := by
  unfold okS at h
  simp only [Bool.and_eq_true, decide_eq_true_iff] at h
  obtain ⟨⟨hN, hf⟩, hp, hob, ⟨rfl, hP⟩, ⟨hH, hc⟩, hs⟩ := h
  obtain ⟨n, rfl⟩ := Int.eq_ofNat_of_zero_le hN
  rw [Int.toNat_natCast] at hf hP hH
  obtain ⟨v, rfl, hv, hfit, hhi, hn5⟩ := spFits_nat hf
  rw [Int.toNat_natCast] at hP hH
  subst hP hH
  rw [Int.toNat_natCast] at hc
  have hcn : cnt Vs 1 (hiV n v) = n := by omega
  have hlow := pl_low hp
  have hlen := pl_count hp
  rw [Int.toNat_natCast] at hlow
  obtain ⟨_, q1, q2, q3, q4⟩ := pl_packed hp hw hfit
  have hlN : (plV (lowV n v : Int) n K Ws).length = n := by omega
  have hBl : (splV (lowV n v : Int) n K Ws (hiV n v : Int) Vs).length = n := by
    unfold splV
    rw [spl_len, Int.toNat_natCast]
    omega
  have hrem : rems (lowV n v) (splV (lowV n v : Int) n K Ws (hiV n v : Int) Vs) = plV (lowV n v : Int) n K Ws := by
    unfold splV rems
    rw [Int.toNat_natCast, Int.toNat_natCast]
    refine spl_rems _ _ _ hlow _ ?_
    rw [spl_len]
    omega
  have hhb : hb (splV (lowV n v : Int) n K Ws (hiV n v : Int) Vs) (lowV n v) n (hiV n v) = bitsOf (hiV n v) Vs := by
    have h1 := spl_hb (lowV n v) (plV (lowV n v : Int) n K Ws) Vs hlow (hiV n v) (by omega)
    unfold splV at hBl ⊢
    rw [Int.toNat_natCast, Int.toNat_natCast] at hBl ⊢
    rw [hBl] at h1
    exact h1
  have hok : spOk (splV (lowV n v : Int) n K Ws (hiV n v : Int) Vs) v = true := by
    unfold spOk
    rw [hBl, hf, hs]
    rfl
  have hl20 := lowV_le n v hv
  obtain ⟨hN2, e2, _, hl2, ht2⟩ := okB_nat hob
  have e3 : hN2 = hiV n v := by omega
  subst e3
  unfold okT
  simp only [Bool.and_eq_true, decide_eq_true_iff]
  unfold spN spP spM spK spW spH spV spHl spWd
  simp only [hok, if_true, hBl, Int.toNat_natCast, hrem, hhb]
  refine ⟨hp, hob, by omega, trivial, trivial, q1, q2, ⟨q3, q4⟩, ?_, ?_⟩
  · unfold resN
    rw [if_pos ((okBits_iff _).2 ⟨by rw [bitsOf_len]; omega, bitsOf_bits _ _⟩), bitsOf_len]
  · unfold resW
    rw [if_pos ((okBits_iff _).2 ⟨by rw [bitsOf_len]; omega, bitsOf_bits _ _⟩)]
    exact (words_back _ _ hl2 hw').2 ht2

theorem okT_okS {V N P M K : Int} {Ws : List Nat} {H : Int} {Vs : List Nat} (h : okT V N P M K Ws H Vs = true) : okS V N P M K Ws H Vs = true := by
  unfold okT at h
  simp only [Bool.and_eq_true, decide_eq_true_iff] at h
  obtain ⟨hp, hob, hP20, hok, hN, hP, hM, _, hH, hV⟩ := h
  have hlow := pl_low hp
  have hlen := pl_count hp
  have hsl : (splV P M K Ws H Vs).length ≤ (plV P M K Ws).length := by unfold splV; rw [spl_len]; omega
  have h0 := hok
  unfold spOk at h0
  rw [Bool.and_eq_true] at h0
  obtain ⟨hf, hs⟩ := h0
  obtain ⟨v, rfl, hv, hfit, hhi, hn5⟩ := spFits_nat hf
  unfold spN at hN
  unfold spP spWd at hP
  unfold spM spWd at hM
  unfold spH spHl spWd at hH
  unfold spV spHl spWd at hV
  rw [if_pos hok] at hN hP hM hH hV
  rw [Int.toNat_natCast] at hP hM hH hV
  have hpo : poOk (rems (lowV (splV P M K Ws H Vs).length v) (splV P M K Ws H Vs)) (lowV (splV P M K Ws H Vs).length v) = true := by rw [rems_ok]; exact hfit
  unfold poP at hP
  unfold poN at hM
  rw [if_pos hpo] at hP hM
  rw [rems_len] at hM
  have hhb := hb_ok (splV P M K Ws H Vs) (lowV (splV P M K Ws H Vs).length v) (splV P M K Ws H Vs).length (hiV (splV P M K Ws H Vs).length v) hhi
  unfold resN at hH
  unfold resW at hV
  rw [if_pos hhb, hb_len] at hH
  rw [if_pos hhb] at hV
  have hbw := bits_words (hb (splV P M K Ws H Vs) (lowV (splV P M K Ws H Vs).length v) (splV P M K Ws H Vs).length (hiV (splV P M K Ws H Vs).length v)) (hb_bits _ _ _ _)
  rw [hb_len, hV] at hbw
  have eP : P.toNat = lowV (splV P M K Ws H Vs).length v := by omega
  have eH : H.toNat = hiV (splV P M K Ws H Vs).length v := by omega
  have hcnt : cnt Vs 1 H.toNat = (plV P M K Ws).length := by
    refine spl_cnt P.toNat (plV P M K Ws) Vs hlow H.toNat ?_ ?_
    · show bitsOf H.toNat Vs = hb (splV P M K Ws H Vs) P.toNat (splV P M K Ws H Vs).length H.toNat
      rw [eH, eP]
      exact hbw
    · show (splV P M K Ws H Vs).length = (plV P M K Ws).length
      omega
  have eN : N.toNat = (splV P M K Ws H Vs).length := by omega
  unfold okS
  rw [eN, Int.toNat_natCast]
  simp only [Bool.and_eq_true, decide_eq_true_iff]
  exact ⟨⟨by omega, hf⟩, hp, hob, ⟨by omega, by omega⟩, ⟨by omega, by omega⟩, hs⟩

theorem okT_eq {V N P M K : Int} {Ws : List Nat} {H : Int} {Vs : List Nat} (hw : ∀ x ∈ Ws, x < 2 ^ 64) (hw' : ∀ x ∈ Vs, x < 2 ^ 64) : okT V N P M K Ws H Vs = okS V N P M K Ws H Vs := by
  cases h : okS V N P M K Ws H Vs
  · cases h' : okT V N P M K Ws H Vs
    · rfl
    · rw [okT_okS h'] at h
      cases h
  · exact okS_okT hw hw' h

end Go.Proofs.YtlbnngolcoefdaaDoor

/- SparseOf: the specification's and the program's answers are the same. -/
namespace Go.Proofs.YtlbnngolcoefdaaDoor
open Go.RowKit

theorem spW_len (B : List Int) (u : Int) : (spW B u).length ≤ 79 := by
  unfold spW
  split
  · exact poW_len _ _
  · simp
theorem spV_len (B : List Int) (u : Int) : (spV B u).length ≤ 79 := by
  unfold spV
  split
  · exact resW_len _
  · simp

theorem sparse_both (B : List Int) (u : Int) (hl : B.length ≤ 17592186044416) : ∃ (V N P M K : Int) (Ws : List Nat) (H : Int) (Vs : List Nat) (ok : Bool),
    (∀ A c w, Lies w I A B → Calls Tryd.prog 12 #[.slice A B.length c, .int .i64 u] w (NewSparse w V N P M K Ws H Vs ok)) ∧
    (∀ A c w, Lies w I A B → Calls Tryd.prog 13 #[.slice A B.length c, .int .i64 u] w (NewSparse w V N P M K Ws H Vs ok)) ∧ Ws.length ≤ 79 ∧ Vs.length ≤ 79 :=
  ⟨_, _, _, _, _, _, _, _, _, fun A c w h => specSparse_any A c B u w h hl, fun A c w h => implSparse_any A c B u w h hl, spW_len B u, spV_len B u⟩

end Go.Proofs.YtlbnngolcoefdaaDoor
