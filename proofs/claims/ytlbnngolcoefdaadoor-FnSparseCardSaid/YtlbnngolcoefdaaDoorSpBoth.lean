import Derived.Test.YtlbnngolcoefdaaDoorSp12
import Derived.Test.YtlbnngolcoefdaaDoorRankMath
import Derived.Test.YtlbnngolcoefdaaDoorFlipMath
import Derived.Test.YtlbnngolcoefdaaDoorPackBk1
import Derived.Test.YtlbnngolcoefdaaDoorSp10
import Derived.Test.YtlbnngolcoefdaaDoorSp6b
import Derived.Test.YtlbnngolcoefdaaDoorSp5
/- Plain mathematics: the bits of a joined and of a flipped vector, counted. -/
namespace Go.Proofs.YtlbnngolcoefdaaDoor

theorem val_bitJ (B : List Int) (hB : IsBits B) (i : Nat) (b : Int) (h : B[i]? = some b) : val B / 2 ^ i % 2 = b.toNat := by
  obtain ⟨hi, hb⟩ := List.getElem?_eq_some_iff.1 h
  have e1 : val B = val (B.take i) + 2 ^ i * val (B.drop i) := by
    conv => lhs; rw [← List.take_append_drop i B]
    rw [val_append, List.length_take, Nat.min_eq_left (by omega)]
  have h1 : val (B.take i) < 2 ^ i := by
    have := val_lt _ (hB.take i)
    rwa [List.length_take, Nat.min_eq_left (by omega)] at this
  rw [e1, Nat.add_mul_div_left _ _ (Nat.two_pow_pos _), Nat.div_eq_of_lt h1, Nat.zero_add, List.drop_eq_getElem_cons hi, hb, val]
  have := hB b (List.mem_of_getElem? h)
  omega
theorem bitN_words (B : List Int) (hB : IsBits B) (i : Nat) (b : Int) (h : B[i]? = some b) : (bitN (wordsOf B) i : Int) = b := by
  have hi := (List.getElem?_eq_some_iff.1 h).1
  rw [wordsOf_digits B hB, digits_bit _ _ _ (by omega), val_bitJ B hB i b h]
  have := hB b (List.mem_of_getElem? h)
  omega
theorem bits_words (B : List Int) (hB : IsBits B) : bitsOf B.length (wordsOf B) = B := by
  apply List.ext_getElem?
  intro i
  by_cases hi : i < B.length
  · obtain ⟨b, hb⟩ : ∃ b, B[i]? = some b := ⟨_, List.getElem?_eq_getElem hi⟩
    rw [bitsOf_get _ _ _ hi, hb, bitN_words B hB i b hb]
  · rw [List.getElem?_eq_none (by rw [bitsOf_len]; omega), List.getElem?_eq_none (by omega)]
theorem ok_words (n : Nat) (B : List Int) (hB : IsBits B) (hl : B.length = n) (hn : n ≤ 5000) : okB n (wordsOf B) = true := by
  subst hl
  unfold okB
  rw [Int.toNat_natCast, (words_back B.length (wordsOf B) (wordsOf_len B) (wordsOf_lt B hB)).1 (by rw [bits_words B hB]), decide_eq_true ⟨by omega, by omega, wordsOf_len B⟩]
  rfl

theorem joined_bits (n m : Nat) (L K : List Nat) : IsBits (bitsOf n L ++ bitsOf m K) := by
  intro b hb
  rcases List.mem_append.1 hb with h | h
  · exact bitsOf_bits n L b h
  · exact bitsOf_bits m K b h
theorem cnt_join1 (n m : Nat) (L K : List Nat) (b : Int) : ∀ k, k ≤ n → cnt (wordsOf (bitsOf n L ++ bitsOf m K)) b k = cnt L b k
  | 0, _ => rfl
  | k + 1, h => by
    have e := bitN_words _ (joined_bits n m L K) k (bitN L k : Int) (by rw [List.getElem?_append_left (by rw [bitsOf_len]; omega)]; exact bitsOf_get _ _ _ (by omega))
    rw [cnt, cnt, cnt_join1 n m L K b k (by omega), e]
theorem cnt_join2 (n m : Nat) (L K : List Nat) (b : Int) : ∀ k, k ≤ m → cnt (wordsOf (bitsOf n L ++ bitsOf m K)) b (n + k) = cnt L b n + cnt K b k
  | 0, _ => cnt_join1 n m L K b n (Nat.le_refl _)
  | k + 1, h => by
    have e := bitN_words _ (joined_bits n m L K) (n + k) (bitN K k : Int) (by rw [List.getElem?_append_right (by rw [bitsOf_len]; omega), bitsOf_len, Nat.add_sub_cancel_left]; exact bitsOf_get _ _ _ (by omega))
    rw [← Nat.add_assoc, cnt, cnt, cnt_join2 n m L K b k (by omega), e, Nat.add_assoc]

theorem flip_ok (n : Nat) (L : List Nat) (hl : L.length = (n + 63) / 64) (hw : ∀ x ∈ L, x < 2 ^ 64) (hn : n ≤ 5000) : okB n (flipW n L) = true ∧ ∀ x ∈ flipW n L, x < 2 ^ 64 := by
  rw [flipW_words n L hl hw]
  exact ⟨ok_words n _ (flipped_bits (bitsOf_bits n L)) (by simp [flipped, bitsOf_len]) hn, wordsOf_lt _ (flipped_bits (bitsOf_bits n L))⟩
theorem flip_twice (n : Nat) (L : List Nat) (hl : L.length = (n + 63) / 64) (hw : ∀ x ∈ L, x < 2 ^ 64) (hn : n ≤ 5000) (ht : tailB n L = true) : flipW n (flipW n L) = L := by
  rw [flipW_words n (flipW n L) (by rw [flipW_len]; exact hl) (flip_ok n L hl hw hn).2]
  have hf : (flipped (bitsOf n L)).length = n := by simp [flipped, bitsOf_len]
  have e : bitsOf n (flipW n L) = flipped (bitsOf n L) := by
    have h := bits_words _ (flipped_bits (bitsOf_bits n L))
    rw [hf] at h
    rw [flipW_words n L hl hw]
    exact h
  have e2 : flipped (flipped (bitsOf n L)) = bitsOf n L := by
    unfold flipped
    rw [List.map_map]
    conv => rhs; rw [← List.map_id (bitsOf n L)]
    apply List.map_congr_left
    intro a _
    simp
    omega
  rw [e, e2]
  exact (words_back n L hl hw).2 ht

/-- What the law asks of two vectors that can be joined. -/
theorem join_law {N M : Int} {L K : List Nat} (h : jOk N L M K = true) : ∃ n m t : Nat, N = n ∧ M = m ∧ n + m = t ∧ t ≤ 5000 ∧ jN N L M K = t ∧ okB t (jW N L M K) = true ∧ (jW N L M K).length = (t + 63) / 64 ∧ (∀ x ∈ jW N L M K, x < 2 ^ 64) ∧
    (∀ i : Nat, i ≤ m → rankV t (jW N L M K) 1 ((n : Int) + (i : Int)) = rankV n L 1 n + rankV m K 1 i ∧ rankV t (flipW t (jW N L M K)) 0 ((n : Int) + (i : Int)) = rankV t (jW N L M K) 1 ((n : Int) + (i : Int)) ∧ 0 ≤ rankV n L 1 n ∧ rankV n L 1 n ≤ 5000 ∧ 0 ≤ rankV m K 1 i ∧ rankV m K 1 i ≤ 5000) ∧
    okB t (flipW t (jW N L M K)) = true ∧ (∀ x ∈ flipW t (jW N L M K), x < 2 ^ 64) ∧ flipW t (flipW t (jW N L M K)) = jW N L M K := by
  have h' := h
  unfold jOk at h'
  simp only [Bool.and_eq_true, decide_eq_true_eq] at h'
  obtain ⟨⟨hL, hK⟩, hs⟩ := h'
  obtain ⟨n, rfl, hn, hl, _⟩ := okB_nat hL
  obtain ⟨m, rfl, hm, hk, _⟩ := okB_nat hK
  have eW : jW (n : Int) L (m : Int) K = wordsOf (bitsOf n L ++ bitsOf m K) := by unfold jW; rw [if_pos h, Int.toNat_natCast, Int.toNat_natCast]
  have eN : jN (n : Int) L (m : Int) K = ((n + m : Nat) : Int) := by unfold jN; rw [if_pos h]; simp
  have hB := joined_bits n m L K
  have hBl : (bitsOf n L ++ bitsOf m K).length = n + m := by simp [bitsOf_len]
  have hok := ok_words (n + m) _ hB hBl (by omega)
  obtain ⟨t, ht⟩ : ∃ t, n + m = t := ⟨_, rfl⟩
  have c1 := cnt_join2 n m L K 1
  have hwl := wordsOf_len (bitsOf n L ++ bitsOf m K)
  have hwb := wordsOf_lt _ hB
  rw [eW, eN]
  rw [hBl] at hwl
  rw [ht] at hok hwl ⊢
  generalize wordsOf (bitsOf n L ++ bitsOf m K) = J at *
  obtain ⟨t', et, ht5, _, htl⟩ := okB_nat hok
  have : t' = t := by omega
  subst this
  obtain ⟨f1, f2⟩ := flip_ok t' J hwl hwb (by omega)
  refine ⟨n, m, t', rfl, rfl, ht, by omega, rfl, hok, hwl, hwb, fun i hi => ?_, f1, f2, flip_twice t' J hwl hwb (by omega) htl⟩
  have r1 : rankV (t' : Int) J 1 ((n : Int) + (i : Int)) = (cnt J 1 (n + i) : Int) := by
    unfold rankV
    rw [if_pos ⟨hok, .inr rfl, by omega, by omega⟩]
    congr 2
  have r2 : rankV (t' : Int) (flipW t' J) 0 ((n : Int) + (i : Int)) = (cnt (flipW t' J) 0 (n + i) : Int) := by
    unfold rankV
    rw [if_pos ⟨f1, .inl rfl, by omega, by omega⟩]
    congr 2
  have r3 : rankV (n : Int) L 1 (n : Int) = (cnt L 1 n : Int) := by
    unfold rankV
    rw [if_pos ⟨hL, .inr rfl, by omega, by omega⟩, Int.toNat_natCast]
  have r4 : rankV (m : Int) K 1 (i : Int) = (cnt K 1 i : Int) := by
    unfold rankV
    rw [if_pos ⟨hK, .inr rfl, by omega, by omega⟩, Int.toNat_natCast]
  have s1 := cnt_sum J (n + i)
  have s2 := cnt_sum (flipW t' J) (n + i)
  have s3 := cnt_flip t' J hwl hwb (n + i) (by omega)
  have s4 := c1 i hi
  have b1 := cnt_le L 1 n
  have b2 := cnt_le K 1 i
  rw [r1, r2, r3, r4]
  omega

end Go.Proofs.YtlbnngolcoefdaaDoor

/- SparseOk: what the specification asks (the list that is read gives the same sparse list again) and what the program asks are the same. -/
namespace Go.Proofs.YtlbnngolcoefdaaDoor

theorem pl_low {P M K : Int} {Ws : List Nat} (hok : okP P M K Ws = true) : ∀ y ∈ plV P M K Ws, 0 ≤ y ∧ y < 2 ^ P.toNat := by
  intro y hy
  unfold plV at hy
  rw [if_pos hok] at hy
  unfold unpack at hy
  obtain ⟨i, _, rfl⟩ := List.mem_map.1 hy
  have h := Nat.mod_lt (val (bitsOf M.toNat Ws) / 2 ^ (i * P.toNat)) (Nat.two_pow_pos P.toNat)
  constructor
  · omega
  · rw [← pow_int]
    exact Int.ofNat_lt.2 (Nat.mod_lt _ (Nat.two_pow_pos _))
theorem pl_count {P M K : Int} {Ws : List Nat} (hok : okP P M K Ws = true) : ((plV P M K Ws).length : Int) = M := by
  obtain ⟨wd, n, m, rfl, rfl, rfl, _⟩ := okP_nat hok
  unfold plV
  rw [if_pos hok, unpack_len, Int.toNat_natCast]

/-- The low parts are packed to the words again. -/
theorem pl_packed {P M K : Int} {Ws : List Nat} (hok : okP P M K Ws = true) (hw : ∀ x ∈ Ws, x < 2 ^ 64) (hfit : fitsB M P = true) : poOk (plV P M K Ws) P = true ∧ poP (plV P M K Ws) P = P ∧ poN (plV P M K Ws) P = M ∧ poM (plV P M K Ws) P = K ∧ poW (plV P M K Ws) P = Ws := by
  have hc := pl_count hok
  have hlow := pl_low hok
  have hp : poOk (plV P M K Ws) P = true := by
    unfold poOk
    rw [hc, hfit, Bool.true_and, List.all_eq_true]
    intro y hy
    exact decide_eq_true (hlow y hy)
  refine ⟨hp, if_pos hp, ?_, ?_, ?_⟩
  · unfold poN; rw [if_pos hp, hc]
  · unfold poM; rw [if_pos hp, hc]; exact ((okP_fits hok).2.1).symm
  · obtain ⟨wd, n, m, rfl, rfl, rfl, hm, _, _, _, hb, hl, ht⟩ := okP_nat hok
    unfold poW
    rw [if_pos hp, Int.toNat_natCast]
    unfold plV
    rw [if_pos hok, Int.toNat_natCast, Int.toNat_natCast, Int.toNat_natCast, unpack_len, packNum_unpack, ← hm, Nat.mod_eq_of_lt (by have := val_lt (bitsOf m Ws) (bitsOf_bits m Ws); rwa [bitsOf_len] at this), ← hl]
    exact (valid_digits m Ws hl hw ht).symm

theorem hb_ok (B : List Int) (wd k m : Nat) (hm : m ≤ 5000) : okBits (hb B wd k m) = true := (okBits_iff _).2 ⟨by rw [hb_len]; exact hm, hb_bits B wd k m⟩

/-- What the specification asks. -/
def okT (V N P M K : Int) (Ws : List Nat) (H : Int) (Vs : List Nat) : Bool :=
  okP P M K Ws && (okB H Vs && (decide (P ≤ 20) && (spOk (splV P M K Ws H Vs) V && (decide (spN (splV P M K Ws H Vs) V = N) && (decide (spP (splV P M K Ws H Vs) V = P) && (decide (spM (splV P M K Ws H Vs) V = M) &&
    (decide (spK (splV P M K Ws H Vs) V = K ∧ spW (splV P M K Ws H Vs) V = Ws) && decide (spH (splV P M K Ws H Vs) V = H ∧ spV (splV P M K Ws H Vs) V = Vs))))))))

theorem okS_okT {V N P M K : Int} {Ws : List Nat} {H : Int} {Vs : List Nat} (hw : ∀ x ∈ Ws, x < 2 ^ 64) (hw' : ∀ x ∈ Vs, x < 2 ^ 64) (h : okS V N P M K Ws H Vs = true) : okT V N P M K Ws H Vs = true := by
  unfold okS at h
  simp only [Bool.and_eq_true, decide_eq_true_iff] at h
  obtain ⟨⟨hN, hf⟩, hp, hob, ⟨rfl, hP⟩, ⟨hH, hc⟩, hs⟩ := h
  obtain ⟨n, rfl⟩ := Int.eq_ofNat_of_zero_le hN
  rw [Int.toNat_natCast] at hf hP hH
  obtain ⟨v, rfl, hv, hfit, hhi, hn5⟩ := spFits_nat hf
  rw [Int.toNat_natCast] at hP hH
  subst hP hH
  rw [Int.toNat_natCast] at hc
  have hcn : cnt Vs 1 (hiV n v) = n := by omega
  have hlow := pl_low hp
  have hlen := pl_count hp
  rw [Int.toNat_natCast] at hlow
  obtain ⟨_, q1, q2, q3, q4⟩ := pl_packed hp hw hfit
  have hlN : (plV (lowV n v : Int) n K Ws).length = n := by omega
  have hBl : (splV (lowV n v : Int) n K Ws (hiV n v : Int) Vs).length = n := by
    unfold splV
    rw [spl_len, Int.toNat_natCast]
    omega
  have hrem : rems (lowV n v) (splV (lowV n v : Int) n K Ws (hiV n v : Int) Vs) = plV (lowV n v : Int) n K Ws := by
    unfold splV rems
    rw [Int.toNat_natCast, Int.toNat_natCast]
    refine spl_rems _ _ _ hlow _ ?_
    rw [spl_len]
    omega
  have hhb : hb (splV (lowV n v : Int) n K Ws (hiV n v : Int) Vs) (lowV n v) n (hiV n v) = bitsOf (hiV n v) Vs := by
    have h1 := spl_hb (lowV n v) (plV (lowV n v : Int) n K Ws) Vs hlow (hiV n v) (by omega)
    unfold splV at hBl ⊢
    rw [Int.toNat_natCast, Int.toNat_natCast] at hBl ⊢
    rw [hBl] at h1
    exact h1
  have hok : spOk (splV (lowV n v : Int) n K Ws (hiV n v : Int) Vs) v = true := by
    unfold spOk
    rw [hBl, hf, hs]
    rfl
  have hl20 := lowV_le n v hv
  obtain ⟨hN2, e2, _, hl2, ht2⟩ := okB_nat hob
  have e3 : hN2 = hiV n v := by omega
  subst e3
  unfold okT
  simp only [Bool.and_eq_true, decide_eq_true_iff]
  unfold spN spP spM spK spW spH spV spHl spWd
  simp only [hok, if_true, hBl, Int.toNat_natCast, hrem, hhb]
  refine ⟨hp, hob, by omega, trivial, trivial, q1, q2, ⟨q3, q4⟩, ?_, ?_⟩
  · unfold resN
    rw [if_pos ((okBits_iff _).2 ⟨by rw [bitsOf_len]; omega, bitsOf_bits _ _⟩), bitsOf_len]
  · unfold resW
    rw [if_pos ((okBits_iff _).2 ⟨by rw [bitsOf_len]; omega, bitsOf_bits _ _⟩)]
    exact (words_back _ _ hl2 hw').2 ht2

theorem okT_okS {V N P M K : Int} {Ws : List Nat} {H : Int} {Vs : List Nat} (h : okT V N P M K Ws H Vs = true) : okS V N P M K Ws H Vs = true := by
  unfold okT at h
  simp only [Bool.and_eq_true, decide_eq_true_iff] at h
  obtain ⟨hp, hob, hP20, hok, hN, hP, hM, _, hH, hV⟩ := h
  have hlow := pl_low hp
  have hlen := pl_count hp
  have hsl : (splV P M K Ws H Vs).length ≤ (plV P M K Ws).length := by unfold splV; rw [spl_len]; omega
  have h0 := hok
  unfold spOk at h0
  rw [Bool.and_eq_true] at h0
  obtain ⟨hf, hs⟩ := h0
  obtain ⟨v, rfl, hv, hfit, hhi, hn5⟩ := spFits_nat hf
  unfold spN at hN
  unfold spP spWd at hP
  unfold spM spWd at hM
  unfold spH spHl spWd at hH
  unfold spV spHl spWd at hV
  rw [if_pos hok] at hN hP hM hH hV
  rw [Int.toNat_natCast] at hP hM hH hV
  have hpo : poOk (rems (lowV (splV P M K Ws H Vs).length v) (splV P M K Ws H Vs)) (lowV (splV P M K Ws H Vs).length v) = true := by rw [rems_ok]; exact hfit
  unfold poP at hP
  unfold poN at hM
  rw [if_pos hpo] at hP hM
  rw [rems_len] at hM
  have hhb := hb_ok (splV P M K Ws H Vs) (lowV (splV P M K Ws H Vs).length v) (splV P M K Ws H Vs).length (hiV (splV P M K Ws H Vs).length v) hhi
  unfold resN at hH
  unfold resW at hV
  rw [if_pos hhb, hb_len] at hH
  rw [if_pos hhb] at hV
  have hbw := bits_words (hb (splV P M K Ws H Vs) (lowV (splV P M K Ws H Vs).length v) (splV P M K Ws H Vs).length (hiV (splV P M K Ws H Vs).length v)) (hb_bits _ _ _ _)
  rw [hb_len, hV] at hbw
  have eP : P.toNat = lowV (splV P M K Ws H Vs).length v := by omega
  have eH : H.toNat = hiV (splV P M K Ws H Vs).length v := by omega
  have hcnt : cnt Vs 1 H.toNat = (plV P M K Ws).length := by
    refine spl_cnt P.toNat (plV P M K Ws) Vs hlow H.toNat ?_ ?_
    · show bitsOf H.toNat Vs = hb (splV P M K Ws H Vs) P.toNat (splV P M K Ws H Vs).length H.toNat
      rw [eH, eP]
      exact hbw
    · show (splV P M K Ws H Vs).length = (plV P M K Ws).length
      omega
  have eN : N.toNat = (splV P M K Ws H Vs).length := by omega
  unfold okS
  rw [eN, Int.toNat_natCast]
  simp only [Bool.and_eq_true, decide_eq_true_iff]
  exact ⟨⟨by omega, hf⟩, hp, hob, ⟨by omega, by omega⟩, ⟨by omega, by omega⟩, hs⟩

theorem okT_eq {V N P M K : Int} {Ws : List Nat} {H : Int} {Vs : List Nat} (hw : ∀ x ∈ Ws, x < 2 ^ 64) (hw' : ∀ x ∈ Vs, x < 2 ^ 64) : okT V N P M K Ws H Vs = okS V N P M K Ws H Vs := by
  cases h : okS V N P M K Ws H Vs
  · cases h' : okT V N P M K Ws H Vs
    · rfl
    · rw [okT_okS h'] at h
      cases h
  · exact okS_okT hw hw' h

end Go.Proofs.YtlbnngolcoefdaaDoor

/- SparseOf: the specification's and the program's answers are the same. -/
namespace Go.Proofs.YtlbnngolcoefdaaDoor
open Go.RowKit

theorem spW_len (B : List Int) (u : Int) : (spW B u).length ≤ 79 := by
  unfold spW
  split
  · exact poW_len _ _
  · simp
theorem spV_len (B : List Int) (u : Int) : (spV B u).length ≤ 79 := by
  unfold spV
  split
  · exact resW_len _
  · simp

theorem sparse_both (B : List Int) (u : Int) (hl : B.length ≤ 17592186044416) : ∃ (V N P M K : Int) (Ws : List Nat) (H : Int) (Vs : List Nat) (ok : Bool),
    (∀ A c w, Lies w I A B → Calls Tryd.prog 12 #[.slice A B.length c, .int .i64 u] w (NewSparse w V N P M K Ws H Vs ok)) ∧
    (∀ A c w, Lies w I A B → Calls Tryd.prog 13 #[.slice A B.length c, .int .i64 u] w (NewSparse w V N P M K Ws H Vs ok)) ∧ Ws.length ≤ 79 ∧ Vs.length ≤ 79 :=
  ⟨_, _, _, _, _, _, _, _, _, fun A c w h => specSparse_any A c B u w h hl, fun A c w h => implSparse_any A c B u w h hl, spW_len B u, spV_len B u⟩

end Go.Proofs.YtlbnngolcoefdaaDoor
