/- What a list's own wave answers. Nothing of the program stands here but in what is imported. -/
import Derived.Test.YtoehgcakfblblaaDoorWvOf1
import Derived.Test.YtoehgcakfblblaaDoorWv6
import Derived.Test.YtoehgcakfblblaaDoorWvSelM
namespace Go.Proofs.YtoehgcakfblblaaDoor

theorem levV_get (X : List Int) (k : Nat) (h : k < 9) : (levV X)[k]? = some ((X.length : Int), wordsOf (wrow X k)) := by
  rw [levV, List.getElem?_map, wlev_get X k h]; rfl
theorem wLs_levV (X : List Int) : wLs (levV X) = wlev X := by
  rw [wLs, levV, List.map_map]
  exact List.map_id _
theorem wvX_ok {X : List Int} (h : okW X = true) : wvOk X.length (wzer X) (levV X) = true := by
  have hx := (okW_iff X).1 h
  have hl : (levV X).length = 9 := by rw [levV, List.length_map, wlev_len]
  refine (wvOk_iff _ _ _).2 ⟨⟨by omega, by omega, hl, wzer_len X⟩, fun k v z hv hz => ?_⟩
  have hk : k < 9 := by
    have := (List.getElem?_eq_some_iff.1 hv).1
    omega
  rw [levV_get X k hk] at hv
  rw [wzer_get X k hk] at hz
  cases hv
  cases hz
  unfold lvB
  have h1 : okB (X.length : Int) (wordsOf (wrow X k)) = true := by
    have := wv_ok X.length (wrow X k) (wrow_bits X k) (wrow_len X k) (by omega)
    exact this
  have h2 := zer_cnt X k
  simp only [h1, Int.toNat_natCast, h2, decide_true, Bool.and_self]
theorem wvX_B {X : List Int} (h : okW X = true) : wB X.length (levV X) = X := by
  rw [wB, wLs_levV, Int.toNat_natCast]
  exact list_back X ((okW_iff X).1 h).2
theorem wvX_list {X : List Int} (h : okW X = true) : wList X.length (wzer X) (levV X) = X := by
  rw [wList, if_pos (wvX_ok h), wvX_B h]
theorem wvX_at {X : List Int} (h : okW X = true) {i : Nat} {x : Int} (hx : X[i]? = some x) : wAt X.length (wzer X) (levV X) i = x := by
  have hi := (List.getElem?_eq_some_iff.1 hx).1
  have hb := wvX_B h
  rw [wB, wLs_levV, Int.toNat_natCast] at hb
  rw [wAt, if_pos ⟨wvX_ok h, by omega, by omega⟩, wLs_levV, Int.toNat_natCast, Int.toNat_natCast]
  have h2 := listW_get X.length (wlev X) i hi
  rw [hb, hx] at h2
  exact (Option.some.inj h2).symm
theorem wvX_none {X : List Int} (hl : X.length = 0) : wAt X.length (wzer X) (levV X) 0 = -1 := wAt_out _ _ _ _ (.inr (by omega))
theorem wvX_rank {X : List Int} (h : okW X = true) (x : Int) {i : Nat} (hi : i ≤ X.length) : wRank X.length (wzer X) (levV X) x i = ((X.take i).count x : Nat) := by
  rw [wRank, if_pos ⟨wvX_ok h, by omega, by omega⟩, wvX_B h]
  rfl
theorem wvX_rank1 {X : List Int} (h : okW X = true) {x : Int} {i : Nat} (hx : X[i]? = some x) : wRank X.length (wzer X) (levV X) x (i + 1 : Nat) = ((X.take i).count x + 1 : Nat) := by
  have hi := (List.getElem?_eq_some_iff.1 hx).1
  rw [wvX_rank h x (by omega)]
  have := rankL_step X x x i hx
  unfold rankL at this
  rw [this, if_pos rfl]

end Go.Proofs.YtoehgcakfblblaaDoor
