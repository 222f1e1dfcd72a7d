/- Lists of bit vectors: read as levels, compared (after Frs4). -/
import Derived.Test.YtnlpmcgpdaifoaaLv3
import Derived.Deep.RegionHeld3
namespace Go.Proofs.Ytnlpmcgpdaifoaa
open Go.RowKit
set_option maxRecDepth 100000

/-- Frames with their bytes, as they lie. -/
def zipL (Q : List LvV) (V : List (Int × List Nat)) : List LvA := List.zipWith (fun q v => ⟨q.K, q.A, q.c, v.2⟩) Q V
theorem zipL_val : ∀ {Q : List LvV} {V : List (Int × List Nat)}, Q.map (fun q => (q.K, q.xs)) = V.map (fun v => (v.1, v.2.map U)) → (zipL Q V).map LvA.val = V
  | [], [], _ => rfl
  | [], _ :: _, h => by simp at h
  | _ :: _, [], h => by simp at h
  | q :: Q, v :: V, h => by
    simp only [List.map_cons, List.cons.injEq, Prod.mk.injEq] at h
    have ih := zipL_val (Q := Q) (V := V) h.2
    unfold zipL at ih ⊢
    rw [List.zipWith_cons_cons, List.map_cons, ih]
    simp [LvA.val, h.1.1]
theorem zipL_at {Q : List LvV} {V : List (Int × List Nat)} (hm : Q.map (fun q => (q.K, q.xs)) = V.map (fun v => (v.1, v.2.map U))) {j : Nat} {p : LvA} (h : (zipL Q V)[j]? = some p) :
    ∃ q v, Q[j]? = some q ∧ V[j]? = some v ∧ p = ⟨q.K, q.A, q.c, v.2⟩ ∧ q.K = v.1 ∧ q.xs = v.2.map U := by
  unfold zipL at h
  rw [List.getElem?_zipWith] at h
  cases hq : Q[j]? with
  | none => rw [hq] at h; cases h
  | some q =>
    cases hv : V[j]? with
    | none => rw [hq, hv] at h; cases h
    | some v =>
      rw [hq, hv] at h
      have h1 : (Q.map (fun q => (q.K, q.xs)))[j]? = some (q.K, q.xs) := by rw [List.getElem?_map, hq]; rfl
      rw [hm, List.getElem?_map, hv] at h1
      have h2 := Option.some.inj h1
      exact ⟨q, v, rfl, rfl, (Option.some.inj h).symm, (congrArg Prod.fst h2).symm, (congrArg Prod.snd h2).symm⟩

theorem LvIn.lies {w : World} {lo hi g : Nat} {cs : Array Value} {Q : List LvV} {V : List (Int × List Nat)} (h : LvIn w lo hi g cs Q) (hm : Q.map (fun q => (q.K, q.xs)) = V.map (fun v => (v.1, v.2.map U))) (hb : ∀ v ∈ V, ∀ x ∈ v.2, x < 2 ^ 64) :
    LiesLv w (some ⟨g, 0, none⟩) (zipL Q V) := by
  intro j p hp
  obtain ⟨q, v, hq, hv, rfl, hK, hx⟩ := zipL_at hm hp
  obtain ⟨c1, c2⟩ := h.cells j q hq
  obtain ⟨ho, _⟩ := h.own j q hq
  have hlen : q.xs.length = v.2.length := by rw [hx, List.length_map]
  unfold LvV.body at ho c2
  rw [hlen] at ho c2
  rw [hx] at ho
  refine ⟨⟨g, 0, rfl, h.box.lt, ?_, ?_⟩, Lies.of_own ho, own_cap ho, hb v (List.mem_of_getElem? hv)⟩
  · rw [Nat.zero_add]
    exact (h.box.cell _).trans c1
  · rw [Nat.zero_add]
    exact (h.box.cell _).trans c2

set_option maxHeartbeats 1600000 in
/-- Two lists of the same frames are equal. -/
theorem eqLvs_true (A B : Option Addr) (c d : Nat) (P Q : List LvA) (w : World) (hP : LiesLv w A P) (hQ : LiesLv w B Q) (hv : P.map LvA.val = Q.map LvA.val) (hl : P.length ≤ 1048576) (hp : ∀ (k : Nat) (p : LvA), P[k]? = some p → p.L.length ≤ 1048576) :
    Calls Try.prog 54 #[.slice A P.length c, .slice B Q.length d] w fun e w' => e = .returned (.bool true) ∧ Below w.heap.size w w' := by
  have HP := Lib.hid hP
  have HQ := Lib.hid hQ
  have HV := Lib.hid hv
  have HL := Lib.hid hp
  have hlen : Q.length = P.length := by have := congrArg List.length hv; simpa using this.symm
  rw [hlen]
  clear hP hQ hv hp
  have n0 : ((P.length : Int) != (P.length : Int)) = false := by simp
  go_enter Try.func54, Try.ntmps54
  go_wp2
  go_loopw [5] (fun i wr => ∃ k : Nat, k ≤ P.length ∧ i = .int .i64 k ∧ Below w.heap.size w wr) (fun i _ => P.length - (intOf i).toNat)
  case atStart => exact ⟨0, Nat.zero_le _, rfl, Below.refl _ _⟩
  case round =>
    obtain ⟨k, hk, rfl, hb⟩ := hrel
    have HB := Lib.hid hb
    clear hb
    by_cases hlt : k < P.length
    · obtain ⟨p, hpp⟩ : ∃ p, P[k]? = some p := ⟨P[k], List.getElem?_eq_getElem hlt⟩
      obtain ⟨q, hqq⟩ : ∃ q, Q[k]? = some q := ⟨Q[k]'(by omega), List.getElem?_eq_getElem (by omega)⟩
      obtain ⟨⟨b, o, rfl, hbl, hc0, hc1⟩, hpl, hpt, hpb⟩ := (HP.out.below HB.out) k p hpp
      obtain ⟨⟨b', o', rfl, hbl', hd0, hd1⟩, hql, hqt, hqb⟩ := (HQ.out.below HB.out) k q hqq
      have hval : (p.K, p.L) = (q.K, q.L) := by
        have h1 : (P.map LvA.val)[k]? = some p.val := by rw [List.getElem?_map, hpp]; rfl
        rw [HV.out, List.getElem?_map, hqq] at h1
        exact (Option.some.inj h1).symm
      have hK : q.K = p.K := (congrArg Prod.fst hval).symm
      have hLL : q.L = p.L := (congrArg Prod.snd hval).symm
      unfold LvA.body at hc1 hd1
      rw [hK] at hd0
      rw [hLL] at hd1 hql
      have HC := Lib.hid fun W (h : Below wr.heap.size wr W) => eqBits_true p.K p.A q.A p.c q.c p.L W (hpl.below h) (hql.below h) (by have := HL.out k p hpp; omega)
      have tl : decide ((k : Int) < (P.length : Int)) = true := by simp; omega
      have k0 : (0 : Int) ≤ (k : Int) := by omega
      have k1 : (k : Int) < (P.length : Int) := by omega
      clear hpp hqq hpl hpt hpb hql hqt hqb hval hK hLL
      go_wp2_with fail
      go_region_with (first | (go_at_call 79; refine Calls.mono (HC.out _ ?_) ?_; exact (Below.refl _ _).drew; rintro e w1 ⟨rfl, hb1⟩; have HB1 := Lib.hid (HB.out.trans ((((Below.refl wr.heap.size wr).drew).trans hb1).mono HB.out.size)); clear hb1))
      all_goals go_wp2
      all_goals go_roundw
      all_goals first
        | exact ⟨k + 1, by omega, by go_num, HB1.out⟩
        | (simp [intOf]; omega)
    · go_wp2
      go_ret
      exact ⟨rfl, HB.out⟩

end Go.Proofs.Ytnlpmcgpdaifoaa
