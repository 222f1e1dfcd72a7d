import Derived.Test.YtlbnngolcoefdaaDoorLaws5
import Derived.Test.YtlbnngolcoefdaaDoorWords1
import Derived.Test.YtlbnngolcoefdaaDoorNewB
import Derived.Test.YtlbnngolcoefdaaDoorImpl2
import Derived.Test.YtlbnngolcoefdaaDoorSelMath2
/- Contracts of the laws' own helpers on packed integers. -/
namespace Go.Proofs.YtlbnngolcoefdaaDoor
open Go.RowKit
set_option maxRecDepth 100000

/-- Packed integers as a value. -/
abbrev PK (P N M : Int) (v : Value) : Value := .agg #[.int .i64 P, .int .i64 N, .int .i64 M, v]

/-- New packed integers are returned, alone or with a bool, and nothing that was there is touched. -/
def NewPacked1 (w : World) (P N M : Int) (Ws : List Nat) (e : Ending) (w' : World) : Prop :=
  ∃ A c, e = .returned (PK P N M (.slice A Ws.length c)) ∧ w'.ownsRow w.heap.size 113 1 (.slice A Ws.length c) Ws.length (Ws.map U) ∧ Below w.heap.size w w'
def NewPacked (w : World) (P N M : Int) (Ws : List Nat) (ok : Bool) (e : Ending) (w' : World) : Prop :=
  ∃ A c, e = .returned (.tuple #[PK P N M (.slice A Ws.length c), .bool ok]) ∧ w'.ownsRow w.heap.size 113 1 (.slice A Ws.length c) Ws.length (Ws.map U) ∧ Below w.heap.size w w'

set_option maxHeartbeats 400000 in
theorem szPacked_any (P N M : Int) (A : Option Addr) (n c : Nat) (left : Int) (w : World) (hn : n ≤ 9223372036854775807) (h0 : 0 ≤ left) (h1 : left ≤ 1048576) :
    Calls Tryd.prog 78 #[PK P N M (.slice A n c), .int .i64 left] w fun e w' => e = .returned (.int .i64 (if left < n then -1 else left - n)) ∧ Below w.heap.size w w' := by
  by_cases h : left < (n : Int)
  · have c1 := fun W => szBits_any M A n c left W hn h0 h1
    rw [if_pos h]
    simp only [if_pos h] at c1
    have C := Lib.hid c1
    clear c1
    go_enter Tryd.func78, Tryd.ntmps78
    go_wp2_with fail
    refine (C.out _).mono ?_
    rintro e w1 ⟨rfl, hb⟩
    have HB := Lib.hid hb
    clear hb
    go_wp2
    go_ret
    exact ⟨rfl, below_then (by go_grown) HB.out⟩
  · have c1 := fun W => szBits_any M A n c left W hn h0 h1
    rw [if_neg h]
    simp only [if_neg h] at c1
    have C := Lib.hid c1
    clear c1
    go_enter Tryd.func78, Tryd.ntmps78
    go_wp2_with fail
    refine (C.out _).mono ?_
    rintro e w1 ⟨rfl, hb⟩
    have HB := Lib.hid hb
    clear hb
    go_wp2
    go_ret
    exact ⟨rfl, below_then (by go_grown) HB.out⟩

set_option maxHeartbeats 400000 in
theorem toPacked_new (P N M : Int) (A : Option Addr) (c : Nat) (L : List Nat) (w : World) (hL : Lies w U A L) (hn : L.length ≤ 17592186044416) :
    Calls Tryd.prog 81 #[PK P N M (.slice A L.length c)] w (NewPacked1 w P N M L) := by
  go_enter Tryd.func81, Tryd.ntmps81
  go_wp2_with fail
  refine (toBits_any M A c L _ (hL.below (by go_grown)) hn).mono ?_
  rintro e w1 ⟨rfl, hown, hb⟩
  obtain ⟨hc, hf⟩ := bcell hb
  have hz : w.heap.size + 3 ≤ w1.heap.size := by have := hb.size; simp at this; omega
  have HO := Lib.hid hown
  have HB := Lib.hid hb
  clear hown hb hL
  go_wp2
  refine bodyPost_ret (v := PK P N M (.slice (some ⟨w.heap.size + 1 + 1 + 1 + 3, 0, none⟩) L.length L.length)) (by simp [results, Tryd.results81, go_sem, hc, hz]) rfl ⟨_, _, rfl, ?_, ?_⟩
  · have h := HO.out
    simp only [World.size_alloc] at h
    exact own_mono (ownsRow_setCell_below (ownsRow_setCell_below (ownsRow_setCell_below (ownsRow_setCell_below (ownsRow_setCell_below (ownsRow_setCell_below h (by go_size) _) (by go_size) _) (by go_size) _) (by go_size) _) (by go_size) _) (by go_size) _) (by go_size)
  · refine Below.setCell (Below.setCell (Below.setCell (Below.setCell (Below.setCell (Below.setCell (Below.trans ?_ (HB.out.mono (by go_size))) (by go_size) _) (by go_size) _) (by go_size) _) (by go_size) _) (by go_size) _) (by go_size) _
    go_grown

set_option maxHeartbeats 400000 in
theorem eqPacked_true (P N M : Int) (A B : Option Addr) (c d : Nat) (L : List Nat) (w : World) (hL : Lies w U A L) (hK : Lies w U B L) (hn : L.length ≤ 17592186044416) :
    Calls Tryd.prog 83 #[PK P N M (.slice A L.length c), PK P N M (.slice B L.length d)] w fun e w' => e = .returned (.bool true) ∧ Below w.heap.size w w' := by
  have t1 : (P != P) = false := by simp
  have t2 : (N != N) = false := by simp
  go_enter Tryd.func83, Tryd.ntmps83
  go_wp2_with fail
  refine (eqBits_any M M A B c d L L _ (hL.below (by go_grown)) (hK.below (by go_grown)) hn).mono ?_
  rintro e w1 ⟨rfl, hb⟩
  rw [decide_eq_true ⟨rfl, rfl⟩]
  have HB := Lib.hid hb
  clear hb hL hK
  go_wp2
  go_ret
  exact ⟨rfl, below_then (by go_grown) HB.out⟩

end Go.Proofs.YtlbnngolcoefdaaDoor

/- PackOk, the specification's and the program's. -/
namespace Go.Proofs.YtlbnngolcoefdaaDoor
open Go.RowKit
set_option maxRecDepth 100000

/-- Which numbers and widths can be packed. -/
def fitsB (n wd : Int) : Bool := decide (0 ≤ wd ∧ wd ≤ 32 ∧ 0 ≤ n ∧ n ≤ 5000 ∧ n * wd ≤ 5000)
/-- Which values are packed integers. -/
def okP (P N M : Int) (L : List Nat) : Bool := decide (0 ≤ P ∧ P ≤ 32 ∧ 0 ≤ N ∧ N ≤ 5000 ∧ M = N * P) && okB M L

set_option maxHeartbeats 400000 in
theorem packFits_any (n wd : Int) (w : World) :
    Calls Tryd.prog 91 #[.int .i64 n, .int .i64 wd] w fun e w' => e = .returned (.bool (fitsB n wd)) ∧ w = w' := by
  by_cases h1 : 0 ≤ wd
  · by_cases h2 : wd ≤ 32
    · by_cases h3 : 0 ≤ n
      · by_cases h4 : n ≤ 5000
        · have hp0 : 0 ≤ n * wd := Int.mul_nonneg h3 h1
          have hp1 : n * wd ≤ 5000 * 32 := Int.mul_le_mul h4 h2 h1 (by omega)
          have HR : Hid (fitsB n wd = decide (n * wd ≤ 5000)) := Lib.hid (by simp [fitsB, h1, h2, h3, h4])
          have e1 : IntKind.i64.wrap (n * wd) = n * wd := IntWalk.i64_in _ (by omega)
          have e2 : wrap64 (n * wd) = n * wd := IntWalk.wrap64_in _ (by omega)
          have d1 : decide (0 ≤ wd) = true := by simpa using h1
          have d2 : decide (wd ≤ 32) = true := by simpa using h2
          have d3 : decide (0 ≤ n) = true := by simpa using h3
          have d4 : decide (n ≤ 5000) = true := by simpa using h4
          go_enter Tryd.func91, Tryd.ntmps91
          go_wp2
          go_ret
          exact ⟨ret_bool HR.out.symm, rfl⟩
        · have HR : Hid (fitsB n wd = false) := Lib.hid (by simp [fitsB, h4])
          have d1 : decide (0 ≤ wd) = true := by simpa using h1
          have d2 : decide (wd ≤ 32) = true := by simpa using h2
          have d3 : decide (0 ≤ n) = true := by simpa using h3
          have d4 : decide (n ≤ 5000) = false := by simpa using h4
          go_enter Tryd.func91, Tryd.ntmps91
          go_wp2
          go_ret
          exact ⟨ret_bool HR.out.symm, rfl⟩
      · have HR : Hid (fitsB n wd = false) := Lib.hid (by simp [fitsB, h3])
        have d1 : decide (0 ≤ wd) = true := by simpa using h1
        have d2 : decide (wd ≤ 32) = true := by simpa using h2
        have d3 : decide (0 ≤ n) = false := by simpa using h3
        go_enter Tryd.func91, Tryd.ntmps91
        go_wp2
        go_ret
        exact ⟨ret_bool HR.out.symm, rfl⟩
    · have HR : Hid (fitsB n wd = false) := Lib.hid (by simp [fitsB, h2])
      have d1 : decide (0 ≤ wd) = true := by simpa using h1
      have d2 : decide (wd ≤ 32) = false := by simpa using h2
      go_enter Tryd.func91, Tryd.ntmps91
      go_wp2
      go_ret
      exact ⟨ret_bool HR.out.symm, rfl⟩
  · have HR : Hid (fitsB n wd = false) := Lib.hid (by simp [fitsB, h1])
    have d1 : decide (0 ≤ wd) = false := by simpa using h1
    go_enter Tryd.func91, Tryd.ntmps91
    go_wp2
    go_ret
    exact ⟨ret_bool HR.out.symm, rfl⟩

theorem okP_fits {P N M : Int} {L : List Nat} (h : okP P N M L = true) : fitsB N P = true ∧ M = N * P ∧ okB M L = true := by
  unfold okP at h
  rw [Bool.and_eq_true, decide_eq_true_iff] at h
  obtain ⟨⟨h1, h2, h3, h4, h5⟩, h6⟩ := h
  obtain ⟨n, e, hn, _, _⟩ := okB_nat h6
  refine ⟨?_, h5, h6⟩
  unfold fitsB
  rw [decide_eq_true_iff]
  exact ⟨h1, h2, h3, h4, by omega⟩

set_option maxHeartbeats 400000 in
theorem implPackOk_any (P N M : Int) (A : Option Addr) (c : Nat) (L : List Nat) (w : World) (hL : Lies w U A L) (hw : ∀ x ∈ L, x < 2 ^ 64) :
    Calls Tryd.prog 64 #[PK P N M (.slice A L.length c)] w fun e w' => e = .returned (.bool (okP P N M L)) ∧ Below w.heap.size w w' := by
  have HW := Lib.hid hw
  have CF := Lib.hid fun W : World => packFits_any N P W
  clear hw
  cases hf : fitsB N P
  · have HR : Hid (okP P N M L = false) := Lib.hid (by
      cases h : okP P N M L
      · rfl
      · have := (okP_fits h).1; rw [hf] at this; cases this)
    rw [hf] at CF
    clear hf
    go_enter Tryd.func64, Tryd.ntmps64
    go_wp2_with (go_at_call 91; refine (CF.out _).mono ?_; rintro e w' ⟨rfl, rfl⟩)
    go_ret
    exact ⟨ret_bool HR.out.symm, by go_grown⟩
  · have hF : 0 ≤ P ∧ P ≤ 32 ∧ 0 ≤ N ∧ N ≤ 5000 ∧ N * P ≤ 5000 := by unfold fitsB at hf; exact of_decide_eq_true hf
    have hp0 : 0 ≤ N * P := Int.mul_nonneg hF.2.2.1 hF.1
    have e1 : IntKind.i64.wrap (N * P) = N * P := IntWalk.i64_in _ (by omega)
    have e2 : wrap64 (N * P) = N * P := IntWalk.wrap64_in _ (by omega)
    rw [hf] at CF
    by_cases hm : M = N * P
    · have HR : Hid (okP P N M L = okB M L) := Lib.hid (by
        unfold okP
        rw [decide_eq_true ⟨hF.1, hF.2.1, hF.2.2.1, hF.2.2.2.1, hm⟩, Bool.true_and])
      have t1 : (M == N * P) = true := by rw [beq_iff_eq]; exact hm
      clear hf hm hF
      go_enter Tryd.func64, Tryd.ntmps64
      go_wp2_with (first | (go_at_call 91; refine (CF.out _).mono ?_; rintro e w' ⟨rfl, rfl⟩) | fail)
      refine (implOk_any M A c L _ (hL.below (by go_grown)) HW.out).mono ?_
      rintro e w1 ⟨rfl, hb⟩
      have HB := Lib.hid hb
      clear hb hL
      go_wp2
      go_ret
      exact ⟨ret_bool HR.out.symm, below_then (by go_grown) HB.out⟩
    · have HR : Hid (okP P N M L = false) := Lib.hid (by
        cases h : okP P N M L
        · rfl
        · exact absurd (okP_fits h).2.1 hm)
      have t1 : (M == N * P) = false := by rw [beq_eq_false_iff_ne]; exact hm
      clear hf hm hF
      go_enter Tryd.func64, Tryd.ntmps64
      go_wp2_with (go_at_call 91; refine (CF.out _).mono ?_; rintro e w' ⟨rfl, rfl⟩)
      go_ret
      exact ⟨ret_bool HR.out.symm, by go_grown⟩

set_option maxHeartbeats 400000 in
theorem specPackOk_any (P N M : Int) (A : Option Addr) (c : Nat) (L : List Nat) (w : World) (hL : Lies w U A L) (hw : ∀ x ∈ L, x < 2 ^ 64) :
    Calls Tryd.prog 131 #[PK P N M (.slice A L.length c)] w fun e w' => e = .returned (.bool (okP P N M L)) ∧ Below w.heap.size w w' := by
  have HW := Lib.hid hw
  clear hw
  by_cases h1 : 0 ≤ P
  · by_cases h2 : P ≤ 32
    · by_cases h3 : 0 ≤ N
      · by_cases h4 : N ≤ 5000
        · have hp0 : 0 ≤ P * N := Int.mul_nonneg h1 h3
          have hp1 : P * N ≤ 32 * 5000 := Int.mul_le_mul h2 h4 h3 (by omega)
          have e1 : IntKind.i64.wrap (P * N) = P * N := IntWalk.i64_in _ (by omega)
          have e2 : wrap64 (P * N) = P * N := IntWalk.wrap64_in _ (by omega)
          have d1 : decide (0 ≤ P) = true := by simpa using h1
          have d2 : decide (P ≤ 32) = true := by simpa using h2
          have d3 : decide (0 ≤ N) = true := by simpa using h3
          have d4 : decide (N ≤ 5000) = true := by simpa using h4
          have HK : Hid (okP P N M L = (decide (M = P * N) && okB M L)) := Lib.hid (by simp [okP, h1, h2, h3, h4, Int.mul_comm])
          cases hok : okB M L
          · have HR : Hid (okP P N M L = false) := Lib.hid (by rw [HK.out, hok, Bool.and_false])
            go_enter Tryd.func131, Tryd.ntmps131
            go_wp2_with fail
            refine (specOk_any M A c L _ (hL.below (by go_grown)) HW.out).mono ?_
            rintro e w1 ⟨rfl, hb⟩
            rw [hok]
            have HB := Lib.hid hb
            clear hb hL hok
            go_wp2
            go_ret
            exact ⟨ret_bool HR.out.symm, below_then (by go_grown) HB.out⟩
          · by_cases hm : M = P * N
            · have HR : Hid (okP P N M L = true) := Lib.hid (by rw [HK.out, hok, decide_eq_true hm]; rfl)
              have t1 : (M == P * N) = true := by rw [beq_iff_eq]; exact hm
              clear hm
              go_enter Tryd.func131, Tryd.ntmps131
              go_wp2_with fail
              have hx0 := Box.made w 31 #[.int .i64 P, .int .i64 N, .int .i64 M, .slice A L.length c]
              refine (specOk_any M A c L _ (hL.below (by go_grown)) HW.out).mono ?_
              rintro e w1 ⟨rfl, hb⟩
              rw [hok]
              have hx1 := hx0.below hb hx0.lt
              have f0 := hx1.cell 0
              have f1 := hx1.cell 1
              have f2 := hx1.cell 2
              simp only [List.getElem?_toArray, List.getElem?_cons_zero, List.getElem?_cons_succ] at f0 f1 f2
              have HB := Lib.hid hb
              clear hb hL hok hx0 hx1
              go_wp2
              go_ret
              exact ⟨ret_bool HR.out.symm, below_then (by go_grown) HB.out⟩
            · have HR : Hid (okP P N M L = false) := Lib.hid (by rw [HK.out, decide_eq_false hm, Bool.false_and])
              have t1 : (M == P * N) = false := by rw [beq_eq_false_iff_ne]; exact hm
              clear hm
              go_enter Tryd.func131, Tryd.ntmps131
              go_wp2_with fail
              have hx0 := Box.made w 31 #[.int .i64 P, .int .i64 N, .int .i64 M, .slice A L.length c]
              refine (specOk_any M A c L _ (hL.below (by go_grown)) HW.out).mono ?_
              rintro e w1 ⟨rfl, hb⟩
              rw [hok]
              have hx1 := hx0.below hb hx0.lt
              have f0 := hx1.cell 0
              have f1 := hx1.cell 1
              have f2 := hx1.cell 2
              simp only [List.getElem?_toArray, List.getElem?_cons_zero, List.getElem?_cons_succ] at f0 f1 f2
              have HB := Lib.hid hb
              clear hb hL hok hx0 hx1
              go_wp2
              go_ret
              exact ⟨ret_bool HR.out.symm, below_then (by go_grown) HB.out⟩
        · have HR : Hid (okP P N M L = false) := Lib.hid (by simp [okP, h4])
          have d1 : decide (0 ≤ P) = true := by simpa using h1
          have d2 : decide (P ≤ 32) = true := by simpa using h2
          have d3 : decide (0 ≤ N) = true := by simpa using h3
          have d4 : decide (N ≤ 5000) = false := by simpa using h4
          go_enter Tryd.func131, Tryd.ntmps131
          go_wp2
          go_ret
          exact ⟨ret_bool HR.out.symm, by go_grown⟩
      · have HR : Hid (okP P N M L = false) := Lib.hid (by simp [okP, h3])
        have d1 : decide (0 ≤ P) = true := by simpa using h1
        have d2 : decide (P ≤ 32) = true := by simpa using h2
        have d3 : decide (0 ≤ N) = false := by simpa using h3
        go_enter Tryd.func131, Tryd.ntmps131
        go_wp2
        go_ret
        exact ⟨ret_bool HR.out.symm, by go_grown⟩
    · have HR : Hid (okP P N M L = false) := Lib.hid (by simp [okP, h2])
      have d1 : decide (0 ≤ P) = true := by simpa using h1
      have d2 : decide (P ≤ 32) = false := by simpa using h2
      go_enter Tryd.func131, Tryd.ntmps131
      go_wp2
      go_ret
      exact ⟨ret_bool HR.out.symm, by go_grown⟩
  · have HR : Hid (okP P N M L = false) := Lib.hid (by simp [okP, h1])
    have d1 : decide (0 ≤ P) = false := by simpa using h1
    go_enter Tryd.func131, Tryd.ntmps131
    go_wp2
    go_ret
    exact ⟨ret_bool HR.out.symm, by go_grown⟩

end Go.Proofs.YtlbnngolcoefdaaDoor
