import Derived.Test.YtoehgcakfblblaaDoorWvOf1
import Derived.Test.YtoehgcakfblblaaDoorWvLaw1
/- WaveOf of the program. -/
namespace Go.Proofs.YtoehgcakfblblaaDoor
open Go.RowKit
set_option maxRecDepth 100000

set_option maxHeartbeats 3200000 in
theorem implWaveOf_in (A : Option Addr) (c n : Nat) (X : List Int) (w : World) (hL : Lies w I A X) (hl : X.length = n) (hn : n ≤ 1000) (hX : ∀ x ∈ X, 0 ≤ x ∧ x ≤ 511) :
    Calls Tryd.prog 7 #[.slice A n c] w fun e w' => ∃ v, e = .returned (.tuple #[v, .bool true]) ∧ WvO w' w.heap.size w'.heap.size n (wzer X) (levV X) v ∧ Below w.heap.size w w' := by
  have HL := Lib.hid hL
  have HX := Lib.hid hX
  have Hl := Lib.hid hl
  obtain ⟨Zs, hZs⟩ : ∃ Zs, madeCells #[Value.int .i64 0] 9 = Zs := ⟨_, rfl⟩
  obtain ⟨Ls, hLs⟩ : ∃ Ls, madeCells #[Value.int .i64 0, .slice none 0 0] (9 * 2) = Ls := ⟨_, rfl⟩
  have hmz : ∀ W : World, (Instr.makeSlice 24 (.int .i64 9) (.int .i64 9)).run Tryd.prog W = .ok (.slice (some ⟨W.heap.size, 0, none⟩) 9 9) (W.alloc (.cells Zs 3)) := fun W => by rw [← hZs]; exact run_make_row' (P := Tryd.prog) 24 3 (.int .i64 0) 8 Tryd.underlying24 Tryd.infoInt rfl .i64 .i64 9 (by omega) (by omega) W
  have hml : ∀ W : World, (Instr.makeSlice 26 (.int .i64 9) (.int .i64 9)).run Tryd.prog W = .ok (.slice (some ⟨W.heap.size, 0, none⟩) 9 9) (W.alloc (.cells Ls 46)) := fun W => by rw [← hLs]; exact make_lvs 9 (by omega) W
  have HZs := Lib.hid hZs
  have HLs := Lib.hid hLs
  clear hZs hLs
  have CI : Hid (∀ (x : Int) (W : World), x ∈ X → Calls Tryd.prog 23 #[.int .i64 x] W fun e w' => e = .returned (.bool true) ∧ W = w') := Lib.hid fun x W hx => by
    have c := isWave_any x W
    rw [decide_eq_true (hX x hx)] at c
    exact c
  have t0 : decide ((1000 : Int) < (n : Int)) = false := by simp; omega
  clear hL hX hl
  go_enter Tryd.func7, Tryd.ntmps7
  go_wp2
  have HB0 : Hid (Below w.heap.size w (w.alloc (.cells #[.int .i64 0, .slice none 0 0, .slice none 0 0] 28))) := Lib.hid ((Below.refl _ _).alloc (Nat.le_refl _) _)
  go_loop [5, 15] (fun x t => ∃ i : Nat, i ≤ n ∧ t = .int .i64 i) (fun _ t => n - (intOf t).toNat)
  case atStart => exact ⟨0, Nat.zero_le _, rfl⟩
  case round =>
    obtain ⟨i, hi, rfl⟩ := hrel
    by_cases hlt : i < n
    · obtain ⟨b, o, x, hA, hbl, hx, hc⟩ := (HL.out.below HB0.out).at_ (i := i) (by rw [Hl.out]; exact hlt)
      subst hA
      have CB := Lib.hid (CI.out x (w.alloc (.cells #[.int .i64 0, .slice none 0 0, .slice none 0 0] 28)) (List.mem_of_getElem? hx))
      have i0 : (0 : Int) ≤ (i : Int) := by omega
      have i1 : (i : Int) < (n : Int) := by omega
      clear hx
      go_wp2_with fail
      refine CB.out.mono ?_
      rintro e w1 ⟨rfl, rfl⟩
      go_wp2
      go_round
      case rel => exact ⟨i + 1, by omega, by go_num⟩
      case measure => simp [intOf]; omega
    · have hin : i = n := by omega
      subst hin
      go_wp2
      go_region
      all_goals
        refine three_pass (G := Exit.then _ _ Exit.normal _) ?_
        intro W hb hr h1 h2 h3
        clear hmz hml HB0
        first
          | (have HI0 := Lib.hid (woI_start hb (by omega) hr h3 h1 h2 HZs.out HLs.out (by omega) (by omega) HL.out); clear hb hr h1 h2 h3; generalize w.heap.size + 1 + 1 + 1 = gb at HI0 ⊢)
          | (have HI0 := Lib.hid (woI_start hb (by omega) hr h3 h2 h1 HZs.out HLs.out (by omega) (by omega) HL.out); clear hb hr h1 h2 h3; generalize w.heap.size + 1 + 1 + 1 = gb at HI0 ⊢)
          | (have HI0 := Lib.hid (woI_start hb (by omega) hr h2 h1 h3 HZs.out HLs.out (by omega) (by omega) HL.out); clear hb hr h1 h2 h3; generalize w.heap.size + 1 + 1 = gb at HI0 ⊢)
          | (have HI0 := Lib.hid (woI_start hb (by omega) hr h2 h3 h1 HZs.out HLs.out (by omega) (by omega) HL.out); clear hb hr h1 h2 h3; generalize w.heap.size + 1 + 1 = gb at HI0 ⊢)
          | (have HI0 := Lib.hid (woI_start hb (by omega) hr h1 h2 h3 HZs.out HLs.out (by omega) (by omega) HL.out); clear hb hr h1 h2 h3; generalize w.heap.size + 1 = gb at HI0 ⊢)
          | (have HI0 := Lib.hid (woI_start hb (by omega) hr h1 h3 h2 HZs.out HLs.out (by omega) (by omega) HL.out); clear hb hr h1 h2 h3; generalize w.heap.size + 1 = gb at HI0 ⊢)
        obtain ⟨gz, gl, HI0⟩ : ∃ gz gl, Hid (WoI w W i X gz gl gb 0 A) := ⟨_, _, HI0⟩
        go_wp2
        go_loopw [0, 29] (fun l t wr => ∃ (k : Nat) (A : Option Addr) (c : Nat), k ≤ 9 ∧ t = .int .i64 k ∧ l = .slice A i c ∧ Hid (WoI w wr i X gz gl gb k A)) (fun _ t _ => 9 - (intOf t).toNat)
        case atStart => exact ⟨0, _, _, Nat.zero_le _, rfl, rfl, HI0⟩
        case round =>
          obtain ⟨k, A, c, hk, rfl, rfl, HI⟩ := hrel
          clear HI0
          by_cases hlt : k < 9
          · have CS := Lib.hid (splitBy_any A c i k (wX X k) wr HI.out.cur (by omega) (fun x hx => HX.out x (wX_mem hx)) (by rw [wX_len, Hl.out]) hn)
            have k1 : (k : Int) < 9 := by omega
            have k0 : (0 : Int) ≤ (k : Int) := by omega
            go_wp2_with fail
            refine CS.out.mono ?_
            rintro e w1 ⟨A1, c1, A2, c2, rfl, hr1, hl2, hb1⟩
            have HC2 : Hid (w1.ownsRow wr.heap.size 3 1 (.slice A2 i c2) i ((wX X (k + 1)).map I)) := Lib.hid hl2
            have HB1 := Lib.hid hb1
            have KS : Hid (∀ W, Below w1.heap.size w1 W → W.cell? ⟨gb, 2, none⟩ = some (.slice (some ⟨gl, 0, none⟩) 9 9)) := Lib.hid fun W hW => by
              have hx := (HI.out.box.below hb1 HI.out.box.lt)
              exact (hx.below hW hx.lt).cell 2
            have CB : Hid (∀ W, Below w1.heap.size w1 W → Calls Tryd.prog 25 #[.slice A1 i c1] W (NewBits W (i : Int) (wordsOf (wrow X k)) true)) := Lib.hid fun W hW => by
              have hrl : (wrow X k).length = i := by rw [wrow_len, Hl.out]
              have hcap := own_cap hr1
              have c := implOf_any A1 c1 (wrow X k) W ((Lies.of_own hr1).below hW) (by omega) (by omega) hcap.2
              rw [hrl] at c
              exact c.mono fun _ _ h => newBits_ok (wrow_bits X k) hrl (by omega) h
            have HSt : Hid (∀ (w2 : World) (Ab : Option Addr) (cb : Nat), Below w1.heap.size w1 w2 → w2.ownsRow wr.heap.size 64 1 (.slice Ab (wordsOf (wrow X k)).length cb) (wordsOf (wrow X k)).length ((wordsOf (wrow X k)).map U) →
                WoM w ((w2.setCell ⟨gl, k * 2, none⟩ (.int .i64 i)).setCell ⟨gl, k * 2 + 1, none⟩ (.slice Ab (wordsOf (wrow X k)).length cb)) i X gz gl gb k wr.heap.size A2 c2 Ab cb ∧ w2.frozen? ⟨gl, k * 2, none⟩ = false ∧ w2.frozen? ⟨gl, k * 2 + 1, none⟩ = false ∧ (∃ y, w2.cell? ⟨gl, k * 2, none⟩ = some y) ∧ (∃ y, w2.cell? ⟨gl, k * 2 + 1, none⟩ = some y) ∧ gl < w2.heap.size) := Lib.hid fun w2 Ab cb hb ho => by
              have hb2 := below_then HB1.out hb
              obtain ⟨cs, Q, h1, _, h3⟩ := HI.out.lev
              have hx : Box w2 gl 46 cs := h1.box.below hb2 h1.box.lt
              exact ⟨HI.out.mid hlt hb2 ho (own_below HC2.out hb (Nat.le_refl _)), hx.frozen _, hx.frozen _, ⟨_, (hx.cell _).trans (Array.getElem?_eq_getElem (by omega))⟩, ⟨_, (hx.cell _).trans (Array.getElem?_eq_getElem (by omega))⟩, hx.lt⟩
            have hne1 : ¬ gb = gl := HI.out.apart.1
            have hne2 : ¬ gl = gb := fun e => hne1 e.symm
            have inv : Below w1.heap.size w1 w1.drew := (Below.refl _ _).drew
            have z2 := KS.out _ inv
            clear hr1 hl2 hb1 CS
            go_wp2_with fail
            go_region_held3 (fun w' => w'.cell? ⟨gb, 2, none⟩ = some (.slice (some ⟨gl, 0, none⟩) 9 9)) (first | exact KS.out _ inv | (go_keep; done) | assumption) (first | (go_at_call 25; (with_reducible refine Calls.mono (CB.out _ inv) ?_); rintro e w2 ⟨Ab, cb, rfl, ho2, hb2⟩; replace ho2 := own_mono ho2 (Nat.le_trans HB1.out.size inv.size); replace inv := below_then inv hb2; obtain ⟨HM, f0, f1, ⟨y0, hy0⟩, ⟨y1, hy1⟩, hgl⟩ := HSt.out w2 Ab cb inv ho2; replace HM := Lib.hid HM; have z2' := KS.out _ inv; clear ho2 hb2))
            clear inv f0 f1 hy0 hy1 hgl z2 z2' KS CB HSt HB1 HC2 HI hne1 hne2
            generalize (w2.setCell ⟨gl, k * 2, none⟩ (.int .i64 i)).setCell ⟨gl, k * 2 + 1, none⟩ (.slice Ab (wordsOf (wrow X k)).length cb) = W3 at *
            obtain ⟨zz, hzz⟩ : ∃ zz, (wlow (8 - k) (wX X k)).length = zz := ⟨_, rfl⟩
            have CR : Hid (∀ W, Below W3.heap.size W3 W → Calls Tryd.prog 26 #[.agg #[.int .i64 i, .slice Ab (wordsOf (wrow X k)).length cb], .int .i64 0, .int .i64 i] W fun e w' => e = .returned (.int .i64 (zz : Int)) ∧ Below W.heap.size W w') := Lib.hid fun W hW => by
              have hrl : (wrow X k).length = i := by rw [wrow_len, Hl.out]
              have hcap := own_cap HM.out.words
              have c := implRank_any (i : Int) Ab cb (wordsOf (wrow X k)) 0 (i : Int) W ((Lies.of_own HM.out.words).below hW) (wordsOf_lt (wrow X k) (wrow_bits X k)) hcap.1 hcap.2
              rw [show rankV (i : Int) (wordsOf (wrow X k)) 0 (i : Int) = (zz : Int) by
                have := bit_val i (wordsOf (wrow X k)) 0 i (by omega) (wv_ok i (wrow X k) (wrow_bits X k) hrl (by omega)) (Nat.le_refl _)
                rw [← hzz, zer_cnt X k, Hl.out]
                exact this] at c
              exact c
            have HDn : Hid (∀ W, Below W3.heap.size W3 W → WoI w (W.setCell ⟨gz, k, none⟩ (.int .i64 (zz : Int))) i X gz gl gb (k + 1) A2 ∧ W.cell? ⟨gz, k, none⟩ = some (I 0) ∧ W.frozen? ⟨gz, k, none⟩ = false ∧ gz < W.heap.size) := Lib.hid fun W hW => by
              have h := (HM.out.more hW).done hlt
              rw [hzz] at h
              exact ⟨h, (HM.out.more hW).slot hlt⟩
            have HK : Hid (∀ W, Below W3.heap.size W3 W → W.cell? ⟨gb, 0, none⟩ = some (.int .i64 i) ∧ W.cell? ⟨gb, 1, none⟩ = some (.slice (some ⟨gz, 0, none⟩) 9 9) ∧ W.cell? ⟨gb, 2, none⟩ = some (.slice (some ⟨gl, 0, none⟩) 9 9) ∧ W.cell? ⟨gl, k * 2, none⟩ = some (.int .i64 i) ∧ W.cell? ⟨gl, k * 2 + 1, none⟩ = some (.slice Ab (wordsOf (wrow X k)).length cb)) := Lib.hid fun W hW => (HM.out.more hW).cells
            obtain ⟨wl, hwl⟩ : ∃ wl, (wordsOf (wrow X k)).length = wl := ⟨_, rfl⟩
            rw [hwl] at CR HK
            rw [hwl]
            have hne1 : ¬ gb = gz := fun e => tbox_apart HM.out.box (own_typed HM.out.zer rfl).2.2.choose_spec (by decide) e
            have hne3 : ¬ gl = gz := by
              obtain ⟨cs, Q, h1, _⟩ := HM.out.lev
              exact fun e => tbox_apart h1.box (own_typed HM.out.zer rfl).2.2.choose_spec (by decide) e
            have hne2 : ¬ gz = gb := fun e => hne1 e.symm
            have hne4 : ¬ gz = gl := fun e => hne3 e.symm
            have inv : Below W3.heap.size W3 W3.drew := (Below.refl _ _).drew
            obtain ⟨z0, z1, z2, z3, z4⟩ := HK.out _ inv
            clear HM hwl hzz
            go_wp2_with fail
            go_region_held3 (fun w' => w'.cell? ⟨gb, 0, none⟩ = some (.int .i64 i) ∧ w'.cell? ⟨gb, 1, none⟩ = some (.slice (some ⟨gz, 0, none⟩) 9 9) ∧ w'.cell? ⟨gb, 2, none⟩ = some (.slice (some ⟨gl, 0, none⟩) 9 9) ∧ w'.cell? ⟨gl, k * 2, none⟩ = some (.int .i64 i) ∧ w'.cell? ⟨gl, k * 2 + 1, none⟩ = some (.slice Ab wl cb)) (first | exact HK.out _ inv | (go_keep; done) | (refine ⟨?_, ?_, ?_, ?_, ?_⟩ <;> assumption)) (first | (go_at_call 26; (with_reducible refine Calls.mono (CR.out _ inv) ?_); rintro e w5 ⟨rfl, hb5⟩; replace inv := below_then inv hb5; obtain ⟨HD, hy, hf, hgl⟩ := HDn.out w5 inv; replace HD := Lib.hid HD; obtain ⟨q0, q1, q2, q3, q4⟩ := HK.out _ inv; clear hb5))
            clear inv hy hf hgl q0 q1 q2 q3 q4 z0 z1 z2 z3 z4 hne1 hne2 hne3 hne4 HK HDn CR
            go_wp2
            go_roundw
            case rel => exact ⟨k + 1, A2, c2, by omega, by go_num, rfl, HD⟩
            case measure => simp [intOf]; omega
          · obtain ⟨K, hK⟩ : ∃ K, K = k := ⟨_, rfl⟩
            subst hK
            have hK9 : K = 9 := by omega
            have HW : Hid (WoI w wr i X gz gl gb 9 A) := Lib.hid (by have h := HI.out; rw [hK9] at h; exact h)
            have hx := HW.out.box
            have hr := HW.out.res
            have x0 := hx.cell 0
            have x1 := hx.cell 1
            have x2 := hx.cell 2
            have xl := hx.lt
            have r0 := hr.cell 0
            have r1 := hr.cell 1
            have r2 := hr.cell 2
            have f0 := hr.frozen 0
            have f1 := hr.frozen 1
            have f2 := hr.frozen 2
            have rl := hr.lt
            have hlt0 : ¬ ((K : Int) < 9) := by omega
            clear hK9 HI hx hr
            go_wp2
            refine bodyPost_ret (v := .tuple #[.agg #[.int .i64 i, .slice (some ⟨gz, 0, none⟩) 9 9, .slice (some ⟨gl, 0, none⟩) 9 9], .bool true]) (by simp [results, Tryd.results7, go_sem, r0, r1, r2]) rfl ?_
            have HWv := HW.out.wave Hl.out HX.out rfl
            exact ⟨_, rfl, HWv⟩

end Go.Proofs.YtoehgcakfblblaaDoor

/- WaveOf of the program for lists that have no wave. -/
namespace Go.Proofs.YtoehgcakfblblaaDoor
open Go.RowKit
set_option maxRecDepth 100000

/-- What WaveOf is to return. -/
def WaveOfPost (X : List Int) (w : World) (e : Ending) (w' : World) : Prop :=
  (okW X = true ∧ ∃ v, e = .returned (.tuple #[v, .bool true]) ∧ WvO w' w.heap.size w'.heap.size X.length (wzer X) (levV X) v ∧ Below w.heap.size w w') ∨
  (okW X = false ∧ e = .returned (.tuple #[.agg #[.int .i64 0, .slice none 0 0, .slice none 0 0], .bool false]) ∧ Below w.heap.size w w')

set_option maxHeartbeats 800000 in
theorem implWaveOf_long (A : Option Addr) (c n : Nat) (w : World) (hn : 1000 < n) (hn2 : n ≤ 9223372036854775807) :
    Calls Tryd.prog 7 #[.slice A n c] w fun e w' => e = .returned (.tuple #[.agg #[.int .i64 0, .slice none 0 0, .slice none 0 0], .bool false]) ∧ Below w.heap.size w w' := by
  have t0 : decide ((1000 : Int) < (n : Int)) = true := by simp; omega
  have hr := Box.made w 28 #[.int .i64 0, .slice none 0 0, .slice none 0 0]
  have r0 := hr.cell 0
  have r1 := hr.cell 1
  have r2 := hr.cell 2
  have f0 := hr.frozen 0
  have f1 := hr.frozen 1
  have f2 := hr.frozen 2
  have rl := hr.lt
  have HB : Hid (Below w.heap.size w (w.alloc (.cells #[.int .i64 0, .slice none 0 0, .slice none 0 0] 28))) := Lib.hid ((Below.refl _ _).alloc (Nat.le_refl _) _)
  clear hr
  go_enter Tryd.func7, Tryd.ntmps7
  go_wp2
  refine bodyPost_ret (v := .tuple #[.agg #[.int .i64 0, .slice none 0 0, .slice none 0 0], .bool false]) (by simp [results, Tryd.results7, go_sem, r0, r1, r2]) rfl ?_
  exact ⟨rfl, HB.out⟩

set_option maxHeartbeats 1600000 in
theorem implWaveOf_no (A : Option Addr) (c n : Nat) (X : List Int) (w : World) (hL : Lies w I A X) (hl : X.length = n) (hn : n ≤ 1000) (hno : ¬ ∀ x ∈ X, 0 ≤ x ∧ x ≤ 511) :
    Calls Tryd.prog 7 #[.slice A n c] w fun e w' => e = .returned (.tuple #[.agg #[.int .i64 0, .slice none 0 0, .slice none 0 0], .bool false]) ∧ Below w.heap.size w w' := by
  have HL := Lib.hid hL
  have Hl := Lib.hid hl
  have HN := Lib.hid hno
  have t0 : decide ((1000 : Int) < (n : Int)) = false := by simp; omega
  have hr := Box.made w 28 #[.int .i64 0, .slice none 0 0, .slice none 0 0]
  have r0 := hr.cell 0
  have r1 := hr.cell 1
  have r2 := hr.cell 2
  have f0 := hr.frozen 0
  have f1 := hr.frozen 1
  have f2 := hr.frozen 2
  have rl := hr.lt
  have HB : Hid (Below w.heap.size w (w.alloc (.cells #[.int .i64 0, .slice none 0 0, .slice none 0 0] 28))) := Lib.hid ((Below.refl _ _).alloc (Nat.le_refl _) _)
  have HB0 : Hid (Below w.heap.size w (w.alloc (.cells #[.int .i64 0, .slice none 0 0, .slice none 0 0] 28))) := Lib.hid ((Below.refl _ _).alloc (Nat.le_refl _) _)
  clear hr hL hl hno
  go_enter Tryd.func7, Tryd.ntmps7
  go_wp2
  go_loop [5, 15] (fun x t => ∃ i : Nat, i ≤ n ∧ t = .int .i64 i ∧ Hid (∀ y ∈ X.take i, 0 ≤ y ∧ y ≤ 511)) (fun _ t => n - (intOf t).toNat)
  case atStart => exact ⟨0, Nat.zero_le _, rfl, Lib.hid fun y hy => by simp at hy⟩
  case round =>
    obtain ⟨i, hi, rfl, HG⟩ := hrel
    by_cases hlt : i < n
    · obtain ⟨b, o, x, hA, hbl, hx, hc⟩ := (HL.out.below HB0.out).at_ (i := i) (by rw [Hl.out]; exact hlt)
      subst hA
      have CB := Lib.hid (isWave_any x (w.alloc (.cells #[.int .i64 0, .slice none 0 0, .slice none 0 0] 28)))
      have i0 : (0 : Int) ≤ (i : Int) := by omega
      have i1 : (i : Int) < (n : Int) := by omega
      have HX := Lib.hid hx
      clear hx
      by_cases hok : 0 ≤ x ∧ x ≤ 511
      · rw [decide_eq_true hok] at CB
        have HG2 : Hid (∀ y ∈ X.take (i + 1), 0 ≤ y ∧ y ≤ 511) := Lib.hid fun y hy => by
          rw [List.take_add_one, HX.out, Option.toList_some] at hy
          rcases List.mem_append.1 hy with h | h
          · exact HG.out y h
          · obtain rfl : y = x := by simpa using h
            exact hok
        clear hok HG
        go_wp2_with fail
        refine CB.out.mono ?_
        rintro e w1 ⟨rfl, rfl⟩
        go_wp2
        go_round
        case rel => exact ⟨i + 1, by omega, by go_num, HG2⟩
        case measure => simp [intOf]; omega
      · rw [decide_eq_false hok] at CB
        clear hok HG
        go_wp2_with fail
        refine CB.out.mono ?_
        rintro e w1 ⟨rfl, rfl⟩
        go_wp2
        refine bodyPost_ret (v := .tuple #[.agg #[.int .i64 0, .slice none 0 0, .slice none 0 0], .bool false]) (by simp [results, Tryd.results7, go_sem, r0, r1, r2]) rfl ?_
        exact ⟨rfl, HB.out⟩
    · exfalso
      refine HN.out fun y hy => HG.out y ?_
      rw [List.take_of_length_le (by rw [Hl.out]; omega)]
      exact hy

theorem implWaveOf_any (A : Option Addr) (c : Nat) (X : List Int) (w : World) (hL : Lies w I A X) (hn : X.length ≤ 9223372036854775807) :
    Calls Tryd.prog 7 #[.slice A X.length c] w (WaveOfPost X w) := by
  by_cases h1 : X.length ≤ 1000
  · by_cases h2 : ∀ x ∈ X, 0 ≤ x ∧ x ≤ 511
    · exact (implWaveOf_in A c X.length X w hL rfl h1 h2).mono fun e w' h => .inl ⟨(okW_iff X).2 ⟨h1, h2⟩, h⟩
    · refine (implWaveOf_no A c X.length X w hL rfl h1 h2).mono fun e w' h => .inr ⟨?_, h⟩
      cases h3 : okW X
      · rfl
      · exact absurd ((okW_iff X).1 h3).2 h2
  · refine (implWaveOf_long A c X.length w (by omega) hn).mono fun e w' h => .inr ⟨?_, h⟩
    cases h3 : okW X
    · rfl
    · exact absurd ((okW_iff X).1 h3).1 h1

end Go.Proofs.YtoehgcakfblblaaDoor
