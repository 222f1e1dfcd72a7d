/- Crc, the program's and the specification's. -/
import Derived.Test.YtlbnngolcoefdaaDoorProg
import Derived.Test.YtlbnngolcoefdaaDoorCrcMath
namespace Go.Proofs.YtlbnngolcoefdaaDoor
open Go.RowKit
set_option maxRecDepth 100000

set_option maxHeartbeats 400000 in
theorem implCrcByte (s : Nat) (hs : s < 2 ^ 32) (w : World) :
    Calls Tryd.prog 109 #[.int .u32 s] w fun e w' => e = .returned (.int .u32 ((crcN 8 s : Nat) : Int)) ∧ w = w' := by
  go_enter Tryd.func109, Tryd.ntmps109
  go_wp2
  go_loopw [0, 4] (fun v i wr => ∃ k : Nat, k ≤ 8 ∧ i = .int .i64 k ∧ v = .int .u32 ((crcN k s : Nat) : Int) ∧ w = wr) (fun _ i _ => 8 - (intOf i).toNat)
  case atStart => exact ⟨0, by omega, rfl, rfl, rfl⟩
  case round =>
    obtain ⟨k, hk, rfl, rfl, rfl⟩ := hrel
    have hlt := crcN_lt k hs
    have HX := Lib.hid (crcN_succ k s)
    by_cases h8 : k < 8
    · generalize crcN k s = x at *
      by_cases ho : x % 2 = 1
      · have o1 : (x : Int) % 2 = 1 := by omega
        have hx : crcStep x = x / 2 ^^^ 3988292384 := by unfold crcStep; rw [if_pos ho]
        have HB := Lib.hid (u32_xor_nat (x / 2) 3988292384 (by omega) (by decide))
        have HE := Lib.hid (HX.out.trans hx)
        clear hx HX
        go_wp2
        go_roundw
        case rel => exact ⟨k + 1, by omega, by go_num, by rw [HE.out, ← HB.out]; rfl, by trivial⟩
        case measure => simp [intOf]; omega
      · have o1 : (x : Int) % 2 = 0 := by omega
        have hx : crcStep x = x / 2 := by unfold crcStep; rw [if_neg ho]
        have HE := Lib.hid (HX.out.trans hx)
        clear hx HX
        go_wp2
        go_roundw
        case rel => exact ⟨k + 1, by omega, by go_num, by rw [HE.out]; rfl, by trivial⟩
        case measure => simp [intOf]; omega
    · have e : k = 8 := by omega
      subst e
      go_wp2
      go_ret
      exact ⟨rfl, rfl⟩

set_option maxHeartbeats 400000 in
theorem implCrc_any (A : Option Addr) (c : Nat) (L : List Nat) (w : World) (hL : Lies w B8 A L) (hw : ∀ x ∈ L, x < 2 ^ 8) :
    Calls Tryd.prog 75 #[.slice A L.length c] w fun e w' => e = .returned (.int .i64 (crcV L)) ∧ w = w' := by
  unfold crcV
  by_cases hb : 16000 < L.length
  · rw [if_pos hb]
    go_enter Tryd.func75, Tryd.ntmps75
    go_wp2
    go_ret
    exact ⟨rfl, rfl⟩
  · rw [if_neg hb]
    have HW := Lib.hid hw
    clear hw
    go_enter Tryd.func75, Tryd.ntmps75
    go_wp2
    go_loopw [3, 11] (fun v i wr => ∃ k : Nat, k ≤ L.length ∧ i = .int .i64 k ∧ v = .int .u32 ((crcF 4294967295 (L.take k) : Nat) : Int) ∧ w = wr) (fun _ i _ => L.length - (intOf i).toNat)
    case atStart => exact ⟨0, by omega, rfl, rfl, rfl⟩
    case round =>
      obtain ⟨k, hk, rfl, rfl, rfl⟩ := hrel
      have hlt : crcF 4294967295 (L.take k) < 2 ^ 32 := crcF_lt _ (by decide) fun x hx => HW.out x (List.mem_of_mem_take hx)
      by_cases h8 : k < L.length
      · obtain ⟨b, o, x, rfl, hbl, hx, hc⟩ := hL.at_ h8
        have HX := Lib.hid (crcF_take L k x 4294967295 hx)
        have hx8 : x < 2 ^ 8 := HW.out x (List.mem_of_getElem? hx)
        generalize crcF 4294967295 (L.take k) = y at *
        have HB := Lib.hid (u32_xor_nat y x hlt (by omega))
        have HC := Lib.hid (implCrcByte (y ^^^ x) (xor_byte_lt hlt hx8) w)
        clear hx hL
        go_wp2_with fail
        rw [HB.out]
        refine HC.out.mono ?_
        rintro e w1 ⟨rfl, rfl⟩
        go_wp2
        go_roundw
        case rel => exact ⟨k + 1, by omega, by go_num, by rw [HX.out], by trivial⟩
        case measure => simp [intOf]; omega
      · have e : k = L.length := by omega
        subst e
        rw [List.take_of_length_le (Nat.le_refl _)] at *
        have HB := Lib.hid (u32_xor_nat 4294967295 (crcF 4294967295 L) (by decide) hlt)
        have HE : Hid (crcL L = 4294967295 ^^^ crcF 4294967295 L) := Lib.hid (Nat.xor_comm _ _)
        generalize crcF 4294967295 L = y at *
        go_wp2
        go_ret
        have hy : bits BinOp.xor IntKind.u32 IntKind.u32.max (y : Int) = ((4294967295 ^^^ y : Nat) : Int) := HB.out
        have hz : 4294967295 ^^^ y < 2 ^ 32 := Nat.xor_lt_two_pow (by decide) hlt
        refine ⟨congrArg (fun z => Ending.returned (Value.int .i64 z)) (?_ : wrap64 (bits BinOp.xor IntKind.u32 IntKind.u32.max (y : Int)) = _), by trivial⟩
        rw [hy, HE.out]
        exact IntWalk.wrap64_in _ (by omega)

set_option maxHeartbeats 800000 in
theorem specCrc_any (A : Option Addr) (c : Nat) (L : List Nat) (w : World) (hL : Lies w B8 A L) (hw : ∀ x ∈ L, x < 2 ^ 8) :
    Calls Tryd.prog 108 #[.slice A L.length c] w fun e w' => e = .returned (.int .i64 (crcV L)) ∧ w = w' := by
  unfold crcV
  by_cases hb : 16000 < L.length
  · rw [if_pos hb]
    go_enter Tryd.func108, Tryd.ntmps108
    go_wp2
    go_ret
    exact ⟨rfl, rfl⟩
  · rw [if_neg hb]
    have HW := Lib.hid hw
    clear hw
    go_enter Tryd.func108, Tryd.ntmps108
    go_wp2
    go_loopw [3, 4] (fun v i wr => ∃ k : Nat, k ≤ L.length ∧ i = .int .i64 k ∧ v = .int .i64 ((crcF 4294967295 (L.take k) : Nat) : Int) ∧ w = wr) (fun _ i _ => L.length - (intOf i).toNat)
    case atStart => exact ⟨0, by omega, rfl, rfl, rfl⟩
    case round =>
      obtain ⟨k, hk, rfl, rfl, rfl⟩ := hrel
      have hlt : crcF 4294967295 (L.take k) < 2 ^ 32 := crcF_lt _ (by decide) fun x hx => HW.out x (List.mem_of_mem_take hx)
      by_cases h8 : k < L.length
      · obtain ⟨b, o, x, rfl, hbl, hx, hc⟩ := hL.at_ h8
        have HX := Lib.hid (crcF_take L k x 4294967295 hx)
        have hx8 : x < 2 ^ 8 := HW.out x (List.mem_of_getElem? hx)
        generalize crcF 4294967295 (L.take k) = y at *
        have hxy := i64_xor_nat y x hlt (by omega)
        have hzl := xor_byte_lt hlt hx8
        generalize y ^^^ x = z at *
        clear hx hL
        go_wp2
        go_loopw [3, 5] (fun v i wr => ∃ j : Nat, j ≤ 8 ∧ i = .int .i64 j ∧ v = .int .i64 ((crcN j z : Nat) : Int) ∧ w = wr) (fun _ i _ => 8 - (intOf i).toNat)
        case atStart => exact ⟨0, by omega, rfl, rfl, rfl⟩
        case round =>
          obtain ⟨j, hj, rfl, rfl, rfl⟩ := hrel
          have hul := crcN_lt j hzl
          have HY := Lib.hid (crcN_succ j z)
          by_cases hj8 : j < 8
          · generalize crcN j z = u at *
            by_cases ho : u % 2 = 1
            · have o1 : (u : Int) % 2 = 1 := by omega
              have hu : crcStep u = u / 2 ^^^ 3988292384 := by unfold crcStep; rw [if_pos ho]
              have HB := Lib.hid (i64_xor_nat (u / 2) 3988292384 (by omega) (by decide))
              have HE := Lib.hid (HY.out.trans hu)
              clear hu HY
              go_wp2
              go_roundw
              case rel => exact ⟨j + 1, by omega, by go_num, by rw [HE.out, ← HB.out]; rfl, by trivial⟩
              case measure => simp [intOf]; omega
            · have o1 : (u : Int) % 2 = 0 := by omega
              have hu : crcStep u = u / 2 := by unfold crcStep; rw [if_neg ho]
              have HE := Lib.hid (HY.out.trans hu)
              clear hu HY
              go_wp2
              go_roundw
              case rel => exact ⟨j + 1, by omega, by go_num, by rw [HE.out]; rfl, by trivial⟩
              case measure => simp [intOf]; omega
          · have e : j = 8 := by omega
            subst e
            clear HY
            go_wp2
            go_roundw
            case rel => exact ⟨k + 1, by omega, by go_num, by rw [HX.out], by trivial⟩
            case measure => simp [intOf]; omega
      · have e : k = L.length := by omega
        subst e
        rw [List.take_of_length_le (Nat.le_refl _)] at *
        have HB := Lib.hid (i64_xor_nat (crcF 4294967295 L) 4294967295 hlt (by decide))
        have HE : Hid (crcL L = crcF 4294967295 L ^^^ 4294967295) := Lib.hid rfl
        generalize crcF 4294967295 L = y at *
        go_wp2
        go_ret
        refine ⟨?_, rfl⟩
        rw [HE.out, ← HB.out]
        rfl

end Go.Proofs.YtlbnngolcoefdaaDoor
