import Derived.Test.YtlbnngolcoefdaaDoorSp7
import Derived.Test.YtlbnngolcoefdaaDoorSp4
import Derived.Test.YtlbnngolcoefdaaDoorPk3
import Derived.Test.YtlbnngolcoefdaaDoorSpOrd2
/- The program's iterator over the numbers of a sparse list. -/
namespace Go.Proofs.YtlbnngolcoefdaaDoor
open Go.RowKit Go.Shelf
set_option maxRecDepth 100000
attribute [local go_sem] Oper.semAt_some

/-- The number at the bit p. -/
def numAt (P M K : Int) (Ws Vs : List Nat) (H p : Nat) : Int := (cnt Vs 0 (min p H) : Int) * 2 ^ P.toNat + paV P M K Ws (cnt Vs 1 (min p H))

theorem spl_ups (P M K : Int) (Ws Vs : List Nat) (H : Nat) (hok : okP P M K Ws = true) (hc : (cnt Vs 1 H : Int) = M) : ∀ m, m ≤ H → spl P.toNat (plV P M K Ws) Vs m = (ups Vs m).map (numAt P M K Ws Vs H)
  | 0, _ => rfl
  | m + 1, h => by
    rw [ups]
    by_cases hb : bitN Vs m = 1
    · rw [if_pos hb, List.map_append, ← spl_ups P M K Ws Vs H hok hc m (by omega)]
      have hlt := cntS_lt Vs (k := H) (by omega) hb
      refine (spl_push _ _ _ m (paV P M K Ws (cnt Vs 1 m)) hb ?_).trans ?_
      · unfold plV paV
        rw [if_pos hok, if_pos ⟨hok, by omega, by omega⟩, unpack_get _ _ _ _ (by omega), Int.toNat_natCast]
      · unfold numAt
        rw [List.map_cons, List.map_nil, Nat.min_eq_left (by omega)]
    · rw [if_neg hb, spl_no _ _ _ m hb, spl_ups P M K Ws Vs H hok hc m (by omega)]

theorem own_kp {β : Type} {n₀ : Nat} {w : World} (hn : n₀ ≤ w.heap.size) : OwnFrom w.heap.size (fun (_ : β) W => KpB n₀ w W) := fun s W W' row hs hg hr =>
  ⟨ownFrom_below (w₀ := w) hn hn s W W' row hs.1 hg hr, fun k cs t f hk ht => by
    have h1 := hs.2 k cs t f hk ht
    have hkl := (Array.getElem?_eq_some_iff.1 hk).1
    refine (hg.block k (Nat.lt_of_lt_of_le hkl hs.1.size) fun e => ?_).trans h1
    have := (hr k e.symm).1
    omega⟩

theorem paV_ge (P M K : Int) (Ws : List Nat) (i : Int) (hok : okP P M K Ws = true) : -1 ≤ paV P M K Ws i ∧ paV P M K Ws i < 4294967296 := by
  obtain ⟨wd, n, m, rfl, rfl, rfl, _, hwd, _⟩ := okP_nat hok
  unfold paV
  split
  · have h1 : (val (bitsOf (m : Int).toNat Ws) / 2 ^ (i.toNat * (wd : Int).toNat) % 2 ^ (wd : Int).toNat) < 2 ^ (wd : Int).toNat := Nat.mod_lt _ (Nat.two_pow_pos _)
    have h2 : 2 ^ (wd : Int).toNat ≤ 2 ^ 32 := Nat.pow_le_pow_right (by omega) (by omega)
    omega
  · omega

set_option maxHeartbeats 400000 in
theorem numbersOf_any (V N P M K H : Int) (A A' : Option Addr) (n c n' c' : Nat) (w : World) :
    Calls Tryd.prog 63 #[SP V N P M K (.slice A n c) H (.slice A' n' c')] w fun e w' => e = .returned (.func (.func 98) #[] #[.pointer (some ⟨w.heap.size, 0, none⟩)]) ∧
      w.alloc (.cells #[.int .i64 V, .int .i64 N, .int .i64 P, .int .i64 M, .int .i64 K, .slice A n c, .int .i64 H, .slice A' n' c'] 33) = w' := by
  go_enter Tryd.func63, Tryd.ntmps63
  go_wp2
  go_ret
  exact ⟨rfl, rfl⟩

set_option maxHeartbeats 2000000 in
theorem numbersO (Bs n₀ c c' : Nat) (V N P M K : Int) (A A' : Option Addr) (H : Nat) (Ws Vs : List Nat) (hp : okP P M K Ws = true) (hb : okB H Vs = true) (hw : ∀ x ∈ Ws, x < 2 ^ 64) (hw' : ∀ x ∈ Vs, x < 2 ^ 64) (hH : H ≤ 5000) (hc : (cnt Vs 1 H : Int) = M) (w : World) (hn₀ : n₀ ≤ w.heap.size)
    (hbx : Box w Bs 33 #[.int .i64 V, .int .i64 N, .int .i64 P, .int .i64 M, .int .i64 K, .slice A Ws.length c, .int .i64 H, .slice A' Vs.length c'])
    (hL : ∀ (j x : Nat), Ws[j]? = some x → ∃ b o, A = some ⟨b, o, none⟩ ∧ b < n₀ ∧ w.cell? ⟨b, o + j, none⟩ = some (U x))
    (hL' : ∀ (j x : Nat), Vs[j]? = some x → ∃ b o, A' = some ⟨b, o, none⟩ ∧ b < n₀ ∧ w.cell? ⟨b, o + j, none⟩ = some (U x)) :
    SeqO Tryd.prog 98 #[.pointer (some ⟨Bs, 0, none⟩)] (fun x : Int => #[Value.int .i64 x]) (KpB n₀) (fun ys => ys = spl P.toNat (plV P M K Ws) Vs H) (fun pre => pre <+: spl P.toNat (plV P M K Ws) Vs H) (cnt Vs 1 H) w := by
  intro l J Jx W hW hJ hJx hY h0
  rw [spl_ups P M K Ws Vs H hp hc H (Nat.le_refl _)]
  obtain ⟨⟨p0, p1, p2, p3, p4, p5, p6, p7⟩, _, hbl⟩ := box_eight (hbx.below hW hbx.lt)
  have HY := Lib.hid hY
  have hnW : n₀ ≤ W.heap.size := Nat.le_trans hn₀ hW.size
  clear hY
  refine callsIn_of_wp_marks Tryd.func98 rfl trivial ?_ rfl
  simp only [Tryd.ntmps98, List.size_toArray, List.length_cons, List.length_nil, Nat.reduceAdd, Nat.reduceSub, Array.replicate_succ, Array.replicate_zero, List.push_toArray, List.append_toArray, List.nil_append, List.cons_append]
  gi_wp2_with fail
  refine ⟨trivial, rfl, (callsIn_wide.2 (uppers_any H A' Vs.length c' _)).mono ?_⟩
  rintro e w' ⟨rfl, rfl⟩
  clear p0 p1 p2 p3 p4 p5 p6 p7
  gi_wp2
  have hWW : Below W.heap.size W ((W.alloc (.cells #[.func (.yield l) #[] #[]] 115)).alloc (.cells #[.int .i64 H, .slice A' Vs.length c'] 29)) := ((Below.refl _ _).alloc (Nat.le_refl _) _).alloc (by simp) _
  have hyb : Box ((W.alloc (.cells #[.func (.yield l) #[] #[]] 115)).alloc (.cells #[.int .i64 H, .slice A' Vs.length c'] 29)) W.heap.size 115 #[.func (.yield l) #[] #[]] := (Box.made W _ _).alloc _
  have hub : Box ((W.alloc (.cells #[.func (.yield l) #[] #[]] 115)).alloc (.cells #[.int .i64 H, .slice A' Vs.length c'] 29)) (W.alloc (.cells #[.func (.yield l) #[] #[]] 115)).heap.size 29 #[.int .i64 H, .slice A' Vs.length c'] := Box.made _ _ _
  rw [World.size_alloc] at hub
  generalize (W.alloc (.cells #[.func (.yield l) #[] #[]] 115)).alloc (.cells #[.int .i64 H, .slice A' Vs.length c'] 29) = W2 at *
  have hn2 : n₀ ≤ W2.heap.size := Nat.le_trans hnW hWW.size
  have hww2 := below_then hW hWW
  refine wpIn_range_O (n := 0) (gf := 121) (lb := #[.pointer (some ⟨W.heap.size + 1, 0, none⟩)]) rfl (enters_of Tryd.func121 (by kernel_rfl) rfl)
    (uppersO (W.heap.size + 1) n₀ c' A' H Vs hb hw' hH W2 hn2 hub (fun j x hx => by
      obtain ⟨b, o, h1, h2, h3⟩ := hL' j x hx
      exact ⟨b, o, h1, h2, (hww2.cell (p := ⟨b, o + j, none⟩) (Nat.lt_of_lt_of_le h2 hn₀)).trans h3⟩)) kp_t (kp_b hn2) (Below.refl _ W2) (fun _ => rfl)
    (fun pre W' => J (pre.map (numAt P M K Ws Vs H)) W' ∧ KpB n₀ W2 W') (fun c pre W' => c = .ret ∧ Jx (pre.map (numAt P M K Ws Vs H)) W')
    (OwnFrom.and (fun s A B row hs hg hr => own_later hJ hWW.size _ A B row hs hg hr) (own_kp hn2)) (fun c => fun s A B row hs hg hr => ⟨hs.1, own_later hJx hWW.size _ A B row hs.2 hg hr⟩)
    ⟨own_on hJ h0 hWW, kp_refl _ _⟩
    (fun p => { tmps := #[.func (.yield l) #[] #[], .pointer (some ⟨Bs, 0, none⟩), .pointer (some ⟨W.heap.size, 0, none⟩), .int .i64 (cnt Vs 1 (min p H)), .int .i64 (cnt Vs 0 (min p H)), .pointer (some ⟨Bs, 6, none⟩), .agg #[.int .i64 H, .slice A' Vs.length c'], .func (.func 121) #[] #[.pointer (some ⟨W.heap.size + 1, 0, none⟩)], .int .i64 (cnt Vs 1 (min p H)), .int .i64 (cnt Vs 0 (min p H)), undef, undef, undef, undef, undef, undef, undef, undef, undef, undef, undef, undef, undef], defers := [] }) ?assign ?body ?done ?stop
  case assign =>
    intro l2 p X K hK
    simp only [upAt]
    gi_wp2
    exact hK
  case body =>
    rintro l2 pre p X ⟨hj, hk⟩ hlen
    have hmx : Tryd.prog.follows .mixedOrders = true := by kernel_rfl
    have hWX := kp_t (kp_below hWW hnW) hk
    have hwX := kp_t (kp_below hW hn₀) hWX
    have HLs := Lib.hid (kp_lies hwX hn₀ hL)
    obtain ⟨⟨p0, p1, p2, p3, p4, p5, p6, p7⟩, _, hbl⟩ := box_eight (kp_boxS hWX (hbx.below hW hbx.lt))
    have hy0 := (show Box X W.heap.size 115 #[.func (.yield l) #[] #[]] from (hk.2 _ _ _ _ hyb (.inr (.inl rfl))).trans hyb).cell 0
    simp only [List.getElem?_toArray, List.getElem?_cons_zero, List.getElem?_cons_succ] at hy0
    have hcle : cnt Vs 1 (min p H) ≤ 5000 := Nat.le_trans (cnt_le _ _ _) (by omega)
    have hqle : cnt Vs 0 (min p H) ≤ 5000 := Nat.le_trans (cnt_le _ _ _) (by omega)
    have CPk := Lib.hid fun (w1 : World) (hb1 : Below X.drew.heap.size X.drew w1) => implPackAt_any P M K A c Ws (cnt Vs 1 (min p H)) w1 (HLs.out.drew.below hb1) hw
    have HNA : Hid (numAt P M K Ws Vs H p = (cnt Vs 0 (min p H) : Int) * 2 ^ P.toNat + paV P M K Ws (cnt Vs 1 (min p H))) := Lib.hid rfl
    have hpg := paV_ge P M K Ws (cnt Vs 1 (min p H)) hp
    have HYn : Hid (∀ w1, Below X.drew.heap.size X.drew w1 → YieldAt Fence.wide 0 Tryd.prog l #[.int .i64 (numAt P M K Ws Vs H p)] w1 fun e W3 => ∃ ok : Bool, e = .returned (.bool ok) ∧ KeepsFrom W2.heap.size X W3 ∧ (if ok = true then J ((pre ++ [p]).map (numAt P M K Ws Vs H)) W3 ∧ KpB n₀ X W3 else Jx ((pre ++ [p]).map (numAt P M K Ws Vs H)) W3)) := Lib.hid fun w1 hb1 => by
      have hXs : W2.heap.size ≤ X.heap.size := hk.1.size
      have hkf : KeepsFrom W2.heap.size X w1 := ⟨hb1.size, fun k o _ ho _ => (hb1.block k (Array.getElem?_eq_some_iff.1 ho).1).trans ho⟩
      have hkp : KpB n₀ X w1 := kp_below (A := X) ⟨hb1.os, hb1.tape, hb1.output, hb1.size, hb1.block⟩ (Nat.le_trans hn2 hXs)
      refine (HY.out (pre.map (numAt P M K Ws Vs H)) _ w1 (own_on hJ hj ⟨hb1.os, hb1.tape, hb1.output, hb1.size, hb1.block⟩) (by rw [List.length_map]; exact hlen)).mono fun e W3 h => ?_
      have hmap : (pre ++ [p]).map (numAt P M K Ws Vs H) = pre.map (numAt P M K Ws Vs H) ++ [numAt P M K Ws Vs H p] := by rw [List.map_append]; rfl
      rcases h with ⟨rfl, h1, h2, h3⟩ | ⟨rfl, h1, h3⟩
      · exact ⟨true, rfl, hkf.trans ⟨h3.size, fun k o hk' => h3.same k o (Nat.le_trans hWW.size hk')⟩, by rw [if_pos rfl, hmap]; exact ⟨h1, kp_t hkp h2⟩⟩
      · exact ⟨false, rfl, hkf.trans ⟨h3.size, fun k o hk' => h3.same k o (Nat.le_trans hWW.size hk')⟩, by rw [if_neg (by decide), hmap]; exact h1⟩
    obtain ⟨wd, hP, hwd⟩ : ∃ wd : Nat, P = wd ∧ wd ≤ 32 := by
      obtain ⟨wd, _, _, h1, _, _, _, h2, _⟩ := okP_nat hp
      exact ⟨wd, h1, h2⟩
    subst hP
    rw [Int.toNat_natCast] at HNA
    have HMap : Hid (∀ Y, J ((pre ++ [p]).map (numAt (wd : Int) M K Ws Vs H)) Y → J ((pre ++ [p]).map (numAt (wd : Int) M K Ws Vs H)) Y) := Lib.hid fun _ h => h
    generalize hNx : numAt (wd : Int) M K Ws Vs H p = nx at *
    clear hNx HMap
    generalize paV (wd : Int) M K Ws (cnt Vs 1 (min p H)) = pv at *
    generalize cnt Vs 1 (min p H) = c1 at *
    generalize cnt Vs 0 (min p H) = c0 at *
    have hp32 : (2 : Int) ^ wd ≤ 4294967296 := by
      have : 2 ^ wd ≤ 2 ^ 32 := Nat.pow_le_pow_right (by omega) hwd
      rw [← pow_int]
      omega
    have hp0 : (0 : Int) < 2 ^ wd := Int.pow_pos (by omega)
    obtain ⟨z, hz⟩ : ∃ z : Int, (c0 : Int) * 2 ^ wd = z := ⟨_, rfl⟩
    have hz0 : 0 ≤ z := by rw [← hz]; exact Int.mul_nonneg (by omega) (by omega)
    have hz1 : z ≤ 5000 * 4294967296 := by rw [← hz]; exact Int.mul_le_mul (by omega) hp32 (by omega) (by omega)
    have e1 : IntKind.i64.wrap ((c0 : Int) * 2 ^ wd) = z := by rw [hz]; exact IntWalk.i64_in _ (by omega)
    rw [hz] at HNA
    have e2 : IntKind.i64.wrap (z + pv) = nx := by rw [HNA.out]; exact IntWalk.i64_in _ (by omega)
    clear hz hp32 hp0 HNA
    have HXs := Lib.hid (And.intro hk hn2)
    have hbX : Bs < X.heap.size := hbl
    have hyX : W.heap.size < X.heap.size := Nat.lt_of_lt_of_le hyb.lt hk.1.size
    have HCl : Hid (∀ w1, Below X.drew.heap.size X.drew w1 → (w1.cell? ⟨Bs, 2, none⟩ = some (.int .i64 wd) ∧ w1.cell? ⟨Bs, 3, none⟩ = some (.int .i64 M) ∧ w1.cell? ⟨Bs, 4, none⟩ = some (.int .i64 K) ∧ w1.cell? ⟨Bs, 5, none⟩ = some (.slice A Ws.length c)) ∧ w1.cell? ⟨W.heap.size, 0, none⟩ = some (.func (.yield l) #[] #[])) := Lib.hid fun w1 hb1 =>
      ⟨⟨(hb1.cell (p := ⟨Bs, 2, none⟩) hbX).trans p2, (hb1.cell (p := ⟨Bs, 3, none⟩) hbX).trans p3, (hb1.cell (p := ⟨Bs, 4, none⟩) hbX).trans p4, (hb1.cell (p := ⟨Bs, 5, none⟩) hbX).trans p5⟩, (hb1.cell (p := ⟨W.heap.size, 0, none⟩) hyX).trans hy0⟩
    clear hk hWX hwX HLs hlen hj
    gi_wp2
    refine region_inv hmx (fun L a' w' => ∃ f : Nat → Value, a' = { tmps := #[.func (.yield l) #[] #[], .pointer (some ⟨Bs, 0, none⟩), .pointer (some ⟨W.heap.size, 0, none⟩), .int .i64 c1, .int .i64 c0, .pointer (some ⟨Bs, 6, none⟩), .agg #[.int .i64 H, .slice A' Vs.length c'], .func (.func 121) #[] #[.pointer (some ⟨W.heap.size + 1, 0, none⟩)], .int .i64 c1, .int .i64 c0, f 0, f 1, f 2, f 3, f 4, f 5, f 6, f 7, f 8, f 9, f 10, f 11, f 12], defers := [] } ∧
      OrdInv (fun j => match j with | 0 => Value.func (.yield l) #[] #[] | 1 => .int .i64 c0 | 2 => .pointer (some ⟨Bs, 2, none⟩) | 3 => .pointer (some ⟨Bs, 2, none⟩) | 4 => .int .i64 wd | 5 => .int .i64 z | 6 => .pointer (some ⟨Bs, 2, none⟩) | 7 => .agg #[.int .i64 wd, .int .i64 M, .int .i64 K, .slice A Ws.length c] | 8 => .int .i64 c1 | 9 => .int .i64 pv | 10 => .int .i64 nx | _ => undef) (fun w1 => Below X.drew.heap.size X.drew w1) (fun ok W3 => KeepsFrom W2.heap.size X W3 ∧ (if ok = true then J ((pre ++ [p]).map (numAt (wd : Int) M K Ws Vs H)) W3 ∧ KpB n₀ X W3 else Jx ((pre ++ [p]).map (numAt (wd : Int) M K Ws Vs H)) W3)) L f w') ?start ?step ?fin
    case start => exact ⟨fun _ => undef, rfl, OrdInv.start _ (Below.refl _ _)⟩
    case fin =>
      rintro L a' w' hs ⟨f, rfl, hI⟩ hno
      replace hs : L.size = 13 := hs
      have a0 := not_mayCome (i := 0) rfl (by omega) (hno 0 (by show 0 < 13; omega)) (by simp)
      have a1 := not_mayCome (i := 1) rfl (by omega) (hno 1 (by show 1 < 13; omega)) (by simp)
      have a2 := not_mayCome (i := 2) rfl (by omega) (hno 2 (by show 2 < 13; omega)) (by simp)
      have a3 := not_mayCome (i := 3) rfl (by omega) (hno 3 (by show 3 < 13; omega)) (by simp [a2])
      have a4 := not_mayCome (i := 4) rfl (by omega) (hno 4 (by show 4 < 13; omega)) (by simp [a3])
      have a5 := not_mayCome (i := 5) rfl (by omega) (hno 5 (by show 5 < 13; omega)) (by simp [a1, a4])
      have a6 := not_mayCome (i := 6) rfl (by omega) (hno 6 (by show 6 < 13; omega)) (by simp)
      have a7 := not_mayCome (i := 7) rfl (by omega) (hno 7 (by show 7 < 13; omega)) (by simp [a6])
      have a8 := not_mayCome (i := 8) rfl (by omega) (hno 8 (by show 8 < 13; omega)) (by simp)
      have a9 := not_mayCome (i := 9) rfl (by omega) (hno 9 (by show 9 < 13; omega)) (by simp [a7, a8])
      have a10 := not_mayCome (i := 10) rfl (by omega) (hno 10 (by show 10 < 13; omega)) (by simp [a5, a9])
      have a11 := not_mayCome (i := 11) rfl (by omega) (hno 11 (by show 11 < 13; omega)) (by simp [a0, a10, a9])
      have a12 := not_mayCome (i := 12) rfl (by omega) (hno 12 (by show 12 < 13; omega)) (by simp [a11])
      clear hno
      obtain ⟨_, ok, _, h12, hf3, hj3⟩ := hI.post a11
      have hv12 := h12 a12
      clear hI h12 a0 a1 a2 a3 a4 a5 a6 a7 a8 a9 a10 a11 a12
      cases ok
      · rw [if_neg (by decide)] at hj3
        simp only [Bool.not_false] at hv12
        rw [hv12]
        gi_wp2
        exact ⟨hf3, rfl, hj3⟩
      · rw [if_pos rfl] at hj3
        simp only [Bool.not_true] at hv12
        rw [hv12]
        gi_wp2
        exact ⟨hf3, hj3.2, hj3.1, kp_t HXs.out.1 hj3.2⟩
    case step =>
      rintro L a' w' hs ⟨f, rfl, hI⟩ i hi hm
      replace hs : L.size = 13 := hs
      match i, hi with
      | 0, _ =>
        obtain ⟨hn, hd⟩ := mayCome_deps (i := 0) rfl (by omega) hm
        clear hd hm
        have h11 := hI.early (by omega) hn
        have hw := (hI.pre h11).2
        obtain ⟨⟨r2, r3, r4, r5⟩, ry⟩ := HCl.out w' hw
        refine wpOpIn_step rfl fun K' hK' => ?_
        go_simp
        refine hK' _ _ ⟨fun j => if j = 0 then Value.func (.yield l) #[] #[] else f j, by simp, hI.next (i := 0) (by omega) hn (by simp [waits]) hw _ (fun j => rfl)⟩
      | 1, _ =>
        obtain ⟨hn, hd⟩ := mayCome_deps (i := 1) rfl (by omega) hm
        clear hd hm
        have h11 := hI.early (by omega) hn
        have hw := (hI.pre h11).2
        refine wpOpIn_step rfl fun K' hK' => ?_
        go_simp
        refine hK' _ _ ⟨fun j => if j = 1 then .int .i64 c0 else f j, by simp, hI.next (i := 1) (by omega) hn (by simp [waits]) hw _ (fun j => rfl)⟩
      | 2, _ =>
        obtain ⟨hn, hd⟩ := mayCome_deps (i := 2) rfl (by omega) hm
        clear hd hm
        have h11 := hI.early (by omega) hn
        have hw := (hI.pre h11).2
        refine wpOpIn_step rfl fun K' hK' => ?_
        go_simp
        refine hK' _ _ ⟨fun j => if j = 2 then .pointer (some ⟨Bs, 2, none⟩) else f j, by simp, hI.next (i := 2) (by omega) hn (by simp [waits]) hw _ (fun j => rfl)⟩
      | 3, _ =>
        obtain ⟨hn, hd⟩ := mayCome_deps (i := 3) rfl (by omega) hm
        have d2 : lst L 2 = true := by simpa [Region.binds] using hd
        clear hd hm
        have h11 := hI.early (by omega) hn
        have hw := (hI.pre h11).2
        have v2 := hI.vals 2 (by omega) d2
        simp only at v2
        refine wpOpIn_step rfl fun K' hK' => ?_
        go_simp
        refine hK' _ _ ⟨fun j => if j = 3 then .pointer (some ⟨Bs, 2, none⟩) else f j, by simp [v2], hI.next (i := 3) (by omega) hn (by simp [waits, d2]) hw _ (fun j => rfl)⟩
      | 4, _ =>
        obtain ⟨hn, hd⟩ := mayCome_deps (i := 4) rfl (by omega) hm
        have d3 : lst L 3 = true := by simpa [Region.binds] using hd
        clear hd hm
        have h11 := hI.early (by omega) hn
        have hw := (hI.pre h11).2
        have v3 := hI.vals 3 (by omega) d3
        simp only at v3
        obtain ⟨⟨r2, r3, r4, r5⟩, ry⟩ := HCl.out w' hw
        refine wpOpIn_step rfl fun K' hK' => ?_
        go_simp
        refine hK' _ _ ⟨fun j => if j = 4 then .int .i64 wd else f j, by simp [v3], hI.next (i := 4) (by omega) hn (by simp [waits, d3]) hw _ (fun j => rfl)⟩
      | 5, _ =>
        obtain ⟨hn, hd⟩ := mayCome_deps (i := 5) rfl (by omega) hm
        obtain ⟨d1, d4⟩ : lst L 1 = true ∧ lst L 4 = true := by simpa [Region.binds] using hd
        clear hd hm
        have h11 := hI.early (by omega) hn
        have hw := (hI.pre h11).2
        have v1 := hI.vals 1 (by omega) d1
        have v4 := hI.vals 4 (by omega) d4
        simp only at v1 v4
        refine wpOpIn_step rfl fun K' hK' => ?_
        go_simp
        refine hK' _ _ ⟨fun j => if j = 5 then .int .i64 z else f j, by simp [v1, v4], hI.next (i := 5) (by omega) hn (by simp [waits, d1, d4]) hw _ (fun j => rfl)⟩
      | 6, _ =>
        obtain ⟨hn, hd⟩ := mayCome_deps (i := 6) rfl (by omega) hm
        clear hd hm
        have h11 := hI.early (by omega) hn
        have hw := (hI.pre h11).2
        refine wpOpIn_step rfl fun K' hK' => ?_
        go_simp
        refine hK' _ _ ⟨fun j => if j = 6 then .pointer (some ⟨Bs, 2, none⟩) else f j, by simp, hI.next (i := 6) (by omega) hn (by simp [waits]) hw _ (fun j => rfl)⟩
      | 7, _ =>
        obtain ⟨hn, hd⟩ := mayCome_deps (i := 7) rfl (by omega) hm
        have d6 : lst L 6 = true := by simpa [Region.binds] using hd
        clear hd hm
        have h11 := hI.early (by omega) hn
        have hw := (hI.pre h11).2
        have v6 := hI.vals 6 (by omega) d6
        simp only at v6
        obtain ⟨⟨r2, r3, r4, r5⟩, ry⟩ := HCl.out w' hw
        refine wpOpIn_step rfl fun K' hK' => ?_
        go_simp
        refine hK' _ _ ⟨fun j => if j = 7 then .agg #[.int .i64 wd, .int .i64 M, .int .i64 K, .slice A Ws.length c] else f j, by simp [v6], hI.next (i := 7) (by omega) hn (by simp [waits, d6]) hw _ (fun j => rfl)⟩
      | 8, _ =>
        obtain ⟨hn, hd⟩ := mayCome_deps (i := 8) rfl (by omega) hm
        clear hd hm
        have h11 := hI.early (by omega) hn
        have hw := (hI.pre h11).2
        refine wpOpIn_step rfl fun K' hK' => ?_
        go_simp
        refine hK' _ _ ⟨fun j => if j = 8 then .int .i64 c1 else f j, by simp, hI.next (i := 8) (by omega) hn (by simp [waits]) hw _ (fun j => rfl)⟩
      | 9, _ =>
        obtain ⟨hn, hd⟩ := mayCome_deps (i := 9) rfl (by omega) hm
        obtain ⟨d7, d8⟩ : lst L 7 = true ∧ lst L 8 = true := by simpa [Region.binds] using hd
        clear hd hm
        have h11 := hI.early (by omega) hn
        have hw := (hI.pre h11).2
        have v7 := hI.vals 7 (by omega) d7
        have v8 := hI.vals 8 (by omega) d8
        simp only at v7 v8
        have CW := CPk.out w' hw
        refine wpOpIn_step rfl fun K' hK' => ?_
        go_simp
        refine ⟨trivial, rfl, (CallsIn.inRound l2 (callsIn_wide.2 CW)).mono ?_⟩
        rintro e w2 ⟨rfl, hb2⟩
        refine hK' _ _ ⟨fun j => if j = 9 then .int .i64 pv else f j, by simp [v7, v8], hI.next (i := 9) (by omega) hn (by simp [waits, d7, d8]) (below_then hw hb2) _ (fun j => rfl)⟩
      | 10, _ =>
        obtain ⟨hn, hd⟩ := mayCome_deps (i := 10) rfl (by omega) hm
        obtain ⟨d5, d9⟩ : lst L 5 = true ∧ lst L 9 = true := by simpa [Region.binds] using hd
        clear hd hm
        have h11 := hI.early (by omega) hn
        have hw := (hI.pre h11).2
        have v5 := hI.vals 5 (by omega) d5
        have v9 := hI.vals 9 (by omega) d9
        simp only at v5 v9
        refine wpOpIn_step rfl fun K' hK' => ?_
        go_simp
        refine hK' _ _ ⟨fun j => if j = 10 then .int .i64 nx else f j, by simp [v5, v9], hI.next (i := 10) (by omega) hn (by simp [waits, d5, d9]) hw _ (fun j => rfl)⟩
      | 11, _ =>
        obtain ⟨hn, hd⟩ := mayCome_deps (i := 11) rfl (by omega) hm
        obtain ⟨d0, d10, d9⟩ : lst L 0 = true ∧ lst L 10 = true ∧ lst L 9 = true := by simpa [Region.binds] using hd
        clear hd hm
        have v0 := hI.vals 0 (by omega) d0
        have v10 := hI.vals 10 (by omega) d10
        have v9 := hI.vals 9 (by omega) d9
        simp only at v0 v10 v9
        have hw := (hI.pre hn).2
        obtain ⟨fn, tmps, assign, body, hy, hR⟩ := HYn.out w' hw
        refine wpOpIn_step rfl fun K' hK' => ?_
        go_simp
        refine ⟨rfl, RoundIn.mono hR ?_⟩
        rintro e W3 ⟨ok, rfl, hp3⟩
        refine hK' _ _ ⟨fun j => if j = 11 then .bool ok else f j, by simp [v0, v10, v9], hI.call hn d0 d10 ok hp3 _ (fun j => rfl)⟩
      | 12, _ =>
        obtain ⟨hn, hd⟩ := mayCome_deps (i := 12) rfl (by omega) hm
        have d11 : lst L 11 = true := by simpa [Region.binds] using hd
        clear hd hm
        obtain ⟨_, ok, ho, _, _⟩ := hI.post d11
        refine wpOpIn_step rfl fun K' hK' => ?_
        go_simp
        refine hK' _ _ ⟨fun j => if j = 12 then .bool (!ok) else f j, by simp [ho], hI.last hn d11 ho _ (fun j => rfl)⟩
  case done =>
    rintro D ys X hD rfl ⟨hj, hk⟩ hK
    gi_wp2
    refine ⟨by simp, .inl ⟨_, _, rfl, run_takeDeferred hK, ?_⟩⟩
    exact ⟨_, results_none rfl _ _ _, ⟨_, rfl⟩, .inl ⟨_, rfl, hJ.putObj _ hj (Nat.le_trans hWW.size hD) hK rfl⟩⟩
  case stop =>
    rintro D c pre X hD hpre ⟨rfl, hjx⟩ hK
    gi_wp2
    refine ⟨by simp, .inl ⟨_, _, rfl, run_takeDeferred hK, ?_⟩⟩
    exact ⟨_, results_none rfl _ _ _, ⟨_, rfl⟩, .inr ⟨_, hpre.map _, hJx.putObj _ hjx (Nat.le_trans hWW.size hD) hK rfl⟩⟩

end Go.Proofs.YtlbnngolcoefdaaDoor

/- The program's isSorted, over whatever iterator; SparseRank's and Collect's loops come after it. -/
namespace Go.Proofs.YtlbnngolcoefdaaDoor
open Go.RowKit Go.Shelf
set_option maxRecDepth 100000
attribute [local go_sem] Oper.semAt_some

theorem kp_set {n₀ g : Nat} {W : World} {t : TypeId} {v0 : Value} (h : Boxed W g t v0) (h1 : t ≠ 29) (h2 : t ≠ 115) (h3 : t ≠ 33) (hn : n₀ ≤ g) (v : Value) : KpB n₀ W (W.setCell ⟨g, 0, none⟩ v) :=
  ⟨(Below.refl n₀ W).setCell (p := ⟨g, 0, none⟩) hn v, fun k cs t' f hk ht => Below.heap_setCell W ⟨g, 0, none⟩ v k fun e => by
    have e' : k = g := e
    subst e'
    rw [show W.heap[k]? = _ from h] at hk
    cases hk
    rcases ht with rfl | rfl | rfl
    · exact h1 rfl
    · exact h2 rfl
    · exact h3 rfl⟩

/-- What isSorted holds while it ranges: its three variables. -/
def SortJ (w : World) (u : Int) (pre : List Int) (W : World) : Prop :=
  (srt u 0 pre = true ∧ Boxed W w.heap.size 3 (.int .i64 u) ∧ Boxed W (w.heap.size + 1) 4 (.bool false) ∧ Boxed W (w.heap.size + 2) 3 (.int .i64 (pre.getLastD 0))) ∧ Below w.heap.size w W
def SortY (w : World) (u : Int) (c : Code) (pre : List Int) (W : World) : Prop :=
  (c = .ret ∧ srt u 0 pre = false ∧ Boxed W (w.heap.size + 1) 4 (.bool false)) ∧ Below w.heap.size w W

theorem own_boxed {β : Type} {B g : Nat} {t : TypeId} {v : Value} {s : β} {A A' : World} {row : Option Nat} (hs : Boxed A g t v) (hg : A.grownBy A' row) (hr : ∀ r, row = some r → B ≤ r ∧ ∃ o : Obj, A.heap[r]? = some o ∧ o.isCells = false) : Boxed A' g t v :=
  hs.kept hg fun e => by
    obtain ⟨_, o, ho, hc⟩ := hr g e.symm
    rw [show A.heap[g]? = _ from hs] at ho
    cases ho
    cases hc

set_option maxHeartbeats 2000000 in
theorem isSortedO (gf : Nat) (lb : Array Value) (eg : ∀ args w, (callFunc gf args).run Tryd.prog w = .ok (.enter gf args) w) (B : List Int) (u : Int) (n₀ N : Nat) (w : World) (hn₀ : n₀ ≤ w.heap.size)
    (hseq : SeqO Tryd.prog gf lb (fun x : Int => #[Value.int .i64 x]) (KpB n₀) (fun ys => ys = B) (fun pre => pre <+: B) N w) :
    Calls Tryd.prog 55 #[.func (.func gf) #[] lb, .int .i64 u] w fun e W' => e = .returned (.bool (srt u 0 B)) ∧ Below w.heap.size w W' := by
  refine (callsIn_wide (n := 0)).1 ?_
  refine callsIn_of_wp_marks Tryd.func55 rfl trivial ?_ rfl
  simp only [Tryd.ntmps55, List.size_toArray, List.length_cons, List.length_nil, Nat.reduceAdd, Nat.reduceSub, Array.replicate_succ, Array.replicate_zero, List.push_toArray, List.append_toArray, List.nil_append, List.cons_append]
  gi_wp2
  have bU := Boxed.new w 3 (.int .i64 u)
  have bR := Boxed.new (w.alloc (.cells #[.int .i64 u] 3)) 4 (.bool false)
  have bL := Boxed.new ((w.alloc (.cells #[.int .i64 u] 3)).alloc (.cells #[.bool false] 4)) 3 (.int .i64 0)
  simp only [World.size_alloc] at bR bL
  have hB0 : Below w.heap.size w (((w.alloc (.cells #[.int .i64 u] 3)).alloc (.cells #[.bool false] 4)).alloc (.cells #[.int .i64 0] 3)) := (((Below.refl _ w).alloc (Nat.le_refl _) _).alloc (by simp) _).alloc (by simp; omega) _
  refine wpIn_range_O (n := 0) (gf := gf) (lb := lb) rfl eg hseq kp_t (kp_b (by simp; omega)) hB0 (fun _ => rfl)
    (SortJ w u) (SortY w u)
    (OwnFrom.and (fun s A B row hs hg hr => ⟨hs.1, own_boxed (s := s) hs.2.1 hg hr, own_boxed (s := s) hs.2.2.1 hg hr, own_boxed (s := s) hs.2.2.2 hg hr⟩) (ownFrom_below (Nat.le_refl _) (by simp; omega)))
    (fun c => OwnFrom.and (fun s A B row hs hg hr => ⟨hs.1, hs.2.1, own_boxed (s := s) hs.2.2 hg hr⟩) (ownFrom_below (Nat.le_refl _) (by simp; omega)))
    ⟨⟨rfl, (bU.alloc _).alloc _, bR.alloc _, bL⟩, hB0⟩
    (fun x => { tmps := #[.func (.func gf) #[] lb, .int .i64 u, undef, .pointer (some ⟨w.heap.size, 0, none⟩), .pointer (some ⟨w.heap.size + 1, 0, none⟩), .pointer (some ⟨w.heap.size + 2, 0, none⟩), .int .i64 x, .func (.func gf) #[] lb, .int .i64 x, undef, undef, undef, undef, undef, undef, undef, undef, undef], defers := [] }) ?assign ?body ?done ?stop
  case assign =>
    intro l x W K hK
    gi_wp2
    exact hK
  case body =>
    rintro l pre x W ⟨⟨hs, bu, br, bl⟩, hB⟩ _
    have hsn := srt_snoc u pre x 0
    rw [hs, Bool.true_and] at hsn
    have hla : (pre ++ [x]).getLastD 0 = x := by simp [List.getLastD_eq_getLast?]
    generalize pre.getLastD 0 = la at *
    have HS := Lib.hid hsn
    have HLA := Lib.hid hla
    have HB := Lib.hid hB
    have hcu := bu.cell
    have hcr := br.cell
    have hfr := br.frozen
    have hcl := bl.cell
    have hfl := bl.frozen
    have BU := Lib.hid bu
    have BR := Lib.hid br
    have BL := Lib.hid bl
    clear hsn hla hs hB bu br bl
    by_cases c1 : x < la
    · have t1 : decide (x < la) = true := decide_eq_true c1
      gi_wp2
      exact ⟨(KeepsOthers.setCell _ _ _).from _, ⟨rfl, HS.out.trans (decide_eq_false (by omega)), BR.out.set _⟩, HB.out.setCell (p := ⟨w.heap.size + 1, 0, none⟩) (Nat.le_succ _) _⟩
    · have t1 : decide (x < la) = false := decide_eq_false c1
      by_cases c2 : u ≤ x
      · have t2 : decide (u ≤ x) = true := decide_eq_true c2
        gi_wp2
        exact ⟨(KeepsOthers.setCell _ _ _).from _, ⟨rfl, HS.out.trans (decide_eq_false (by omega)), BR.out.set _⟩, HB.out.setCell (p := ⟨w.heap.size + 1, 0, none⟩) (Nat.le_succ _) _⟩
      · have t2 : decide (u ≤ x) = false := decide_eq_false c2
        gi_wp2
        refine ⟨(KeepsOthers.setCell _ _ _).from _, kp_set BL.out (by decide) (by decide) (by decide) (Nat.le_trans hn₀ (Nat.le_add_right _ 2)) _, ⟨HS.out.trans (decide_eq_true (by omega)), BU.out.other (by omega) _, BR.out.other (by omega) _, ?_⟩, HB.out.setCell (p := ⟨w.heap.size + 2, 0, none⟩) (Nat.le_add_right _ 2) _⟩
        rw [HLA.out]
        exact BL.out.set _
  case done =>
    rintro D ys W hD rfl ⟨⟨hs, _, br, _⟩, hB⟩ hK
    have hcr := br.cell
    have hfr := br.frozen
    clear br
    have HB := Lib.hid hB
    clear hB
    gi_wp2
    have hK' := (KeepsOthers.setCell W ⟨w.heap.size + 1, 0, none⟩ (.bool true)).same D _ hK rfl
    refine ⟨by simp, .inl ⟨_, _, rfl, run_takeDeferred hK', ?_⟩⟩
    have hc5 := cell_kept (World.cell?_setCell_same' W ⟨w.heap.size + 1, 0, none⟩ (.bool true) (by rw [hcr]; rfl)) (grownBy_putObj' _ D (.deferred none)) (fun r e => by cases e; exact ⟨_, hK', rfl⟩)
    refine ⟨.bool true, ?_, by rw [hs], (HB.out.setCell (p := ⟨w.heap.size + 1, 0, none⟩) (Nat.le_succ _) _).trans (belowK_b (w := w) (Nat.le_refl _) _ D _ _ (by simp at hD; omega) hK' rfl rfl)⟩
    simp [results, Tryd.f55, go_sem, hc5]
  case stop =>
    rintro D c pre W hD hpre ⟨⟨rfl, hs, br⟩, hB⟩ hK
    have hcr := br.cell
    clear br
    have HB := Lib.hid hB
    have HS : Hid (srt u 0 B = false) := Lib.hid (by
      cases h : srt u 0 B
      · rfl
      · rw [srt_before hpre h] at hs
        cases hs)
    clear hB hs
    gi_wp2
    refine ⟨by simp, .inl ⟨_, _, rfl, run_takeDeferred hK, ?_⟩⟩
    have hc5 := cell_kept hcr (grownBy_putObj' _ D (.deferred none)) (fun r e => by cases e; exact ⟨_, hK, rfl⟩)
    refine ⟨.bool false, ?_, by rw [HS.out], HB.out.trans (belowK_b (w := w) (Nat.le_refl _) W D _ _ (by simp at hD; omega) hK rfl rfl)⟩
    simp [results, Tryd.f55, go_sem, hc5]

end Go.Proofs.YtlbnngolcoefdaaDoor
