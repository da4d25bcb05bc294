/-
  Contract of the reference's Decode.
-/
import Derived.Test.YtffljcfpofhkgaaPkK
set_option linter.unusedVariables false
set_option linter.unusedSimpArgs false
set_option maxRecDepth 100000
namespace Go.Proofs.Ytffljcfpofhkgaa.Pk
open Go Go.RowKit Go.Proofs.Ytffljcfpofhkgaa.Kit Go.Proofs.Ytffljcfpofhkgaa.Bv

theorem pcode_width (l : List Nat) (h : U64 l) : b8 (pcode l) 4 = wid l := by
  have h64 := wid_64 h
  unfold pcode codeP
  have e := b8_append (le 4 l.length) (UInt8.ofNat (wid l) :: bys (dg (wid l) l) ((l.length * wid l + 7) / 8)) 0
  rw [le_len] at e
  rw [e]
  unfold b8
  simp
  omega
theorem decP_wide {bs : List UInt8} (h : 64 < b8 bs 4) : decP bs = none := by
  cases hd : decP bs with
  | none => rfl
  | some l =>
    obtain ⟨h1, _, h3⟩ := decP_some hd
    have h2 := pcode_width l h3
    have h4 := wid_64 h3
    rw [h1] at h2
    omega
/-- A bit of what follows the head. -/
theorem dT_bit {bs : List UInt8} {j : Nat} (h : j / 8 < bs.length - 5) : b8 bs (5 + j / 8) / 2 ^ (j % 8) % 2 = ((dT bs).testBit j).toNat := by
  have h1 := dg_get 8 (dN bs) (dN_lt bs) (j / 8) _ (dN_get h)
  rw [← h1, bit_toNat, Nat.testBit_mod_two_pow, Nat.testBit_div_two_pow, decide_eq_true (by omega), Bool.true_and]
  show ((dg 8 (dN bs)).testBit _).toNat = _
  rw [show j % 8 + j / 8 * 8 = j by omega]; rfl
/-- Number i so far: its first k bits. -/
def gp (T W i k : Nat) : Nat := T / 2 ^ (i * W) % 2 ^ k
theorem gp_zero (T W i : Nat) : gp T W i 0 = 0 := by unfold gp; rw [Nat.pow_zero, Nat.mod_one]
theorem gp_succ (T W i k : Nat) : gp T W i (k + 1) = gp T W i k + 2 ^ k * (T.testBit (i * W + k)).toNat := by
  unfold gp
  rw [mod_succ, Nat.testBit_div_two_pow, Nat.add_comm k]
theorem gp_lt (T W i k : Nat) : gp T W i k < 2 ^ k := Nat.mod_lt _ (Nat.two_pow_pos _)
theorem gp_all {T W i : Nat} (h : W ≤ 64) : gp T W i W = gv T W i := by unfold gp gv; rw [Nat.min_eq_left h]
theorem gvs_succ (S W n : Nat) : gvs S W (n + 1) = gvs S W n ++ [gv S W n] := by unfold gvs; rw [List.range_succ, List.map_append]; rfl
theorem shr_u8u (t : TypeId) (W r V : Nat) (hr : r < 8) (h : W / 2 ^ r = V) : binOp .shr t (.int .u8 (W : Int)) (.int .u64 (r : Int)) = pure (.int .u8 (V : Int)) := by
  have h1 := shift_shr .u8 .u64 (W : Int) (r : Int) (by omega) (by simp [IntKind.bits]; omega)
  rw [Int.toNat_natCast, show ((2 : Int) ^ r) = ((2 ^ r : Nat) : Int) by simp, ← Int.natCast_ediv, h] at h1
  exact h1
theorem rem2_u8 (t : TypeId) (X u : Nat) (h : X % 2 = u) : binOp .rem t (.int .u8 (X : Int)) (.int .u8 2) = pure (.int .u8 (u : Int)) := by
  have h1 : (X : Int).tmod 2 = (u : Int) := by rw [Int.tmod_eq_emod_of_nonneg (by omega)]; omega
  simp [binOp, Op.intDiv, h1]
theorem shl1_u64u (t : TypeId) (c C : Nat) (hc : c < 64) (h : 2 ^ c = C) : binOp .shl t (.int .u64 1) (.int .u64 (c : Int)) = pure (.int .u64 (C : Int)) := by
  have h1 := shift_shl .u64 .u64 1 (c : Int) (by omega) (by simp [IntKind.bits]; omega)
  have h2 : 2 ^ c < 2 ^ 64 := Nat.pow_lt_pow_right (by decide) hc
  rw [Int.toNat_natCast, show ((1 : Int) * 2 ^ c) = ((2 ^ c : Nat) : Int) by simp, h, IntKind.wrap_u64] at h1
  rw [h] at h2
  rw [show ((C : Int) % 18446744073709551616) = (C : Int) by omega] at h1
  exact h1

def RDecP (o : Option (List Nat)) (w : World) (e : Ending) (w' : World) : Prop :=
  match o with
  | none => ∃ a n c, e = .returned (.tuple #[.slice a n c, .bool false]) ∧ Below w.heap.size w w'
  | some l => ∃ a c, e = .returned (.tuple #[.slice a l.length c, .bool true]) ∧ Reads w' (.slice a l.length c) (u64s l) ∧ Below w.heap.size w w'
theorem rdec_short (bs : List UInt8) (a : Option Addr) (cap : Nat) (w : World) (h : bs.length < 5) :
    Calls Try.prog 61 #[.slice a bs.length cap] w (RDecP (decP bs) w) := by
  have hd : decP bs = none := by unfold decP; rw [if_pos h]
  rw [hd]
  have hz : (bs.length : Int) < 5 := by omega
  have HP : Hid (RDecP none w (.returned (.tuple #[.slice none 0 0, .bool false])) w) := Lib.hid ⟨none, 0, 0, rfl, Below.refl _ _⟩
  clear h hd
  go_enter Try.func61, Try.ntmps61
  go_wp2
  go_ret2
  exact HP.out
set_option maxHeartbeats 8000000 in
theorem rdec_any (bs : List UInt8) (a : Option Addr) (cap : Nat) (w : World) (hR : Reads w (.slice a bs.length cap) (u8s bs)) (hl : bs.length ≤ 1099511627776) :
    Calls Try.prog 61 #[.slice a bs.length cap] w (RDecP (decP bs) w) := by
  by_cases h5 : bs.length < 5
  · exact rdec_short bs a cap w h5
  obtain ⟨j0, hj, hjz0, hjz1, hjz2⟩ := info_parts info_u64
  have hlen := hR.len.2
  unfold maxLen at hlen
  obtain ⟨b, off, ha, hblt, c0⟩ := Reads.cell hR (b8_get (bs := bs) (i := 0) (by omega))
  obtain ⟨b', off', ha', _, c1⟩ := Reads.cell hR (b8_get (bs := bs) (i := 1) (by omega))
  obtain ⟨b'', off'', ha'', _, c2⟩ := Reads.cell hR (b8_get (bs := bs) (i := 2) (by omega))
  obtain ⟨b3, off3, ha3, _, c3⟩ := Reads.cell hR (b8_get (bs := bs) (i := 3) (by omega))
  obtain ⟨b4, off4, ha4, _, c4⟩ := Reads.cell hR (b8_get (bs := bs) (i := 4) (by omega))
  subst ha
  cases ha'; cases ha''; cases ha3; cases ha4
  have HR := Lib.hid hR
  have hnum : num4 bs = b8 bs 0 + 256 * b8 bs 1 + 65536 * b8 bs 2 + 16777216 * b8 bs 3 := rfl
  have l0 := b8_lt bs 0
  have l1 := b8_lt bs 1
  have l2 := b8_lt bs 2
  have l3 := b8_lt bs 3
  have l4 := b8_lt bs 4
  obtain ⟨x0, e0⟩ : ∃ x, b8 bs 0 = x := ⟨_, rfl⟩
  obtain ⟨x1, e1⟩ : ∃ x, b8 bs 1 = x := ⟨_, rfl⟩
  obtain ⟨x2, e2⟩ : ∃ x, b8 bs 2 = x := ⟨_, rfl⟩
  obtain ⟨x3, e3⟩ : ∃ x, b8 bs 3 = x := ⟨_, rfl⟩
  obtain ⟨V, e4⟩ : ∃ x, b8 bs 4 = x := ⟨_, rfl⟩
  rw [e0] at c0 hnum l0
  rw [e1] at c1 hnum l1
  rw [e2] at c2 hnum l2
  rw [e3] at c3 hnum l3
  rw [e4] at c4 l4
  obtain ⟨n, hn⟩ : ∃ n, num4 bs = n := ⟨_, rfl⟩
  have HN := Lib.hid hn
  have HV := Lib.hid e4
  have HWD : Hid (64 < V → decP bs = none) := Lib.hid (fun h => decP_wide (by rw [e4]; exact h))
  rw [hn] at hnum
  obtain ⟨y1, f1⟩ : ∃ y, 256 * x1 = y := ⟨_, rfl⟩
  obtain ⟨y2, f2⟩ : ∃ y, 65536 * x2 = y := ⟨_, rfl⟩
  obtain ⟨y3, f3⟩ : ∃ y, 16777216 * x3 = y := ⟨_, rfl⟩
  obtain ⟨z1, g1⟩ : ∃ z, x0 + y1 = z := ⟨_, rfl⟩
  obtain ⟨z2, g2⟩ : ∃ z, z1 + y2 = z := ⟨_, rfl⟩
  have g3 : z2 + y3 = n := by omega
  have s1 := mul_nat 3 x1 256 y1 (by omega) (by omega)
  have s2 := mul_nat 3 x2 65536 y2 (by omega) (by omega)
  have s3 := mul_nat 3 x3 16777216 y3 (by omega) (by omega)
  have o1 : (x0 : Int) + (y1 : Int) = (z1 : Int) := by omega
  have o2 : (z1 : Int) + (y2 : Int) = (z2 : Int) := by omega
  have o3 : (z2 : Int) + (y3 : Int) = (n : Int) := by omega
  simp only [Int.cast_ofNat_Int] at s1 s2 s3
  have k0 : IntKind.i64.wrap (x0 : Int) = (x0 : Int) := by rw [IntKind.wrap_i64]; omega
  have k1 : IntKind.i64.wrap (x1 : Int) = (x1 : Int) := by rw [IntKind.wrap_i64]; omega
  have k2 : IntKind.i64.wrap (x2 : Int) = (x2 : Int) := by rw [IntKind.wrap_i64]; omega
  have k3 : IntKind.i64.wrap (x3 : Int) = (x3 : Int) := by rw [IntKind.wrap_i64]; omega
  have k4 : IntKind.i64.wrap (V : Int) = (V : Int) := by rw [IntKind.wrap_i64]; omega
  have q1 : IntKind.i64.wrap (z1 : Int) = (z1 : Int) := by rw [IntKind.wrap_i64]; omega
  have q2 : IntKind.i64.wrap (z2 : Int) = (z2 : Int) := by rw [IntKind.wrap_i64]; omega
  have q3 : IntKind.i64.wrap (n : Int) = (n : Int) := by rw [IntKind.wrap_i64]; omega
  have hnb : n < 4294967296 := by omega
  clear e0 e1 e2 e3 e4 hn hnum f1 f2 f3 g1 g2 g3 l0 l1 l2 l3
  obtain ⟨L, hL⟩ : ∃ L, bs.length = L := ⟨_, rfl⟩
  have HLL := Lib.hid hL
  rw [hL] at h5 hl hlen HR ⊢
  have h5z : (5 : Int) ≤ (L : Int) := by omega
  have h5n : ¬ (L : Int) < 5 := by omega
  have i0 : (0 : Int) < (L : Int) := by omega
  have i1 : (1 : Int) < (L : Int) := by omega
  have i2 : (2 : Int) < (L : Int) := by omega
  have i3 : (3 : Int) < (L : Int) := by omega
  have i4 : (4 : Int) < (L : Int) := by omega
  rw [Nat.add_zero] at c0
  have HP : Hid (∀ W a n c, Below w.heap.size w W → decP bs = none → RDecP (decP bs) w (.returned (.tuple #[.slice a n c, .bool false])) W) := Lib.hid (fun W a n c hW h => by rw [h]; exact ⟨a, n, c, rfl, hW⟩)
  by_cases hn1 : 1048576 < n
  · have hnz : (1048576 : Int) < (n : Int) := by omega
    have ho : Hid (decP bs = none) := Lib.hid (by unfold decP; rw [if_neg (by omega), if_pos (.inl (by rw [HN.out]; exact hn1))])
    clear hL
    go_enter Try.func61, Try.ntmps61
    go_wp2
    go_quiet (fail)
    go_wp2
    go_ret2
    exact HP.out _ _ _ _ (below_drewN (Below.refl _ _) _) ho.out
  have hnz : (n : Int) ≤ 1048576 := by omega
  have hn3 : n ≤ 1048576 := by omega
  by_cases hV64 : 64 < V
  · have hvz : (64 : Int) < (V : Int) := by omega
    have ho : Hid (decP bs = none) := Lib.hid (HWD.out hV64)
    clear hL
    go_enter Try.func61, Try.ntmps61
    go_wp2
    go_quiet (fail)
    go_wp2
    go_ret2
    exact HP.out _ _ _ _ (below_drewN (Below.refl _ _) _) ho.out
  have hvz : (V : Int) ≤ 64 := by omega
  obtain ⟨M, hM⟩ : ∃ M, n * V = M := ⟨_, rfl⟩
  obtain ⟨D, hD⟩ : ∃ D, (M + 7) / 8 = D := ⟨_, rfl⟩
  have hMl : M ≤ 1048576 * 64 := by rw [← hM]; exact Nat.mul_le_mul hn3 (by omega)
  have hmul := mul_nat 3 n V M hM (by omega)
  have h7 : (M : Int) + 7 = ((M + 7 : Nat) : Int) := by omega
  have hquo := quo_nat 3 (M + 7) 8 D (by omega) (by decide) hD
  rw [← h7] at hquo
  simp only [Int.cast_ofNat_Int] at hquo
  have hDl : D ≤ 8388609 := by omega
  by_cases hLD : L = 5 + D
  · have hd : ((L : Int) != 5 + (D : Int)) = false := by rw [bne_eq_false_iff_eq]; omega
    have hdec : Hid (decP bs = if pcode (pnums bs) = bs then some (pnums bs) else none) := Lib.hid (by
      unfold decP
      rw [if_neg (by omega), HN.out, HV.out, hM, hD, if_neg (by omega)])
    have HCELL : Hid (∀ j, j < L → w.cell? ⟨b, off + j, none⟩ = some (.int .u8 (b8 bs j : Nat))) := Lib.hid (fun j hj => by
      obtain ⟨b9, off9, ha9, _, c9⟩ := Reads.cell hR (b8_get (bs := bs) (i := j) (by omega))
      cases ha9
      exact c9)
    have HPL : Hid ((pnums bs).length = n) := Lib.hid (by rw [pnums_len, HN.out])
    have HPX : Hid (U64 (pnums bs)) := Lib.hid (gvs_lt _ _ _)
    have HPG : Hid (gvs (dT bs) V n = pnums bs) := Lib.hid (by unfold pnums; rw [HV.out, HN.out])
    have HBIT : Hid (∀ j, j < M → b8 bs (5 + j / 8) / 2 ^ (j % 8) % 2 = ((dT bs).testBit j).toNat ∧ 5 + j / 8 < L) := Lib.hid (fun j hj => ⟨dT_bit (by omega), by omega⟩)
    have HMK : Hid (∀ k, k < n → k * V + V ≤ M) := Lib.hid (fun k hk => by rw [← hM, ← Nat.succ_mul]; exact Nat.mul_le_mul_right _ hk)
    have HGA := Lib.hid (fun T i => gp_all (T := T) (i := i) (show V ≤ 64 by omega))
    have HB8 := Lib.hid (b8_lt bs)
    obtain ⟨T, hT⟩ : ∃ T, dT bs = T := ⟨_, rfl⟩
    rw [hT] at HPG HBIT
    have hn0 := own_nil w w.heap.size 69 1
    clear hL hR hM hD hLD h7 hT hn1 hV64
    go_enter Try.func61, Try.ntmps61
    go_wp2
    go_quiet (fail)
    have hb0 : Below w.heap.size w (w.drewN nq) := below_drewN (Below.refl _ _) _
    have hn0' : (w.drewN nq).ownsRow w.heap.size 69 1 (.slice none 0 0) 0 [] := hn0
    go_wp2
    clear hd s1 s2 s3 o1 o2 o3 k0 k1 k2 k3 k4 q1 q2 q3 c0 c1 c2 c3 c4 hquo hmul hn0
    go_loopw [6, 7] (fun v i wr => ∃ k : Nat, k ≤ n ∧ i = .int .i64 (k : Int) ∧ wr.ownsRow w.heap.size 69 1 v k (u64s (gvs T V k)) ∧ Below w.heap.size w wr) (fun _ i _ => n - (intOf i).toNat)
    case atStart => exact ⟨0, Nat.zero_le _, rfl, hn0', hb0⟩
    case round =>
      clear hn0' hb0
      obtain ⟨i, hi, rfl, hown, hb⟩ := hrel
      by_cases hil : i < n
      · have hmk := HMK.out i hil
        have hiz : (i : Int) < (n : Int) := by omega
        obtain ⟨P, hP⟩ : ∃ P, i * V = P := ⟨_, rfl⟩
        rw [hP] at hmk
        have hmul := mul_nat 3 i V P hP (by omega)
        have HP' := Lib.hid hP
        have HS := Lib.hid (fun k => gp_succ T V i k)
        rw [hP] at HS
        have HZ := Lib.hid (gp_zero T V i)
        have HLT := Lib.hid (fun k => gp_lt T V i k)
        have HOWN := Lib.hid hown
        clear hP hown
        go_wp2
        go_loopw [8, 9] (fun v k W => ∃ m : Nat, m ≤ V ∧ k = .int .i64 (m : Int) ∧ v = .int .u64 (gp T V i m : Nat) ∧ wr = W) (fun _ k _ => V - (intOf k).toNat)
        case atStart => exact ⟨0, Nat.zero_le _, rfl, by rw [HZ.out]; rfl, rfl⟩
        case round =>
          obtain ⟨m, hm, rfl, rfl, hww⟩ := hrel
          subst hww
          by_cases hmv : m < V
          · have hmz : (m : Int) < (V : Int) := by omega
            obtain ⟨j, hj⟩ : ∃ j, P + m = j := ⟨_, rfl⟩
            have hjz : (P : Int) + (m : Int) = (j : Int) := by omega
            have hjl : j ≤ 67108864 := by omega
            obtain ⟨hbit, hidx⟩ := HBIT.out j (by omega)
            have hs := HS.out m
            rw [hj] at hs
            have hgl := HLT.out m
            have hc0 := HCELL.out _ hidx
            have hbl := HB8.out (5 + j / 8)
            obtain ⟨q, hq⟩ : ∃ q, j / 8 = q := ⟨_, rfl⟩
            obtain ⟨r, hr⟩ : ∃ r, j % 8 = r := ⟨_, rfl⟩
            have hquo := quo_nat 3 j 8 q (by omega) (by decide) hq
            have hrem := rem_nat 3 j 8 r (by decide) hr
            rw [hq] at hbit hidx hc0 hbl
            rw [hr] at hbit
            obtain ⟨x, hx⟩ : ∃ x, b8 bs (5 + q) = x := ⟨_, rfl⟩
            rw [hx] at hbit hc0 hbl
            have hcell : wr.cell? ⟨b, off + (5 + q), none⟩ = some (.int .u8 (x : Int)) := by rw [hb.cell (p := ⟨b, off + (5 + q), none⟩) hblt]; exact hc0
            obtain ⟨X, hX⟩ : ∃ X, x / 2 ^ r = X := ⟨_, rfl⟩
            rw [hX] at hbit
            have hshr := shr_u8u 5 x r X (by omega) hX
            obtain ⟨C, hC⟩ : ∃ C, 2 ^ m = C := ⟨_, rfl⟩
            rw [hC] at hs hgl
            have hshl := shl1_u64u 69 m C (by omega) hC
            have hCl : C ≤ 9223372036854775808 := by
              rw [← hC]
              exact Nat.le_trans (Nat.pow_le_pow_right (by decide) (show m ≤ 63 by omega)) (by decide)
            obtain ⟨G, hG⟩ : ∃ G, gp T V i m = G := ⟨_, rfl⟩
            rw [hG] at hs hgl ⊢
            have hmw : IntKind.u64.wrap (m : Int) = (m : Int) := by rw [IntKind.wrap_u64]; omega
            have hrw : IntKind.u64.wrap (r : Int) = (r : Int) := by rw [IntKind.wrap_u64]; omega
            have hqz : (5 : Int) + (q : Int) < (L : Int) := by omega
            have hqz0 : (0 : Int) ≤ (q : Int) := by omega
            have hql : (q : Int) ≤ 67108864 := by omega
            have hrz : (r : Int) < 8 := by omega
            obtain ⟨I, hI⟩ : ∃ I, 5 + q = I := ⟨_, rfl⟩
            have hIz : (5 : Int) + (q : Int) = (I : Int) := by omega
            have hIl : (I : Int) < (L : Int) := by omega
            rw [hI] at hcell
            clear hj hq hr hx hX hC hG hc0 hidx hbl hI hqz
            simp only [Int.cast_ofNat_Int] at hquo hrem
            cases hb1 : T.testBit j <;> rw [hb1] at hbit hs
            · have hrem2 := rem2_u8 5 X 0 hbit
              simp only [Int.cast_ofNat_Int] at hrem2
              rw [show false.toNat = 0 from rfl, Nat.mul_zero, Nat.add_zero G] at hs
              have HSS := Lib.hid hs
              clear hb1 hbit hs
              go_wp2
              go_roundw
              case rel => exact ⟨m + 1, by omega, by go_num, by rw [HSS.out], trivial⟩
              case measure => simp [intOf]; omega
            · have hrem2 := rem2_u8 5 X 1 hbit
              simp only [Int.cast_ofNat_Int] at hrem2
              rw [show true.toNat = 1 from rfl, Nat.mul_one] at hs
              obtain ⟨G2, hG2⟩ : ∃ G2, G + C = G2 := ⟨_, rfl⟩
              rw [hG2] at hs
              have hGz : (G : Int) + (C : Int) = (G2 : Int) := by omega
              have hGl : G2 < 18446744073709551616 := by omega
              have hGw : IntKind.u64.wrap (G2 : Int) = (G2 : Int) := by rw [IntKind.wrap_u64]; omega
              have hGm : (G2 : Int) % 18446744073709551616 = (G2 : Int) := by omega
              have HSS := Lib.hid hs
              clear hb1 hbit hs hG2
              go_wp2
              go_roundw
              case rel => exact ⟨m + 1, by omega, by go_num, by rw [HSS.out], trivial⟩
              case measure => simp [intOf]; omega
          · obtain rfl : m = V := by omega
            have hGA := HGA.out T i
            have HGS := Lib.hid (gvs_succ T m i)
            obtain ⟨G, hG⟩ : ∃ G, gv T m i = G := ⟨_, rfl⟩
            rw [hG] at hGA HGS
            rw [hGA]
            have hown := HOWN.out
            clear hGA hG hmv hmul
            go_wp2_with (at_builtin; refine wpList_append_own _ rfl _ _ _ rfl w.heap.size 69 j0 (.int .u64 0) 1 8 Try.underlying79 hj hjz0 hjz1 hjz2 rfl (by decide) _ i (u64s (gvs T m i)) rfl (hown.alloc _) ⟨_, 0, none⟩ 1 1 [.int .u64 (G : Int)] rfl rfl (cell_one_new _ _ _) ?c2 ?c3 ?c4 ?c5 ?_)
            case c2 => simp [Value.oneCell']
            case c3 => unfold maxLen; omega
            case c4 => omega
            case c5 => have := hb.size; simp; omega
            intro v' w7 hown7 hg7 _
            have hb7 := below_own (hb.alloc (by have := hb.size; omega) _) (hown.alloc _) (Nat.le_refl _) (by have := hb.size; simp; omega) hg7
            have HO : Hid (w7.ownsRow w.heap.size 69 1 v' (i + 1) (u64s (gvs T m (i + 1)))) := Lib.hid (by rw [HGS.out, u64s_append]; exact hown7)
            clear hown hown7 hg7
            go_wp2
            go_roundw
            case rel => exact ⟨i + 1, by omega, by go_num, HO.out, hb7⟩
            case measure => simp [intOf]; omega
      · obtain rfl : i = n := by omega
        rw [HPG.out] at hown
        obtain ⟨am, cm, hvm⟩ := own_is hown
        subst hvm
        have hrd := own_reads hown
        have hbs := hb.size
        have HEN : Hid (Calls Try.prog 56 #[.slice am i cm] wr (EncPost (pcode (pnums bs)) wr)) := Lib.hid (by
          have h := penc_any (pnums bs) am cm wr (by rw [HPL.out]; exact hn3) HPX.out (by rw [HPL.out]; exact hrd)
          rw [HPL.out] at h
          exact h)
        have HB := Lib.hid hb
        have HRD := Lib.hid hrd
        obtain ⟨l, hl'⟩ : ∃ l, pnums bs = l := ⟨_, rfl⟩
        rw [hl'] at HEN hdec HPL HRD
        have HSM : Hid (∀ (a : Option Addr) (c : Nat) (B : Bool) (W : World), decide (pcode l = bs) = B → Reads W (.slice a (pcode l).length c) (u8s (pcode l)) → Below w.heap.size w W → Calls Try.prog 88 #[.slice a (pcode l).length c, .slice (some ⟨b, off, none⟩) L cap] W fun e w' => e = .returned (.bool B) ∧ Below W.heap.size W w') := Lib.hid (fun a c B W hB h1 h2 => by
          have h := rsam_any (pcode l) bs a (some ⟨b, off, none⟩) c cap B hB W h1 (by rw [HLL.out]; exact HR.out.later h2)
          rw [HLL.out] at h
          exact h)
        have HQ : Hid (∀ W, some l = decP bs → wr.heap.size ≤ W.heap.size → Below wr.heap.size wr W → RDecP (decP bs) w (.returned (.tuple #[.slice am i cm, .bool true])) W) := Lib.hid (fun W h h1 h2 => by rw [← h]; exact ⟨am, cm, by rw [HPL.out], by rw [HPL.out]; exact HRD.out.later h2, HB.out.trans (h2.mono hbs)⟩)
        clear hown hrd hl' hil
        by_cases hcode : pcode l = bs
        · have ho : Hid (some l = decP bs) := Lib.hid (by rw [hdec.out, if_pos hcode])
          have hd : Hid (decide (pcode l = bs) = true) := Lib.hid (decide_eq_true hcode)
          clear hcode hdec
          go_wp2_with (first
            | (go_at_call 56; (with_reducible refine HEN.out.mono ?_); rintro e w5 ⟨a5, c5, rfl, ho5, hb5⟩; have HB5a := Lib.hid hb5; have HB5 := Lib.hid (HB.out.trans (hb5.mono hbs)); have HS5 := Lib.hid (HSM.out _ _ true _ hd.out (own_reads ho5) HB5.out); clear ho5 hb5)
            | (go_at_call 88; (with_reducible refine HS5.out.mono ?_); rintro e w6 ⟨rfl, hb6⟩; have HB6 := Lib.hid (HB5a.out.trans (hb6.mono HB5a.out.size)); clear hb6))
          have HF := Lib.hid (HQ.out w6 ho.out HB6.out.size HB6.out)
          go_ret2
          exact HF.out
        · have ho : Hid (decP bs = none) := Lib.hid (by rw [hdec.out, if_neg hcode])
          have hd : Hid (decide (pcode l = bs) = false) := Lib.hid (decide_eq_false hcode)
          clear hcode hdec
          go_wp2_with (first
            | (go_at_call 56; (with_reducible refine HEN.out.mono ?_); rintro e w5 ⟨a5, c5, rfl, ho5, hb5⟩; have HB5 := Lib.hid (HB.out.trans (hb5.mono hbs)); have HS5 := Lib.hid (HSM.out _ _ false _ hd.out (own_reads ho5) HB5.out); clear ho5 hb5)
            | (go_at_call 88; (with_reducible refine HS5.out.mono ?_); rintro e w6 ⟨rfl, hb6⟩; have HB6 := Lib.hid (HB5.out.trans (hb6.mono HB5.out.size)); clear hb6))
          have HF := Lib.hid (HP.out w6 am i cm HB6.out ho.out)
          go_ret2
          exact HF.out
  · have hd : ((L : Int) != 5 + (D : Int)) = true := by rw [bne_iff_ne]; omega
    have ho : Hid (decP bs = none) := Lib.hid (by unfold decP; rw [if_neg (by omega), HN.out, HV.out, hM, hD, if_pos (.inr (by omega))])
    clear hL hM hD h7
    go_enter Try.func61, Try.ntmps61
    go_wp2
    go_quiet (fail)
    go_wp2
    go_ret2
    exact HP.out _ _ _ _ (below_drewN (Below.refl _ _) _) ho.out
end Go.Proofs.Ytffljcfpofhkgaa.Pk
