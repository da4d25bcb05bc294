/-
  Packed numbers: contracts of Get and New.
-/
import Derived.Test.YtffljcfpofhkgaaPkA
set_option linter.unusedVariables false
set_option linter.unusedSimpArgs false
set_option maxRecDepth 100000
namespace Go.Proofs.Ytffljcfpofhkgaa.Pk
open Go Go.RowKit Go.Proofs.Ytffljcfpofhkgaa.Kit Go.Proofs.Ytffljcfpofhkgaa.Bv

/-- Number i of the words of S. -/
def gv (S W i : Nat) : Nat := S / 2 ^ (i * W) % 2 ^ (min W 64)
theorem gv_lt (S W i : Nat) : gv S W i < 18446744073709551616 := by
  unfold gv
  have h1 := Nat.mod_lt (S / 2 ^ (i * W)) (Nat.two_pow_pos (min W 64))
  have h2 : 2 ^ (min W 64) ≤ 2 ^ 64 := Nat.pow_le_pow_right (by decide) (Nat.min_le_right _ _)
  omega

set_option maxHeartbeats 1000000 in
theorem get_pk {B0 B1 p n W S : Nat} {w : World} (h : IntsAt B0 B1 w p n W S) (hB : B1 ≤ w.heap.size) (hn : n ≤ 1048577) (hW : W ≤ 255) (i : Nat) (hi : i < n) :
    Calls Try.prog 47 #[.pointer (some ⟨p, 0, none⟩), .int .i64 (i : Int)] w fun e w' => e = .returned (.tuple #[.int .u64 (gv S W i : Nat), .bool true]) ∧ Below w.heap.size w w' := by
  obtain ⟨P, hP⟩ : ∃ P, i * W = P := ⟨_, rfl⟩
  have hPl : P ≤ 1048577 * 255 := by rw [← hP]; exact Nat.mul_le_mul (by omega) hW
  have hPn : P ≤ n * W := by rw [← hP]; exact Nat.mul_le_mul_right _ (by omega)
  have HL := Lib.hid (len_pk h)
  have HP := Lib.hid (place_pk h i P hP (by omega))
  obtain ⟨q, hq⟩ : ∃ q, P / 64 = q := ⟨_, rfl⟩
  obtain ⟨r, hr⟩ : ∃ r, P % 64 = r := ⟨_, rfl⟩
  have hqN : q + 1 < nws n W := by unfold nws; omega
  have hj := wd_join (S := S) hq hr
  have hgv : Hid (gv S W i = S / 2 ^ P % 18446744073709551616 &&& (2 ^ (min W 64) - 1)) := Lib.hid (by rw [and_mask, ← hP]; rfl)
  have HH := Lib.hid h
  have hHB := Lib.hid hB
  rw [hq, hr] at HP
  obtain ⟨N, hN⟩ : ∃ N, nws n W = N := ⟨_, rfl⟩
  have HNN := Lib.hid hN
  rw [hN] at hqN
  obtain ⟨A, hA⟩ : ∃ A, wd S q / 2 ^ r = A := ⟨_, rfl⟩
  obtain ⟨Y, hY⟩ : ∃ Y, wd S (q + 1) * 2 ^ (64 - r) % 18446744073709551616 = Y := ⟨_, rfl⟩
  rw [hA, hY] at hj
  obtain ⟨Z, hZ⟩ : ∃ Z, S / 2 ^ P % 18446744073709551616 = Z := ⟨_, rfl⟩
  have hZl : Z < 18446744073709551616 := by rw [← hZ]; exact Nat.mod_lt _ (by decide)
  rw [hZ] at hj hgv
  have hAl : A < 18446744073709551616 := by rw [← hA]; exact Nat.lt_of_le_of_lt (Nat.div_le_self _ _) (wd_lt _ _)
  have hYl : Y < 18446744073709551616 := by rw [← hY]; exact Nat.mod_lt _ (by decide)
  obtain ⟨m, hm⟩ : ∃ m, 64 - r = m := ⟨_, rfl⟩
  have hmz : (64 : Int) - (r : Int) = (m : Int) := by omega
  have hrz : (r : Int) < 64 := by omega
  have hshr := shr_min 69 (wd S q) r A (by rw [Nat.min_eq_left (by omega)]; exact hA)
  have hshl := shl_min 69 (wd S (q + 1)) m Y (by rw [Nat.min_eq_left (by omega), ← hm]; exact hY)
  have hor := or_nat 69 A Y Z hAl hYl hj
  obtain ⟨V, hV⟩ : ∃ V, 1 * 2 ^ (min W 64) % 18446744073709551616 = V := ⟨_, rfl⟩
  have hshw := shl_min 69 1 W V hV
  have hVl : V < 18446744073709551616 := by rw [← hV]; exact Nat.mod_lt _ (by decide)
  have hmk := mask_eq W
  rw [hV] at hmk
  have hml := mask_lt W
  obtain ⟨K, hK⟩ : ∃ K, 2 ^ (min W 64) - 1 = K := ⟨_, rfl⟩
  rw [hK] at hmk hml hgv
  have hsub := sub1_nat 69 V K hVl hmk
  obtain ⟨R, hR⟩ : ∃ R, Z &&& K = R := ⟨_, rfl⟩
  have hand := and_nat 69 Z K R hZl hml hR
  rw [hR] at hgv
  rw [hgv.out]
  simp only [Int.cast_ofNat_Int] at hshw
  have hq1 : (q : Int) + 1 < (N : Int) := by omega
  have hq0 : (q : Int) < (N : Int) := by omega
  have hqb : (q : Int) ≤ 1048577 * 255 := by omega
  have hii : (i : Int) < (n : Int) := by omega
  obtain ⟨w1c, hw1c⟩ : ∃ c, wd S q = c := ⟨_, rfl⟩
  obtain ⟨w2c, hw2c⟩ : ∃ c, wd S (q + 1) = c := ⟨_, rfl⟩
  have HW1 := Lib.hid hw1c
  have HW2 := Lib.hid hw2c
  rw [hw1c] at hshr
  rw [hw2c] at hshl
  clear hP hPl hPn hq hr hj hA hY hZ hm hV hmk hK hR hN hn hW hgv hi h hB hAl hYl hZl hVl hml hw1c hw2c
  go_enter Try.func47, Try.ntmps47
  go_wp2_with (first
    | (go_at_call 63; (with_reducible refine HL.out.mono ?_); rintro e w1 ⟨rfl, rfl⟩)
    | (go_at_call 73; (with_reducible refine HP.out.mono ?_); rintro e w1 ⟨rfl, hb1⟩))
  obtain ⟨g, _, _, _, _, x0, x1, x2, hNm, hc, _, _⟩ := (HH.out.below hb1 hHB.out).use
  rw [HNN.out] at x2 hNm hc
  unfold maxLen at hNm
  have c1 := hc q (by omega)
  have c2 := hc (q + 1) (by omega)
  rw [HW1.out] at c1
  rw [HW2.out] at c2
  clear hc HL HP HH
  go_quiet (fail)
  go_wp2
  go_ret2
  exact ⟨rfl, hb1.trans ((below_drewN (Below.refl _ _) _).mono hb1.size)⟩
theorem get_out {B0 B1 p n W S : Nat} {w : World} (h : IntsAt B0 B1 w p n W S) (i : Int) (hi : i < 0 ∨ (n : Int) ≤ i) :
    Calls Try.prog 47 #[.pointer (some ⟨p, 0, none⟩), .int .i64 i] w fun e w' => e = .returned (.tuple #[.int .u64 0, .bool false]) ∧ w = w' := by
  have HL := Lib.hid (len_pk h)
  clear h
  by_cases h0 : i < 0
  · clear hi
    go_enter Try.func47, Try.ntmps47
    go_wp2
    go_ret2
    exact ⟨rfl, rfl⟩
  · have h1 : 0 ≤ i := by omega
    have h2 : (n : Int) ≤ i := by omega
    clear hi h0
    go_enter Try.func47, Try.ntmps47
    go_wp2_with (go_at_call 63; (with_reducible refine HL.out.mono ?_); rintro e w1 ⟨rfl, rfl⟩)
    go_ret2
    exact ⟨rfl, rfl⟩
theorem get_pk_nil (i : Int) (w : World) :
    Calls Try.prog 47 #[.pointer none, .int .i64 i] w fun e w' => e = .returned (.tuple #[.int .u64 0, .bool false]) ∧ w = w' := by
  have HL := Lib.hid (len_pk_nil w)
  by_cases h0 : i < 0
  · go_enter Try.func47, Try.ntmps47
    go_wp2
    go_ret2
    exact ⟨rfl, rfl⟩
  · have h1 : 0 ≤ i := by omega
    clear h0
    go_enter Try.func47, Try.ntmps47
    go_wp2_with (go_at_call 63; (with_reducible refine HL.out.mono ?_); rintro e w1 ⟨rfl, rfl⟩)
    go_ret2
    exact ⟨rfl, rfl⟩
end Go.Proofs.Ytffljcfpofhkgaa.Pk
