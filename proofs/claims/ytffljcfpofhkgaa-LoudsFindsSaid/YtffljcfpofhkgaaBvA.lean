/-
  Contract of math/bits.OnesCount64: as many bits as are 1.
-/
import Derived.Test.YtffljcfpofhkgaaBvMath
import Derived.Test.YtffljcfpofhkgaaRows
import Derived.Test.YtffljcfpofhkgaaKit3
import Derived.Laws.BitsAllLaws
set_option linter.unusedVariables false
set_option linter.unusedSimpArgs false
namespace Go.Proofs.Ytffljcfpofhkgaa.Bv
open Go Go.RowKit Go.Proofs.Ytffljcfpofhkgaa.Kit

theorem u64_and_nat' (a b : Nat) (ha : a < 18446744073709551616) (hb : b < 18446744073709551616) : bits .and .u64 (a : Int) (b : Int) = ((a &&& b : Nat) : Int) := by
  have hx : a &&& b < 2 ^ 64 := Nat.and_lt_two_pow _ (by omega)
  have h1 : (BitVec.ofInt 64 (a : Int)).toNat = a := by
    rw [BitVec.ofInt_natCast, BitVec.toNat_ofNat]; exact Nat.mod_eq_of_lt (by omega)
  have h2 : (BitVec.ofInt 64 (b : Int)).toNat = b := by
    rw [BitVec.ofInt_natCast, BitVec.toNat_ofNat]; exact Nat.mod_eq_of_lt (by omega)
  show IntKind.u64.wrap ((BitVec.ofInt 64 (a : Int) &&& BitVec.ofInt 64 (b : Int)).toNat : Int) = _
  rw [BitVec.toNat_and, h1, h2, IntKind.wrap_u64]
  omega
theorem u64_or_nat' (a b : Nat) (ha : a < 18446744073709551616) (hb : b < 18446744073709551616) : bits .or .u64 (a : Int) (b : Int) = ((a ||| b : Nat) : Int) := by
  have hx : a ||| b < 2 ^ 64 := Nat.or_lt_two_pow (by omega) (by omega)
  have h1 : (BitVec.ofInt 64 (a : Int)).toNat = a := by
    rw [BitVec.ofInt_natCast, BitVec.toNat_ofNat]; exact Nat.mod_eq_of_lt (by omega)
  have h2 : (BitVec.ofInt 64 (b : Int)).toNat = b := by
    rw [BitVec.ofInt_natCast, BitVec.toNat_ofNat]; exact Nat.mod_eq_of_lt (by omega)
  show IntKind.u64.wrap ((BitVec.ofInt 64 (a : Int) ||| BitVec.ofInt 64 (b : Int)).toNat : Int) = _
  rw [BitVec.toNat_or, h1, h2, IntKind.wrap_u64]
  omega
theorem wrap_u64_nat (a : Nat) (ha : a < 18446744073709551616) : IntKind.u64.wrap (a : Int) = (a : Int) := by
  rw [IntKind.wrap_u64]; omega
theorem step_and (x d m y : Nat) (hx : x < 18446744073709551616) (hm : m < 18446744073709551616) (h : ((x / d) &&& m) + (x &&& m) = y) (hy : y < 18446744073709551616) :
    IntKind.u64.wrap (bits .and .u64 ((x : Int) / (d : Int)) (m : Int) + bits .and .u64 (x : Int) (m : Int)) = (y : Int) := by
  have hd : x / d ≤ x := Nat.div_le_self _ _
  rw [show ((x : Int) / (d : Int)) = ((x / d : Nat) : Int) by simp, u64_and_nat' _ _ (by omega) hm, u64_and_nat' _ _ hx hm, ← h, show (((x / d &&& m : Nat) : Int) + ((x &&& m : Nat) : Int)) = (((x / d &&& m) + (x &&& m) : Nat) : Int) by simp]
  exact wrap_u64_nat _ (by omega)
theorem step_and4 (x y : Nat) (hx : x < 18446744073709551616) (h : (x / 16 + x) &&& 1085102592571150095 = y) (h2 : x / 16 + x < 18446744073709551616) :
    bits .and .u64 (IntKind.u64.wrap ((x : Int) / 16 + (x : Int))) 1085102592571150095 = (y : Int) := by
  rw [show ((x : Int) / 16 + (x : Int)) = ((x / 16 + x : Nat) : Int) by omega, wrap_u64_nat _ h2, ← h]
  exact u64_and_nat' _ 1085102592571150095 h2 (by decide)
theorem step_add (x d y : Nat) (h : x + x / d = y) (hy : y < 9223372036854775808) : IntKind.u64.wrap ((x : Int) + (x : Int) / (d : Int)) = (y : Int) := by
  rw [show ((x : Int) / (d : Int)) = ((x / d : Nat) : Int) by simp, show ((x : Int) + ((x / d : Nat) : Int)) = ((x + x / d : Nat) : Int) by simp, h]
  exact wrap_u64_nat _ (by omega)
theorem step_last (x : Nat) (hx : x < 9223372036854775808) : bits .and .i64 (x : Int) 127 = ((x % 128 : Nat) : Int) := by
  have h := bits_mask .i64 63 (by decide) (fun n h1 h2 => by rw [IntKind.wrap_i64]; omega) 7 (by decide) (x : Int) (by omega) (by omega)
  have e : (2 : Int) ^ 7 - 1 = 127 := by decide
  rw [e] at h
  rw [h]
  omega

set_option maxHeartbeats 400000 in
theorem ones_any (x : Nat) (hx : x < 2 ^ 64) (w : World) :
    Calls Try.prog 100 #[.int .u64 (x : Int)] w fun e w' => e = .returned (.int .i64 (pop 64 x : Nat)) ∧ w = w' := by
  obtain ⟨x1, x2, x3, x4, x5, x6, e1, b1, e2, b2, e3, b2', b3, e4, b4, e5, b5, e6, b6, e7⟩ := ones_steps x hx
  have hx' : x < 18446744073709551616 := hx
  have H1 := Lib.hid (step_and x 2 6148914691236517205 x1 hx' (by decide) e1 b1)
  have H2 := Lib.hid (step_and x1 4 3689348814741910323 x2 b1 (by decide) e2 b2)
  have H3 := Lib.hid (step_and4 x2 x3 b2 e3 b2')
  have H4 := Lib.hid (step_add x3 256 x4 e4 b4)
  have H5 := Lib.hid (step_add x4 65536 x5 e5 b5)
  have H6 := Lib.hid (step_add x5 4294967296 x6 e6 b6)
  have H7 := Lib.hid (step_last x6 b6)
  have H8 := Lib.hid e7
  have H9 : Hid (wrap64 (x6 : Int) = (x6 : Int)) := Lib.hid (by have := IntKind.wrap_i64 (x6 : Int); unfold wrap64; first | omega | (rw [this]; omega))
  clear e1 e2 e3 e4 e5 e6 e7 b1 b2 b2' b3 b4 b5 b6 hx hx'
  go_enter Try.func100, Try.ntmps100
  go_wp2
  go_ret
  refine ⟨ret_int ?_, rfl⟩
  have h1 := H1.out
  have h2 := H2.out
  have h3 := H3.out
  have h4 := H4.out
  have h5 := H5.out
  have h6 := H6.out
  simp only [Int.cast_ofNat_Int] at h1 h2 h4 h5 h6
  rw [h1, h2, h3, h4, h5, h6]
  rw [H9.out, H7.out, H8.out]

end Go.Proofs.Ytffljcfpofhkgaa.Bv
