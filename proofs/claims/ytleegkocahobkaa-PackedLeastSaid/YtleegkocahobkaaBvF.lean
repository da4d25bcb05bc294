/-
  Contracts of truesUpTo, Rank, and of the reference's Rank, Select, Same.
-/
import Derived.Test.YtleegkocahobkaaBvE
import Derived.Deep.QuietTactic
import Derived.BigQuiet
set_option linter.unusedVariables false
set_option linter.unusedSimpArgs false
set_option maxRecDepth 100000
namespace Go.Proofs.Ytleegkocahobkaa.Bv
open Go Go.RowKit Go.Proofs.Ytleegkocahobkaa.Kit

theorem shl_nat (t : TypeId) (W r S : Nat) (hr : r < 64) (h : W * 2 ^ r % 18446744073709551616 = S) : binOp .shl t (.int .u64 (W : Int)) (.int .i64 (r : Int)) = pure (.int .u64 (S : Int)) := by
  have h1 := shift_shl .u64 .i64 (W : Int) (r : Int) (by omega) (by simp [IntKind.bits]; omega)
  rw [Int.toNat_natCast, show ((W : Int) * 2 ^ r) = ((W * 2 ^ r : Nat) : Int) by simp, IntKind.wrap_u64] at h1
  rw [show (((W * 2 ^ r : Nat) : Int) % 18446744073709551616) = ((W * 2 ^ r % 18446744073709551616 : Nat) : Int) by simp, h] at h1
  exact h1
theorem cnt_at (l : List Bool) (j : Nat) : cnt l (j / 8) = tr l (64 * (8 * (j / 8))) := by unfold cnt; congr 1; omega

/-- How many of the first i bits are b, whatever the number i. -/
theorem rank_ge (l : List Bool) (b : Bool) {i : Int} (h : (l.length : Int) ≤ i) : rank l b i = rk l b l.length := by
  unfold rank; rw [show (min i (l.length : Int)).toNat = l.length by omega]
theorem rank_nat (l : List Bool) (b : Bool) {i : Nat} (h : i ≤ l.length) : rank l b (i : Int) = rk l b i := by
  unfold rank; rw [show (min (i : Int) (l.length : Int)).toNat = i by omega]
theorem rank_le0 (l : List Bool) (b : Bool) {i : Int} (h : i ≤ 0) : rank l b i = 0 := by
  unfold rank; rw [show (min i (l.length : Int)).toNat = 0 by omega]; rfl

/-! ### the reference -/
theorem rk_succ (l : List Bool) (b : Bool) (k : Nat) : rk l b (k + 1) = rk l b k + if bt l k = b then 1 else 0 := rfl
theorem selA_step (l : List Bool) (b : Bool) (k : Int) {i : Nat} (h : i < l.length) : selA l b k (l.length - i) i = if bt l i = b ∧ (rk l b i : Int) = k then (i : Int) else selA l b k (l.length - (i + 1)) (i + 1) := by
  rw [show l.length - i = (l.length - (i + 1)) + 1 by omega]; rfl
theorem selA_out (l : List Bool) (b : Bool) (k : Int) {i : Nat} (h : l.length ≤ i) : selA l b k (l.length - i) i = -1 := by
  rw [show l.length - i = 0 by omega]; rfl

end Go.Proofs.Ytleegkocahobkaa.Bv
