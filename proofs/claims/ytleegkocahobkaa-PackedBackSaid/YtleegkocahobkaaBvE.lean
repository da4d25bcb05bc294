/-
  Contracts of Len, Get, and of the reference's Get, Rank, Select, Same.
-/
import Derived.Test.YtleegkocahobkaaBvD
set_option linter.unusedVariables false
set_option linter.unusedSimpArgs false
set_option maxRecDepth 100000
namespace Go.Proofs.Ytleegkocahobkaa.Bv
open Go Go.RowKit Go.Proofs.Ytleegkocahobkaa.Kit

/-- Bit i, false where there is none. -/
def gt (l : List Bool) (i : Int) : Bool := if 0 ≤ i then bt l i.toNat else false
theorem gt_nat (l : List Bool) (i : Nat) : gt l (i : Int) = bt l i := by unfold gt; rw [if_pos (by omega)]; rfl
theorem gt_neg (l : List Bool) {i : Int} (h : i < 0) : gt l i = false := by unfold gt; rw [if_neg (by omega)]
theorem gt_ge (l : List Bool) {i : Int} (h : (l.length : Int) ≤ i) : gt l i = false := by unfold gt; rw [if_pos (by omega)]; exact bt_ge (by omega)

theorem shr_nat (t : TypeId) (W r V : Nat) (hr : r < 64) (h : W / 2 ^ r = V) : binOp .shr t (.int .u64 (W : Int)) (.int .i64 (r : Int)) = pure (.int .u64 (V : Int)) := by
  have h1 := shift_shr .u64 .i64 (W : Int) (r : Int) (by omega) (by simp [IntKind.bits]; omega)
  rw [Int.toNat_natCast, show ((2 : Int) ^ r) = ((2 ^ r : Nat) : Int) by simp, ← Int.natCast_ediv, h] at h1
  exact h1
theorem and_one (t : TypeId) (V u : Nat) (hV : V < 18446744073709551616) (h : V % 2 = u) : binOp .and t (.int .u64 (V : Int)) (.int .u64 1) = pure (.int .u64 (u : Int)) := by
  have h1 := u64_and_nat' V 1 hV (by decide)
  rw [Nat.and_one_is_mod, h] at h1
  have e : binOp .and t (.int .u64 (V : Int)) (.int .u64 1) = pure (.int .u64 (bits .and .u64 (V : Int) ((1 : Nat) : Int))) := by simp [binOp, Op.intBits, bits]
  rw [e, h1]

/-! ### the reference -/
end Go.Proofs.Ytleegkocahobkaa.Bv
