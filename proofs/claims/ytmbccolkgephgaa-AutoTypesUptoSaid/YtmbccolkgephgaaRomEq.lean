/-
  Rules compared.
-/
import Derived.Test.YtmbccolkgephgaaRomK
import Derived.Laws.StructEq
import Derived.Lib.Strings
set_option linter.unusedVariables false
set_option linter.unusedSimpArgs false
set_option maxRecDepth 100000
namespace Go.Proofs.Ytmbccolkgephgaa.Rom
open Go Go.RowKit Go.Proofs.Ytmbccolkgephgaa.Kit Go.Proofs.Ytmbccolkgephgaa.Utf

theorem str_beq2 (a b : ByteArray) : (a.toList == b.toList) = decide (a = b) := by
  rw [Lib.toList_data, Lib.toList_data, Bool.eq_iff_iff]
  simp only [beq_iff_eq, decide_eq_true_eq]
  exact ⟨fun h => ba_ext h, fun h => by rw [h]⟩
theorem rule_eq_iff (a b : Rule) : decide (a = b) = (decide (a.k = b.k) && (decide (a.o = b.o) && decide (a.n = b.n))) := by
  rw [Bool.eq_iff_iff]
  simp only [Bool.and_eq_true, decide_eq_true_eq]
  exact ⟨fun h => by rw [h]; exact ⟨rfl, rfl, rfl⟩, fun ⟨h1, h2, h3⟩ => Rule.ext' h1 h2 h3⟩
theorem eq_rule (a b : Rule) (w : World) : (Op.equalIn 10000 32 (.agg #[.string a.k, .string a.o, .string a.n]) (.agg #[.string b.k, .string b.o, .string b.n])).run Try.prog w = .ok (decide (a = b)) w := by
  have u3 := Try.underlying9
  have a3 := Try.isAgg9
  have z3 := Try.sizeOf9
  have hS : Try.prog.underlying 32 = some (.struct (Try.prog.fieldsOf 32)) := by kernel_rfl
  have hp : Try.prog.stoodInHeld 32 = false := by kernel_rfl
  rw [show (10000 : Nat) = 9999 + 1 from rfl, run_equalIn_agg w 9999 32 _ _ hS hp]
  simp only [Program.fieldsOf, Try.underlying32]
  rw [rule_eq_iff]
  obtain ⟨ak, ao, an⟩ := a
  obtain ⟨bk, bo, bn⟩ := b
  simp only
  rw [← str_beq2, ← str_beq2, ← str_beq2]
  go_simp
  by_cases h1 : ak.toList = bk.toList <;> by_cases h2 : ao.toList = bo.toList <;> by_cases h3 : an.toList = bn.toList <;> simp [h1, h2, h3]
theorem eq_rrule (a b : Rule) (w : World) : (Op.equalIn 10000 56 (.agg #[.string a.k, .string a.o, .string a.n]) (.agg #[.string b.k, .string b.o, .string b.n])).run Try.prog w = .ok (decide (a = b)) w := by
  have u3 := Try.underlying9
  have a3 := Try.isAgg9
  have z3 := Try.sizeOf9
  have hS : Try.prog.underlying 56 = some (.struct (Try.prog.fieldsOf 56)) := by kernel_rfl
  have hp : Try.prog.stoodInHeld 56 = false := by kernel_rfl
  rw [show (10000 : Nat) = 9999 + 1 from rfl, run_equalIn_agg w 9999 56 _ _ hS hp]
  simp only [Program.fieldsOf, Try.underlying56]
  rw [rule_eq_iff]
  obtain ⟨ak, ao, an⟩ := a
  obtain ⟨bk, bo, bn⟩ := b
  simp only
  rw [← str_beq2, ← str_beq2, ← str_beq2]
  go_simp
  by_cases h1 : ak.toList = bk.toList <;> by_cases h2 : ao.toList = bo.toList <;> by_cases h3 : an.toList = bn.toList <;> simp [h1, h2, h3]

theorem guard_rule : Try.prog.eqGuardType Try.prog.depth 32 = false := by kernel_rfl
theorem guard_rrule : Try.prog.eqGuardType Try.prog.depth 56 = false := by kernel_rfl

end Go.Proofs.Ytmbccolkgephgaa.Rom
