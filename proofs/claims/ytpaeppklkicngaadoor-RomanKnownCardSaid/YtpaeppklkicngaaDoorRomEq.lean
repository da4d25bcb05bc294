/-
  Rules compared.
-/
import Derived.Test.YtpaeppklkicngaaDoorRomK
import Derived.Laws.StructEq
import Derived.Lib.Strings
set_option linter.unusedVariables false
set_option linter.unusedSimpArgs false
set_option maxRecDepth 100000
namespace Go.Proofs.YtpaeppklkicngaaDoor.Rom
open Go Go.RowKit Go.Proofs.YtpaeppklkicngaaDoor.Kit Go.Proofs.YtpaeppklkicngaaDoor.Utf

theorem str_beq2 (a b : ByteArray) : (a.toList == b.toList) = decide (a = b) := by
  rw [Lib.toList_data, Lib.toList_data, Bool.eq_iff_iff]
  simp only [beq_iff_eq, decide_eq_true_eq]
  exact ⟨fun h => ba_ext h, fun h => by rw [h]⟩
theorem rule_eq_iff (a b : Rule) : decide (a = b) = (decide (a.k = b.k) && (decide (a.o = b.o) && decide (a.n = b.n))) := by
  rw [Bool.eq_iff_iff]
  simp only [Bool.and_eq_true, decide_eq_true_eq]
  exact ⟨fun h => by rw [h]; exact ⟨rfl, rfl, rfl⟩, fun ⟨h1, h2, h3⟩ => Rule.ext' h1 h2 h3⟩
theorem eq_rule (a b : Rule) (w : World) : (Op.equalIn 10000 40 (.agg #[.string a.k, .string a.o, .string a.n]) (.agg #[.string b.k, .string b.o, .string b.n])).run Tryd.prog w = .ok (decide (a = b)) w := by
  have u3 := Tryd.underlying9
  have a3 := Tryd.isAgg9
  have z3 := Tryd.sizeOf9
  have hS : Tryd.prog.underlying 40 = some (.struct (Tryd.prog.fieldsOf 40)) := by kernel_rfl
  have hp : Tryd.prog.stoodInHeld 40 = false := by kernel_rfl
  rw [show (10000 : Nat) = 9999 + 1 from rfl, run_equalIn_agg w 9999 40 _ _ hS hp]
  simp only [Program.fieldsOf, Tryd.underlying40]
  rw [rule_eq_iff]
  obtain ⟨ak, ao, an⟩ := a
  obtain ⟨bk, bo, bn⟩ := b
  simp only
  rw [← str_beq2, ← str_beq2, ← str_beq2]
  go_simp
  by_cases h1 : ak.toList = bk.toList <;> by_cases h2 : ao.toList = bo.toList <;> by_cases h3 : an.toList = bn.toList <;> simp [h1, h2, h3]
theorem eq_rrule (a b : Rule) (w : World) : (Op.equalIn 10000 43 (.agg #[.string a.k, .string a.o, .string a.n]) (.agg #[.string b.k, .string b.o, .string b.n])).run Tryd.prog w = .ok (decide (a = b)) w := by
  have u3 := Tryd.underlying9
  have a3 := Tryd.isAgg9
  have z3 := Tryd.sizeOf9
  have hS : Tryd.prog.underlying 43 = some (.struct (Tryd.prog.fieldsOf 43)) := by kernel_rfl
  have hp : Tryd.prog.stoodInHeld 43 = false := by kernel_rfl
  rw [show (10000 : Nat) = 9999 + 1 from rfl, run_equalIn_agg w 9999 43 _ _ hS hp]
  simp only [Program.fieldsOf, Tryd.underlying43]
  rw [rule_eq_iff]
  obtain ⟨ak, ao, an⟩ := a
  obtain ⟨bk, bo, bn⟩ := b
  simp only
  rw [← str_beq2, ← str_beq2, ← str_beq2]
  go_simp
  by_cases h1 : ak.toList = bk.toList <;> by_cases h2 : ao.toList = bo.toList <;> by_cases h3 : an.toList = bn.toList <;> simp [h1, h2, h3]

theorem guard_rule : Tryd.prog.eqGuardType Tryd.prog.depth 40 = false := by kernel_rfl
theorem guard_rrule : Tryd.prog.eqGuardType Tryd.prog.depth 43 = false := by kernel_rfl

end Go.Proofs.YtpaeppklkicngaaDoor.Rom
