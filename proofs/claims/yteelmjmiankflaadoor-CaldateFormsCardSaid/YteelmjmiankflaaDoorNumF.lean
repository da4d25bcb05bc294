/-
  Contracts of numeral.digitOf, unitOf and groupOf.
-/
import Derived.Test.YteelmjmiankflaaDoorNumE
set_option linter.unusedVariables false
set_option linter.unusedSimpArgs false
namespace Go.Proofs.YteelmjmiankflaaDoor.Num
open Go Go.RowKit Go.Proofs.YteelmjmiankflaaDoor.Kit Go.Proofs.YteelmjmiankflaaDoor.Utf

theorem test_tx {a b : List Int} (ha : ∀ c ∈ a, validRune c = true) (hb : ∀ c ∈ b, validRune c = true) : ((tx a).toList == (tx b).toList) = decide (a = b) := by
  rw [ByteArray.toList_eq, ByteArray.toList_eq]
  by_cases h : a = b
  · simp [h]
  · have : ¬ (tx a).data.toList = (tx b).data.toList := fun e => h (tx_inj ha hb (ba_ext e))
    rw [decide_eq_false h]; simp only [beq_eq_false_iff_ne]; exact this
theorem test_t {a b : List Int} (ha : ∀ c ∈ a, validRune c = true) (hb : ∀ c ∈ b, validRune c = true) (h : a = b) : ((tx a).toList == (tx b).toList) = true := by rw [test_tx ha hb]; simpa using h
theorem test_f {a b : List Int} (ha : ∀ c ∈ a, validRune c = true) (hb : ∀ c ∈ b, validRune c = true) (h : ¬ a = b) : ((tx a).toList == (tx b).toList) = false := by rw [test_tx ha hb]; simpa using h

theorem val_one {c : Int} (h : validRune c = true) : ∀ x ∈ [c], validRune x = true := fun x hx => by rw [List.mem_singleton.1 hx]; exact h
theorem val_pd : ∀ d, d < 10 → ∀ x ∈ [pd d], validRune x = true := by decide
theorem val_fd : ∀ d, d < 10 → ∀ x ∈ [fd d], validRune x = true := by decide
theorem val_pu : ∀ d, d < 4 → ∀ x ∈ pu d, validRune x = true := by decide
theorem val_fu : ∀ d, d < 4 → ∀ x ∈ fu d, validRune x = true := by decide
theorem val_gu : ∀ d, d < 5 → ∀ x ∈ gu d, validRune x = true := by decide

theorem find_first {n i : Nat} {p : Nat → Bool} (h : i < n) (hp : p i = true) (hj : ∀ j, j < i → p j = false) : (List.range n).find? p = some i := by
  rw [List.find?_range_eq_some]
  exact ⟨hp, by simpa using h, fun j h => by simp [hj j h]⟩
theorem find_none {n : Nat} {p : Nat → Bool} (hj : ∀ j, j < n → p j = false) : (List.range n).find? p = none := by
  rw [List.find?_eq_none]
  intro x hx
  simp [hj x (by simpa using hx)]

def found (o : Option Nat) : Value := .tuple #[.int .i64 ((o.getD 0 : Nat) : Int), .bool o.isSome]

end Go.Proofs.YteelmjmiankflaaDoor.Num
