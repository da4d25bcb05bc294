/-
  Contracts of the small functions of package utf and of its reference: whether a number is a character, whether a string begins with another one.
-/
import Derived.Test.YtmbccolkgephgaaUtfMath
import Derived.Test.YtmbccolkgephgaaRows
import Derived.Test.YtmbccolkgephgaaKit
set_option linter.unusedVariables false
set_option linter.unusedSimpArgs false
namespace Go.Proofs.Ytmbccolkgephgaa.Utf
open Go Go.RowKit Go.Proofs.Ytmbccolkgephgaa.Kit

theorem character_any (c : Int) (w : World) :
    Calls Try.prog 65 #[.int .i32 c] w fun e w' => e = .returned (.bool (validRune c)) ∧ w = w' := by
  have hv : validRune c = decide ((0 ≤ c ∧ c < 55296) ∨ (57343 < c ∧ c ≤ 1114111)) := rfl
  have H := Lib.hid hv; clear hv
  by_cases h0 : 0 ≤ c <;> by_cases h1 : c < 55296 <;> by_cases h2 : 57343 < c <;> by_cases h3 : c ≤ 1114111 <;> first | (exfalso; omega) | skip
  all_goals
    go_enter Try.func65, Try.ntmps65
    go_wp2
    go_ret
    exact ⟨by rw [H.out]; simp; omega, rfl⟩

/-- Whether s begins with p. -/
def begins (s p : ByteArray) : Bool := decide (p.size ≤ s.size) && ((s.extract 0 p.size).toList == p.toList)

theorem beginsWith_any (s p : ByteArray) (w : World) :
    Calls Try.prog 57 #[.string s, .string p] w fun e w' => e = .returned (.bool (begins s p)) ∧ w = w' := by
  have hv : begins s p = (decide (p.size ≤ s.size) && ((s.extract 0 p.size).toList == p.toList)) := rfl
  have H := Lib.hid hv; clear hv
  by_cases h : p.size ≤ s.size
  all_goals
    go_enter Try.func57, Try.ntmps57
    go_wp2
    go_ret
    exact ⟨by rw [H.out]; simp [h], rfl⟩

end Go.Proofs.Ytmbccolkgephgaa.Utf
