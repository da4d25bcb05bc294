/-
  Contract of utf.Valid.
-/
import Derived.Test.YtmfkieejopmaaaaUtfB
set_option linter.unusedVariables false
set_option linter.unusedSimpArgs false
namespace Go.Proofs.Ytmfkieejopmaaaa.Utf
open Go Go.RowKit Go.Proofs.Ytmfkieejopmaaaa.Kit

theorem valid_any (s : ByteArray) (w : World) (hs : s.size ≤ maxLen) :
    Calls Try.prog 14 #[.string s] w fun e w' => e = .returned (.bool (chars (bs s)).isSome) ∧ Below w.heap.size w w' := by
  have h : decide (0 ≤ count (bs s)) = (chars (bs s)).isSome := by unfold count; cases chars (bs s) <;> simp
  go_enter Try.func14, Try.ntmps14
  go_wp2_with (go_at_call 15; refine (count_any _ _ hs).mono ?_; rintro e w' ⟨rfl, hb⟩)
  go_ret
  exact ⟨rfl, hb⟩

end Go.Proofs.Ytmfkieejopmaaaa.Utf
