/-
  The writers and Parse at given strings; contract of the laws' works.
-/
import Derived.Test.YteelmjmiankflaaDoorNumJ
set_option linter.unusedVariables false
set_option linter.unusedSimpArgs false
namespace Go.Proofs.YteelmjmiankflaaDoor.Num
open Go Go.RowKit Go.Proofs.YteelmjmiankflaaDoor.Kit Go.Proofs.YteelmjmiankflaaDoor.Utf

/-- A writer at a string of which the result is known. -/
theorem writer_at {F : FuncId} {f : List Nat → List Int} (hF : Writer F f) (s o : ByteArray) (b : Bool) (hs : s.size ≤ maxLen) (h1 : wOut f s = o) (h2 : isDec s = b) (w : World) (hL : Laid w) :
    Calls Tryd.prog F #[.string s] w fun e w' => e = .returned (.tuple #[.string o, .bool b]) ∧ Below w.heap.size w w' := by
  have := hF s w hs hL
  rw [h1, h2] at this
  exact this

end Go.Proofs.YteelmjmiankflaaDoor.Num
