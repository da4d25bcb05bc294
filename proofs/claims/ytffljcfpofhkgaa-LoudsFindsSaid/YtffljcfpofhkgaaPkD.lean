/-
  Packed numbers: contracts of Find and of the function that it makes.
-/
import Derived.Test.YtffljcfpofhkgaaPkC
import Derived.Deep.QuietTactic
import Derived.BigQuiet
set_option linter.unusedVariables false
set_option linter.unusedSimpArgs false
set_option maxRecDepth 100000
namespace Go.Proofs.Ytffljcfpofhkgaa.Pk
open Go Go.RowKit Go.Proofs.Ytffljcfpofhkgaa.Kit Go.Proofs.Ytffljcfpofhkgaa.Bv

theorem IntsAt.drewN {B0 B1 : Nat} {w : World} {p n W S : Nat} (h : IntsAt B0 B1 w p n W S) (m : Nat) : IntsAt B0 B1 (w.drewN m) p n W S := h.later fun _ _ _ => rfl
/-- What the search asks of number i. -/
def fp (S W n x i : Nat) : Bool := decide (n ≤ i ∨ x ≤ gv S W i)

def FindPost (n : Nat) (q : Nat → Bool) (w : World) (e : Ending) (w' : World) : Prop := ∃ r : Nat, e = .returned (.int .i64 (r : Int)) ∧ Bv.Found n q r ∧ Below w.heap.size w w'
end Go.Proofs.Ytffljcfpofhkgaa.Pk
