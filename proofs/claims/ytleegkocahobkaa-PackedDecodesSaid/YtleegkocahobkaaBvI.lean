/-
  Contracts of Encode and of the reference's.
-/
import Derived.Test.YtleegkocahobkaaBvH
set_option linter.unusedVariables false
set_option linter.unusedSimpArgs false
set_option maxRecDepth 100000
namespace Go.Proofs.Ytleegkocahobkaa.Bv
open Go Go.RowKit Go.Proofs.Ytleegkocahobkaa.Kit

def EncPost (bs : List UInt8) (w : World) (e : Ending) (w' : World) : Prop := ∃ a c, e = .returned (.slice a bs.length c) ∧ w'.ownsRow w.heap.size 5 1 (.slice a bs.length c) bs.length (u8s bs) ∧ Below w.heap.size w w'

/-- appendNumbers at the sizes that Encode gives. -/
def AppPost (base : Nat) (bs : List UInt8) (w : World) (e : Ending) (w' : World) : Prop := ∃ a c, e = .returned (.slice a bs.length c) ∧ w'.ownsRow base 5 1 (.slice a bs.length c) bs.length (u8s bs) ∧ Below base w w'
end Go.Proofs.Ytleegkocahobkaa.Bv
