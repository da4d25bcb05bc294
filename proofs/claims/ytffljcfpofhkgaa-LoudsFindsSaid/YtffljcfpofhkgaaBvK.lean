/-
  Contracts of the laws' bits and works.
-/
import Derived.Test.YtffljcfpofhkgaaBvJ
set_option linter.unusedVariables false
set_option linter.unusedSimpArgs false
set_option maxRecDepth 100000
namespace Go.Proofs.Ytffljcfpofhkgaa.Bv
open Go Go.RowKit Go.Proofs.Ytffljcfpofhkgaa.Kit

theorem bls_take {l : List Bool} {k : Nat} (h : k < l.length) : bls (l.take (k + 1)) = bls (l.take k) ++ [.bool (bt l k)] := by
  unfold bls
  rw [List.take_add_one, bt_lt h, List.map_append]; rfl

def l0 : List Bool := [true, false, true, true]
theorem code0 : code l0 = [4, 0, 0, 0, 13, 0, 0, 0, 0, 0, 0, 0, 0, 0, 0, 0] := by decide +kernel
theorem conv_row {w : World} {base : Nat} {v : Value} {n : Nat} {l : List UInt8} (h : w.ownsRow base 5 1 v n (u8s l)) : (convert 51 9 v).run Try.prog w = .ok (.string ⟨l.toArray⟩) w :=
  conv_bytes h Try.underlying51 Try.underlying5 Try.underlying9

end Go.Proofs.Ytffljcfpofhkgaa.Bv
