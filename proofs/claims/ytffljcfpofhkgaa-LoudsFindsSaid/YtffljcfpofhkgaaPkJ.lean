/-
  Lists in order; Find at a list.
-/
import Derived.Test.YtffljcfpofhkgaaPkI
set_option linter.unusedVariables false
set_option linter.unusedSimpArgs false
set_option maxRecDepth 100000
namespace Go.Proofs.Ytffljcfpofhkgaa.Pk
open Go Go.RowKit Go.Proofs.Ytffljcfpofhkgaa.Kit Go.Proofs.Ytffljcfpofhkgaa.Bv

/-- In order. -/
def Asc (l : List Nat) : Prop := ∀ i, i + 1 < l.length → l.getD i 0 ≤ l.getD (i + 1) 0
theorem asc_le {l : List Nat} (h : Asc l) {i : Nat} : ∀ d, i + d < l.length → l.getD i 0 ≤ l.getD (i + d) 0 := by
  intro d
  induction d with
  | zero => intro _; exact Nat.le_refl _
  | succ d ih => intro hd; exact Nat.le_trans (ih (by omega)) (h (i + d) (by omega))
theorem asc_one (l : List Nat) (h : l.length ≤ 1) : Asc l := fun i hi => by omega
theorem gv_getD {l : List Nat} (hx : U64 l) {i : Nat} (hi : i < l.length) : gv (dg (wid l) l) (wid l) i = l.getD i 0 := by
  rw [List.getD_eq_getElem?_getD, List.getElem?_eq_getElem hi]
  exact gv_list hx (List.getElem?_eq_getElem hi)
end Go.Proofs.Ytffljcfpofhkgaa.Pk
