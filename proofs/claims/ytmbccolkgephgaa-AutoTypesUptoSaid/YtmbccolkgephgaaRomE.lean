/-
  Contracts of the laws' Given, Taken, Few; the reference's Same; the laws' same.
-/
import Derived.Test.YtmbccolkgephgaaRomEq
import Derived.Deep.RegionHeld3
import Derived.Deep.AppendLies
import Derived.Deep.DrawnRows
set_option linter.unusedVariables false
set_option linter.unusedSimpArgs false
set_option maxRecDepth 100000
namespace Go.Proofs.Ytmbccolkgephgaa.Rom
open Go Go.RowKit Go.Proofs.Ytmbccolkgephgaa.Kit Go.Proofs.Ytmbccolkgephgaa.Utf

theorem info_rule : (Try.prog.info? 32).map (fun i => (i.zero, i.size, i.bytes)) = some (some (.agg #[.string { data := #[] }, .string { data := #[] }, .string { data := #[] }]), 3, 48) := by kernel_rfl
theorem info_rrule : (Try.prog.info? 56).map (fun i => (i.zero, i.size, i.bytes)) = some (some (.agg #[.string { data := #[] }, .string { data := #[] }, .string { data := #[] }]), 3, 48) := by kernel_rfl

theorem rc_snoc (rs : List Rule) (r : Rule) : rc (rs ++ [r]) = rc rs ++ [.string r.k, .string r.o, .string r.n] := by rw [rc_append]; rfl
theorem len_take {rs : List Rule} {k : Nat} (h : k ≤ rs.length) : (rs.take k).length = k := by rw [List.length_take]; omega

theorem below_dr {B : Nat} {w w' : World} (h : Below B w w') (n : Nat) : Below B w (w'.drewN n) := h.trans ⟨rfl, rfl, rfl, Nat.le_refl _, fun _ _ => rfl⟩
/-- What Few tells. -/
def FewPost (rs : List Rule) (w : World) (e : Ending) (w' : World) : Prop := ∃ x, e = .returned (.bool x) ∧ w' = w ∧ (x = true → rs.length ≤ 200 ∧ ∀ r ∈ rs, r.k.size ≤ 100 ∧ r.o.size ≤ 100 ∧ r.n.size ≤ 100)
end Go.Proofs.Ytmbccolkgephgaa.Rom
