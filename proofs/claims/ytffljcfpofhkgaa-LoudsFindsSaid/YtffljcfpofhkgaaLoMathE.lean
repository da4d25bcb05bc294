/-
  On the way up from a node stand its bytes. Of no program.
-/
import Derived.Test.YtffljcfpofhkgaaLoD
set_option linter.unusedVariables false
set_option linter.unusedSimpArgs false
namespace Go.Proofs.Ytffljcfpofhkgaa.Lo
open Go.Proofs.Ytffljcfpofhkgaa.Bv

/-- The parent of a node; of the first one itself. -/
def par (L : List Str) (k : Nat) : Nat := ((List.range (Gs L).length).find? fun i => decide (off L i ≤ k ∧ k < off L i + deg L i)).getD 0
theorem off_apart {L : List Str} {i j : Nat} (hi : i < (Gs L).length) (h : i < j) : off L i + deg L i ≤ off L j := by
  have := off_mono (L := L) (show i + 1 ≤ j by omega)
  rwa [off_succ hi] at this
theorem par_kid {L : List Str} {i t : Nat} (hi : i < (Gs L).length) (ht : t < deg L i) : par L (off L i + t) = i := by
  unfold par
  cases h : (List.range (Gs L).length).find? fun j => decide (off L j ≤ off L i + t ∧ off L i + t < off L j + deg L j) with
  | none =>
    have := List.find?_eq_none.1 h i (List.mem_range.2 hi)
    simp at this
    omega
  | some j =>
    have h1 := List.mem_range.1 (List.mem_of_find?_eq_some h)
    have h2 := of_decide_eq_true (List.find?_some (p := fun j => decide (off L j ≤ off L i + t ∧ off L i + t < off L j + deg L j)) h)
    show j = i
    rcases Nat.lt_trichotomy i j with h3 | h3 | h3
    · have := off_apart hi h3; omega
    · exact h3.symm
    · have := off_apart h1 h3; omega
theorem par_in {L : List Str} (hL : Ok L) {k : Nat} (h0 : 0 < k) (hk : k < (Gs L).length) : ∃ t, par L k < (Gs L).length ∧ t < deg L (par L k) ∧ k = off L (par L k) + t := by
  obtain ⟨i, t, h1, h2, rfl⟩ := par_ex hL h0 hk
  rw [par_kid h1 h2]
  exact ⟨t, h1, h2, rfl⟩
theorem clm_pre {L : List Str} (hL : Ok L) : ∀ f k, k < (Gs L).length → (gd L k).n ≤ f → (clm (par L) (labs L) f k).reverse = pre L k := by
  intro f
  induction f with
  | zero =>
    intro k hk hn
    show [] = _
    exact (List.eq_nil_of_length_eq_zero (by rw [pre_len hL hk]; omega)).symm
  | succ f ih =>
    intro k hk hn
    simp only [clm]
    by_cases h0 : k = 0
    · rw [if_pos h0, h0, pre_zero hL]; rfl
    · obtain ⟨t, h1, h2, h3⟩ := par_in hL (by omega) hk
      have h4 := kid_n hL h1 h2
      rw [← h3] at h4
      have h5 := pre_kid hL h1 h2
      rw [← h3] at h5
      have h6 := labs_get hL (k := k - 1) (by omega)
      rw [show k - 1 + 1 = k by omega] at h6
      rw [if_neg h0, List.reverse_cons, ih _ h1 (by omega), h5, List.getD_eq_getElem?_getD, h6]
      rfl
end Go.Proofs.Ytffljcfpofhkgaa.Lo
