/-
  What is found in a trie, as mathematics: a string's number, the numbers under a prefix. Of no program.
-/
import Derived.Test.YtffljcfpofhkgaaLoMathE
set_option linter.unusedVariables false
set_option linter.unusedSimpArgs false
namespace Go.Proofs.Ytffljcfpofhkgaa.Lo
open Go.Proofs.Ytffljcfpofhkgaa.Bv

/-- The number of a string. -/
def ixOf (L : List Str) (s : Str) : Option Nat := (List.range L.length).find? fun i => decide (sg L i = s)
theorem ixOf_some {L : List Str} (hL : Ok L) {s : Str} {i : Nat} : ixOf L s = some i ↔ i < L.length ∧ sg L i = s := by
  unfold ixOf
  constructor
  · intro h
    exact ⟨List.mem_range.1 (List.mem_of_find?_eq_some h), of_decide_eq_true (List.find?_some (p := fun i => decide (sg L i = s)) h)⟩
  · rintro ⟨h1, h2⟩
    cases h : (List.range L.length).find? fun k => decide (sg L k = s) with
    | none =>
      have := List.find?_eq_none.1 h i (List.mem_range.2 h1)
      simp [h2] at this
    | some j =>
      have h3 := List.mem_range.1 (List.mem_of_find?_eq_some h)
      have h4 : sg L j = s := of_decide_eq_true (List.find?_some (p := fun k => decide (sg L k = s)) h)
      rw [hL.inj h3 h1 (h4.trans h2.symm)]
theorem ixOf_none {L : List Str} {s : Str} : ixOf L s = none ↔ ∀ i, i < L.length → sg L i ≠ s := by
  unfold ixOf
  rw [List.find?_eq_none]
  constructor
  · intro h k hk; have := h k (List.mem_range.2 hk); simpa using this
  · intro h k hk; have := h k (List.mem_range.1 hk); simpa using this
/-- A node's string is in the set just if the node is marked. -/
theorem ix_node {L : List Str} (hL : Ok L) {s : Str} {k : Nat} (h : nodeOf L s = some k) : ixOf L s = if isS L (gd L k) = true then some (gd L k).f else none := by
  obtain ⟨h1, h2⟩ := (nodeOf_some hL).1 h
  by_cases hs : isS L (gd L k) = true
  · rw [if_pos hs, ixOf_some hL]
    have h3 := (isS_iff.1 hs).1
    have h4 := (node_at hL h1).tm
    exact ⟨by omega, by rw [← h2, isS_pre hs]⟩
  · rw [if_neg hs, ixOf_none]
    intro i hi e
    exact hs (isS_of hL hi h1 (by rw [h2, e])).1
theorem ix_none {L : List Str} (hL : Ok L) {s : Str} (h : nodeOf L s = none) : ixOf L s = none := by
  rw [ixOf_none]
  intro i hi e
  obtain ⟨k, h1, h2, _⟩ := pre_ex hL hi (Nat.le_refl (ln L i))
  exact nodeOf_none.1 h k h1 (by rw [h2, ← e]; exact List.take_length)
/-- Does a string begin with another one? -/
def beg (s p : Str) : Bool := decide (p.length ≤ s.length ∧ s.take p.length = p)
/-- The numbers of the strings that begin so, the first of them. -/
def under (L : List Str) (p : Str) : List Nat := (List.range L.length).filter fun i => beg (sg L i) p
theorem beg_node {L : List Str} (hL : Ok L) {p : Str} {k : Nat} (h : nodeOf L p = some k) {i : Nat} (hi : i < L.length) : beg (sg L i) p = true ↔ (gd L k).f ≤ i ∧ i < (gd L k).t := by
  obtain ⟨h1, h2⟩ := (nodeOf_some hL).1 h
  have hg := node_at hL h1
  have hn := pre_len hL h1
  rw [h2] at hn
  have hnl := hg.n_le
  unfold beg
  rw [decide_eq_true_iff, hn]
  constructor
  · rintro ⟨h3, h4⟩
    exact hg.all i hi ((lcp_le _ _ _).2 ⟨hnl, h3, by rw [h4, ← h2]; rfl⟩)
  · rintro ⟨h3, h4⟩
    have h5 := (lcp_le _ _ _).1 (hg.same i h3 h4)
    exact ⟨h5.2.1, by rw [← h5.2.2, ← h2]; rfl⟩
theorem filter_iff {p : Nat → Bool} : ∀ (m f t : Nat), f ≤ t → t ≤ m → (∀ i, i < m → (p i = true ↔ f ≤ i ∧ i < t)) → (List.range m).filter p = List.range' f (t - f) := by
  intro m
  induction m with
  | zero => intro f t h1 h2 _; rw [show t - f = 0 by omega]; rfl
  | succ m ih =>
    intro f t h1 h2 h3
    rw [List.range_succ, List.filter_append]
    by_cases h4 : t = m + 1
    · by_cases h5 : f = m + 1
      · rw [ih m m (Nat.le_refl _) (Nat.le_refl _) (fun i hi => by rw [h3 i (by omega)]; omega), List.filter_cons_of_neg (by rw [h3 m (by omega)]; omega)]
        rw [show m - m = 0 by omega, show t - f = 0 by omega]; rfl
      · rw [ih f m (by omega) (Nat.le_refl _) (fun i hi => by rw [h3 i (by omega)]; omega), List.filter_cons_of_pos (by rw [h3 m (by omega)]; omega)]
        have e : List.range' f (t - f) = List.range' f (m - f) ++ List.range' m (t - m) := range'_split (by omega) (by omega)
        rw [e, show t - m = 1 by omega]; rfl
    · rw [ih f t h1 (by omega) (fun i hi => by rw [h3 i (by omega)]), List.filter_cons_of_neg (by rw [h3 m (by omega)]; omega)]
      simp
theorem under_node {L : List Str} (hL : Ok L) {p : Str} {k : Nat} (h : nodeOf L p = some k) : under L p = List.range' (gd L k).f ((gd L k).t - (gd L k).f) := by
  have hg := node_at hL ((nodeOf_some hL).1 h).1
  exact filter_iff _ _ _ hg.ft hg.tm fun i hi => beg_node hL h hi
theorem under_none {L : List Str} (hL : Ok L) {p : Str} (h : nodeOf L p = none) : under L p = [] := by
  unfold under
  rw [List.filter_eq_nil_iff]
  intro i hi hb
  rw [List.mem_range] at hi
  unfold beg at hb
  rw [decide_eq_true_iff] at hb
  obtain ⟨k, h1, h2, _⟩ := pre_ex hL hi (n := p.length) hb.1
  exact nodeOf_none.1 h k h1 (by rw [h2, hb.2])
theorem take_range' (f c j : Nat) : (List.range' f c).take j = List.range' f (min j c) := by
  apply List.ext_getElem?
  intro i
  rw [List.getElem?_take]
  by_cases h : i < min j c
  · rw [if_pos (by omega), List.getElem?_range' (by omega), List.getElem?_range' (by omega)]
  · rw [List.getElem?_eq_none (l := List.range' f (min j c)) (by rw [List.length_range']; omega)]
    split
    · rw [List.getElem?_eq_none (by rw [List.length_range']; omega)]
    · rfl
/-- What Under and its reference return. -/
def underK (L : List Str) (p : Str) (most : Int) : List Nat := (under L p).take most.toNat
theorem underK_node {L : List Str} (hL : Ok L) {p : Str} {k : Nat} (h : nodeOf L p = some k) (most : Int) : underK L p most = List.range' (gd L k).f (min most.toNat ((gd L k).t - (gd L k).f)) := by
  unfold underK; rw [under_node hL h, take_range']
theorem underK_none {L : List Str} (hL : Ok L) {p : Str} (h : nodeOf L p = none) (most : Int) : underK L p most = [] := by
  unfold underK; rw [under_none hL h, List.take_nil]
end Go.Proofs.Ytffljcfpofhkgaa.Lo
