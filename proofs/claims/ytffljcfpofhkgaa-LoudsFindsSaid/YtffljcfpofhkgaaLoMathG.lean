/-
  The strings that are prefixes of a string, as mathematics. Of no program.
-/
import Derived.Test.YtffljcfpofhkgaaLoJ
set_option linter.unusedVariables false
set_option linter.unusedSimpArgs false
namespace Go.Proofs.Ytffljcfpofhkgaa.Lo
open Go.Proofs.Ytffljcfpofhkgaa.Bv

/-- What a step adds: the number of the string that its node is, and its bytes. -/
def hit1 (L : List Str) (x : Step L) : Option (Nat × Nat) := if isS L (gd L x.val.2) = true then some ((gd L x.val.2).f, x.val.1) else none
def hitsOf (L : List Str) (xs : List (Step L)) : List (Nat × Nat) := xs.filterMap (hit1 L)
theorem hitsOf_len (L : List Str) (xs : List (Step L)) : (hitsOf L xs).length ≤ xs.length := List.length_filterMap_le _ _
theorem hitsOf_yes {L : List Str} (xs : List (Step L)) {x : Step L} (h : isS L (gd L x.val.2) = true) : hitsOf L (xs ++ [x]) = hitsOf L xs ++ [((gd L x.val.2).f, x.val.1)] := by
  unfold hitsOf; rw [List.filterMap_append]; simp [hit1, h]
theorem hitsOf_no {L : List Str} (xs : List (Step L)) {x : Step L} (h : isS L (gd L x.val.2) = false) : hitsOf L (xs ++ [x]) = hitsOf L xs := by
  unfold hitsOf; rw [List.filterMap_append]; simp [hit1, h]
/-- The strings that are prefixes of s, the shortest first: their numbers and their bytes. -/
def hits (L : List Str) (s : Str) : List (Nat × Nat) := (List.range (s.length + 1)).filterMap fun j => (ixOf L (s.take j)).map fun i => (i, j)
theorem hits_from {L : List Str} (hL : Ok L) {s : Str} : ∀ (ys : List (Step L)) (d : Nat), (∀ j x, ys[j]? = some x → x.val.1 = d + j ∧ nodeOf L (s.take (d + j)) = some x.val.2) → hitsOf L ys = (List.range' d ys.length).filterMap fun j => (ixOf L (s.take j)).map fun i => (i, j)
  | [], d, _ => rfl
  | x :: ys, d, h => by
    obtain ⟨h2, h3⟩ := h 0 x rfl
    rw [Nat.add_zero] at h2 h3
    have ih := hits_from hL ys (d + 1) fun j y hy => by
      have := h (j + 1) y (by rw [List.getElem?_cons_succ]; exact hy)
      rwa [show d + (j + 1) = d + 1 + j by omega] at this
    have h5 := ix_node hL h3
    rw [List.length_cons, List.range'_succ]
    unfold hitsOf at ih ⊢
    rw [List.filterMap_cons, List.filterMap_cons, ← ih, h5]
    by_cases hs : isS L (gd L x.val.2) = true
    · rw [if_pos hs]
      simp [hit1, hs, h2]
    · rw [if_neg hs]
      simp [hit1, hs]
theorem hits_steps {L : List Str} (hL : Ok L) {s : Str} (ys : List (Step L)) (h : Pre L s ys) : hitsOf L ys = (List.range ys.length).filterMap fun j => (ixOf L (s.take j)).map fun i => (i, j) := by
  rw [List.range_eq_range']
  exact hits_from hL ys 0 fun j x hx => by have := h j x hx; rw [Nat.zero_add]; exact ⟨this.1, this.2.1⟩
theorem hits_all {L : List Str} (hL : Ok L) {s : Str} {ys : List (Step L)} (h : All L s ys) : hitsOf L ys = hits L s := by
  obtain ⟨h1, h2, h3⟩ := h
  rw [hits_steps hL ys h1]
  unfold hits
  have h4 : ys.length ≤ s.length + 1 := by
    rcases Nat.lt_or_ge (s.length + 1) ys.length with h5 | h5
    · have h6 : ys[s.length + 1]? = some ys[s.length + 1] := List.getElem?_eq_getElem h5
      have := (h1 _ _ h6).2.2
      omega
    · exact h5
  have e : List.range (s.length + 1) = List.range ys.length ++ List.range' ys.length (s.length + 1 - ys.length) := by
    have := range'_split (a := 0) (b := ys.length) (c := s.length + 1) (by omega) h4
    rw [List.range_eq_range', List.range_eq_range']
    exact this
  rw [e, List.filterMap_append]
  have hz : (List.range' ys.length (s.length + 1 - ys.length)).filterMap (fun j => (ixOf L (s.take j)).map fun i => (i, j)) = [] := by
    rw [List.filterMap_eq_nil_iff]
    intro j hj
    rw [List.mem_range'_1] at hj
    rcases h3 with h3 | h3
    · omega
    · have h6 : nodeOf L (s.take j) = none := by
        cases h7 : nodeOf L (s.take j) with
        | none => rfl
        | some k =>
          obtain ⟨i, h8⟩ := nodeOf_pref hL h7 ys.length
          rw [List.take_take, Nat.min_eq_left hj.1, h3] at h8
          cases h8
      rw [ix_none hL h6]; rfl
  rw [hz, List.append_nil]
end Go.Proofs.Ytffljcfpofhkgaa.Lo
