/-
  More small facts about worlds, of no program: a cell of an owned row is read and set.
-/
import Derived.Test.YtffljcfpofhkgaaKit2
import Derived.OneCell
set_option linter.unusedVariables false
set_option linter.unusedSimpArgs false
namespace Go.Proofs.Ytffljcfpofhkgaa.Kit
open Go Go.RowKit

/-- The cells of an owned row: which block, what they hold, that they may be written. -/
theorem own_cells {w : World} {base e n cap : Nat} {a : Option Addr} {xs : List Value} (h : w.ownsRow base e 1 (.slice a n cap) n xs) (h0 : 0 < n) :
    ∃ g, a = some ⟨g, 0, none⟩ ∧ base ≤ g ∧ g < w.heap.size ∧ (∀ (k : Nat) x, xs[k]? = some x → w.cell? ⟨g, k, none⟩ = some x) ∧ ∀ k, w.frozen? ⟨g, k, none⟩ = false := by
  rcases h.2 with ⟨e1, h1⟩ | ⟨g, c, cur, e1, hb, hg, hnc, hcm, hcs, htake⟩
  · omega
  · cases e1
    refine ⟨g, rfl, hb, (Array.getElem?_eq_some_iff.1 hg).1, fun k x hx => ?_, fun k => by simp [World.frozen?, hg]⟩
    rw [cell_of_row w g k cur e (0, 0) hg]
    rw [← htake, List.getElem?_take] at hx
    split at hx
    · simpa using hx
    · cases hx

theorem own_set {w : World} {base e n cap g : Nat} {xs : List Value} (h : w.ownsRow base e 1 (.slice (some ⟨g, 0, none⟩) n cap) n xs) {k : Nat} (hk : k < n) (u : Value) :
    (w.setCell ⟨g, k, none⟩ u).ownsRow base e 1 (.slice (some ⟨g, 0, none⟩) n cap) n (xs.set k u) := by
  refine ⟨by rw [List.length_set]; exact h.1, ?_⟩
  rcases h.2 with ⟨e1, h1⟩ | ⟨g', c, cur, e1, hb, hg, hnc, hcm, hcs, htake⟩
  · omega
  · cases e1
    refine .inr ⟨g, cap, cur.setIfInBounds k u, rfl, hb, heap_setCell_same w g k cur e u hg, hnc, hcm, by simpa using hcs, ?_⟩
    rw [Array.toList_setIfInBounds, List.take_set, htake]

theorem own_setCell_below {w : World} {base e n : Nat} {v : Value} {xs : List Value} (h : w.ownsRow base e 1 v n xs) {p : Addr} (hp : p.block < base) (u : Value) : (w.setCell p u).ownsRow base e 1 v n xs := ownsRow_setCell_below h hp u

/-- The first k values turned by h, the others as they are. -/
def mixed (h : Int → Int) (cs : List Int) (k : Nat) : List Int := (cs.take k).map h ++ cs.drop k
theorem mixed_zero (h : Int → Int) (cs : List Int) : mixed h cs 0 = cs := by simp [mixed]
theorem mixed_len (h : Int → Int) (cs : List Int) (k : Nat) : (mixed h cs k).length = cs.length := by simp [mixed]; omega
theorem mixed_all (h : Int → Int) (cs : List Int) (k : Nat) (hk : cs.length ≤ k) : mixed h cs k = cs.map h := by simp [mixed, List.take_of_length_le hk, List.drop_of_length_le hk]
theorem mixed_get (h : Int → Int) (cs : List Int) (k : Nat) (hk : k < cs.length) : (mixed h cs k)[k]? = some cs[k] := by
  unfold mixed
  rw [List.getElem?_append_right (by simp; omega)]
  simp [Nat.min_eq_left (Nat.le_of_lt hk)]
theorem mixed_set (h : Int → Int) (cs : List Int) (k : Nat) (hk : k < cs.length) : (mixed h cs k).set k (h cs[k]) = mixed h cs (k + 1) := by
  unfold mixed
  rw [List.set_append_right _ _ (by simp; omega)]
  simp only [List.length_map, List.length_take, Nat.min_eq_left (Nat.le_of_lt hk), Nat.sub_self]
  have e2 : (cs.take (k + 1)).map h = (cs.take k).map h ++ [h cs[k]] := by rw [List.take_succ_eq_append_getElem hk, List.map_append]; rfl
  rw [e2, List.drop_eq_getElem_cons hk, List.set_cons_zero, List.append_assoc]
  rfl
theorem mixed_skip (h : Int → Int) (cs : List Int) (k : Nat) (hk : k < cs.length) (he : h cs[k] = cs[k]) : mixed h cs k = mixed h cs (k + 1) := by
  rw [← mixed_set h cs k hk, he]
  apply List.ext_getElem?
  intro i
  rw [List.getElem?_set]
  split
  · rename_i e; subst e; rw [mixed_get h cs k hk, if_pos (by rw [mixed_len]; exact hk)]
  · rfl

end Go.Proofs.Ytffljcfpofhkgaa.Kit
