/-
  The cells of the document's table.
-/
import Derived.Test.YtpaeppklkicngaaDoorRomDm
set_option linter.unusedVariables false
set_option linter.unusedSimpArgs false
set_option maxRecDepth 100000
namespace Go.Proofs.YtpaeppklkicngaaDoor.Rom
open Go Go.RowKit Go.Proofs.YtpaeppklkicngaaDoor.Kit Go.Proofs.YtpaeppklkicngaaDoor.Utf

/-! ### the table's cells -/
theorem flat_at {α : Type} (f : α → List Value) (d : α) (n : Nat) : ∀ (l : List α), (∀ r ∈ l, (f r).length = n) → ∀ i, i < l.length → ∀ j, j < n → (l.flatMap f)[i * n + j]? = (f (l.getD i d))[j]? := by
  intro l
  induction l with
  | nil => intro _ i h; simp at h
  | cons r l ih =>
    intro hl i hi j hj
    rw [List.flatMap_cons]
    have hr := hl r (by simp)
    cases i with
    | zero =>
      rw [List.getElem?_append_left (by omega), Nat.zero_mul, Nat.zero_add]
      rfl
    | succ i =>
      rw [List.getElem?_append_right (by rw [hr, Nat.succ_mul]; omega), hr, show (i + 1) * n + j - n = i * n + j by rw [Nat.succ_mul]; omega]
      exact ih (fun x hx => hl x (by simp [hx])) i (by simpa using hi) j hj
theorem tab_len : tabL.length = 25 := rfl
theorem tab_row : ∀ r ∈ tabL, r.2.length = 5 ∧ r.1.length ≤ 3 ∧ ∀ k ∈ r.2, k.length ≤ 6 := by decide +kernel
def tabR (i : Nat) : List UInt8 × List (List UInt8) := tabL.getD i ([], [])
theorem tabR_mem {i : Nat} (h : i < 25) : tabR i ∈ tabL := by
  unfold tabR
  rw [List.getD_eq_getElem?_getD, List.getElem?_eq_getElem (by rw [tab_len]; exact h)]
  exact List.getElem_mem _
theorem tabC_at {i : Nat} (h : i < 25) : tabC[i * 6]? = some (.string (ba (tabR i).1)) ∧ ∀ j, j < 5 → tabC[i * 6 + 1 + j]? = some (.string (ba ((tabR i).2.getD j []))) := by
  have key := flat_at (fun r : List UInt8 × List (List UInt8) => Value.string (ba r.1) :: r.2.map fun k => Value.string (ba k)) ([], []) 6 tabL (fun r hr => by simp [(tab_row r hr).1]) i (by rw [tab_len]; exact h)
  have hm := tab_row _ (tabR_mem h)
  refine ⟨key 0 (by omega), fun j hj => ?_⟩
  rw [Nat.add_assoc, Nat.add_comm 1 j]
  refine (key (j + 1) (by omega)).trans ?_
  show ((tabR i).2.map fun k => Value.string (ba k))[j]? = _
  rw [List.getElem?_map, List.getD_eq_getElem?_getD, List.getElem?_eq_getElem (by omega)]
  rfl
theorem tabR_len {i : Nat} (h : i < 25) : (tabR i).1.length ≤ 3 ∧ ∀ j, j < 5 → ((tabR i).2.getD j []).length ≤ 6 := by
  have hm := tab_row _ (tabR_mem h)
  refine ⟨hm.2.1, fun j hj => ?_⟩
  rw [List.getD_eq_getElem?_getD, List.getElem?_eq_getElem (by omega)]
  exact hm.2.2 _ (List.getElem_mem _)

theorem vow3_len (L : List UInt8) (K : List (List UInt8)) : ∀ j, (vow3 L K j).length ≤ j := by
  intro j
  unfold vow3
  refine Nat.le_trans (List.length_filterMap_le _ _) ?_
  rw [List.length_range]; exact Nat.le_refl _
theorem app_lit (a l : List UInt8) (x : ByteArray) (h : x = ba l) : ba a ++ x = ba (a ++ l) := by rw [h, ba_app]
theorem ba_cut (l : List UInt8) (m : Nat) (h : m < l.length) : (ba l).extract m (m + 1) = ba [l.getD m 0] := by
  apply ba_ext
  show ((ba l).extract m (m + 1)).data.toList = [l.getD m 0]
  rw [ByteArray.data_extract, List.getD_eq_getElem?_getD, List.getElem?_eq_getElem h]
  simp only [ba, List.extract_toArray, Option.getD_some]
  rw [List.extract_eq_take_drop, Nat.add_sub_cancel_left, List.drop_eq_getElem_cons h]
  rfl
theorem dbl_succ {m : Nat} (h : m < 17) : (dblB.take (m + 1)).map dbl3 = (dblB.take m).map dbl3 ++ [dbl3 (dblB.getD m 0)] := by
  have h2 : m < dblB.length := h
  rw [List.take_add_one, List.map_append, List.getElem?_eq_getElem h2, List.getD_eq_getElem?_getD, List.getElem?_eq_getElem h2]
  rfl

end Go.Proofs.YtpaeppklkicngaaDoor.Rom
