/-
  A vector's words, counts and code as mathematics; the place of a bit. Of no program.
-/
import Derived.Test.YtffljcfpofhkgaaBvMath
set_option linter.unusedVariables false
set_option linter.unusedSimpArgs false
namespace Go.Proofs.Ytffljcfpofhkgaa.Bv

/-- Bit i of a list; false beyond its end. -/
def bt (l : List Bool) (i : Nat) : Bool := l.getD i false
theorem bt_lt {l : List Bool} {i : Nat} (h : i < l.length) : l[i]? = some (bt l i) := by
  unfold bt; rw [List.getD_eq_getElem?_getD, List.getElem?_eq_getElem h]; rfl
theorem bt_ge {l : List Bool} {i : Nat} (h : l.length ≤ i) : bt l i = false := by
  unfold bt; rw [List.getD_eq_getElem?_getD, List.getElem?_eq_none h]; rfl
/-- The number of the bits from s on, m of them, the lowest first. -/
def wf (l : List Bool) : Nat → Nat → Nat
  | _, 0 => 0
  | s, m + 1 => (bt l s).toNat + 2 * wf l (s + 1) m
theorem wf_lt (l : List Bool) : ∀ m s, wf l s m < 2 ^ m := by
  intro m
  induction m with
  | zero => intro s; simp [wf]
  | succ m ih =>
    intro s
    have := ih (s + 1)
    have hb : (bt l s).toNat ≤ 1 := by cases bt l s <;> decide
    simp only [wf, Nat.pow_succ]
    omega
theorem wf_bit (l : List Bool) : ∀ m s t, (wf l s m).testBit t = (decide (t < m) && bt l (s + t)) := by
  intro m
  induction m with
  | zero => intro s t; simp [wf]
  | succ m ih =>
    intro s t
    simp only [wf]
    cases t with
    | zero => rw [Nat.testBit_zero]; cases bt l s <;> simp [Nat.add_mod, Nat.mul_mod_right] <;> omega
    | succ t =>
      rw [Nat.testBit_succ, show ((bt l s).toNat + 2 * wf l (s + 1) m) / 2 = wf l (s + 1) m by cases bt l s <;> simp <;> omega, ih]
      rw [show s + 1 + t = s + (t + 1) by omega]
      simp
/-- How many of the first i bits are true. -/
def tr (l : List Bool) : Nat → Nat
  | 0 => 0
  | i + 1 => tr l i + (bt l i).toNat
theorem tr_le (l : List Bool) : ∀ i, tr l i ≤ i := by
  intro i
  induction i with
  | zero => exact Nat.le_refl _
  | succ i ih => have : (bt l i).toNat ≤ 1 := (by cases bt l i <;> decide); simp only [tr]; omega
theorem tr_mono (l : List Bool) (i d : Nat) : tr l i ≤ tr l (i + d) := by
  induction d with
  | zero => exact Nat.le_refl _
  | succ d ih => rw [← Nat.add_assoc]; simp only [tr]; omega
theorem tr_gap (l : List Bool) (i d : Nat) : tr l (i + d) ≤ tr l i + d := by
  induction d with
  | zero => exact Nat.le_refl _
  | succ d ih => have : (bt l (i + d)).toNat ≤ 1 := (by cases bt l (i + d) <;> decide); rw [← Nat.add_assoc]; simp only [tr]; omega
theorem tr_pop (l : List Bool) : ∀ k s m, k ≤ m → tr l (s + k) = tr l s + pop k (wf l s m) := by
  intro k
  induction k with
  | zero => intro s m _; simp [pop]
  | succ k ih =>
    intro s m h
    cases m with
    | zero => omega
    | succ m =>
      have e1 : tr l (s + (k + 1)) = tr l (s + 1 + k) := by rw [show s + (k + 1) = s + 1 + k by omega]
      rw [e1, ih (s + 1) m (by omega)]
      simp only [pop, wf, tr]
      have h2 : ((bt l s).toNat + 2 * wf l (s + 1) m) / 2 = wf l (s + 1) m := by cases bt l s <;> simp <;> omega
      have h3 : ((bt l s).toNat + 2 * wf l (s + 1) m) % 2 = (bt l s).toNat := by cases bt l s <;> simp <;> omega
      rw [h2, h3]; omega
theorem tr_end (l : List Bool) (d : Nat) : tr l (l.length + d) = tr l l.length := by
  induction d with
  | zero => rfl
  | succ d ih => rw [← Nat.add_assoc]; simp only [tr]; rw [ih, bt_ge (by omega)]; rfl
theorem pop_cut (k : Nat) : ∀ w, pop k (w % 2 ^ k) = pop k w := by
  induction k with
  | zero => intro w; rfl
  | succ k ih =>
    intro w
    simp only [pop]
    rw [Nat.pow_succ, Nat.mul_comm, Nat.mod_mul_right_div_self, ih, Nat.mod_mul_right_mod]
theorem pop_shl (k : Nat) : ∀ m w, pop (m + k) (w * 2 ^ m % 2 ^ (m + k)) = pop k w := by
  intro m
  induction m with
  | zero => intro w; rw [Nat.zero_add, Nat.pow_zero, Nat.mul_one]; exact pop_cut k w
  | succ m ih =>
    intro w
    have e : w * 2 ^ (m + 1) % 2 ^ (m + 1 + k) = 2 * (w * 2 ^ m % 2 ^ (m + k)) := by
      rw [show m + 1 + k = (m + k) + 1 by omega, Nat.pow_succ, Nat.pow_succ, ← Nat.mul_assoc, Nat.mul_comm (w * 2 ^ m) 2, Nat.mul_comm (2 ^ (m + k)) 2, Nat.mul_mod_mul_left]
    rw [e, show m + 1 + k = (m + k) + 1 by omega]
    simp only [pop]
    rw [Nat.mul_mod_right, Nat.mul_div_cancel_left _ (by decide), ih]
    omega
/-- Word j of a vector. -/
def wat (l : List Bool) (j : Nat) : Nat := wf l (64 * j) 64
theorem wat_lt (l : List Bool) (j : Nat) : wat l j < 18446744073709551616 := wf_lt l 64 (64 * j)
theorem tr_word (l : List Bool) (j : Nat) : tr l (64 * (j + 1)) = tr l (64 * j) + pop 64 (wat l j) := tr_pop l 64 (64 * j) 64 (Nat.le_refl _)
theorem tr_part (l : List Bool) (i : Nat) : tr l (i + 1) = tr l (64 * (i / 64)) + pop 64 (wat l (i / 64) * 2 ^ (63 - i % 64) % 18446744073709551616) := by
  have h := tr_pop l (i % 64 + 1) (64 * (i / 64)) 64 (by omega)
  have h2 := pop_shl (i % 64 + 1) (63 - i % 64) (wat l (i / 64))
  rw [show 63 - i % 64 + (i % 64 + 1) = 64 by omega] at h2
  rw [show 64 * (i / 64) + (i % 64 + 1) = i + 1 by omega] at h
  have h3 : tr l (i + 1) = tr l (64 * (i / 64)) + pop (i % 64 + 1) (wat l (i / 64)) := h
  rw [h3, ← h2]
theorem wat_bit (l : List Bool) (i : Nat) : (wat l (i / 64) / 2 ^ (i % 64)) % 2 = (bt l i).toNat := by
  have h := wf_bit l 64 (64 * (i / 64)) (i % 64)
  rw [show 64 * (i / 64) + i % 64 = i by omega, decide_eq_true (by omega), Bool.true_and] at h
  rw [Nat.testBit_eq_decide_div_mod_eq] at h
  show wf l (64 * (i / 64)) 64 / 2 ^ (i % 64) % 2 = _
  rcases Nat.mod_two_eq_zero_or_one (wf l (64 * (i / 64)) 64 / 2 ^ (i % 64)) with h2 | h2 <;> rw [h2] at h ⊢ <;> rw [← h] <;> rfl
/-- The words of the first k bits: a bit more. -/
theorem bt_take (l : List Bool) (k i : Nat) : bt (l.take k) i = (decide (i < k) && bt l i) := by
  unfold bt
  rw [List.getD_eq_getElem?_getD, List.getD_eq_getElem?_getD, List.getElem?_take]
  by_cases h : i < k <;> simp [h]
theorem wat_take (l : List Bool) (k j : Nat) : wat (l.take (k + 1)) j = if j = k / 64 ∧ bt l k = true then wat (l.take k) j ||| 2 ^ (k % 64) else wat (l.take k) j := by
  apply Nat.eq_of_testBit_eq
  intro t
  have h1 : (wat (l.take (k + 1)) j).testBit t = (decide (t < 64) && (decide (64 * j + t < k + 1) && bt l (64 * j + t))) := by unfold wat; rw [wf_bit, bt_take]
  have h2 : (wat (l.take k) j).testBit t = (decide (t < 64) && (decide (64 * j + t < k) && bt l (64 * j + t))) := by unfold wat; rw [wf_bit, bt_take]
  by_cases hc : j = k / 64 ∧ bt l k = true
  · rw [if_pos hc, Nat.testBit_or, h1, h2, Nat.testBit_two_pow]
    obtain ⟨hj, hb⟩ := hc
    by_cases ht : 64 * j + t = k
    · rw [ht, hb]
      have : t < 64 := by omega
      have e : k % 64 = t := by omega
      simp [this, e]
    · by_cases h3 : t < 64
      · have e : ¬ k % 64 = t := by omega
        have e2 : (64 * j + t < k + 1) ↔ (64 * j + t < k) := by omega
        simp [h3, e, e2]
      · have e : ¬ k % 64 = t := by omega
        simp [h3, e]
  · rw [if_neg hc, h1, h2]
    by_cases ht : 64 * j + t = k
    · rw [ht]
      by_cases h3 : t < 64
      · have hj : j = k / 64 := by omega
        have hb : bt l k = false := by cases h : bt l k with
          | false => rfl
          | true => exact absurd ⟨hj, h⟩ hc
        simp [hb]
      · simp [h3]
    · have e2 : (64 * j + t < k + 1) ↔ (64 * j + t < k) := by omega
      simp [e2]
theorem wat_none (j : Nat) : wat [] j = 0 := by
  apply Nat.eq_of_testBit_eq
  intro t
  unfold wat
  rw [wf_bit, bt_ge (Nat.zero_le _)]
  simp
/-- How many words, and how many counts. -/
def nw (n : Nat) : Nat := (n + 63) / 64
def nc (n : Nat) : Nat := (n + 511) / 512
def wds (l : List Bool) : List Nat := (List.range (nw l.length)).map (wat l)
def cnt (l : List Bool) (b : Nat) : Nat := tr l (512 * b)
def cts (l : List Bool) : List Nat := (List.range (nc l.length)).map (cnt l)
theorem wds_len (l : List Bool) : (wds l).length = nw l.length := by simp [wds]
theorem cts_len (l : List Bool) : (cts l).length = nc l.length := by simp [cts]
theorem wds_get (l : List Bool) {j : Nat} (h : j < nw l.length) : (wds l)[j]? = some (wat l j) := by
  unfold wds; rw [List.getElem?_map, List.getElem?_range h]; rfl
theorem cts_get (l : List Bool) {j : Nat} (h : j < nc l.length) : (cts l)[j]? = some (cnt l j) := by
  unfold cts; rw [List.getElem?_map, List.getElem?_range h]; rfl

/-- How many of the first i bits are b. -/
def rk (l : List Bool) (b : Bool) : Nat → Nat
  | 0 => 0
  | i + 1 => rk l b i + if bt l i = b then 1 else 0
theorem rk_true (l : List Bool) (i : Nat) : rk l true i = tr l i := by
  induction i with
  | zero => rfl
  | succ i ih => simp only [rk, tr, ih]; cases bt l i <;> simp
theorem rk_false (l : List Bool) (i : Nat) : rk l false i = i - tr l i := by
  induction i with
  | zero => rfl
  | succ i ih => have := tr_le l i; simp only [rk, tr, ih]; cases bt l i <;> simp <;> omega
theorem rk_le (l : List Bool) (b : Bool) (i : Nat) : rk l b i ≤ i := by
  induction i with
  | zero => exact Nat.le_refl _
  | succ i ih => simp only [rk]; split <;> omega
theorem rk_mono (l : List Bool) (b : Bool) {i j : Nat} (h : i ≤ j) : rk l b i ≤ rk l b j := by
  induction j with
  | zero => rw [Nat.le_zero.1 h]; exact Nat.le_refl _
  | succ j ih =>
    rcases Nat.lt_or_ge i (j + 1) with h1 | h1
    · have := ih (by omega); simp only [rk]; omega
    · rw [Nat.le_antisymm h h1]; exact Nat.le_refl _
/-- Rank at any number. -/
def rank (l : List Bool) (b : Bool) (i : Int) : Nat := rk l b (min i (l.length : Int)).toNat

/-- The place of the k-th bit that is b, as the document has it. -/
def selA (l : List Bool) (b : Bool) (k : Int) : Nat → Nat → Int
  | 0, _ => -1
  | m + 1, i => if bt l i = b ∧ (rk l b i : Int) = k then (i : Int) else selA l b k m (i + 1)
def sel (l : List Bool) (b : Bool) (k : Int) : Int := selA l b k l.length 0
theorem selA_at (l : List Bool) (b : Bool) (k : Int) : ∀ m i j, i ≤ j → j < i + m → bt l j = b → (rk l b j : Int) = k → selA l b k m i = (j : Int) := by
  intro m
  induction m with
  | zero => intro i j h1 h2; omega
  | succ m ih =>
    intro i j h1 h2 h3 h4
    simp only [selA]
    by_cases hj : j = i
    · subst hj; rw [if_pos ⟨h3, h4⟩]
    · rw [if_neg]
      · exact ih (i + 1) j (by omega) (by omega) h3 h4
      · rintro ⟨h5, h6⟩
        have h7 := rk_mono l b (i := i + 1) (j := j) (by omega)
        simp only [rk, if_pos h5] at h7
        omega
theorem selA_no (l : List Bool) (b : Bool) (k : Int) : ∀ m i, (∀ j, i ≤ j → j < i + m → ¬ (bt l j = b ∧ (rk l b j : Int) = k)) → selA l b k m i = -1 := by
  intro m
  induction m with
  | zero => intro i _; rfl
  | succ m ih =>
    intro i h
    simp only [selA]
    rw [if_neg (h i (Nat.le_refl _) (by omega))]
    exact ih (i + 1) fun j h1 h2 => h j (by omega) (by omega)
theorem sel_at {l : List Bool} {b : Bool} {k : Int} {j : Nat} (h1 : j < l.length) (h2 : bt l j = b) (h3 : (rk l b j : Int) = k) : sel l b k = (j : Int) := selA_at l b k _ 0 j (Nat.zero_le _) (by omega) h2 h3
theorem sel_no {l : List Bool} {b : Bool} {k : Int} (h : ∀ j, j < l.length → ¬ (bt l j = b ∧ (rk l b j : Int) = k)) : sel l b k = -1 := selA_no l b k _ 0 fun j _ h2 => h j (by omega)
theorem sel_cases (l : List Bool) (b : Bool) (k : Int) : sel l b k = -1 ∨ ∃ j : Nat, sel l b k = (j : Int) ∧ j < l.length ∧ bt l j = b ∧ (rk l b j : Int) = k := by
  by_cases h : ∃ j : Nat, j < l.length ∧ bt l j = b ∧ (rk l b j : Int) = k
  · obtain ⟨j, h1, h2, h3⟩ := h
    exact .inr ⟨j, sel_at h1 h2 h3, h1, h2, h3⟩
  · exact .inl (sel_no fun j h1 h2 => h ⟨j, h1, h2.1, h2.2⟩)
/-- What a search finds: the least place up to which there are more than k. -/
theorem sel_found {l : List Bool} {b : Bool} {k : Int} {i : Nat} (hk : 0 ≤ k) (hi : i < l.length) (hlo : ∀ t, t < i → (rk l b (t + 1) : Int) ≤ k) (hhi : k < (rk l b (i + 1) : Int)) : sel l b k = (i : Int) := by
  have h0 : (rk l b i : Int) ≤ k := by
    cases i with
    | zero => simpa [rk] using hk
    | succ i => exact hlo i (by omega)
  have hb : bt l i = b := by
    by_cases h : bt l i = b
    · exact h
    · simp only [rk, if_neg h] at hhi; omega
  refine sel_at hi hb ?_
  simp only [rk, if_pos hb] at hhi
  omega
theorem sel_neg {l : List Bool} {b : Bool} {k : Int} (hk : k < 0) : sel l b k = -1 := sel_no fun j _ h => by have := h.2; omega
theorem sel_end {l : List Bool} {b : Bool} {k : Int} (hlo : ∀ t, t < l.length → (rk l b (t + 1) : Int) ≤ k) : sel l b k = -1 := sel_no fun j hj h => by
  have h1 := hlo j hj
  simp only [rk, if_pos h.1] at h1
  have := h.2
  omega
end Go.Proofs.Ytffljcfpofhkgaa.Bv
