/-
  Numbers in few bits as mathematics: widths, a sequence as one great number, its words and its bytes. Of no program.
-/
import Derived.Test.YtffljcfpofhkgaaBvMath
set_option linter.unusedVariables false
set_option linter.unusedSimpArgs false
namespace Go.Proofs.Ytffljcfpofhkgaa.Pk
open Go.Proofs.Ytffljcfpofhkgaa.Bv (dg dg_lt)

/-- How many bits a number has. -/
def blen (n : Nat) : Nat := if n = 0 then 0 else n.log2 + 1
theorem blen_le (n w : Nat) : blen n ≤ w ↔ n < 2 ^ w := by
  unfold blen
  split
  · rename_i h; subst h; simp [Nat.two_pow_pos]
  · rename_i h; rw [← Nat.log2_lt h]; omega
theorem lt_blen (n : Nat) : n < 2 ^ blen n := (blen_le n _).1 (Nat.le_refl _)
/-- All numbers of a list together. -/
def ors (l : List Nat) : Nat := l.foldl (· ||| ·) 0
theorem ors_take {l : List Nat} {k x : Nat} (h : l[k]? = some x) : ors (l.take (k + 1)) = ors (l.take k) ||| x := by
  unfold ors; rw [List.take_add_one, h, List.foldl_append]; rfl
theorem or_lt (a b w : Nat) : a ||| b < 2 ^ w ↔ a < 2 ^ w ∧ b < 2 ^ w := by
  constructor
  · intro h; exact ⟨Nat.lt_of_le_of_lt Nat.left_le_or h, Nat.lt_of_le_of_lt Nat.right_le_or h⟩
  · intro h; exact Nat.or_lt_two_pow h.1 h.2
theorem foldl_or_lt (w : Nat) : ∀ (l : List Nat) (a : Nat), l.foldl (· ||| ·) a < 2 ^ w ↔ a < 2 ^ w ∧ ∀ n ∈ l, n < 2 ^ w := by
  intro l
  induction l with
  | nil => intro a; simp
  | cons x r ih =>
    intro a
    rw [List.foldl_cons, ih, or_lt]
    simp only [List.mem_cons, forall_eq_or_imp, and_assoc]
theorem ors_lt (w : Nat) (l : List Nat) : ors l < 2 ^ w ↔ ∀ n ∈ l, n < 2 ^ w := by
  unfold ors; rw [foldl_or_lt]; simp [Nat.two_pow_pos]
/-- The width of a sequence. -/
def wid (l : List Nat) : Nat := blen (ors l)
theorem wid_le (l : List Nat) (w : Nat) : wid l ≤ w ↔ ∀ n ∈ l, n < 2 ^ w := by unfold wid; rw [blen_le, ors_lt]
theorem wid_lt {l : List Nat} {n : Nat} (h : n ∈ l) : n < 2 ^ wid l := (wid_le l _).1 (Nat.le_refl _) n h
theorem wid_64 {l : List Nat} (h : ∀ n ∈ l, n < 18446744073709551616) : wid l ≤ 64 := (wid_le l 64).2 h
theorem wid_nil : wid [] = 0 := rfl
theorem wid_take {l : List Nat} {k x : Nat} (h : l[k]? = some x) : wid (l.take (k + 1)) = max (wid (l.take k)) (blen x) := by
  apply Nat.le_antisymm
  · rw [wid_le]
    intro n hn
    rw [List.take_add_one, h, List.mem_append] at hn
    rcases hn with hn | hn
    · exact Nat.lt_of_lt_of_le (wid_lt hn) (Nat.pow_le_pow_right (by decide) (Nat.le_max_left _ _))
    · simp at hn; subst hn; exact Nat.lt_of_lt_of_le (lt_blen n) (Nat.pow_le_pow_right (by decide) (Nat.le_max_right _ _))
  · apply Nat.max_le.2
    constructor
    · rw [wid_le]
      intro n hn
      exact wid_lt (by rw [List.take_add_one]; exact List.mem_append_left _ hn)
    · rw [blen_le]
      exact wid_lt (by rw [List.take_add_one, h]; simp)

/-! ### a sequence as one number -/
theorem dg_snoc (s : Nat) (l : List Nat) (n : Nat) : dg s (l ++ [n]) = dg s l + 2 ^ (s * l.length) * n := by
  induction l with
  | nil => simp [dg]
  | cons d r ih =>
    simp only [List.cons_append, dg, ih, List.length_cons]
    rw [show s * (r.length + 1) = s + s * r.length by rw [Nat.mul_succ]; omega, Nat.pow_add, Nat.mul_add, Nat.mul_assoc, Nat.add_assoc]
theorem dg_take {l : List Nat} {k x : Nat} (s : Nat) (h : l[k]? = some x) : dg s (l.take (k + 1)) = dg s (l.take k) + 2 ^ (k * s) * x := by
  have hk := (List.getElem?_eq_some_iff.1 h).1
  rw [List.take_add_one, h]
  show dg s (l.take k ++ [x]) = _
  rw [dg_snoc, List.length_take, Nat.min_eq_left (by omega), Nat.mul_comm s k]
theorem dg_take_lt {l : List Nat} {s : Nat} (h : ∀ n ∈ l, n < 2 ^ s) (k : Nat) (hk : k ≤ l.length) : dg s (l.take k) < 2 ^ (k * s) := by
  have := dg_lt s (l.take k) (fun d hd => h d (List.mem_of_mem_take hd))
  rwa [List.length_take, Nat.min_eq_left hk, Nat.mul_comm] at this
theorem dg_get (s : Nat) : ∀ (l : List Nat), (∀ n ∈ l, n < 2 ^ s) → ∀ i x, l[i]? = some x → dg s l / 2 ^ (i * s) % 2 ^ s = x := by
  intro l
  induction l with
  | nil => intro _ i x h; simp at h
  | cons d r ih =>
    intro hl i x h
    have hd := hl d (List.mem_cons_self ..)
    cases i with
    | zero =>
      simp at h; subst h
      simp only [dg, Nat.zero_mul, Nat.pow_zero, Nat.div_one]
      rw [Nat.add_mul_mod_self_left, Nat.mod_eq_of_lt hd]
    | succ i =>
      have h2 := ih (fun n hn => hl n (List.mem_cons_of_mem _ hn)) i x (by simpa using h)
      simp only [dg]
      rw [show (i + 1) * s = s + i * s by rw [Nat.succ_mul]; omega, Nat.pow_add, ← Nat.div_div_eq_div_mul]
      rw [Nat.add_mul_div_left _ _ (Nat.two_pow_pos s), Nat.div_eq_of_lt hd, Nat.zero_add]
      exact h2
/-- Word j of a number. -/
def wd (S j : Nat) : Nat := S / 2 ^ (64 * j) % 18446744073709551616
theorem wd_lt (S j : Nat) : wd S j < 18446744073709551616 := Nat.mod_lt _ (by decide)
theorem p64 : (18446744073709551616 : Nat) = 2 ^ 64 := rfl
theorem wd_bit (S j t : Nat) : (wd S j).testBit t = (decide (t < 64) && S.testBit (64 * j + t)) := by
  unfold wd
  rw [p64, Nat.testBit_mod_two_pow, Nat.testBit_div_two_pow, Nat.add_comm]
theorem wd_zero (j : Nat) : wd 0 j = 0 := by unfold wd; simp
theorem add_bit {S p : Nat} (h : S < 2 ^ p) (n i : Nat) : (S + 2 ^ p * n).testBit i = if i < p then S.testBit i else n.testBit (i - p) := by
  rw [Nat.add_comm, Nat.testBit_two_pow_mul_add _ h]
theorem high_bit {S p : Nat} (h : S < 2 ^ p) {i : Nat} (hi : p ≤ i) : S.testBit i = false :=
  Nat.testBit_lt_two_pow (Nat.lt_of_lt_of_le h (Nat.pow_le_pow_right (by decide) hi))
/-- A number more: what it does to the word in which it begins. -/
theorem wd_add_at {S p n q r : Nat} (h : S < 2 ^ p) (hq : p / 64 = q) (hr : p % 64 = r) : wd (S + 2 ^ p * n) q = wd S q ||| (n * 2 ^ r % 18446744073709551616) := by
  apply Nat.eq_of_testBit_eq
  intro t
  rw [Nat.testBit_or, wd_bit, wd_bit, add_bit h, p64, Nat.testBit_mod_two_pow, Nat.testBit_mul_two_pow]
  by_cases ht : t < 64
  · by_cases hp : 64 * q + t < p
    · have : ¬ t ≥ r := by omega
      simp [ht, hp, this]
    · have h1 : t ≥ r := by omega
      have h2 : 64 * q + t - p = t - r := by omega
      have h3 := high_bit h (i := 64 * q + t) (by omega)
      simp [ht, hp, h1, h2, h3]
  · simp [ht]
theorem wd_add_next {S p n q r : Nat} (h : S < 2 ^ p) (hq : p / 64 = q) (hr : p % 64 = r) (hn : n < 18446744073709551616) : wd (S + 2 ^ p * n) (q + 1) = wd S (q + 1) ||| (n / 2 ^ (64 - r)) := by
  apply Nat.eq_of_testBit_eq
  intro t
  rw [Nat.testBit_or, wd_bit, wd_bit, add_bit h, Nat.testBit_div_two_pow]
  have hp : ¬ 64 * (q + 1) + t < p := by omega
  have h2 : 64 * (q + 1) + t - p = t + (64 - r) := by omega
  have h3 := high_bit h (i := 64 * (q + 1) + t) (by omega)
  rw [if_neg hp, h2, h3]
  by_cases ht : t < 64
  · simp [ht]
  · have h4 : n.testBit (t + (64 - r)) = false := high_bit (p := 64) hn (by omega)
    simp [ht, h4]
theorem wd_add_else {S p n q r j : Nat} (h : S < 2 ^ p) (hq : p / 64 = q) (hr : p % 64 = r) (hn : n < 18446744073709551616) (h1 : j ≠ q) (h2 : j ≠ q + 1) : wd (S + 2 ^ p * n) j = wd S j := by
  apply Nat.eq_of_testBit_eq
  intro t
  rw [wd_bit, wd_bit, add_bit h]
  by_cases ht : t < 64
  · by_cases hp : 64 * j + t < p
    · simp [hp]
    · have h3 := high_bit h (i := 64 * j + t) (by omega)
      have h4 : n.testBit (64 * j + t - p) = false := high_bit (p := 64) hn (by omega)
      simp [hp, h3, h4]
  · simp [ht]
/-- Two words joined: 64 bits from bit p on. -/
theorem wd_join {S p q r : Nat} (hq : p / 64 = q) (hr : p % 64 = r) : (wd S q / 2 ^ r) ||| (wd S (q + 1) * 2 ^ (64 - r) % 18446744073709551616) = S / 2 ^ p % 18446744073709551616 := by
  apply Nat.eq_of_testBit_eq
  intro t
  rw [Nat.testBit_or, p64, Nat.testBit_mod_two_pow, Nat.testBit_mod_two_pow, Nat.testBit_div_two_pow, Nat.testBit_div_two_pow, Nat.testBit_mul_two_pow, wd_bit, wd_bit]
  by_cases ht : t < 64
  · by_cases h1 : t + r < 64
    · have e : 64 * q + (t + r) = t + p := by omega
      have h2 : ¬ t ≥ 64 - r := by omega
      simp [ht, h1, e, h2]
    · have e : 64 * (q + 1) + (t - (64 - r)) = t + p := by omega
      have h2 : t ≥ 64 - r := by omega
      have h3 : t - (64 - r) < 64 := by omega
      simp [ht, h1, e, h2, h3]
  · have h1 : ¬ t + r < 64 := by omega
    simp [ht, h1]
/-- Byte i of a number. -/
def byt (S i : Nat) : Nat := S / 2 ^ (8 * i) % 256
theorem byt_lt (S i : Nat) : byt S i < 256 := Nat.mod_lt _ (by decide)
theorem p8 : (256 : Nat) = 2 ^ 8 := rfl
theorem byt_bit (S i t : Nat) : (byt S i).testBit t = (decide (t < 8) && S.testBit (8 * i + t)) := by
  unfold byt
  rw [p8, Nat.testBit_mod_two_pow, Nat.testBit_div_two_pow, Nat.add_comm]
theorem wd_byt (S i : Nat) : wd S (i / 8) / 2 ^ (i % 8 * 8) % 256 = byt S i := by
  apply Nat.eq_of_testBit_eq
  intro t
  rw [byt_bit, p8, Nat.testBit_mod_two_pow, Nat.testBit_div_two_pow, wd_bit]
  by_cases ht : t < 8
  · have h1 : t + i % 8 * 8 < 64 := by omega
    have e : 64 * (i / 8) + (t + i % 8 * 8) = 8 * i + t := by omega
    simp [ht, h1, e]
  · simp [ht]
/-- The first m bytes of a number. -/
def byts (S m : Nat) : List Nat := (List.range m).map (byt S)
theorem byts_len (S m : Nat) : (byts S m).length = m := by simp [byts]
theorem byts_get {S m i : Nat} (h : i < m) : (byts S m)[i]? = some (byt S i) := by unfold byts; rw [List.getElem?_map, List.getElem?_range h]; rfl
theorem byts_succ (S m : Nat) : byts S (m + 1) = byts S m ++ [byt S m] := by simp [byts, List.range_succ]
theorem dg_byts (S m : Nat) : dg 8 (byts S m) = S % 2 ^ (m * 8) := by
  induction m with
  | zero => simp [byts, dg, Nat.mod_one]
  | succ m ih =>
    rw [byts_succ, dg_snoc, ih, byts_len]
    unfold byt
    rw [show (m + 1) * 8 = m * 8 + 8 by omega, Nat.pow_add, Nat.mod_mul, show 8 * m = m * 8 by omega]
theorem mod_succ (x k : Nat) : x % 2 ^ (k + 1) = x % 2 ^ k + 2 ^ k * (x.testBit k).toNat := by
  rw [Nat.pow_succ, Nat.mod_mul, Nat.testBit_eq_decide_div_mod_eq]
  congr 2
  rcases Nat.mod_two_eq_zero_or_one (x / 2 ^ k) with h | h <;> rw [h] <;> rfl
theorem bit_toNat (x k : Nat) : x / 2 ^ k % 2 = (x.testBit k).toNat := by
  rw [Nat.testBit_eq_decide_div_mod_eq]
  rcases Nat.mod_two_eq_zero_or_one (x / 2 ^ k) with h | h <;> rw [h] <;> rfl
end Go.Proofs.Ytffljcfpofhkgaa.Pk
