/-
  Plain facts: the reference's way to read a code, byte by byte, is the model's.
-/
import Derived.Test.YtmbccolkgephgaaUtfMath
set_option linter.unusedVariables false
set_option linter.unusedSimpArgs false
namespace Go.Proofs.Ytmbccolkgephgaa.Utf
open Go

/-- How many bytes a code has by its first byte, and the bits of the character in it. -/
def lead (b : Nat) : Nat × Nat := if b < 128 then (1, b) else if 192 ≤ b ∧ b < 224 then (2, b - 192) else if 224 ≤ b ∧ b < 240 then (3, b - 224) else if 240 ≤ b ∧ b < 248 then (4, b - 240) else (0, 0)

/-- The bits of the first bytes. -/
def acc (l : List UInt8) (c0 : Nat) : Nat → Nat
  | 0 => c0
  | k + 1 => 64 * acc l c0 k + (bt l (k + 1) - 128)
def isCont (l : List UInt8) (k : Nat) : Prop := k < l.length ∧ 128 ≤ bt l k ∧ bt l k ≤ 191
def least (n : Nat) : Nat := if n ≤ 1 then 0 else if n = 2 then 128 else if n = 3 then 2048 else 65536

theorem lead_cases (b n c0 : Nat) (h : lead b = (n, c0)) : (n = 1 ∧ b < 128 ∧ c0 = b) ∨ (n = 2 ∧ 192 ≤ b ∧ b < 224 ∧ c0 = b - 192) ∨ (n = 3 ∧ 224 ≤ b ∧ b < 240 ∧ c0 = b - 224) ∨ (n = 4 ∧ 240 ≤ b ∧ b < 248 ∧ c0 = b - 240) ∨ (n = 0 ∧ c0 = 0 ∧ ((128 ≤ b ∧ b < 192) ∨ 248 ≤ b)) := by
  unfold lead at h
  split at h
  · obtain ⟨h1, h2⟩ := Prod.mk.inj h; left; omega
  · split at h
    · obtain ⟨h1, h2⟩ := Prod.mk.inj h; right; left; omega
    · split at h
      · obtain ⟨h1, h2⟩ := Prod.mk.inj h; right; right; left; omega
      · split at h
        · obtain ⟨h1, h2⟩ := Prod.mk.inj h; right; right; right; left; omega
        · obtain ⟨h1, h2⟩ := Prod.mk.inj h; right; right; right; right; omega

theorem acc_lt (l : List UInt8) (n c0 : Nat) (h : lead (bt l 0) = (n, c0)) (i : Nat) (hi : i < n) : acc l c0 i < 4194304 := by
  have s : ∀ k, acc l c0 (k + 1) ≤ 64 * acc l c0 k + 127 := by
    intro k
    have := bt_lt l (k + 1)
    show 64 * acc l c0 k + (bt l (k + 1) - 128) ≤ _
    omega
  have s0 : acc l c0 1 ≤ 64 * acc l c0 0 + 127 := s 0
  have s1 : acc l c0 2 ≤ 64 * acc l c0 1 + 127 := s 1
  have s2 : acc l c0 3 ≤ 64 * acc l c0 2 + 127 := s 2
  have a0 : acc l c0 0 = c0 := rfl
  obtain rfl | rfl | rfl | rfl | h4 : i = 0 ∨ i = 1 ∨ i = 2 ∨ i = 3 ∨ 4 ≤ i := by omega
  all_goals
    rcases lead_cases _ _ _ h with ⟨rfl, _, _⟩ | ⟨rfl, _, _, _⟩ | ⟨rfl, _, _, _⟩ | ⟨rfl, _, _, _⟩ | ⟨rfl, _, _⟩ <;> omega

theorem dec1_none_of {l : List UInt8} (h : l = [] ∨ decL l = (65533, 1)) : dec1 l = none := by
  unfold dec1
  rcases h with h | h
  · rw [if_pos h]
  · by_cases hl : l = []
    · rw [if_pos hl]
    · rw [if_neg hl, if_pos h]

theorem cont_iff (l : List UInt8) (k : Nat) : (decide (k < l.length) && bt l k / 64 == 2) = true ↔ isCont l k := by
  have := bt_lt l k
  unfold isCont
  simp only [Bool.and_eq_true, decide_eq_true_eq, beq_iff_eq]
  omega

/-- No code begins with such a byte. -/
theorem dec1_lead0 {l : List UInt8} {c0 : Nat} (h : lead (bt l 0) = (0, c0)) : dec1 l = none := by
  apply dec1_none_of
  right
  have q0 := bt_lt l 0
  rcases lead_cases _ _ _ h with ⟨h0, _⟩ | ⟨h0, _⟩ | ⟨h0, _⟩ | ⟨h0, _⟩ | ⟨_, _, h1⟩ <;> first | omega | skip
  simp only [decL]
  rw [if_neg (by omega), if_neg (by simp; omega), if_neg (by simp; omega), if_neg (by simp; omega)]

/-- A byte that should follow is not there, or is none that follows. -/
theorem dec1_nocont {l : List UInt8} {n c0 i : Nat} (h : lead (bt l 0) = (n, c0)) (h1 : 1 ≤ i) (hi : i < n) (hc : ¬ isCont l i) : dec1 l = none := by
  apply dec1_none_of
  right
  have q0 := bt_lt l 0
  have hc' : (decide (i < l.length) && bt l i / 64 == 2) = false := by
    rw [Bool.eq_false_iff]; intro e; exact hc ((cont_iff l i).1 e)
  rcases lead_cases _ _ _ h with ⟨rfl, _, _⟩ | ⟨rfl, _, _, _⟩ | ⟨rfl, _, _, _⟩ | ⟨rfl, _, _, _⟩ | ⟨rfl, _, _⟩
  · omega
  · obtain rfl : i = 1 := by omega
    simp only [decL, hc']
    rw [if_neg (by omega), if_neg (by simp), if_neg (by simp), if_neg (by simp)]
  · obtain rfl | rfl : i = 1 ∨ i = 2 := by omega
    all_goals
      simp only [decL, hc']
      rw [if_neg (by omega), if_neg (by simp <;> omega), if_neg (by simp), if_neg (by simp)]
  · obtain rfl | rfl | rfl : i = 1 ∨ i = 2 ∨ i = 3 := by omega
    all_goals
      simp only [decL, hc']
      rw [if_neg (by omega), if_neg (by simp <;> omega), if_neg (by simp <;> omega), if_neg (by simp)]
  · omega

theorem dec1_short {l : List UInt8} {n c0 : Nat} (h : lead (bt l 0) = (n, c0)) (hl : 0 < l.length) (hn : l.length < n) : dec1 l = none :=
  dec1_nocont h (i := l.length) hl hn (fun hc => by have := hc.1; omega)

theorem dec1_conts {l : List UInt8} {n c0 : Nat} (h : lead (bt l 0) = (n, c0)) (hn0 : n ≠ 0) (hn : n ≤ l.length) (hc : ∀ i, 1 ≤ i → i < n → isCont l i) :
    dec1 l = if acc l c0 (n - 1) < least n ∨ validRune ((acc l c0 (n - 1) : Nat) : Int) = false then none else some (((acc l c0 (n - 1) : Nat) : Int), n) := by
  have q0 := bt_lt l 0
  have hne : l ≠ [] := by intro e; subst e; simp at hn; omega
  rcases lead_cases _ _ _ h with ⟨rfl, h1, e0⟩ | ⟨rfl, h1, h2, e0⟩ | ⟨rfl, h1, h2, e0⟩ | ⟨rfl, h1, h2, e0⟩ | ⟨rfl, _, _⟩
  · have hv : validRune ((bt l 0 : Nat) : Int) = true := (valid_iff _).2 (by omega)
    have hd : decL l = (bt l 0, 1) := by simp only [decL]; rw [if_pos (by omega)]
    have ha : acc l c0 (1 - 1) = bt l 0 := e0
    rw [ha, if_neg (by simp [least, hv])]
    unfold dec1
    rw [if_neg hne, hd, if_neg (by intro e; have := (Prod.mk.inj e).1; omega)]
  · have c1 := hc 1 (by omega) (by omega)
    have d1 := (cont_iff l 1).2 c1
    have g1 := c1.2
    have ha : acc l c0 (2 - 1) = bt l 0 % 32 * 64 + bt l 1 % 64 := by show 64 * c0 + (bt l 1 - 128) = _; omega
    rw [ha]
    have hv : validRune ((bt l 0 % 32 * 64 + bt l 1 % 64 : Nat) : Int) = true := (valid_iff _).2 (by omega)
    obtain ⟨c, hcc⟩ : ∃ c, bt l 0 % 32 * 64 + bt l 1 % 64 = c := ⟨_, rfl⟩
    have hd : decL l = if 128 ≤ c then (c, 2) else (65533, 1) := by
      simp only [decL]
      rw [if_neg (by omega), if_pos (by rw [d1]; simp; omega), hcc]
    rw [hcc] at hv ⊢
    unfold dec1
    rw [if_neg hne, hd]
    by_cases hk : 128 ≤ c
    · rw [if_pos hk, if_neg (by intro e; have := (Prod.mk.inj e).2; omega), if_neg (by simp [least, hv]; omega)]
    · rw [if_neg hk, if_pos rfl, if_pos (by simp [least]; omega)]
  · have c1 := hc 1 (by omega) (by omega)
    have c2 := hc 2 (by omega) (by omega)
    have d1 := (cont_iff l 1).2 c1
    have d2 := (cont_iff l 2).2 c2
    have g1 := c1.2
    have g2 := c2.2
    have ha : acc l c0 (3 - 1) = bt l 0 % 16 * 4096 + bt l 1 % 64 * 64 + bt l 2 % 64 := by show 64 * (64 * c0 + (bt l 1 - 128)) + (bt l 2 - 128) = _; omega
    rw [ha]
    obtain ⟨c, hcc⟩ : ∃ c, bt l 0 % 16 * 4096 + bt l 1 % 64 * 64 + bt l 2 % 64 = c := ⟨_, rfl⟩
    have hd : decL l = if 2048 ≤ c ∧ validRune (c : Int) = true then (c, 3) else (65533, 1) := by
      simp only [decL]
      rw [if_neg (by omega), if_neg (by simp; omega), if_pos (by rw [d1, d2]; simp; omega), hcc, validRune_eq]
      simp only [Bool.and_eq_true, decide_eq_true_eq, ge_iff_le]
    rw [hcc]
    unfold dec1
    rw [if_neg hne, hd]
    by_cases hk : 2048 ≤ c ∧ validRune (c : Int) = true
    · rw [if_pos hk, if_neg (by intro e; have := (Prod.mk.inj e).2; omega), if_neg (by simp [least, hk.2]; omega)]
    · rw [if_neg hk, if_pos rfl, if_pos (by
        by_cases hv : validRune (c : Int) = true
        · left; simp [least]; simp [hv] at hk; omega
        · right; simpa using hv)]
  · have c1 := hc 1 (by omega) (by omega)
    have c2 := hc 2 (by omega) (by omega)
    have c3 := hc 3 (by omega) (by omega)
    have d1 := (cont_iff l 1).2 c1
    have d2 := (cont_iff l 2).2 c2
    have d3 := (cont_iff l 3).2 c3
    have g1 := c1.2
    have g2 := c2.2
    have g3 := c3.2
    have ha : acc l c0 (4 - 1) = bt l 0 % 8 * 262144 + bt l 1 % 64 * 4096 + bt l 2 % 64 * 64 + bt l 3 % 64 := by show 64 * (64 * (64 * c0 + (bt l 1 - 128)) + (bt l 2 - 128)) + (bt l 3 - 128) = _; omega
    rw [ha]
    obtain ⟨c, hcc⟩ : ∃ c, bt l 0 % 8 * 262144 + bt l 1 % 64 * 4096 + bt l 2 % 64 * 64 + bt l 3 % 64 = c := ⟨_, rfl⟩
    have hd : decL l = if 65536 ≤ c ∧ validRune (c : Int) = true then (c, 4) else (65533, 1) := by
      simp only [decL]
      rw [if_neg (by omega), if_neg (by simp; omega), if_neg (by simp; omega), if_pos (by rw [d1, d2, d3]; simp; omega), hcc, validRune_eq]
      simp only [Bool.and_eq_true, decide_eq_true_eq, ge_iff_le]
    rw [hcc]
    unfold dec1
    rw [if_neg hne, hd]
    by_cases hk : 65536 ≤ c ∧ validRune (c : Int) = true
    · rw [if_pos hk, if_neg (by intro e; have := (Prod.mk.inj e).2; omega), if_neg (by simp [least, hk.2]; omega)]
    · rw [if_neg hk, if_pos rfl, if_pos (by
        by_cases hv : validRune (c : Int) = true
        · left; simp [least]; simp [hv] at hk; omega
        · right; simpa using hv)]
  · omega

end Go.Proofs.Ytmbccolkgephgaa.Utf
