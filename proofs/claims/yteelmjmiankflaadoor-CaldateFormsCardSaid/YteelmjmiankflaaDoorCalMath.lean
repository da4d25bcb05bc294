/-
  The Gregorian calendar in numbers, of no program: days through a year, months, which day a date is, and that dates are unique.
-/
set_option linter.unusedVariables false
set_option linter.unusedSimpArgs false
namespace Go.Proofs.YteelmjmiankflaaDoor.Cal

/-- The days of the years from 1 to y. -/
def DT (y : Int) : Int := 365 * y + y / 4 - y / 100 + y / 400
/-- 1 in a leap year, else 0. -/
def lp (y : Int) : Int := if y % 4 = 0 ∧ (¬ y % 100 = 0 ∨ y % 400 = 0) then 1 else 0
/-- The lengths of months in a year that is no leap year; the days of the months before. -/
def mlen (m : Int) : Int := if m = 2 then 28 else if m = 4 ∨ m = 6 ∨ m = 9 ∨ m = 11 then 30 else 31
def mbef (m : Int) : Int := if m ≤ 1 then 0 else if m = 2 then 31 else if m = 3 then 59 else if m = 4 then 90 else if m = 5 then 120 else if m = 6 then 151 else if m = 7 then 181 else if m = 8 then 212 else if m = 9 then 243 else if m = 10 then 273 else if m = 11 then 304 else if m = 12 then 334 else 365
def len (y m : Int) : Int := mlen m + if m = 2 then lp y else 0
def bef (y m : Int) : Int := mbef m + if 2 < m then lp y else 0
def num (y m d : Int) : Int := DT (y - 1) + bef y m + d
def Valid (y m d : Int) : Prop := 1 ≤ y ∧ y ≤ 9999 ∧ 1 ≤ m ∧ m ≤ 12 ∧ 1 ≤ d ∧ d ≤ len y m
def IsDate (day y m d : Int) : Prop := Valid y m d ∧ day = num y m d

instance (y m d : Int) : Decidable (Valid y m d) := by unfold Valid; infer_instance
instance (day y m d : Int) : Decidable (IsDate day y m d) := by unfold IsDate; infer_instance

theorem lp_01 (y : Int) : 0 ≤ lp y ∧ lp y ≤ 1 := by unfold lp; split <;> omega
theorem DT_step (y : Int) : DT y = DT (y - 1) + 365 + lp y := by
  have a : y / 4 = (y - 1) / 4 + if y % 4 = 0 then 1 else 0 := by split <;> omega
  have b : y / 100 = (y - 1) / 100 + if y % 100 = 0 then 1 else 0 := by split <;> omega
  have c : y / 400 = (y - 1) / 400 + if y % 400 = 0 then 1 else 0 := by split <;> omega
  have e : (if y % 4 = 0 then (1 : Int) else 0) - (if y % 100 = 0 then 1 else 0) + (if y % 400 = 0 then 1 else 0) = lp y := by
    unfold lp
    by_cases h4 : y % 4 = 0
    · by_cases h100 : y % 100 = 0
      · by_cases h400 : y % 400 = 0
        · simp [h4, h100, h400]
        · simp [h4, h100, h400]
      · have h400 : ¬ y % 400 = 0 := by omega
        simp [h4, h100, h400]
    · have h100 : ¬ y % 100 = 0 := by omega
      have h400 : ¬ y % 400 = 0 := by omega
      simp [h4, h100, h400]
  unfold DT
  rw [a, b, c, ← e]
  omega
theorem DT_mono {y z : Int} (h : y ≤ z) : DT y ≤ DT z := by unfold DT; omega
theorem DT_zero : DT 0 = 0 := by decide
theorem DT_last : DT 9999 = 3652059 := by decide
theorem DT_bounds {y : Int} (h0 : 0 ≤ y) (h : y ≤ 9999) : 0 ≤ DT y ∧ DT y ≤ 3652059 := ⟨by rw [← DT_zero]; exact DT_mono h0, by rw [← DT_last]; exact DT_mono h⟩

theorem months {m : Int} (h1 : 1 ≤ m) (h : m ≤ 12) : m = 1 ∨ m = 2 ∨ m = 3 ∨ m = 4 ∨ m = 5 ∨ m = 6 ∨ m = 7 ∨ m = 8 ∨ m = 9 ∨ m = 10 ∨ m = 11 ∨ m = 12 := by omega
theorem mlen_bounds {m : Int} : 28 ≤ mlen m ∧ mlen m ≤ 31 := by unfold mlen; split <;> (try split) <;> omega
theorem len_bounds (y m : Int) : 28 ≤ len y m ∧ len y m ≤ 31 := by
  unfold len
  have := lp_01 y
  by_cases h : m = 2
  · subst h; simp [mlen]; omega
  · rw [if_neg h]; have := @mlen_bounds m; omega
theorem bef_one (y : Int) : bef y 1 = 0 := by simp [bef, mbef]
theorem bef_step (y : Int) {m : Int} (h1 : 1 ≤ m) (h : m ≤ 12) : bef y (m + 1) = bef y m + len y m := by
  unfold bef len
  rcases months h1 h with rfl | rfl | rfl | rfl | rfl | rfl | rfl | rfl | rfl | rfl | rfl | rfl <;> simp [mbef, mlen] <;> omega
theorem bef_end (y : Int) : bef y 13 = 365 + lp y := by simp [bef, mbef]
theorem bef_mono (y : Int) {a b : Int} (h1 : 1 ≤ a) (hab : a ≤ b) (h : b ≤ 13) : bef y a ≤ bef y b := by
  obtain ⟨n, rfl⟩ : ∃ n : Nat, b = a + n := ⟨(b - a).toNat, by omega⟩
  induction n with
  | zero => simp
  | succ n ih =>
    have := ih (by omega) (by omega)
    have e := bef_step y (m := a + n) (by omega) (by omega)
    have := len_bounds y (a + n)
    rw [show a + ((n + 1 : Nat) : Int) = a + n + 1 by omega]
    omega
theorem bef_bounds (y : Int) {m : Int} (h1 : 1 ≤ m) (h : m ≤ 13) : 0 ≤ bef y m ∧ bef y m ≤ 365 + lp y := ⟨by rw [← bef_one y]; exact bef_mono y (Int.le_refl 1) h1 h, by rw [← bef_end y]; exact bef_mono y h1 h (Int.le_refl 13)⟩

theorem Valid.in_month {y m d : Int} (h : Valid y m d) : DT (y - 1) + bef y m < num y m d ∧ num y m d ≤ DT (y - 1) + bef y (m + 1) := by
  obtain ⟨h1, h2, h3, h4, h5, h6⟩ := h
  rw [bef_step y h3 h4]
  unfold num; omega
theorem Valid.in_year {y m d : Int} (h : Valid y m d) : DT (y - 1) < num y m d ∧ num y m d ≤ DT y := by
  have := h.in_month
  obtain ⟨h1, h2, h3, h4, h5, h6⟩ := h
  have := bef_bounds y h3 (by omega : m ≤ 13)
  have := bef_bounds y (m := m + 1) (by omega) (by omega)
  rw [DT_step y]
  omega
theorem Valid.range {y m d : Int} (h : Valid y m d) : 1 ≤ num y m d ∧ num y m d ≤ 3652059 := by
  have h0 := h.in_year
  have := DT_bounds (y := y - 1) (by have := h.1; omega) (by have := h.2.1; omega)
  have := DT_bounds (y := y) (by have := h.1; omega) h.2.1
  omega
theorem IsDate.range {day y m d : Int} (h : IsDate day y m d) : 1 ≤ day ∧ day ≤ 3652059 := by rw [h.2]; exact h.1.range

theorem year_unique {day y z : Int} (h1 : DT (y - 1) < day) (h2 : day ≤ DT y) (h3 : DT (z - 1) < day) (h4 : day ≤ DT z) : y = z := by
  rcases Int.lt_trichotomy y z with h | h | h
  · have := DT_mono (show y ≤ z - 1 by omega); omega
  · exact h
  · have := DT_mono (show z ≤ y - 1 by omega); omega
theorem month_unique {k y m n : Int} (hm : 1 ≤ m) (hm2 : m ≤ 12) (hn : 1 ≤ n) (hn2 : n ≤ 12) (h1 : bef y m < k) (h2 : k ≤ bef y (m + 1)) (h3 : bef y n < k) (h4 : k ≤ bef y (n + 1)) : m = n := by
  rcases Int.lt_trichotomy m n with h | h | h
  · have := bef_mono y (a := m + 1) (b := n) (by omega) (by omega) (by omega); omega
  · exact h
  · have := bef_mono y (a := n + 1) (b := m) (by omega) (by omega) (by omega); omega
theorem IsDate.unique {day y m d y' m' d' : Int} (h : IsDate day y m d) (h' : IsDate day y' m' d') : y = y' ∧ m = m' ∧ d = d' := by
  obtain ⟨hv, e⟩ := h
  obtain ⟨hv', e'⟩ := h'
  have a := hv.in_year
  have b := hv'.in_year
  rw [← e] at a
  rw [← e'] at b
  obtain rfl := year_unique a.1 a.2 b.1 b.2
  have c := hv.in_month
  have f := hv'.in_month
  rw [← e] at c
  rw [← e'] at f
  obtain rfl := month_unique (k := day - DT (y - 1)) (y := y) hv.2.2.1 hv.2.2.2.1 hv'.2.2.1 hv'.2.2.2.1 (by omega) (by omega) (by omega) (by omega)
  refine ⟨rfl, rfl, ?_⟩
  unfold num at e e'
  omega

/-- A year and the days in it. -/
theorem year_exists : ∀ (n : Nat) (day : Int), 1 ≤ day → day ≤ DT n → ∃ y : Int, 1 ≤ y ∧ y ≤ n ∧ DT (y - 1) < day ∧ day ≤ DT y
  | 0, day, h1, h2 => by have : DT ((0 : Nat) : Int) = 0 := DT_zero; omega
  | n + 1, day, h1, h2 => by
    by_cases h : day ≤ DT n
    · obtain ⟨y, a, b, c, d⟩ := year_exists n day h1 h
      exact ⟨y, a, by omega, c, d⟩
    · refine ⟨((n + 1 : Nat) : Int), by omega, by omega, ?_, h2⟩
      rw [show (((n + 1 : Nat) : Int) - 1) = (n : Int) by omega]; omega
theorem month_exists (y : Int) : ∀ (n : Nat) (k : Int), n ≤ 12 → 1 ≤ k → k ≤ bef y (n + 1) → ∃ m : Int, 1 ≤ m ∧ m ≤ n ∧ bef y m < k ∧ k ≤ bef y (m + 1)
  | 0, k, _, h1, h2 => by have : bef y ((0 : Nat) + 1 : Int) = 0 := bef_one y; omega
  | n + 1, k, hn, h1, h2 => by
    by_cases h : k ≤ bef y (n + 1)
    · obtain ⟨m, a, b, c, d⟩ := month_exists y n k (by omega) h1 h
      exact ⟨m, a, by omega, c, d⟩
    · exact ⟨(n : Int) + 1, by omega, by omega, by omega, by rw [show (n : Int) + 1 + 1 = ((n + 1 : Nat) : Int) + 1 by omega]; exact h2⟩
theorem date_of {day y m : Int} (h1 : 1 ≤ y) (h2 : y ≤ 9999) (h3 : 1 ≤ m) (h4 : m ≤ 12) (h5 : DT (y - 1) + bef y m < day) (h6 : day ≤ DT (y - 1) + bef y (m + 1)) : IsDate day y m (day - DT (y - 1) - bef y m) := by
  rw [bef_step y h3 h4] at h6
  refine ⟨⟨h1, h2, h3, h4, by omega, by omega⟩, ?_⟩
  unfold num; omega
theorem exists_date {day : Int} (h1 : 1 ≤ day) (h2 : day ≤ 3652059) : ∃ y m d, IsDate day y m d := by
  obtain ⟨y, a, b, c, d⟩ := year_exists 9999 day h1 (by have : DT ((9999 : Nat) : Int) = 3652059 := DT_last; omega)
  obtain ⟨m, e, f, g, i⟩ := month_exists y 12 (day - DT (y - 1)) (Nat.le_refl _) (by omega) (by
    have := bef_end y
    rw [show (((12 : Nat) : Int) + 1) = 13 from rfl, this]
    rw [DT_step y] at d; omega)
  exact ⟨y, m, _, date_of a (by omega) e (by omega) (by omega) (by omega)⟩

/-- The next day. -/
theorem next_day {day y m d : Int} (h : IsDate day y m d) (hl : day < 3652059) :
    (d < len y m ∧ IsDate (day + 1) y m (d + 1)) ∨ (d = len y m ∧ m < 12 ∧ IsDate (day + 1) y (m + 1) 1) ∨ (d = len y m ∧ m = 12 ∧ IsDate (day + 1) (y + 1) 1 1) := by
  obtain ⟨⟨h1, h2, h3, h4, h5, h6⟩, e⟩ := h
  by_cases hd : d < len y m
  · left
    refine ⟨hd, ⟨h1, h2, h3, h4, by omega, by omega⟩, ?_⟩
    unfold num at e ⊢; omega
  · have hd' : d = len y m := by omega
    by_cases hm : m < 12
    · right; left
      refine ⟨hd', hm, ⟨h1, h2, by omega, by omega, by omega, by have := len_bounds y (m + 1); omega⟩, ?_⟩
      have := bef_step y h3 h4
      unfold num at e ⊢; omega
    · have hm' : m = 12 := by omega
      right; right
      refine ⟨hd', hm', ?_⟩
      subst hm'
      have hb := bef_step y (m := 12) (by omega) (by omega)
      have h13 : bef y (12 + 1) = 365 + lp y := bef_end y
      have hs := DT_step y
      have hy : y < 9999 := by
        by_cases hy : y = 9999
        · exfalso
          subst hy
          have := DT_last
          unfold num at e; omega
        · omega
      refine ⟨⟨by omega, by omega, by omega, by omega, by omega, by have := len_bounds (y + 1) 1; omega⟩, ?_⟩
      have := bef_one (y + 1)
      unfold num at e ⊢
      rw [show y + 1 - 1 = y by omega]; omega

end Go.Proofs.YteelmjmiankflaaDoor.Cal
