/-
  Joined texts: CalMath, UtfMath, NumMath.
-/
import Derived.Laws.Runes
import Derived.Laws.RangeAny
set_option linter.unusedVariables false
set_option linter.unusedSimpArgs false
namespace Go.Proofs.YteelmjmiankflaaGreatDoor.Cal

/-- The days of the years from 1 to y. -/
def DT (y : Int) : Int := 365 * y + y / 4 - y / 100 + y / 400
/-- 1 in a leap year, else 0. -/
def lp (y : Int) : Int := if y % 4 = 0 ∧ (¬ y % 100 = 0 ∨ y % 400 = 0) then 1 else 0
/-- The lengths of months in a year that is no leap year; the days of the months before. -/
def mlen (m : Int) : Int := if m = 2 then 28 else if m = 4 ∨ m = 6 ∨ m = 9 ∨ m = 11 then 30 else 31
def mbef (m : Int) : Int := if m ≤ 1 then 0 else if m = 2 then 31 else if m = 3 then 59 else if m = 4 then 90 else if m = 5 then 120 else if m = 6 then 151 else if m = 7 then 181 else if m = 8 then 212 else if m = 9 then 243 else if m = 10 then 273 else if m = 11 then 304 else if m = 12 then 334 else 365
def len (y m : Int) : Int := mlen m + if m = 2 then lp y else 0
def bef (y m : Int) : Int := mbef m + if 2 < m then lp y else 0
def num (y m d : Int) : Int := DT (y - 1) + bef y m + d
def Valid (y m d : Int) : Prop := 1 ≤ y ∧ y ≤ 9999 ∧ 1 ≤ m ∧ m ≤ 12 ∧ 1 ≤ d ∧ d ≤ len y m
def IsDate (day y m d : Int) : Prop := Valid y m d ∧ day = num y m d

instance (y m d : Int) : Decidable (Valid y m d) := by unfold Valid; infer_instance
instance (day y m d : Int) : Decidable (IsDate day y m d) := by unfold IsDate; infer_instance

theorem lp_01 (y : Int) : 0 ≤ lp y ∧ lp y ≤ 1 := by unfold lp; split <;> omega
theorem DT_step (y : Int) : DT y = DT (y - 1) + 365 + lp y := by
  have a : y / 4 = (y - 1) / 4 + if y % 4 = 0 then 1 else 0 := by split <;> omega
  have b : y / 100 = (y - 1) / 100 + if y % 100 = 0 then 1 else 0 := by split <;> omega
  have c : y / 400 = (y - 1) / 400 + if y % 400 = 0 then 1 else 0 := by split <;> omega
  have e : (if y % 4 = 0 then (1 : Int) else 0) - (if y % 100 = 0 then 1 else 0) + (if y % 400 = 0 then 1 else 0) = lp y := by
    unfold lp
    by_cases h4 : y % 4 = 0
    · by_cases h100 : y % 100 = 0
      · by_cases h400 : y % 400 = 0
        · simp [h4, h100, h400]
        · simp [h4, h100, h400]
      · have h400 : ¬ y % 400 = 0 := by omega
        simp [h4, h100, h400]
    · have h100 : ¬ y % 100 = 0 := by omega
      have h400 : ¬ y % 400 = 0 := by omega
      simp [h4, h100, h400]
  unfold DT
  rw [a, b, c, ← e]
  omega
theorem DT_mono {y z : Int} (h : y ≤ z) : DT y ≤ DT z := by unfold DT; omega
theorem DT_zero : DT 0 = 0 := by decide
theorem DT_last : DT 9999 = 3652059 := by decide
theorem DT_bounds {y : Int} (h0 : 0 ≤ y) (h : y ≤ 9999) : 0 ≤ DT y ∧ DT y ≤ 3652059 := ⟨by rw [← DT_zero]; exact DT_mono h0, by rw [← DT_last]; exact DT_mono h⟩

theorem months {m : Int} (h1 : 1 ≤ m) (h : m ≤ 12) : m = 1 ∨ m = 2 ∨ m = 3 ∨ m = 4 ∨ m = 5 ∨ m = 6 ∨ m = 7 ∨ m = 8 ∨ m = 9 ∨ m = 10 ∨ m = 11 ∨ m = 12 := by omega
theorem mlen_bounds {m : Int} : 28 ≤ mlen m ∧ mlen m ≤ 31 := by unfold mlen; split <;> (try split) <;> omega
theorem len_bounds (y m : Int) : 28 ≤ len y m ∧ len y m ≤ 31 := by
  unfold len
  have := lp_01 y
  by_cases h : m = 2
  · subst h; simp [mlen]; omega
  · rw [if_neg h]; have := @mlen_bounds m; omega
theorem bef_one (y : Int) : bef y 1 = 0 := by simp [bef, mbef]
theorem bef_step (y : Int) {m : Int} (h1 : 1 ≤ m) (h : m ≤ 12) : bef y (m + 1) = bef y m + len y m := by
  unfold bef len
  rcases months h1 h with rfl | rfl | rfl | rfl | rfl | rfl | rfl | rfl | rfl | rfl | rfl | rfl <;> simp [mbef, mlen] <;> omega
theorem bef_end (y : Int) : bef y 13 = 365 + lp y := by simp [bef, mbef]
theorem bef_mono (y : Int) {a b : Int} (h1 : 1 ≤ a) (hab : a ≤ b) (h : b ≤ 13) : bef y a ≤ bef y b := by
  obtain ⟨n, rfl⟩ : ∃ n : Nat, b = a + n := ⟨(b - a).toNat, by omega⟩
  induction n with
  | zero => simp
  | succ n ih =>
    have := ih (by omega) (by omega)
    have e := bef_step y (m := a + n) (by omega) (by omega)
    have := len_bounds y (a + n)
    rw [show a + ((n + 1 : Nat) : Int) = a + n + 1 by omega]
    omega
theorem bef_bounds (y : Int) {m : Int} (h1 : 1 ≤ m) (h : m ≤ 13) : 0 ≤ bef y m ∧ bef y m ≤ 365 + lp y := ⟨by rw [← bef_one y]; exact bef_mono y (Int.le_refl 1) h1 h, by rw [← bef_end y]; exact bef_mono y h1 h (Int.le_refl 13)⟩

theorem Valid.in_month {y m d : Int} (h : Valid y m d) : DT (y - 1) + bef y m < num y m d ∧ num y m d ≤ DT (y - 1) + bef y (m + 1) := by
  obtain ⟨h1, h2, h3, h4, h5, h6⟩ := h
  rw [bef_step y h3 h4]
  unfold num; omega
theorem Valid.in_year {y m d : Int} (h : Valid y m d) : DT (y - 1) < num y m d ∧ num y m d ≤ DT y := by
  have := h.in_month
  obtain ⟨h1, h2, h3, h4, h5, h6⟩ := h
  have := bef_bounds y h3 (by omega : m ≤ 13)
  have := bef_bounds y (m := m + 1) (by omega) (by omega)
  rw [DT_step y]
  omega
theorem Valid.range {y m d : Int} (h : Valid y m d) : 1 ≤ num y m d ∧ num y m d ≤ 3652059 := by
  have h0 := h.in_year
  have := DT_bounds (y := y - 1) (by have := h.1; omega) (by have := h.2.1; omega)
  have := DT_bounds (y := y) (by have := h.1; omega) h.2.1
  omega
theorem IsDate.range {day y m d : Int} (h : IsDate day y m d) : 1 ≤ day ∧ day ≤ 3652059 := by rw [h.2]; exact h.1.range

theorem year_unique {day y z : Int} (h1 : DT (y - 1) < day) (h2 : day ≤ DT y) (h3 : DT (z - 1) < day) (h4 : day ≤ DT z) : y = z := by
  rcases Int.lt_trichotomy y z with h | h | h
  · have := DT_mono (show y ≤ z - 1 by omega); omega
  · exact h
  · have := DT_mono (show z ≤ y - 1 by omega); omega
theorem month_unique {k y m n : Int} (hm : 1 ≤ m) (hm2 : m ≤ 12) (hn : 1 ≤ n) (hn2 : n ≤ 12) (h1 : bef y m < k) (h2 : k ≤ bef y (m + 1)) (h3 : bef y n < k) (h4 : k ≤ bef y (n + 1)) : m = n := by
  rcases Int.lt_trichotomy m n with h | h | h
  · have := bef_mono y (a := m + 1) (b := n) (by omega) (by omega) (by omega); omega
  · exact h
  · have := bef_mono y (a := n + 1) (b := m) (by omega) (by omega) (by omega); omega
theorem IsDate.unique {day y m d y' m' d' : Int} (h : IsDate day y m d) (h' : IsDate day y' m' d') : y = y' ∧ m = m' ∧ d = d' := by
  obtain ⟨hv, e⟩ := h
  obtain ⟨hv', e'⟩ := h'
  have a := hv.in_year
  have b := hv'.in_year
  rw [← e] at a
  rw [← e'] at b
  obtain rfl := year_unique a.1 a.2 b.1 b.2
  have c := hv.in_month
  have f := hv'.in_month
  rw [← e] at c
  rw [← e'] at f
  obtain rfl := month_unique (k := day - DT (y - 1)) (y := y) hv.2.2.1 hv.2.2.2.1 hv'.2.2.1 hv'.2.2.2.1 (by omega) (by omega) (by omega) (by omega)
  refine ⟨rfl, rfl, ?_⟩
  unfold num at e e'
  omega

/-- A year and the days in it. -/
theorem year_exists : ∀ (n : Nat) (day : Int), 1 ≤ day → day ≤ DT n → ∃ y : Int, 1 ≤ y ∧ y ≤ n ∧ DT (y - 1) < day ∧ day ≤ DT y
  | 0, day, h1, h2 => by have : DT ((0 : Nat) : Int) = 0 := DT_zero; omega
  | n + 1, day, h1, h2 => by
    by_cases h : day ≤ DT n
    · obtain ⟨y, a, b, c, d⟩ := year_exists n day h1 h
      exact ⟨y, a, by omega, c, d⟩
    · refine ⟨((n + 1 : Nat) : Int), by omega, by omega, ?_, h2⟩
      rw [show (((n + 1 : Nat) : Int) - 1) = (n : Int) by omega]; omega
theorem month_exists (y : Int) : ∀ (n : Nat) (k : Int), n ≤ 12 → 1 ≤ k → k ≤ bef y (n + 1) → ∃ m : Int, 1 ≤ m ∧ m ≤ n ∧ bef y m < k ∧ k ≤ bef y (m + 1)
  | 0, k, _, h1, h2 => by have : bef y ((0 : Nat) + 1 : Int) = 0 := bef_one y; omega
  | n + 1, k, hn, h1, h2 => by
    by_cases h : k ≤ bef y (n + 1)
    · obtain ⟨m, a, b, c, d⟩ := month_exists y n k (by omega) h1 h
      exact ⟨m, a, by omega, c, d⟩
    · exact ⟨(n : Int) + 1, by omega, by omega, by omega, by rw [show (n : Int) + 1 + 1 = ((n + 1 : Nat) : Int) + 1 by omega]; exact h2⟩
theorem date_of {day y m : Int} (h1 : 1 ≤ y) (h2 : y ≤ 9999) (h3 : 1 ≤ m) (h4 : m ≤ 12) (h5 : DT (y - 1) + bef y m < day) (h6 : day ≤ DT (y - 1) + bef y (m + 1)) : IsDate day y m (day - DT (y - 1) - bef y m) := by
  rw [bef_step y h3 h4] at h6
  refine ⟨⟨h1, h2, h3, h4, by omega, by omega⟩, ?_⟩
  unfold num; omega
theorem exists_date {day : Int} (h1 : 1 ≤ day) (h2 : day ≤ 3652059) : ∃ y m d, IsDate day y m d := by
  obtain ⟨y, a, b, c, d⟩ := year_exists 9999 day h1 (by have : DT ((9999 : Nat) : Int) = 3652059 := DT_last; omega)
  obtain ⟨m, e, f, g, i⟩ := month_exists y 12 (day - DT (y - 1)) (Nat.le_refl _) (by omega) (by
    have := bef_end y
    rw [show (((12 : Nat) : Int) + 1) = 13 from rfl, this]
    rw [DT_step y] at d; omega)
  exact ⟨y, m, _, date_of a (by omega) e (by omega) (by omega) (by omega)⟩

/-- The next day. -/
theorem next_day {day y m d : Int} (h : IsDate day y m d) (hl : day < 3652059) :
    (d < len y m ∧ IsDate (day + 1) y m (d + 1)) ∨ (d = len y m ∧ m < 12 ∧ IsDate (day + 1) y (m + 1) 1) ∨ (d = len y m ∧ m = 12 ∧ IsDate (day + 1) (y + 1) 1 1) := by
  obtain ⟨⟨h1, h2, h3, h4, h5, h6⟩, e⟩ := h
  by_cases hd : d < len y m
  · left
    refine ⟨hd, ⟨h1, h2, h3, h4, by omega, by omega⟩, ?_⟩
    unfold num at e ⊢; omega
  · have hd' : d = len y m := by omega
    by_cases hm : m < 12
    · right; left
      refine ⟨hd', hm, ⟨h1, h2, by omega, by omega, by omega, by have := len_bounds y (m + 1); omega⟩, ?_⟩
      have := bef_step y h3 h4
      unfold num at e ⊢; omega
    · have hm' : m = 12 := by omega
      right; right
      refine ⟨hd', hm', ?_⟩
      subst hm'
      have hb := bef_step y (m := 12) (by omega) (by omega)
      have h13 : bef y (12 + 1) = 365 + lp y := bef_end y
      have hs := DT_step y
      have hy : y < 9999 := by
        by_cases hy : y = 9999
        · exfalso
          subst hy
          have := DT_last
          unfold num at e; omega
        · omega
      refine ⟨⟨by omega, by omega, by omega, by omega, by omega, by have := len_bounds (y + 1) 1; omega⟩, ?_⟩
      have := bef_one (y + 1)
      unfold num at e ⊢
      rw [show y + 1 - 1 = y by omega]; omega

end Go.Proofs.YteelmjmiankflaaGreatDoor.Cal

namespace Go.Proofs.YteelmjmiankflaaGreatDoor.Utf
open Go

/-- The code of a character. -/
def enc (c : Int) : List UInt8 := (Utf8.encode c).data.toList
def encs (cs : List Int) : List UInt8 := cs.flatMap enc

def bt (l : List UInt8) (k : Nat) : Nat := (l.getD k 0).toNat

/-- The model's decoder, on a list. -/
def decL (l : List UInt8) : Nat × Nat :=
  let cont (k : Nat) : Bool := k < l.length && bt l k / 64 == 2
  let b0 := bt l 0
  if b0 < 0x80 then (b0, 1)
  else if b0 / 32 == 6 && cont 1 then
    let c := (b0 % 32) * 64 + bt l 1 % 64
    if c ≥ 0x80 then (c, 2) else (65533, 1)
  else if b0 / 16 == 14 && cont 1 && cont 2 then
    let c := (b0 % 16) * 4096 + (bt l 1 % 64) * 64 + bt l 2 % 64
    if c ≥ 0x800 && Utf8.valid c then (c, 3) else (65533, 1)
  else if b0 / 8 == 30 && cont 1 && cont 2 && cont 3 then
    let c := (b0 % 8) * 262144 + (bt l 1 % 64) * 4096 + (bt l 2 % 64) * 64 + bt l 3 % 64
    if c ≥ 0x10000 && Utf8.valid c then (c, 4) else (65533, 1)
  else (65533, 1)

theorem get_drop (s : ByteArray) (i k : Nat) : s.get! (i + k) = (s.data.toList.drop i).getD k 0 := by
  show s.data[i + k]! = _
  rw [getElem!_def, List.getD_eq_getElem?_getD, List.getElem?_drop]
  simp only [Array.getElem?_toList]
  cases s.data[i + k]? <;> rfl

theorem decode_eq (s : ByteArray) (i : Nat) (h : i ≤ s.size) : Utf8.decode s i = decL (s.data.toList.drop i) := by
  have hs : ∀ k, (decide (i + k < s.size)) = decide (k < (s.data.toList.drop i).length) := by
    intro k
    have : (s.data.toList.drop i).length = s.size - i := by rw [List.length_drop, Array.length_toList]; rfl
    rw [this]
    by_cases hk : i + k < s.size
    · rw [decide_eq_true hk, decide_eq_true (by omega)]
    · rw [decide_eq_false hk, decide_eq_false (by omega)]
  unfold Utf8.decode decL bt
  simp only [get_drop, hs, Utf8.runeError]

/-- The first character of a list of bytes, and how many bytes its code has. -/
def dec1 (l : List UInt8) : Option (Int × Nat) :=
  if l = [] then none else if decL l = (65533, 1) then none else some (((decL l).1 : Int), (decL l).2)

theorem bt_lt (l : List UInt8) (k : Nat) : bt l k < 256 := (l.getD k 0).toNat_lt
theorem bt_cons0 (b : UInt8) (l : List UInt8) : bt (b :: l) 0 = b.toNat := rfl
theorem bt_succ (b : UInt8) (l : List UInt8) (k : Nat) : bt (b :: l) (k + 1) = bt l k := by simp [bt]

theorem valid_iff (c : Int) : validRune c = true ↔ (0 ≤ c ∧ c < 55296) ∨ (57343 < c ∧ c ≤ 1114111) := by simp [validRune]

/-- The four forms of a code. -/
theorem enc_forms (c : Int) (h : validRune c = true) :
    (c < 128 ∧ enc c = [UInt8.ofNat c.toNat]) ∨
    (128 ≤ c ∧ c < 2048 ∧ enc c = [UInt8.ofNat (192 + c.toNat / 64), UInt8.ofNat (128 + c.toNat % 64)]) ∨
    (2048 ≤ c ∧ c < 65536 ∧ enc c = [UInt8.ofNat (224 + c.toNat / 4096), UInt8.ofNat (128 + c.toNat / 64 % 64), UInt8.ofNat (128 + c.toNat % 64)]) ∨
    (65536 ≤ c ∧ c ≤ 1114111 ∧ enc c = [UInt8.ofNat (240 + c.toNat / 262144), UInt8.ofNat (128 + c.toNat / 4096 % 64), UInt8.ofNat (128 + c.toNat / 64 % 64), UInt8.ofNat (128 + c.toNat % 64)]) := by
  have hv := (valid_iff c).1 h
  have hu : Utf8.valid c = true := by rw [validRune_eq]; exact h
  unfold enc Utf8.encode
  simp only [hu, if_true]
  by_cases h1 : c.toNat < 128
  · left; exact ⟨by omega, by rw [if_pos h1]⟩
  · right
    by_cases h2 : c.toNat < 2048
    · left; exact ⟨by omega, by omega, by rw [if_neg h1, if_pos h2]⟩
    · right
      by_cases h3 : c.toNat < 65536
      · left; exact ⟨by omega, by omega, by rw [if_neg h1, if_neg h2, if_pos h3]⟩
      · right; exact ⟨by omega, by omega, by rw [if_neg h1, if_neg h2, if_neg h3]⟩

theorem enc_len (c : Int) (h : validRune c = true) : 1 ≤ (enc c).length ∧ (enc c).length ≤ 4 := by
  rcases enc_forms c h with ⟨_, e⟩ | ⟨_, _, e⟩ | ⟨_, _, e⟩ | ⟨_, _, e⟩ <;> rw [e] <;> simp

theorem toNat_ofNat (n : Nat) (h : n < 256) : (UInt8.ofNat n).toNat = n := by
  rw [UInt8.toNat_ofNat']; exact Nat.mod_eq_of_lt h

theorem decL_enc (c : Int) (h : validRune c = true) (t : List UInt8) : decL (enc c ++ t) = (c.toNat, (enc c).length) := by
  have hv := (valid_iff c).1 h
  have hu : Utf8.valid ((c.toNat : Nat) : Int) = true := by rw [validRune_eq, Int.toNat_of_nonneg (by omega)]; exact h
  rcases enc_forms c h with ⟨h1, e⟩ | ⟨h1, h2, e⟩ | ⟨h1, h2, e⟩ | ⟨h1, h2, e⟩ <;> rw [e]
  · have b0 : bt ([UInt8.ofNat c.toNat] ++ t) 0 = c.toNat := toNat_ofNat _ (by omega)
    simp only [decL, b0]
    rw [if_pos (by omega)]; rfl
  · have b0 : bt ([UInt8.ofNat (192 + c.toNat / 64), UInt8.ofNat (128 + c.toNat % 64)] ++ t) 0 = 192 + c.toNat / 64 := toNat_ofNat _ (by omega)
    have b1 : bt ([UInt8.ofNat (192 + c.toNat / 64), UInt8.ofNat (128 + c.toNat % 64)] ++ t) 1 = 128 + c.toNat % 64 := toNat_ofNat _ (by omega)
    simp only [decL, b0, b1]
    rw [if_neg (by omega), if_pos (by simp; omega), if_pos (by omega)]
    simp; omega
  · have b0 : bt ([UInt8.ofNat (224 + c.toNat / 4096), UInt8.ofNat (128 + c.toNat / 64 % 64), UInt8.ofNat (128 + c.toNat % 64)] ++ t) 0 = 224 + c.toNat / 4096 := toNat_ofNat _ (by omega)
    have b1 : bt ([UInt8.ofNat (224 + c.toNat / 4096), UInt8.ofNat (128 + c.toNat / 64 % 64), UInt8.ofNat (128 + c.toNat % 64)] ++ t) 1 = 128 + c.toNat / 64 % 64 := toNat_ofNat _ (by omega)
    have b2 : bt ([UInt8.ofNat (224 + c.toNat / 4096), UInt8.ofNat (128 + c.toNat / 64 % 64), UInt8.ofNat (128 + c.toNat % 64)] ++ t) 2 = 128 + c.toNat % 64 := toNat_ofNat _ (by omega)
    have ec : ((224 + c.toNat / 4096) % 16) * 4096 + ((128 + c.toNat / 64 % 64) % 64) * 64 + (128 + c.toNat % 64) % 64 = c.toNat := by omega
    simp only [decL, b0, b1, b2, ec, hu]
    rw [if_neg (by omega), if_neg (by simp; omega), if_pos (by simp; omega), if_pos (by simp; omega)]
    rfl
  · have b0 : bt ([UInt8.ofNat (240 + c.toNat / 262144), UInt8.ofNat (128 + c.toNat / 4096 % 64), UInt8.ofNat (128 + c.toNat / 64 % 64), UInt8.ofNat (128 + c.toNat % 64)] ++ t) 0 = 240 + c.toNat / 262144 := toNat_ofNat _ (by omega)
    have b1 : bt ([UInt8.ofNat (240 + c.toNat / 262144), UInt8.ofNat (128 + c.toNat / 4096 % 64), UInt8.ofNat (128 + c.toNat / 64 % 64), UInt8.ofNat (128 + c.toNat % 64)] ++ t) 1 = 128 + c.toNat / 4096 % 64 := toNat_ofNat _ (by omega)
    have b2 : bt ([UInt8.ofNat (240 + c.toNat / 262144), UInt8.ofNat (128 + c.toNat / 4096 % 64), UInt8.ofNat (128 + c.toNat / 64 % 64), UInt8.ofNat (128 + c.toNat % 64)] ++ t) 2 = 128 + c.toNat / 64 % 64 := toNat_ofNat _ (by omega)
    have b3 : bt ([UInt8.ofNat (240 + c.toNat / 262144), UInt8.ofNat (128 + c.toNat / 4096 % 64), UInt8.ofNat (128 + c.toNat / 64 % 64), UInt8.ofNat (128 + c.toNat % 64)] ++ t) 3 = 128 + c.toNat % 64 := toNat_ofNat _ (by omega)
    have ec : ((240 + c.toNat / 262144) % 8) * 262144 + ((128 + c.toNat / 4096 % 64) % 64) * 4096 + ((128 + c.toNat / 64 % 64) % 64) * 64 + (128 + c.toNat % 64) % 64 = c.toNat := by omega
    simp only [decL, b0, b1, b2, b3, ec, hu]
    rw [if_neg (by omega), if_neg (by simp; omega), if_neg (by simp; omega), if_pos (by simp; omega), if_pos (by simp; omega)]
    rfl

theorem dec1_enc (c : Int) (h : validRune c = true) (t : List UInt8) : dec1 (enc c ++ t) = some (c, (enc c).length) := by
  have hv := (valid_iff c).1 h
  have hl := enc_len c h
  unfold dec1
  rw [if_neg (by intro e; have := congrArg List.length e; simp at this; simp [this.1] at hl), decL_enc c h t]
  rw [if_neg (by
    intro e
    have e1 : c.toNat = 65533 := (Prod.mk.inj e).1
    have e2 : (enc c).length = 1 := (Prod.mk.inj e).2
    have : c = 65533 := by omega
    subst this
    revert e2; decide)]
  show some ((c.toNat : Int), _) = _
  rw [Int.toNat_of_nonneg (by omega)]

/-- The first bytes of a list. -/
theorem eq1 {l : List UInt8} (h : 0 < l.length) : l = UInt8.ofNat (bt l 0) :: l.drop 1 := by
  cases l with
  | nil => simp at h
  | cons a t => simp [bt]
theorem drop_bt {l : List UInt8} {k : Nat} (h : k < l.length) : l.drop k = UInt8.ofNat (bt l k) :: l.drop (k + 1) := by
  rw [List.drop_eq_getElem_cons h]
  congr 1
  simp [bt, List.getElem?_eq_getElem h]

theorem dec1_some {l : List UInt8} {c : Int} {n : Nat} (h : dec1 l = some (c, n)) : validRune c = true ∧ n = (enc c).length ∧ l = enc c ++ l.drop n := by
  unfold dec1 at h
  split at h
  · cases h
  · rename_i hl
    have hl : 0 < l.length := List.length_pos_iff.2 hl
    split at h
    · cases h
    · rename_i hne
      have h := Option.some.inj h
      obtain ⟨rfl, rfl⟩ := Prod.mk.inj h
      have hv : ∀ c : Nat, validRune (c : Int) = true → (validRune ((c : Nat) : Int) = true) := fun _ h => h
      have q0 := bt_lt l 0; have q1 := bt_lt l 1; have q2 := bt_lt l 2; have q3 := bt_lt l 3
      simp only [decL] at hne ⊢
      by_cases h0 : bt l 0 < 128
      · simp only [if_pos h0]
        have hv : validRune ((bt l 0 : Nat) : Int) = true := (valid_iff _).2 (by omega)
        refine ⟨hv, ?_⟩
        rcases enc_forms _ hv with ⟨a, e⟩ | ⟨a, b, e⟩ | ⟨a, b, e⟩ | ⟨a, b, e⟩ <;> first | omega | skip
        rw [e]
        refine ⟨rfl, ?_⟩
        have e0 := drop_bt (l := l) (k := 0) hl
        simpa using e0
      · simp only [if_neg h0] at hne ⊢
        by_cases g1 : (bt l 0 / 32 == 6 && (decide (1 < l.length) && bt l 1 / 64 == 2)) = true
        · simp only [if_pos g1] at hne ⊢
          simp at g1
          by_cases k1 : 128 ≤ bt l 0 % 32 * 64 + bt l 1 % 64
          · simp only [ge_iff_le, if_pos k1]
            have hv : validRune ((bt l 0 % 32 * 64 + bt l 1 % 64 : Nat) : Int) = true := (valid_iff _).2 (by omega)
            refine ⟨hv, ?_⟩
            rcases enc_forms _ hv with ⟨a, e⟩ | ⟨a, b, e⟩ | ⟨a, b, e⟩ | ⟨a, b, e⟩ <;> first | omega | skip
            rw [e]
            refine ⟨rfl, ?_⟩
            have e0 := drop_bt (l := l) (k := 0) hl
            have e1 := drop_bt (l := l) (k := 1) g1.2.1
            have f0 : 192 + (bt l 0 % 32 * 64 + bt l 1 % 64) / 64 = bt l 0 := by omega
            have f1 : 128 + (bt l 0 % 32 * 64 + bt l 1 % 64) % 64 = bt l 1 := by omega
            simp only [Int.toNat_natCast, f0, f1]
            simp only [List.drop_zero] at e0
            rw [e1] at e0
            simpa using e0
          · simp only [ge_iff_le, if_neg k1] at hne
            exact absurd trivial hne
        · simp only [if_neg g1] at hne ⊢
          by_cases g2 : (bt l 0 / 16 == 14 && (decide (1 < l.length) && bt l 1 / 64 == 2) && (decide (2 < l.length) && bt l 2 / 64 == 2)) = true
          · simp only [if_pos g2] at hne ⊢
            simp at g2
            by_cases k1 : (decide (bt l 0 % 16 * 4096 + bt l 1 % 64 * 64 + bt l 2 % 64 ≥ 2048) && Utf8.valid ((bt l 0 % 16 * 4096 + bt l 1 % 64 * 64 + bt l 2 % 64 : Nat) : Int)) = true
            · simp only [if_pos k1]
              simp only [Bool.and_eq_true, decide_eq_true_eq] at k1
              have hv : validRune ((bt l 0 % 16 * 4096 + bt l 1 % 64 * 64 + bt l 2 % 64 : Nat) : Int) = true := by rw [← validRune_eq]; exact k1.2
              refine ⟨hv, ?_⟩
              have hvv := (valid_iff _).1 hv
              rcases enc_forms _ hv with ⟨a, e⟩ | ⟨a, b, e⟩ | ⟨a, b, e⟩ | ⟨a, b, e⟩ <;> first | omega | skip
              rw [e]
              refine ⟨rfl, ?_⟩
              have e0 := drop_bt (l := l) (k := 0) hl
              have e1 := drop_bt (l := l) (k := 1) g2.1.2.1
              have e2 := drop_bt (l := l) (k := 2) g2.2.1
              have f0 : 224 + (bt l 0 % 16 * 4096 + bt l 1 % 64 * 64 + bt l 2 % 64) / 4096 = bt l 0 := by omega
              have f1 : 128 + (bt l 0 % 16 * 4096 + bt l 1 % 64 * 64 + bt l 2 % 64) / 64 % 64 = bt l 1 := by omega
              have f2 : 128 + (bt l 0 % 16 * 4096 + bt l 1 % 64 * 64 + bt l 2 % 64) % 64 = bt l 2 := by omega
              simp only [Int.toNat_natCast, f0, f1, f2]
              simp only [List.drop_zero] at e0
              rw [e1, e2] at e0
              simpa using e0
            · simp only [if_neg k1] at hne
              exact absurd trivial hne
          · simp only [if_neg g2] at hne ⊢
            by_cases g3 : (bt l 0 / 8 == 30 && (decide (1 < l.length) && bt l 1 / 64 == 2) && (decide (2 < l.length) && bt l 2 / 64 == 2) && (decide (3 < l.length) && bt l 3 / 64 == 2)) = true
            · simp only [if_pos g3] at hne ⊢
              simp at g3
              by_cases k1 : (decide (bt l 0 % 8 * 262144 + bt l 1 % 64 * 4096 + bt l 2 % 64 * 64 + bt l 3 % 64 ≥ 65536) && Utf8.valid ((bt l 0 % 8 * 262144 + bt l 1 % 64 * 4096 + bt l 2 % 64 * 64 + bt l 3 % 64 : Nat) : Int)) = true
              · simp only [if_pos k1]
                simp only [Bool.and_eq_true, decide_eq_true_eq] at k1
                have hv : validRune ((bt l 0 % 8 * 262144 + bt l 1 % 64 * 4096 + bt l 2 % 64 * 64 + bt l 3 % 64 : Nat) : Int) = true := by rw [← validRune_eq]; exact k1.2
                refine ⟨hv, ?_⟩
                have hvv := (valid_iff _).1 hv
                rcases enc_forms _ hv with ⟨a, e⟩ | ⟨a, b, e⟩ | ⟨a, b, e⟩ | ⟨a, b, e⟩ <;> first | omega | skip
                rw [e]
                refine ⟨rfl, ?_⟩
                have e0 := drop_bt (l := l) (k := 0) hl
                have e1 := drop_bt (l := l) (k := 1) g3.1.1.2.1
                have e2 := drop_bt (l := l) (k := 2) g3.1.2.1
                have e3 := drop_bt (l := l) (k := 3) g3.2.1
                have f0 : 240 + (bt l 0 % 8 * 262144 + bt l 1 % 64 * 4096 + bt l 2 % 64 * 64 + bt l 3 % 64) / 262144 = bt l 0 := by omega
                have f1 : 128 + (bt l 0 % 8 * 262144 + bt l 1 % 64 * 4096 + bt l 2 % 64 * 64 + bt l 3 % 64) / 4096 % 64 = bt l 1 := by omega
                have f2 : 128 + (bt l 0 % 8 * 262144 + bt l 1 % 64 * 4096 + bt l 2 % 64 * 64 + bt l 3 % 64) / 64 % 64 = bt l 2 := by omega
                have f3 : 128 + (bt l 0 % 8 * 262144 + bt l 1 % 64 * 4096 + bt l 2 % 64 * 64 + bt l 3 % 64) % 64 = bt l 3 := by omega
                simp only [Int.toNat_natCast, f0, f1, f2, f3]
                simp only [List.drop_zero] at e0
                rw [e1, e2, e3] at e0
                simpa using e0
              · simp only [if_neg k1] at hne
                exact absurd trivial hne
            · simp only [if_neg g3] at hne
              exact absurd trivial hne

theorem dec1_pos {l : List UInt8} {c : Int} {n : Nat} (h : dec1 l = some (c, n)) : 1 ≤ n ∧ n ≤ l.length := by
  obtain ⟨hv, hn, hl⟩ := dec1_some h
  have := enc_len c hv
  have h2 := congrArg List.length hl
  simp at h2
  omega

/-- The characters of a list of bytes. -/
def charsF : Nat → List UInt8 → Option (List Int)
  | 0, l => if l = [] then some [] else none
  | f + 1, l => if l = [] then some [] else match dec1 l with
    | none => none
    | some (c, n) => (charsF f (l.drop n)).map (c :: ·)
def chars (l : List UInt8) : Option (List Int) := charsF l.length l

theorem charsF_enough : ∀ (f g : Nat) (l : List UInt8), l.length ≤ f → l.length ≤ g → charsF f l = charsF g l := by
  intro f
  induction f with
  | zero =>
    intro g l h _
    have : l = [] := List.eq_nil_of_length_eq_zero (by omega)
    subst this
    cases g <;> simp [charsF]
  | succ f ih =>
    intro g l h hg
    cases g with
    | zero =>
      have : l = [] := List.eq_nil_of_length_eq_zero (by omega)
      subst this
      simp [charsF]
    | succ g =>
      unfold charsF
      by_cases hl : l = []
      · simp [hl]
      · rw [if_neg hl, if_neg hl]
        cases hd : dec1 l with
        | none => rfl
        | some p =>
          obtain ⟨c, n⟩ := p
          have hp := dec1_pos hd
          simp only
          rw [ih g (l.drop n) (by simp; omega) (by simp; omega)]

theorem chars_nil : chars [] = some [] := rfl
theorem chars_bad {l : List UInt8} (hl : l ≠ []) (h : dec1 l = none) : chars l = none := by
  unfold chars
  cases l with
  | nil => exact absurd rfl hl
  | cons a t => simp [charsF, h]
theorem chars_step {l : List UInt8} {c : Int} {n : Nat} (h : dec1 l = some (c, n)) : chars l = (chars (l.drop n)).map (c :: ·) := by
  have hp := dec1_pos h
  unfold chars
  cases l with
  | nil => simp at hp; omega
  | cons a t =>
    show charsF (t.length + 1) (a :: t) = _
    simp only [charsF, h]
    rw [charsF_enough t.length ((a :: t).drop n).length _ (by simp; omega) (Nat.le_refl _)]
    simp

theorem chars_enc {c : Int} (h : validRune c = true) (t : List UInt8) : chars (enc c ++ t) = (chars t).map (c :: ·) := by
  rw [chars_step (dec1_enc c h t)]; simp

theorem chars_encs_append {cs : List Int} (h : ∀ c ∈ cs, validRune c = true) (t : List UInt8) : chars (encs cs ++ t) = (chars t).map (cs ++ ·) := by
  induction cs with
  | nil => simp [encs]
  | cons c cs ih =>
    have : encs (c :: cs) ++ t = enc c ++ (encs cs ++ t) := by simp [encs]
    rw [this, chars_enc (h c (by simp)), ih (fun x hx => h x (by simp [hx]))]
    cases chars t <;> simp

theorem chars_encs {cs : List Int} (h : ∀ c ∈ cs, validRune c = true) : chars (encs cs) = some cs := by
  have := chars_encs_append h []
  simpa [chars_nil] using this

theorem chars_some_aux : ∀ (f : Nat) (l : List UInt8) (cs : List Int), l.length ≤ f → chars l = some cs → (∀ c ∈ cs, validRune c = true) ∧ l = encs cs := by
  intro f
  induction f with
  | zero =>
    intro l cs h hc
    have : l = [] := List.eq_nil_of_length_eq_zero (by omega)
    subst this
    rw [chars_nil] at hc
    obtain rfl := Option.some.inj hc
    exact ⟨by simp, rfl⟩
  | succ f ih =>
    intro l cs h hc
    by_cases hl : l = []
    · subst hl
      rw [chars_nil] at hc
      obtain rfl := Option.some.inj hc
      exact ⟨by simp, rfl⟩
    · cases hd : dec1 l with
      | none => rw [chars_bad hl hd] at hc; cases hc
      | some p =>
        obtain ⟨c, n⟩ := p
        have hp := dec1_pos hd
        obtain ⟨hv, hn, hle⟩ := dec1_some hd
        rw [chars_step hd] at hc
        cases hr : chars (l.drop n) with
        | none => rw [hr] at hc; cases hc
        | some ds =>
          rw [hr] at hc
          have := Option.some.inj hc
          subst this
          obtain ⟨h1, h2⟩ := ih (l.drop n) ds (by simp; omega) hr
          refine ⟨?_, ?_⟩
          · intro x hx
            rcases List.mem_cons.1 hx with rfl | hx
            · exact hv
            · exact h1 x hx
          · show l = enc c ++ encs ds
            rw [← h2]; exact hle

theorem chars_some {l : List UInt8} {cs : List Int} (h : chars l = some cs) : (∀ c ∈ cs, validRune c = true) ∧ l = encs cs := chars_some_aux _ l cs (Nat.le_refl _) h

theorem encs_length_ge {cs : List Int} (h : ∀ c ∈ cs, validRune c = true) : cs.length ≤ (encs cs).length := by
  induction cs with
  | nil => simp
  | cons c cs ih =>
    have h1 := enc_len c (h c (by simp))
    have h2 := ih (fun x hx => h x (by simp [hx]))
    simp only [encs, List.flatMap_cons, List.length_append, List.length_cons] at h2 ⊢
    omega

theorem encs_length_le {cs : List Int} (h : ∀ c ∈ cs, validRune c = true) : (encs cs).length ≤ 4 * cs.length := by
  induction cs with
  | nil => simp [encs]
  | cons c cs ih =>
    have h1 := enc_len c (h c (by simp))
    have h2 := ih (fun x hx => h x (by simp [hx]))
    simp only [encs, List.flatMap_cons, List.length_append, List.length_cons] at h2 ⊢
    omega

theorem encs_append (a b : List Int) : encs (a ++ b) = encs a ++ encs b := by simp [encs]
theorem encs_cons (a : Int) (b : List Int) : encs (a :: b) = enc a ++ encs b := by simp [encs]

end Go.Proofs.YteelmjmiankflaaGreatDoor.Utf

namespace Go.Proofs.YteelmjmiankflaaGreatDoor.Num
open Go

def plainC : List Int := [12295, 19968, 20108, 19977, 22235, 20116, 20845, 19971, 20843, 20061]
def formalC : List Int := [38646, 22769, 24336, 21442, 22235, 20116, 20845, 19971, 20843, 20061]
def pd (d : Nat) : Int := plainC.getD d 0
def fd (d : Nat) : Int := formalC.getD d 0
def pu (u : Nat) : List Int := ([[], [21313], [30334], [21315]] : List (List Int)).getD u []
def fu (u : Nat) : List Int := ([[], [25342], [30334], [21315]] : List (List Int)).getD u []
def gu (g : Nat) : List Int := ([[], [19975], [20740], [20806], [20140]] : List (List Int)).getD g []

/-- What each digit writes, one after the other, where a Bool is kept between them: the digit, and how many come behind it. -/
def eachS (out : Bool → Nat → Nat → List Int) (next : Bool → Nat → Nat → Bool) : Bool → List Nat → List Int
  | _, [] => []
  | b, d :: ds => out b d ds.length ++ eachS out next (next b d ds.length) ds

def kp (d u : Nat) : List Int := if d = 1 ∧ 0 < u then pu u else pd d :: pu u
def fp (d u : Nat) : List Int := fd d :: fu u
def uo (h : Nat → Nat → List Int) (b : Bool) (d a : Nat) : List Int :=
  (if d = 0 then [] else h d (a % 4)) ++ (if a % 4 = 0 ∧ (b = true ∨ d ≠ 0) then gu (a / 4) else [])
def un (b : Bool) (d a : Nat) : Bool := if a % 4 = 0 then false else (b || d != 0)
def units (h : Nat → Nat → List Int) (b : Bool) (ds : List Nat) : List Int := eachS (uo h) un b ds
def kanjiC (ds : List Nat) : List Int := if ds = [0] then [38646] else units kp false ds
def formC (ds : List Nat) : List Int := if ds = [0] then [38646] else units fp false ds
def posC (ds : List Nat) : List Int := eachS (fun _ d _ => [pd d]) (fun b _ _ => b) false ds
def commaC (ds : List Nat) : List Int := eachS (fun _ d a => (48 + d : Int) :: (if 0 < a ∧ a % 3 = 0 then [44] else [])) (fun b _ _ => b) false ds
def ascC (ds : List Nat) : List Int := eachS (fun _ d _ => [(48 + d : Int)]) (fun b _ _ => b) false ds
def wideC (ds : List Nat) : List Int := eachS (fun _ d _ => [(65296 + d : Int)]) (fun b _ _ => b) false ds

theorem units_cons (h : Nat → Nat → List Int) (b : Bool) (d : Nat) (ds : List Nat) : units h b (d :: ds) = uo h b d ds.length ++ units h (un b d ds.length) ds := rfl

/-- Decimal digits. -/
def DS (ds : List Nat) : Prop := 1 ≤ ds.length ∧ ds.length ≤ 20 ∧ (∀ d ∈ ds, d ≤ 9) ∧ (ds.head? = some 0 → ds = [0])
instance (ds : List Nat) : Decidable (DS ds) := inferInstanceAs (Decidable (_ ∧ _ ∧ _ ∧ _))

/-! ### Reading -/
def dgt (c : Int) : Option Nat := (List.range 10).find? (fun i => pd i == c || fd i == c)
def unt (c : Int) : Option Nat := (List.range 4).find? (fun i => pu i == [c] || fu i == [c])
def grp (c : Int) : Option Nat := (List.range 5).find? (fun i => gu i == [c])

abbrev St := (Nat → Nat) × (Nat → Nat) × Nat
def endG (s : St) (p : Nat) : St := ((fun i => if i / 4 = p then (if i % 4 = 0 then s.2.2 else s.2.1 (i % 4)) else s.1 i), (fun _ => 0), 0)
def step (s : St) (c : Int) : Option St :=
  match dgt c with
  | some d => some (s.1, s.2.1, d)
  | none => match unt c with
    | some u => some (s.1, (fun i => if i = u then max s.2.2 1 else s.2.1 i), 0)
    | none => match grp c with
      | some p => some (endG s p)
      | none => none
def run : St → List Int → Option St
  | s, [] => some s
  | s, c :: cs => match step s c with
    | none => none
    | some s' => run s' cs
def st0 : St := (fun _ => 0, fun _ => 0, 0)
def big (num : Nat → Nat) : List Nat := (List.range 20).map fun i => num (19 - i)
def strip (l : List Nat) : List Nat := l.dropWhile (· == 0)
def readU (cs : List Int) : Option (List Nat) := (run st0 cs).map fun s => strip (big (endG s 0).1)
def readE : List Int → Option (List Nat)
  | [] => some []
  | c :: cs => match dgt c with
    | none => none
    | some d => (readE cs).map (d :: ·)

theorem run_cons (s : St) (c : Int) (cs : List Int) : run s (c :: cs) = match step s c with
    | none => none
    | some s' => run s' cs := rfl
theorem run_append (s : St) (a b : List Int) : run s (a ++ b) = match run s a with
    | none => none
    | some s' => run s' b := by
  induction a generalizing s with
  | nil => rfl
  | cons c a ih =>
    show run s (c :: (a ++ b)) = _
    rw [run_cons, run_cons]
    cases step s c with
    | none => rfl
    | some s' => exact ih s'

theorem dgt_pd : ∀ d, d ≤ 9 → dgt (pd d) = some d := by decide
theorem dgt_fd : ∀ d, d ≤ 9 → dgt (fd d) = some d := by decide
theorem pu_of : ∀ u, u ≤ 3 → 1 ≤ u → (pu u).length = 1 ∧ dgt ((pu u).getD 0 0) = none ∧ unt ((pu u).getD 0 0) = some u ∧ grp ((pu u).getD 0 0) = none := by decide
theorem fu_of : ∀ u, u ≤ 3 → 1 ≤ u → (fu u).length = 1 ∧ dgt ((fu u).getD 0 0) = none ∧ unt ((fu u).getD 0 0) = some u ∧ grp ((fu u).getD 0 0) = none := by decide
theorem gu_of : ∀ g, g ≤ 4 → 1 ≤ g → (gu g).length = 1 ∧ dgt ((gu g).getD 0 0) = none ∧ unt ((gu g).getD 0 0) = none ∧ grp ((gu g).getD 0 0) = some g := by decide
theorem pd_of : ∀ d, d ≤ 9 → unt (pd d) = none ∧ grp (pd d) = none := by decide
theorem fd_of : ∀ d, d ≤ 9 → unt (fd d) = none ∧ grp (fd d) = none := by decide
theorem one_of {l : List Int} (h : l.length = 1) : l = [l.getD 0 0] := by
  match l, h with
  | [a], _ => rfl

theorem step_pd (s : St) (d : Nat) (h : d ≤ 9) : step s (pd d) = some (s.1, s.2.1, d) := by unfold step; rw [dgt_pd d h]
theorem step_fd (s : St) (d : Nat) (h : d ≤ 9) : step s (fd d) = some (s.1, s.2.1, d) := by unfold step; rw [dgt_fd d h]
theorem run_one (s : St) (c : Int) : run s [c] = step s c := by unfold run; cases step s c <;> rfl
theorem run_pu (s : St) (u : Nat) (h3 : u ≤ 3) (h1 : 1 ≤ u) : run s (pu u) = some (s.1, (fun i => if i = u then max s.2.2 1 else s.2.1 i), 0) := by
  obtain ⟨hl, hd, hu, _⟩ := pu_of u h3 h1
  rw [one_of hl, run_one]; unfold step; rw [hd]; simp only [hu]
theorem run_fu (s : St) (u : Nat) (h3 : u ≤ 3) (h1 : 1 ≤ u) : run s (fu u) = some (s.1, (fun i => if i = u then max s.2.2 1 else s.2.1 i), 0) := by
  obtain ⟨hl, hd, hu, _⟩ := fu_of u h3 h1
  rw [one_of hl, run_one]; unfold step; rw [hd]; simp only [hu]
theorem run_gu (s : St) (g : Nat) (h4 : g ≤ 4) (h1 : 1 ≤ g) : run s (gu g) = some (endG s g) := by
  obtain ⟨hl, hd, hu, hg⟩ := gu_of g h4 h1
  rw [one_of hl, run_one]; unfold step; rw [hd]; simp only [hu, hg]
theorem run_cons_some {s s' : St} {c : Int} {cs : List Int} (h : step s c = some s') : run s (c :: cs) = run s' cs := by
  show (match step s c with
    | none => none
    | some s' => run s' cs) = _
  rw [h]

def Good (h : Nat → Nat → List Int) : Prop :=
  (∀ (s : St) d u, s.2.2 = 0 → 1 ≤ d → d ≤ 9 → 1 ≤ u → u ≤ 3 → run s (h d u) = some (s.1, (fun i => if i = u then d else s.2.1 i), 0)) ∧
  ∀ (s : St) d, 1 ≤ d → d ≤ 9 → run s (h d 0) = some (s.1, s.2.1, d)
theorem good_kp : Good kp := by
  refine ⟨fun s d u h0 hd1 hd9 hu1 hu3 => ?_, fun s d hd1 hd9 => ?_⟩
  · unfold kp
    split
    · rename_i h
      rw [run_pu s u hu3 hu1, h0, h.1]; rfl
    · rw [run_cons_some (step_pd s d hd9), run_pu _ u hu3 hu1]
      have : max d 1 = d := by omega
      simp only [this]
  · unfold kp
    rw [if_neg (by omega), run_cons_some (step_pd s d hd9)]; rfl
theorem good_fp : Good fp := by
  refine ⟨fun s d u h0 hd1 hd9 hu1 hu3 => ?_, fun s d hd1 hd9 => ?_⟩
  · unfold fp
    rw [run_cons_some (step_fd s d hd9), run_fu _ u hu3 hu1]
    have : max d 1 = d := by omega
    simp only [this]
  · unfold fp
    rw [run_cons_some (step_fd s d hd9)]; rfl

/-- The digit at a place, from the right. -/
def pl (ds : List Nat) (p : Nat) : Nat := ds.reverse.getD p 0
theorem pl_nil (p : Nat) : pl [] p = 0 := by simp [pl]
theorem pl_cons (d : Nat) (ds : List Nat) (p : Nat) : pl (d :: ds) p = if p = ds.length then d else pl ds p := by
  unfold pl
  rw [List.reverse_cons, List.getD_eq_getElem?_getD, List.getD_eq_getElem?_getD, List.getElem?_append]
  split
  · rename_i h; simp at h; rw [if_neg (by omega)]
  · rename_i h
    simp at h
    by_cases e : p = ds.length
    · subst e; simp
    · rw [if_neg e]
      simp
      rw [List.getElem?_eq_none (by simp; omega), List.getElem?_eq_none (by simp; omega)]
theorem pl_out (ds : List Nat) (p : Nat) (h : ds.length ≤ p) : pl ds p = 0 := by
  unfold pl
  rw [List.getD_eq_getElem?_getD, List.getElem?_eq_none (by simpa using h)]; rfl

theorem key (h : Nat → Nat → List Int) (hg : Good h) : ∀ (ds : List Nat) (b : Bool) (s : St), 1 ≤ ds.length → ds.length ≤ 20 → (∀ d ∈ ds, d ≤ 9) → s.2.2 = 0 →
    (∀ i, i < 4 → (ds.length % 4 = 0 ∨ i < ds.length % 4 ∨ b = false) → s.2.1 i = 0) → (∀ i, i < 4 * ((ds.length + 3) / 4) → s.1 i = 0) → (ds.length % 4 = 0 → b = false) →
    ∃ s', run s (units h b ds) = some s' ∧ ∀ p, p < 20 → (endG s' 0).1 p = if p < ds.length then pl ds p else if p < 4 * ((ds.length + 3) / 4) then s.2.1 (p % 4) else s.1 p := by
  intro ds
  induction ds with
  | nil => intro b s h1; simp at h1
  | cons d ds ih =>
    intro b s h1 h20 hd hdig hgrp hnum hb
    have hd9 : d ≤ 9 := hd d (by simp)
    simp only [List.length_cons] at h20 hgrp hnum hb ⊢
    by_cases hds : ds = []
    · subst hds
      simp only [List.length_nil] at *
      by_cases hd0 : d = 0
      · subst hd0
        refine ⟨s, by cases b <;> simp [units, eachS, uo, gu, run], fun p hp => ?_⟩
        simp only [endG, pl_cons, pl_nil]
        have z0 := hgrp 0 (by omega) (by omega)
        by_cases hp4 : p < 4
        · rw [if_pos (by omega : p / 4 = 0)]
          by_cases hp0 : p = 0
          · subst hp0; simp [hdig]
          · rw [if_neg (by omega), if_neg (by omega), if_pos (by omega)]
        · rw [if_neg (by omega), if_neg (by omega), if_neg (by omega)]
      · refine ⟨(s.1, s.2.1, d), ?_, fun p hp => ?_⟩
        · have e : units h b [d] = h d 0 ++ [] := by cases b <;> simp [units, eachS, uo, hd0, gu]
          rw [e, List.append_nil, hg.2 s d (by omega) hd9]
        · simp only [endG, pl_cons, pl_nil]
          by_cases hp4 : p < 4
          · rw [if_pos (by omega : p / 4 = 0)]
            by_cases hp0 : p = 0
            · subst hp0; simp
            · rw [if_neg (by omega), if_neg (by omega), if_pos (by omega)]
          · rw [if_neg (by omega), if_neg (by omega), if_neg (by omega)]
    · have hn1 : 1 ≤ ds.length := by cases ds with
        | nil => exact absurd rfl hds
        | cons => simp
      obtain ⟨n, hn⟩ : ∃ n, ds.length = n := ⟨_, rfl⟩
      rw [units_cons]
      by_cases hu : n % 4 = 0
      · -- a digit with the unit of its group
        have hg4 : n / 4 ≤ 4 := by omega
        have hg1 : 1 ≤ n / 4 := by omega
        have z0 := hgrp 0 (by omega) (by omega)
        by_cases hsome : b = true ∨ d ≠ 0
        · have hrun : run s (uo h b d ds.length) = some (endG (s.1, s.2.1, d) (n / 4)) := by
            unfold uo
            rw [hn, if_pos (And.intro hu hsome), hu, run_append]
            by_cases hd0 : d = 0
            · subst hd0
              rw [if_pos rfl]
              show run s (gu (n / 4)) = _
              rw [run_gu s _ hg4 hg1]
              simp only [endG, hdig]
            · rw [if_neg hd0, hg.2 s d (by omega) hd9]
              exact run_gu _ _ hg4 hg1
          obtain ⟨s', hs', hp⟩ := ih false (endG (s.1, s.2.1, d) (n / 4)) hn1 (by omega) (fun x hx => hd x (by simp [hx])) rfl (fun i _ _ => rfl)
            (fun i hi => by
              simp only [endG]
              rw [if_neg (by omega)]
              exact hnum i (by omega)) (fun _ => rfl)
          refine ⟨s', by
            rw [run_append, hrun]
            have e : un b d ds.length = false := by unfold un; rw [hn, if_pos hu]
            rw [e]; exact hs', fun p hpp => ?_⟩
          rw [hp p hpp, pl_cons]
          simp only [endG, hn]
          by_cases c1 : p < n
          · rw [if_pos c1, if_pos (by omega), if_neg (by omega)]
          · rw [if_neg c1, if_neg (by omega)]
            by_cases c2 : p = n
            · subst c2; rw [if_pos rfl, if_pos hu, if_pos (by omega), if_pos rfl]
            · by_cases c3 : p < 4 * ((n + 1 + 3) / 4)
              · rw [if_pos (by omega), if_neg (by omega), if_neg (by omega), if_pos c3]
              · rw [if_neg (by omega), if_neg (by omega), if_neg c3]
        · have hb0 : b = false := by cases b <;> simp_all
          have hd0 : d = 0 := by
            rcases Nat.eq_zero_or_pos d with e | e
            · exact e
            · exact absurd (Or.inr (by omega)) hsome
          subst hb0 hd0
          have hrun : uo h false 0 ds.length = [] := by
            unfold uo; simp
          have e2 : un false 0 ds.length = false := by unfold un; split <;> rfl
          rw [hrun, e2, List.nil_append]
          obtain ⟨s', hs', hp⟩ := ih false s hn1 (by omega) (fun x hx => hd x (by simp [hx])) hdig (fun i hi _ => hgrp i hi (by simp))
            (fun i hi => hnum i (by omega)) (fun _ => rfl)
          refine ⟨s', hs', fun p hpp => ?_⟩
          rw [hp p hpp, pl_cons]
          simp only [hn]
          by_cases c1 : p < n
          · rw [if_pos c1, if_pos (by omega), if_neg (by omega)]
          · rw [if_neg c1, if_neg (by omega)]
            by_cases c2 : p = n
            · subst c2; rw [if_pos (by omega), if_pos rfl]; exact hnum p (by omega)
            · rw [if_neg (by omega)]
              by_cases c3 : p < 4 * ((n + 1 + 3) / 4)
              · rw [if_pos c3, hgrp (p % 4) (by omega) (by simp)]; exact hnum p (by omega)
              · rw [if_neg c3]
      · have hgu : ∀ x : Bool, (if n % 4 = 0 ∧ (x = true ∨ d ≠ 0) then gu (n / 4) else []) = [] := fun x => if_neg (fun e => hu e.1)
        have e2 : un b d ds.length = (b || d != 0) := by unfold un; rw [hn, if_neg hu]
        by_cases hd0 : d = 0
        · subst hd0
          have hrun : uo h b 0 ds.length = [] := by unfold uo; rw [hn, hgu]; rfl
          have e3 : (b || (0 : Nat) != 0) = b := by cases b <;> rfl
          rw [hrun, e2, e3, List.nil_append]
          obtain ⟨s', hs', hp⟩ := ih b s hn1 (by omega) (fun x hx => hd x (by simp [hx])) hdig
            (fun i hi hx => by
              rw [hn] at hx
              by_cases hM : (n + 1) % 4 = 0
              · exact hgrp i hi (by rw [hn]; exact .inl hM)
              · rcases hx with hx | hx | hx
                · exact absurd hx hu
                · exact hgrp i hi (by rw [hn]; exact .inr (.inl (by omega)))
                · exact hgrp i hi (.inr (.inr hx)))
            (fun i hi => hnum i (by omega)) (fun e => absurd (by omega : n % 4 = 0) hu)
          refine ⟨s', hs', fun p hpp => ?_⟩
          rw [hp p hpp, pl_cons]
          simp only [hn]
          by_cases c1 : p < n
          · rw [if_pos c1, if_pos (by omega), if_neg (by omega)]
          · rw [if_neg c1]
            by_cases c2 : p = n
            · subst c2; rw [if_pos (by omega), if_pos (by omega), if_pos rfl]
              exact hgrp (p % 4) (by omega) (by
                rw [hn]
                by_cases hM : (p + 1) % 4 = 0
                · exact .inl hM
                · exact .inr (.inl (by omega)))
            · rw [if_neg (by omega : ¬ p < n + 1)]
              have : (n + 1 + 3) / 4 = (n + 3) / 4 := by omega
              rw [this]
        · have hrun : run s (uo h b d ds.length) = some (s.1, (fun i => if i = n % 4 then d else s.2.1 i), 0) := by
            unfold uo
            rw [hn, hgu, List.append_nil, if_neg hd0]
            exact hg.1 s d (n % 4) hdig (by omega) hd9 (by omega) (by omega)
          have e3 : (b || d != 0) = true := by cases b <;> simp [hd0]
          obtain ⟨s', hs', hp⟩ := ih true (s.1, (fun i => if i = n % 4 then d else s.2.1 i), 0) hn1 (by omega) (fun x hx => hd x (by simp [hx])) rfl
            (fun i hi hx => by
              rw [hn] at hx
              simp only
              rcases hx with hx | hx | hx
              · exact absurd hx hu
              · rw [if_neg (by omega)]
                by_cases hM : (n + 1) % 4 = 0
                · exact hgrp i hi (by rw [hn]; exact .inl hM)
                · exact hgrp i hi (by rw [hn]; exact .inr (.inl (by omega)))
              · cases hx)
            (fun i hi => hnum i (by omega)) (fun e => absurd (by omega : n % 4 = 0) hu)
          refine ⟨s', by rw [run_append, hrun, e2, e3]; exact hs', fun p hpp => ?_⟩
          rw [hp p hpp, pl_cons]
          simp only [hn]
          by_cases c1 : p < n
          · rw [if_pos c1, if_pos (by omega), if_neg (by omega)]
          · rw [if_neg c1]
            by_cases c2 : p = n
            · subst c2; rw [if_pos (by omega), if_pos rfl, if_pos (by omega), if_pos rfl]
            · rw [if_neg (by omega : ¬ p < n + 1)]
              have : (n + 1 + 3) / 4 = (n + 3) / 4 := by omega
              rw [this]
              by_cases c3 : p < 4 * ((n + 3) / 4)
              · rw [if_pos c3, if_pos c3, if_neg (by omega)]
              · rw [if_neg c3, if_neg c3]

theorem big_get (num : Nat → Nat) (i : Nat) (h : i < 20) : (big num)[i]? = some (num (19 - i)) := by
  unfold big
  rw [List.getElem?_map, List.getElem?_range h]; rfl
theorem big_len (num : Nat → Nat) : (big num).length = 20 := by simp [big]

theorem big_eq (num : Nat → Nat) (ds : List Nat) (h20 : ds.length ≤ 20) (hp : ∀ p, p < 20 → num p = pl ds p) : big num = List.replicate (20 - ds.length) 0 ++ ds := by
  apply List.ext_getElem?
  intro i
  by_cases hi : i < 20
  · rw [big_get num i hi, hp _ (by omega), List.getElem?_append]
    split
    · rename_i h; simp at h
      rw [pl_out _ _ (by omega)]
      rw [List.getElem?_replicate, if_pos (by omega)]
    · rename_i h; simp at h
      rw [List.length_replicate, List.getElem?_eq_getElem (by omega)]
      unfold pl
      rw [List.getD_eq_getElem?_getD, List.getElem?_reverse (by omega), List.getElem?_eq_getElem (by omega)]
      simp only [Option.getD_some, Option.some.injEq]
      congr 1; omega
  · rw [List.getElem?_eq_none (by rw [big_len]; omega), List.getElem?_eq_none (by simp; omega)]

theorem strip_zeros (k : Nat) (l : List Nat) : strip (List.replicate k 0 ++ l) = strip l := by
  unfold strip
  induction k with
  | zero => simp
  | succ k ih => rw [List.replicate_succ, List.cons_append, List.dropWhile_cons, if_pos (by rfl), ih]
theorem strip_self {l : List Nat} (h : l.head? ≠ some 0) : strip l = l := by
  cases l with
  | nil => rfl
  | cons a l =>
    have : a ≠ 0 := by simpa using h
    unfold strip
    rw [List.dropWhile_cons, if_neg (by simpa using this)]

theorem DS.head {ds : List Nat} (h : DS ds) (h0 : ds ≠ [0]) : ds.head? ≠ some 0 := fun e => h0 (h.2.2.2 e)

/-- What is written with units is read with units. -/
theorem readU_units (h : Nat → Nat → List Int) (hg : Good h) (ds : List Nat) (hd : DS ds) (h0 : ds ≠ [0]) : readU (units h false ds) = some ds := by
  obtain ⟨s', hs', hp⟩ := key h hg ds false st0 hd.1 hd.2.1 hd.2.2.1 rfl (fun _ _ _ => rfl) (fun _ _ => rfl) (fun _ => rfl)
  unfold readU
  rw [hs']
  simp only [Option.map_some]
  rw [big_eq _ ds hd.2.1 (fun p hpp => by
    rw [hp p hpp]
    split
    · rfl
    · rename_i hx; rw [pl_out _ _ (by omega)]; split <;> rfl), strip_zeros, strip_self (hd.head h0)]

theorem posC_map (ds : List Nat) : posC ds = ds.map pd := by
  unfold posC
  induction ds with
  | nil => rfl
  | cons d ds ih => unfold eachS; rw [ih]; rfl
theorem ascC_map (ds : List Nat) : ascC ds = ds.map fun d : Nat => (48 + d : Int) := by
  unfold ascC
  induction ds with
  | nil => rfl
  | cons d ds ih => unfold eachS; rw [ih]; rfl
theorem wideC_map (ds : List Nat) : wideC ds = ds.map fun d : Nat => (65296 + d : Int) := by
  unfold wideC
  induction ds with
  | nil => rfl
  | cons d ds ih => unfold eachS; rw [ih]; rfl

theorem readE_pos (ds : List Nat) (hd : ∀ d ∈ ds, d ≤ 9) : readE (posC ds) = some ds := by
  rw [posC_map]
  induction ds with
  | nil => rfl
  | cons d ds ih =>
    show readE (pd d :: ds.map pd) = _
    unfold readE
    rw [dgt_pd d (hd d (by simp)), ih (fun x hx => hd x (by simp [hx]))]; rfl

/-- What a number is written as by one of the three. -/
def Wr (ds : List Nat) (cs : List Int) : Prop := cs = kanjiC ds ∨ cs = posC ds ∨ cs = formC ds

theorem zero_read : readE [38646] = some [0] := by decide

/-- What is written is read in one of the two ways. -/
theorem complete {ds : List Nat} {cs : List Int} (hd : DS ds) (h : Wr ds cs) : readE cs = some ds ∨ readU cs = some ds := by
  by_cases h0 : ds = [0]
  · subst h0
    left
    rcases h with h | h | h <;> subst h <;> decide
  · rcases h with h | h | h
    · right; subst h; unfold kanjiC; rw [if_neg h0]; exact readU_units kp good_kp ds hd h0
    · left; subst h; exact readE_pos ds hd.2.2.1
    · right; subst h; unfold formC; rw [if_neg h0]; exact readU_units fp good_fp ds hd h0

/-- Digits read with units: the last one alone counts. -/
theorem run_digits (s : St) (ds : List Nat) (hd : ∀ d ∈ ds, d ≤ 9) (h0 : ds ≠ []) : run s (ds.map pd) = some (s.1, s.2.1, ds.getLast h0) := by
  induction ds generalizing s with
  | nil => exact absurd rfl h0
  | cons d ds ih =>
    rw [List.map_cons, run_cons_some (step_pd s d (hd d (by simp)))]
    by_cases e : ds = []
    · subst e; rfl
    · rw [ih _ (fun x hx => hd x (by simp [hx])) e, List.getLast_cons e]

theorem readU_digits (ds : List Nat) (hd : ∀ d ∈ ds, d ≤ 9) (h0 : ds ≠ []) : readU (ds.map pd) = some (if ds.getLast h0 = 0 then [] else [ds.getLast h0]) := by
  unfold readU
  rw [run_digits st0 ds hd h0]
  simp only [Option.map_some, Option.some.injEq]
  obtain ⟨x, hx⟩ : ∃ x, ds.getLast h0 = x := ⟨_, rfl⟩
  rw [hx]
  have e : big (endG (st0.1, st0.2.1, x) 0).1 = List.replicate 19 0 ++ [x] := by
    have : (endG (st0.1, st0.2.1, x) 0).1 = fun i => if i = 0 then x else 0 := by
      funext i
      simp only [endG, st0]
      by_cases e : i = 0
      · subst e; simp
      · rw [if_neg e]; split
        · rw [if_neg (by omega)]
        · rfl
    rw [this]; rfl
  rw [e, strip_zeros]
  split
  · rename_i h; subst h; rfl
  · rename_i h; exact strip_self (by simpa using h)

theorem pd_inj : ∀ a, a ≤ 9 → ∀ b, b ≤ 9 → (pd a = pd b ∨ pd a = fd b) → a = b := by decide
theorem pd_38646 : ∀ a, a ≤ 9 → pd a ≠ 38646 := by decide

/-- Of units and digits. -/
theorem pos_units {a b : List Nat} (ha : DS a) (hb : DS b) (h : Nat → Nat → List Int) (hg : Good h) (hh : ∀ d, d ≤ 9 → h d 0 = [pd d] ∨ h d 0 = [fd d]) (h0 : b ≠ [0]) (e : posC a = units h false b) : a = b := by
  have ha0 : a ≠ [] := by intro e; rw [e] at ha; exact absurd ha.1 (by simp)
  have r := readU_units h hg b hb h0
  rw [← e, posC_map, readU_digits a ha.2.2.1 ha0] at r
  have r := Option.some.inj r
  split at r
  · rw [← r] at hb; exact absurd hb.1 (by simp)
  · obtain ⟨x, hx⟩ : ∃ x, a.getLast ha0 = x := ⟨_, rfl⟩
    rw [hx] at r
    subst r
    have hx9 : x ≤ 9 := hb.2.2.1 x (by simp)
    have hxn : x ≠ 0 := fun e => h0 (by rw [e])
    have e2 : units h false [x] = h x 0 := by simp [units, eachS, uo, hxn, gu]
    rw [e2, posC_map] at e
    match a, ha0 with
    | [y], _ =>
      simp at hx
      subst hx; rfl
    | y :: z :: t, _ =>
      rcases hh x hx9 with e3 | e3 <;> rw [e3] at e <;> simp at e

theorem kp0 : ∀ d, d ≤ 9 → kp d 0 = [pd d] ∨ kp d 0 = [fd d] := by decide
theorem fp0 : ∀ d, d ≤ 9 → fp d 0 = [pd d] ∨ fp d 0 = [fd d] := by decide

theorem units_zero_no {b : List Nat} (hb : DS b) (h : Nat → Nat → List Int) (hg : Good h) (h0 : b ≠ [0]) : units h false b ≠ [38646] := by
  intro e
  have r := readU_units h hg b hb h0
  rw [e] at r
  have : readU [38646] = some [] := by decide
  rw [this] at r
  have := Option.some.inj r
  rw [← this] at hb; exact absurd hb.1 (by simp)

theorem pos_zero_no {a : List Nat} (ha : DS a) : posC a ≠ [38646] := by
  intro e
  rw [posC_map] at e
  match a, ha with
  | [x], ha => simp at e; exact pd_38646 x (ha.2.2.1 x (by simp)) e
  | [], ha => simp at e
  | _ :: _ :: _, _ => simp at e

/-- No two numbers are written alike. -/
theorem unique {a b : List Nat} {cs : List Int} (ha : DS a) (hb : DS b) (h1 : Wr a cs) (h2 : Wr b cs) : a = b := by
  have split1 : ∀ {x : List Nat}, DS x → Wr x cs → (x = [0] ∧ cs = [38646]) ∨ cs = posC x ∨ (x ≠ [0] ∧ ∃ h, Good h ∧ (∀ d, d ≤ 9 → h d 0 = [pd d] ∨ h d 0 = [fd d]) ∧ cs = units h false x) := by
    intro x hx h
    by_cases h0 : x = [0]
    · subst h0
      rcases h with h | h | h
      · exact .inl ⟨rfl, h⟩
      · exact .inr (.inl h)
      · exact .inl ⟨rfl, h⟩
    · rcases h with h | h | h
      · unfold kanjiC at h; rw [if_neg h0] at h; exact .inr (.inr ⟨h0, kp, good_kp, kp0, h⟩)
      · exact .inr (.inl h)
      · unfold formC at h; rw [if_neg h0] at h; exact .inr (.inr ⟨h0, fp, good_fp, fp0, h⟩)
  rcases split1 ha h1 with ⟨ea, ec⟩ | ec | ⟨a0, h, hg, hh, ec⟩ <;> rcases split1 hb h2 with ⟨eb, ed⟩ | ed | ⟨b0, k, kg, kk, ed⟩
  · rw [ea, eb]
  · exact absurd (ed.symm.trans ec) (pos_zero_no hb)
  · exact absurd (ed.symm.trans ec) (units_zero_no hb k kg b0)
  · exact absurd (ec.symm.trans ed) (pos_zero_no ha)
  · have r1 := readE_pos a ha.2.2.1
    have r2 := readE_pos b hb.2.2.1
    rw [← ec] at r1; rw [← ed, r1] at r2; exact Option.some.inj r2
  · exact pos_units ha hb k kg kk b0 (ec.symm.trans ed)
  · exact absurd (ec.symm.trans ed) (units_zero_no ha h hg a0)
  · exact (pos_units hb ha h hg hh a0 (ed.symm.trans ec)).symm
  · have r1 := readU_units h hg a ha a0
    have r2 := readU_units k kg b hb b0
    rw [← ec] at r1; rw [← ed, r1] at r2; exact Option.some.inj r2

end Go.Proofs.YteelmjmiankflaaGreatDoor.Num
