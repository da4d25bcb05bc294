/-
  Plain facts about UTF-8 codes, on lists of bytes: the code of a character, the first character of a list, all characters of a list. No program is named here.
-/
import Derived.Laws.Runes
import Derived.Laws.RangeAny
namespace Go.Proofs.Ytmbccolkgephgaa.Utf
open Go

/-- The code of a character. -/
def enc (c : Int) : List UInt8 := (Utf8.encode c).data.toList
def encs (cs : List Int) : List UInt8 := cs.flatMap enc

def bt (l : List UInt8) (k : Nat) : Nat := (l.getD k 0).toNat

/-- The model's decoder, on a list. -/
def decL (l : List UInt8) : Nat × Nat :=
  let cont (k : Nat) : Bool := k < l.length && bt l k / 64 == 2
  let b0 := bt l 0
  if b0 < 0x80 then (b0, 1)
  else if b0 / 32 == 6 && cont 1 then
    let c := (b0 % 32) * 64 + bt l 1 % 64
    if c ≥ 0x80 then (c, 2) else (65533, 1)
  else if b0 / 16 == 14 && cont 1 && cont 2 then
    let c := (b0 % 16) * 4096 + (bt l 1 % 64) * 64 + bt l 2 % 64
    if c ≥ 0x800 && Utf8.valid c then (c, 3) else (65533, 1)
  else if b0 / 8 == 30 && cont 1 && cont 2 && cont 3 then
    let c := (b0 % 8) * 262144 + (bt l 1 % 64) * 4096 + (bt l 2 % 64) * 64 + bt l 3 % 64
    if c ≥ 0x10000 && Utf8.valid c then (c, 4) else (65533, 1)
  else (65533, 1)

theorem get_drop (s : ByteArray) (i k : Nat) : s.get! (i + k) = (s.data.toList.drop i).getD k 0 := by
  show s.data[i + k]! = _
  rw [getElem!_def, List.getD_eq_getElem?_getD, List.getElem?_drop]
  simp only [Array.getElem?_toList]
  cases s.data[i + k]? <;> rfl

theorem decode_eq (s : ByteArray) (i : Nat) (h : i ≤ s.size) : Utf8.decode s i = decL (s.data.toList.drop i) := by
  have hs : ∀ k, (decide (i + k < s.size)) = decide (k < (s.data.toList.drop i).length) := by
    intro k
    have : (s.data.toList.drop i).length = s.size - i := by rw [List.length_drop, Array.length_toList]; rfl
    rw [this]
    by_cases hk : i + k < s.size
    · rw [decide_eq_true hk, decide_eq_true (by omega)]
    · rw [decide_eq_false hk, decide_eq_false (by omega)]
  unfold Utf8.decode decL bt
  simp only [get_drop, hs, Utf8.runeError]

/-- The first character of a list of bytes, and how many bytes its code has. -/
def dec1 (l : List UInt8) : Option (Int × Nat) :=
  if l = [] then none else if decL l = (65533, 1) then none else some (((decL l).1 : Int), (decL l).2)

theorem bt_lt (l : List UInt8) (k : Nat) : bt l k < 256 := (l.getD k 0).toNat_lt
theorem bt_cons0 (b : UInt8) (l : List UInt8) : bt (b :: l) 0 = b.toNat := rfl
theorem bt_succ (b : UInt8) (l : List UInt8) (k : Nat) : bt (b :: l) (k + 1) = bt l k := by simp [bt]

theorem valid_iff (c : Int) : validRune c = true ↔ (0 ≤ c ∧ c < 55296) ∨ (57343 < c ∧ c ≤ 1114111) := by simp [validRune]

/-- The four forms of a code. -/
theorem enc_forms (c : Int) (h : validRune c = true) :
    (c < 128 ∧ enc c = [UInt8.ofNat c.toNat]) ∨
    (128 ≤ c ∧ c < 2048 ∧ enc c = [UInt8.ofNat (192 + c.toNat / 64), UInt8.ofNat (128 + c.toNat % 64)]) ∨
    (2048 ≤ c ∧ c < 65536 ∧ enc c = [UInt8.ofNat (224 + c.toNat / 4096), UInt8.ofNat (128 + c.toNat / 64 % 64), UInt8.ofNat (128 + c.toNat % 64)]) ∨
    (65536 ≤ c ∧ c ≤ 1114111 ∧ enc c = [UInt8.ofNat (240 + c.toNat / 262144), UInt8.ofNat (128 + c.toNat / 4096 % 64), UInt8.ofNat (128 + c.toNat / 64 % 64), UInt8.ofNat (128 + c.toNat % 64)]) := by
  have hv := (valid_iff c).1 h
  have hu : Utf8.valid c = true := by rw [validRune_eq]; exact h
  unfold enc Utf8.encode
  simp only [hu, if_true]
  by_cases h1 : c.toNat < 128
  · left; exact ⟨by omega, by rw [if_pos h1]⟩
  · right
    by_cases h2 : c.toNat < 2048
    · left; exact ⟨by omega, by omega, by rw [if_neg h1, if_pos h2]⟩
    · right
      by_cases h3 : c.toNat < 65536
      · left; exact ⟨by omega, by omega, by rw [if_neg h1, if_neg h2, if_pos h3]⟩
      · right; exact ⟨by omega, by omega, by rw [if_neg h1, if_neg h2, if_neg h3]⟩

theorem enc_len (c : Int) (h : validRune c = true) : 1 ≤ (enc c).length ∧ (enc c).length ≤ 4 := by
  rcases enc_forms c h with ⟨_, e⟩ | ⟨_, _, e⟩ | ⟨_, _, e⟩ | ⟨_, _, e⟩ <;> rw [e] <;> simp

theorem toNat_ofNat (n : Nat) (h : n < 256) : (UInt8.ofNat n).toNat = n := by
  rw [UInt8.toNat_ofNat']; exact Nat.mod_eq_of_lt h

theorem decL_enc (c : Int) (h : validRune c = true) (t : List UInt8) : decL (enc c ++ t) = (c.toNat, (enc c).length) := by
  have hv := (valid_iff c).1 h
  have hu : Utf8.valid ((c.toNat : Nat) : Int) = true := by rw [validRune_eq, Int.toNat_of_nonneg (by omega)]; exact h
  rcases enc_forms c h with ⟨h1, e⟩ | ⟨h1, h2, e⟩ | ⟨h1, h2, e⟩ | ⟨h1, h2, e⟩ <;> rw [e]
  · have b0 : bt ([UInt8.ofNat c.toNat] ++ t) 0 = c.toNat := toNat_ofNat _ (by omega)
    simp only [decL, b0]
    rw [if_pos (by omega)]; rfl
  · have b0 : bt ([UInt8.ofNat (192 + c.toNat / 64), UInt8.ofNat (128 + c.toNat % 64)] ++ t) 0 = 192 + c.toNat / 64 := toNat_ofNat _ (by omega)
    have b1 : bt ([UInt8.ofNat (192 + c.toNat / 64), UInt8.ofNat (128 + c.toNat % 64)] ++ t) 1 = 128 + c.toNat % 64 := toNat_ofNat _ (by omega)
    simp only [decL, b0, b1]
    rw [if_neg (by omega), if_pos (by simp; omega), if_pos (by omega)]
    simp; omega
  · have b0 : bt ([UInt8.ofNat (224 + c.toNat / 4096), UInt8.ofNat (128 + c.toNat / 64 % 64), UInt8.ofNat (128 + c.toNat % 64)] ++ t) 0 = 224 + c.toNat / 4096 := toNat_ofNat _ (by omega)
    have b1 : bt ([UInt8.ofNat (224 + c.toNat / 4096), UInt8.ofNat (128 + c.toNat / 64 % 64), UInt8.ofNat (128 + c.toNat % 64)] ++ t) 1 = 128 + c.toNat / 64 % 64 := toNat_ofNat _ (by omega)
    have b2 : bt ([UInt8.ofNat (224 + c.toNat / 4096), UInt8.ofNat (128 + c.toNat / 64 % 64), UInt8.ofNat (128 + c.toNat % 64)] ++ t) 2 = 128 + c.toNat % 64 := toNat_ofNat _ (by omega)
    have ec : ((224 + c.toNat / 4096) % 16) * 4096 + ((128 + c.toNat / 64 % 64) % 64) * 64 + (128 + c.toNat % 64) % 64 = c.toNat := by omega
    simp only [decL, b0, b1, b2, ec, hu]
    rw [if_neg (by omega), if_neg (by simp; omega), if_pos (by simp; omega), if_pos (by simp; omega)]
    rfl
  · have b0 : bt ([UInt8.ofNat (240 + c.toNat / 262144), UInt8.ofNat (128 + c.toNat / 4096 % 64), UInt8.ofNat (128 + c.toNat / 64 % 64), UInt8.ofNat (128 + c.toNat % 64)] ++ t) 0 = 240 + c.toNat / 262144 := toNat_ofNat _ (by omega)
    have b1 : bt ([UInt8.ofNat (240 + c.toNat / 262144), UInt8.ofNat (128 + c.toNat / 4096 % 64), UInt8.ofNat (128 + c.toNat / 64 % 64), UInt8.ofNat (128 + c.toNat % 64)] ++ t) 1 = 128 + c.toNat / 4096 % 64 := toNat_ofNat _ (by omega)
    have b2 : bt ([UInt8.ofNat (240 + c.toNat / 262144), UInt8.ofNat (128 + c.toNat / 4096 % 64), UInt8.ofNat (128 + c.toNat / 64 % 64), UInt8.ofNat (128 + c.toNat % 64)] ++ t) 2 = 128 + c.toNat / 64 % 64 := toNat_ofNat _ (by omega)
    have b3 : bt ([UInt8.ofNat (240 + c.toNat / 262144), UInt8.ofNat (128 + c.toNat / 4096 % 64), UInt8.ofNat (128 + c.toNat / 64 % 64), UInt8.ofNat (128 + c.toNat % 64)] ++ t) 3 = 128 + c.toNat % 64 := toNat_ofNat _ (by omega)
    have ec : ((240 + c.toNat / 262144) % 8) * 262144 + ((128 + c.toNat / 4096 % 64) % 64) * 4096 + ((128 + c.toNat / 64 % 64) % 64) * 64 + (128 + c.toNat % 64) % 64 = c.toNat := by omega
    simp only [decL, b0, b1, b2, b3, ec, hu]
    rw [if_neg (by omega), if_neg (by simp; omega), if_neg (by simp; omega), if_pos (by simp; omega), if_pos (by simp; omega)]
    rfl

theorem dec1_enc (c : Int) (h : validRune c = true) (t : List UInt8) : dec1 (enc c ++ t) = some (c, (enc c).length) := by
  have hv := (valid_iff c).1 h
  have hl := enc_len c h
  unfold dec1
  rw [if_neg (by intro e; have := congrArg List.length e; simp at this; simp [this.1] at hl), decL_enc c h t]
  rw [if_neg (by
    intro e
    have e1 : c.toNat = 65533 := (Prod.mk.inj e).1
    have e2 : (enc c).length = 1 := (Prod.mk.inj e).2
    have : c = 65533 := by omega
    subst this
    revert e2; decide)]
  show some ((c.toNat : Int), _) = _
  rw [Int.toNat_of_nonneg (by omega)]

/-- The first bytes of a list. -/
theorem eq1 {l : List UInt8} (h : 0 < l.length) : l = UInt8.ofNat (bt l 0) :: l.drop 1 := by
  cases l with
  | nil => simp at h
  | cons a t => simp [bt]
theorem drop_bt {l : List UInt8} {k : Nat} (h : k < l.length) : l.drop k = UInt8.ofNat (bt l k) :: l.drop (k + 1) := by
  rw [List.drop_eq_getElem_cons h]
  congr 1
  simp [bt, List.getElem?_eq_getElem h]

theorem dec1_some {l : List UInt8} {c : Int} {n : Nat} (h : dec1 l = some (c, n)) : validRune c = true ∧ n = (enc c).length ∧ l = enc c ++ l.drop n := by
  unfold dec1 at h
  split at h
  · cases h
  · rename_i hl
    have hl : 0 < l.length := List.length_pos_iff.2 hl
    split at h
    · cases h
    · rename_i hne
      have h := Option.some.inj h
      obtain ⟨rfl, rfl⟩ := Prod.mk.inj h
      have hv : ∀ c : Nat, validRune (c : Int) = true → (validRune ((c : Nat) : Int) = true) := fun _ h => h
      have q0 := bt_lt l 0; have q1 := bt_lt l 1; have q2 := bt_lt l 2; have q3 := bt_lt l 3
      simp only [decL] at hne ⊢
      by_cases h0 : bt l 0 < 128
      · simp only [if_pos h0]
        have hv : validRune ((bt l 0 : Nat) : Int) = true := (valid_iff _).2 (by omega)
        refine ⟨hv, ?_⟩
        rcases enc_forms _ hv with ⟨a, e⟩ | ⟨a, b, e⟩ | ⟨a, b, e⟩ | ⟨a, b, e⟩ <;> first | omega | skip
        rw [e]
        refine ⟨rfl, ?_⟩
        have e0 := drop_bt (l := l) (k := 0) hl
        simpa using e0
      · simp only [if_neg h0] at hne ⊢
        by_cases g1 : (bt l 0 / 32 == 6 && (decide (1 < l.length) && bt l 1 / 64 == 2)) = true
        · simp only [if_pos g1] at hne ⊢
          simp at g1
          by_cases k1 : 128 ≤ bt l 0 % 32 * 64 + bt l 1 % 64
          · simp only [ge_iff_le, if_pos k1]
            have hv : validRune ((bt l 0 % 32 * 64 + bt l 1 % 64 : Nat) : Int) = true := (valid_iff _).2 (by omega)
            refine ⟨hv, ?_⟩
            rcases enc_forms _ hv with ⟨a, e⟩ | ⟨a, b, e⟩ | ⟨a, b, e⟩ | ⟨a, b, e⟩ <;> first | omega | skip
            rw [e]
            refine ⟨rfl, ?_⟩
            have e0 := drop_bt (l := l) (k := 0) hl
            have e1 := drop_bt (l := l) (k := 1) g1.2.1
            have f0 : 192 + (bt l 0 % 32 * 64 + bt l 1 % 64) / 64 = bt l 0 := by omega
            have f1 : 128 + (bt l 0 % 32 * 64 + bt l 1 % 64) % 64 = bt l 1 := by omega
            simp only [Int.toNat_natCast, f0, f1]
            simp only [List.drop_zero] at e0
            rw [e1] at e0
            simpa using e0
          · simp only [ge_iff_le, if_neg k1] at hne
            exact absurd trivial hne
        · simp only [if_neg g1] at hne ⊢
          by_cases g2 : (bt l 0 / 16 == 14 && (decide (1 < l.length) && bt l 1 / 64 == 2) && (decide (2 < l.length) && bt l 2 / 64 == 2)) = true
          · simp only [if_pos g2] at hne ⊢
            simp at g2
            by_cases k1 : (decide (bt l 0 % 16 * 4096 + bt l 1 % 64 * 64 + bt l 2 % 64 ≥ 2048) && Utf8.valid ((bt l 0 % 16 * 4096 + bt l 1 % 64 * 64 + bt l 2 % 64 : Nat) : Int)) = true
            · simp only [if_pos k1]
              simp only [Bool.and_eq_true, decide_eq_true_eq] at k1
              have hv : validRune ((bt l 0 % 16 * 4096 + bt l 1 % 64 * 64 + bt l 2 % 64 : Nat) : Int) = true := by rw [← validRune_eq]; exact k1.2
              refine ⟨hv, ?_⟩
              have hvv := (valid_iff _).1 hv
              rcases enc_forms _ hv with ⟨a, e⟩ | ⟨a, b, e⟩ | ⟨a, b, e⟩ | ⟨a, b, e⟩ <;> first | omega | skip
              rw [e]
              refine ⟨rfl, ?_⟩
              have e0 := drop_bt (l := l) (k := 0) hl
              have e1 := drop_bt (l := l) (k := 1) g2.1.2.1
              have e2 := drop_bt (l := l) (k := 2) g2.2.1
              have f0 : 224 + (bt l 0 % 16 * 4096 + bt l 1 % 64 * 64 + bt l 2 % 64) / 4096 = bt l 0 := by omega
              have f1 : 128 + (bt l 0 % 16 * 4096 + bt l 1 % 64 * 64 + bt l 2 % 64) / 64 % 64 = bt l 1 := by omega
              have f2 : 128 + (bt l 0 % 16 * 4096 + bt l 1 % 64 * 64 + bt l 2 % 64) % 64 = bt l 2 := by omega
              simp only [Int.toNat_natCast, f0, f1, f2]
              simp only [List.drop_zero] at e0
              rw [e1, e2] at e0
              simpa using e0
            · simp only [if_neg k1] at hne
              exact absurd trivial hne
          · simp only [if_neg g2] at hne ⊢
            by_cases g3 : (bt l 0 / 8 == 30 && (decide (1 < l.length) && bt l 1 / 64 == 2) && (decide (2 < l.length) && bt l 2 / 64 == 2) && (decide (3 < l.length) && bt l 3 / 64 == 2)) = true
            · simp only [if_pos g3] at hne ⊢
              simp at g3
              by_cases k1 : (decide (bt l 0 % 8 * 262144 + bt l 1 % 64 * 4096 + bt l 2 % 64 * 64 + bt l 3 % 64 ≥ 65536) && Utf8.valid ((bt l 0 % 8 * 262144 + bt l 1 % 64 * 4096 + bt l 2 % 64 * 64 + bt l 3 % 64 : Nat) : Int)) = true
              · simp only [if_pos k1]
                simp only [Bool.and_eq_true, decide_eq_true_eq] at k1
                have hv : validRune ((bt l 0 % 8 * 262144 + bt l 1 % 64 * 4096 + bt l 2 % 64 * 64 + bt l 3 % 64 : Nat) : Int) = true := by rw [← validRune_eq]; exact k1.2
                refine ⟨hv, ?_⟩
                have hvv := (valid_iff _).1 hv
                rcases enc_forms _ hv with ⟨a, e⟩ | ⟨a, b, e⟩ | ⟨a, b, e⟩ | ⟨a, b, e⟩ <;> first | omega | skip
                rw [e]
                refine ⟨rfl, ?_⟩
                have e0 := drop_bt (l := l) (k := 0) hl
                have e1 := drop_bt (l := l) (k := 1) g3.1.1.2.1
                have e2 := drop_bt (l := l) (k := 2) g3.1.2.1
                have e3 := drop_bt (l := l) (k := 3) g3.2.1
                have f0 : 240 + (bt l 0 % 8 * 262144 + bt l 1 % 64 * 4096 + bt l 2 % 64 * 64 + bt l 3 % 64) / 262144 = bt l 0 := by omega
                have f1 : 128 + (bt l 0 % 8 * 262144 + bt l 1 % 64 * 4096 + bt l 2 % 64 * 64 + bt l 3 % 64) / 4096 % 64 = bt l 1 := by omega
                have f2 : 128 + (bt l 0 % 8 * 262144 + bt l 1 % 64 * 4096 + bt l 2 % 64 * 64 + bt l 3 % 64) / 64 % 64 = bt l 2 := by omega
                have f3 : 128 + (bt l 0 % 8 * 262144 + bt l 1 % 64 * 4096 + bt l 2 % 64 * 64 + bt l 3 % 64) % 64 = bt l 3 := by omega
                simp only [Int.toNat_natCast, f0, f1, f2, f3]
                simp only [List.drop_zero] at e0
                rw [e1, e2, e3] at e0
                simpa using e0
              · simp only [if_neg k1] at hne
                exact absurd trivial hne
            · simp only [if_neg g3] at hne
              exact absurd trivial hne

theorem dec1_pos {l : List UInt8} {c : Int} {n : Nat} (h : dec1 l = some (c, n)) : 1 ≤ n ∧ n ≤ l.length := by
  obtain ⟨hv, hn, hl⟩ := dec1_some h
  have := enc_len c hv
  have h2 := congrArg List.length hl
  simp at h2
  omega

/-- The characters of a list of bytes. -/
def charsF : Nat → List UInt8 → Option (List Int)
  | 0, l => if l = [] then some [] else none
  | f + 1, l => if l = [] then some [] else match dec1 l with
    | none => none
    | some (c, n) => (charsF f (l.drop n)).map (c :: ·)
def chars (l : List UInt8) : Option (List Int) := charsF l.length l

theorem charsF_enough : ∀ (f g : Nat) (l : List UInt8), l.length ≤ f → l.length ≤ g → charsF f l = charsF g l := by
  intro f
  induction f with
  | zero =>
    intro g l h _
    have : l = [] := List.eq_nil_of_length_eq_zero (by omega)
    subst this
    cases g <;> simp [charsF]
  | succ f ih =>
    intro g l h hg
    cases g with
    | zero =>
      have : l = [] := List.eq_nil_of_length_eq_zero (by omega)
      subst this
      simp [charsF]
    | succ g =>
      unfold charsF
      by_cases hl : l = []
      · simp [hl]
      · rw [if_neg hl, if_neg hl]
        cases hd : dec1 l with
        | none => rfl
        | some p =>
          obtain ⟨c, n⟩ := p
          have hp := dec1_pos hd
          simp only
          rw [ih g (l.drop n) (by simp; omega) (by simp; omega)]

theorem chars_nil : chars [] = some [] := rfl
theorem chars_bad {l : List UInt8} (hl : l ≠ []) (h : dec1 l = none) : chars l = none := by
  unfold chars
  cases l with
  | nil => exact absurd rfl hl
  | cons a t => simp [charsF, h]
theorem chars_step {l : List UInt8} {c : Int} {n : Nat} (h : dec1 l = some (c, n)) : chars l = (chars (l.drop n)).map (c :: ·) := by
  have hp := dec1_pos h
  unfold chars
  cases l with
  | nil => simp at hp; omega
  | cons a t =>
    show charsF (t.length + 1) (a :: t) = _
    simp only [charsF, h]
    rw [charsF_enough t.length ((a :: t).drop n).length _ (by simp; omega) (Nat.le_refl _)]
    simp

theorem chars_enc {c : Int} (h : validRune c = true) (t : List UInt8) : chars (enc c ++ t) = (chars t).map (c :: ·) := by
  rw [chars_step (dec1_enc c h t)]; simp

theorem chars_encs_append {cs : List Int} (h : ∀ c ∈ cs, validRune c = true) (t : List UInt8) : chars (encs cs ++ t) = (chars t).map (cs ++ ·) := by
  induction cs with
  | nil => simp [encs]
  | cons c cs ih =>
    have : encs (c :: cs) ++ t = enc c ++ (encs cs ++ t) := by simp [encs]
    rw [this, chars_enc (h c (by simp)), ih (fun x hx => h x (by simp [hx]))]
    cases chars t <;> simp

theorem chars_encs {cs : List Int} (h : ∀ c ∈ cs, validRune c = true) : chars (encs cs) = some cs := by
  have := chars_encs_append h []
  simpa [chars_nil] using this

theorem chars_some_aux : ∀ (f : Nat) (l : List UInt8) (cs : List Int), l.length ≤ f → chars l = some cs → (∀ c ∈ cs, validRune c = true) ∧ l = encs cs := by
  intro f
  induction f with
  | zero =>
    intro l cs h hc
    have : l = [] := List.eq_nil_of_length_eq_zero (by omega)
    subst this
    rw [chars_nil] at hc
    obtain rfl := Option.some.inj hc
    exact ⟨by simp, rfl⟩
  | succ f ih =>
    intro l cs h hc
    by_cases hl : l = []
    · subst hl
      rw [chars_nil] at hc
      obtain rfl := Option.some.inj hc
      exact ⟨by simp, rfl⟩
    · cases hd : dec1 l with
      | none => rw [chars_bad hl hd] at hc; cases hc
      | some p =>
        obtain ⟨c, n⟩ := p
        have hp := dec1_pos hd
        obtain ⟨hv, hn, hle⟩ := dec1_some hd
        rw [chars_step hd] at hc
        cases hr : chars (l.drop n) with
        | none => rw [hr] at hc; cases hc
        | some ds =>
          rw [hr] at hc
          have := Option.some.inj hc
          subst this
          obtain ⟨h1, h2⟩ := ih (l.drop n) ds (by simp; omega) hr
          refine ⟨?_, ?_⟩
          · intro x hx
            rcases List.mem_cons.1 hx with rfl | hx
            · exact hv
            · exact h1 x hx
          · show l = enc c ++ encs ds
            rw [← h2]; exact hle

theorem chars_some {l : List UInt8} {cs : List Int} (h : chars l = some cs) : (∀ c ∈ cs, validRune c = true) ∧ l = encs cs := chars_some_aux _ l cs (Nat.le_refl _) h

theorem encs_length_ge {cs : List Int} (h : ∀ c ∈ cs, validRune c = true) : cs.length ≤ (encs cs).length := by
  induction cs with
  | nil => simp
  | cons c cs ih =>
    have h1 := enc_len c (h c (by simp))
    have h2 := ih (fun x hx => h x (by simp [hx]))
    simp only [encs, List.flatMap_cons, List.length_append, List.length_cons] at h2 ⊢
    omega

theorem encs_length_le {cs : List Int} (h : ∀ c ∈ cs, validRune c = true) : (encs cs).length ≤ 4 * cs.length := by
  induction cs with
  | nil => simp [encs]
  | cons c cs ih =>
    have h1 := enc_len c (h c (by simp))
    have h2 := ih (fun x hx => h x (by simp [hx]))
    simp only [encs, List.flatMap_cons, List.length_append, List.length_cons] at h2 ⊢
    omega

theorem encs_append (a b : List Int) : encs (a ++ b) = encs a ++ encs b := by simp [encs]
theorem encs_cons (a : Int) (b : List Int) : encs (a :: b) = enc a ++ encs b := by simp [encs]

end Go.Proofs.Ytmbccolkgephgaa.Utf
