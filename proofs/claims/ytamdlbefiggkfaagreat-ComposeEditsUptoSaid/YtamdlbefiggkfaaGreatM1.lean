/-
  Joined texts: UtfMath, UtfMathC, Kit, UtfS, RomMath, Shelf.
-/
import Derived.Laws.Runes
import Derived.Laws.RangeAny
import GoSem.Op.String
import Derived.WalkKit
import Derived.ProofKit
import Derived.Handy
import Derived.WalkLawsBesides
import Derived.WalkSpells
import Derived.WalkSmall
import Derived.Lib.Hide
import Derived.Lib.Strings
import Derived.Laws.Cover4
import Derived.Lib.OthersKept
import Derived.Deep.QuietTactic
import Derived.BigQuiet
import Derived.Laws.AppendOwnNone
import Derived.Lib.AppendStr
import Derived.Outline
import Derived.Shelf.Strings.Builder1
import Derived.Shelf.Strings.Builder2
import Derived.Shelf.Strings.OnBuilder
import Derived.Shelf.Small.Utf8
import Derived.Shelf.Small.Bits
import Derived.Shelf.Small.Strs
import Derived.Shelf.Strings.BuilderF
import Derived.Shelf.Strings.BuilderK
import Derived.Shelf.Strings.Builder2Cap
import Derived.Shelf.Strconv.Itoa0
import Derived.Shelf.LaysM
import Derived.Shelf.Strconv.Clone
import Derived.Shelf.Strings.Search1
import Derived.Shelf.Strings.Prefix
import Derived.Shelf.Strings.Runes
import Derived.Test.YtamdlbefiggkfaaGreatProg
namespace Go.Proofs.YtamdlbefiggkfaaGreat.Utf
open Go

/-- The code of a character. -/
def enc (c : Int) : List UInt8 := (Utf8.encode c).data.toList
def encs (cs : List Int) : List UInt8 := cs.flatMap enc

def bt (l : List UInt8) (k : Nat) : Nat := (l.getD k 0).toNat

/-- The model's decoder, on a list. -/
def decL (l : List UInt8) : Nat × Nat :=
  let cont (k : Nat) : Bool := k < l.length && bt l k / 64 == 2
  let b0 := bt l 0
  if b0 < 0x80 then (b0, 1)
  else if b0 / 32 == 6 && cont 1 then
    let c := (b0 % 32) * 64 + bt l 1 % 64
    if c ≥ 0x80 then (c, 2) else (65533, 1)
  else if b0 / 16 == 14 && cont 1 && cont 2 then
    let c := (b0 % 16) * 4096 + (bt l 1 % 64) * 64 + bt l 2 % 64
    if c ≥ 0x800 && Utf8.valid c then (c, 3) else (65533, 1)
  else if b0 / 8 == 30 && cont 1 && cont 2 && cont 3 then
    let c := (b0 % 8) * 262144 + (bt l 1 % 64) * 4096 + (bt l 2 % 64) * 64 + bt l 3 % 64
    if c ≥ 0x10000 && Utf8.valid c then (c, 4) else (65533, 1)
  else (65533, 1)

theorem get_drop (s : ByteArray) (i k : Nat) : s.get! (i + k) = (s.data.toList.drop i).getD k 0 := by
  show s.data[i + k]! = _
  rw [getElem!_def, List.getD_eq_getElem?_getD, List.getElem?_drop]
  simp only [Array.getElem?_toList]
  cases s.data[i + k]? <;> rfl

theorem decode_eq (s : ByteArray) (i : Nat) (h : i ≤ s.size) : Utf8.decode s i = decL (s.data.toList.drop i) := by
  have hs : ∀ k, (decide (i + k < s.size)) = decide (k < (s.data.toList.drop i).length) := by
    intro k
    have : (s.data.toList.drop i).length = s.size - i := by rw [List.length_drop, Array.length_toList]; rfl
    rw [this]
    by_cases hk : i + k < s.size
    · rw [decide_eq_true hk, decide_eq_true (by omega)]
    · rw [decide_eq_false hk, decide_eq_false (by omega)]
  unfold Utf8.decode decL bt
  simp only [get_drop, hs, Utf8.runeError]

/-- The first character of a list of bytes, and how many bytes its code has. -/
def dec1 (l : List UInt8) : Option (Int × Nat) :=
  if l = [] then none else if decL l = (65533, 1) then none else some (((decL l).1 : Int), (decL l).2)

theorem bt_lt (l : List UInt8) (k : Nat) : bt l k < 256 := (l.getD k 0).toNat_lt
theorem bt_cons0 (b : UInt8) (l : List UInt8) : bt (b :: l) 0 = b.toNat := rfl
theorem bt_succ (b : UInt8) (l : List UInt8) (k : Nat) : bt (b :: l) (k + 1) = bt l k := by simp [bt]

theorem valid_iff (c : Int) : validRune c = true ↔ (0 ≤ c ∧ c < 55296) ∨ (57343 < c ∧ c ≤ 1114111) := by simp [validRune]

/-- The four forms of a code. -/
theorem enc_forms (c : Int) (h : validRune c = true) :
    (c < 128 ∧ enc c = [UInt8.ofNat c.toNat]) ∨
    (128 ≤ c ∧ c < 2048 ∧ enc c = [UInt8.ofNat (192 + c.toNat / 64), UInt8.ofNat (128 + c.toNat % 64)]) ∨
    (2048 ≤ c ∧ c < 65536 ∧ enc c = [UInt8.ofNat (224 + c.toNat / 4096), UInt8.ofNat (128 + c.toNat / 64 % 64), UInt8.ofNat (128 + c.toNat % 64)]) ∨
    (65536 ≤ c ∧ c ≤ 1114111 ∧ enc c = [UInt8.ofNat (240 + c.toNat / 262144), UInt8.ofNat (128 + c.toNat / 4096 % 64), UInt8.ofNat (128 + c.toNat / 64 % 64), UInt8.ofNat (128 + c.toNat % 64)]) := by
  have hv := (valid_iff c).1 h
  have hu : Utf8.valid c = true := by rw [validRune_eq]; exact h
  unfold enc Utf8.encode
  simp only [hu, if_true]
  by_cases h1 : c.toNat < 128
  · left; exact ⟨by omega, by rw [if_pos h1]⟩
  · right
    by_cases h2 : c.toNat < 2048
    · left; exact ⟨by omega, by omega, by rw [if_neg h1, if_pos h2]⟩
    · right
      by_cases h3 : c.toNat < 65536
      · left; exact ⟨by omega, by omega, by rw [if_neg h1, if_neg h2, if_pos h3]⟩
      · right; exact ⟨by omega, by omega, by rw [if_neg h1, if_neg h2, if_neg h3]⟩

theorem enc_len (c : Int) (h : validRune c = true) : 1 ≤ (enc c).length ∧ (enc c).length ≤ 4 := by
  rcases enc_forms c h with ⟨_, e⟩ | ⟨_, _, e⟩ | ⟨_, _, e⟩ | ⟨_, _, e⟩ <;> rw [e] <;> simp

theorem toNat_ofNat (n : Nat) (h : n < 256) : (UInt8.ofNat n).toNat = n := by
  rw [UInt8.toNat_ofNat']; exact Nat.mod_eq_of_lt h

theorem decL_enc (c : Int) (h : validRune c = true) (t : List UInt8) : decL (enc c ++ t) = (c.toNat, (enc c).length) := by
  have hv := (valid_iff c).1 h
  have hu : Utf8.valid ((c.toNat : Nat) : Int) = true := by rw [validRune_eq, Int.toNat_of_nonneg (by omega)]; exact h
  rcases enc_forms c h with ⟨h1, e⟩ | ⟨h1, h2, e⟩ | ⟨h1, h2, e⟩ | ⟨h1, h2, e⟩ <;> rw [e]
  · have b0 : bt ([UInt8.ofNat c.toNat] ++ t) 0 = c.toNat := toNat_ofNat _ (by omega)
    simp only [decL, b0]
    rw [if_pos (by omega)]; rfl
  · have b0 : bt ([UInt8.ofNat (192 + c.toNat / 64), UInt8.ofNat (128 + c.toNat % 64)] ++ t) 0 = 192 + c.toNat / 64 := toNat_ofNat _ (by omega)
    have b1 : bt ([UInt8.ofNat (192 + c.toNat / 64), UInt8.ofNat (128 + c.toNat % 64)] ++ t) 1 = 128 + c.toNat % 64 := toNat_ofNat _ (by omega)
    simp only [decL, b0, b1]
    rw [if_neg (by omega), if_pos (by simp; omega), if_pos (by omega)]
    simp; omega
  · have b0 : bt ([UInt8.ofNat (224 + c.toNat / 4096), UInt8.ofNat (128 + c.toNat / 64 % 64), UInt8.ofNat (128 + c.toNat % 64)] ++ t) 0 = 224 + c.toNat / 4096 := toNat_ofNat _ (by omega)
    have b1 : bt ([UInt8.ofNat (224 + c.toNat / 4096), UInt8.ofNat (128 + c.toNat / 64 % 64), UInt8.ofNat (128 + c.toNat % 64)] ++ t) 1 = 128 + c.toNat / 64 % 64 := toNat_ofNat _ (by omega)
    have b2 : bt ([UInt8.ofNat (224 + c.toNat / 4096), UInt8.ofNat (128 + c.toNat / 64 % 64), UInt8.ofNat (128 + c.toNat % 64)] ++ t) 2 = 128 + c.toNat % 64 := toNat_ofNat _ (by omega)
    have ec : ((224 + c.toNat / 4096) % 16) * 4096 + ((128 + c.toNat / 64 % 64) % 64) * 64 + (128 + c.toNat % 64) % 64 = c.toNat := by omega
    simp only [decL, b0, b1, b2, ec, hu]
    rw [if_neg (by omega), if_neg (by simp; omega), if_pos (by simp; omega), if_pos (by simp; omega)]
    rfl
  · have b0 : bt ([UInt8.ofNat (240 + c.toNat / 262144), UInt8.ofNat (128 + c.toNat / 4096 % 64), UInt8.ofNat (128 + c.toNat / 64 % 64), UInt8.ofNat (128 + c.toNat % 64)] ++ t) 0 = 240 + c.toNat / 262144 := toNat_ofNat _ (by omega)
    have b1 : bt ([UInt8.ofNat (240 + c.toNat / 262144), UInt8.ofNat (128 + c.toNat / 4096 % 64), UInt8.ofNat (128 + c.toNat / 64 % 64), UInt8.ofNat (128 + c.toNat % 64)] ++ t) 1 = 128 + c.toNat / 4096 % 64 := toNat_ofNat _ (by omega)
    have b2 : bt ([UInt8.ofNat (240 + c.toNat / 262144), UInt8.ofNat (128 + c.toNat / 4096 % 64), UInt8.ofNat (128 + c.toNat / 64 % 64), UInt8.ofNat (128 + c.toNat % 64)] ++ t) 2 = 128 + c.toNat / 64 % 64 := toNat_ofNat _ (by omega)
    have b3 : bt ([UInt8.ofNat (240 + c.toNat / 262144), UInt8.ofNat (128 + c.toNat / 4096 % 64), UInt8.ofNat (128 + c.toNat / 64 % 64), UInt8.ofNat (128 + c.toNat % 64)] ++ t) 3 = 128 + c.toNat % 64 := toNat_ofNat _ (by omega)
    have ec : ((240 + c.toNat / 262144) % 8) * 262144 + ((128 + c.toNat / 4096 % 64) % 64) * 4096 + ((128 + c.toNat / 64 % 64) % 64) * 64 + (128 + c.toNat % 64) % 64 = c.toNat := by omega
    simp only [decL, b0, b1, b2, b3, ec, hu]
    rw [if_neg (by omega), if_neg (by simp; omega), if_neg (by simp; omega), if_pos (by simp; omega), if_pos (by simp; omega)]
    rfl

theorem dec1_enc (c : Int) (h : validRune c = true) (t : List UInt8) : dec1 (enc c ++ t) = some (c, (enc c).length) := by
  have hv := (valid_iff c).1 h
  have hl := enc_len c h
  unfold dec1
  rw [if_neg (by intro e; have := congrArg List.length e; simp at this; simp [this.1] at hl), decL_enc c h t]
  rw [if_neg (by
    intro e
    have e1 : c.toNat = 65533 := (Prod.mk.inj e).1
    have e2 : (enc c).length = 1 := (Prod.mk.inj e).2
    have : c = 65533 := by omega
    subst this
    revert e2; decide)]
  show some ((c.toNat : Int), _) = _
  rw [Int.toNat_of_nonneg (by omega)]

/-- The first bytes of a list. -/
theorem eq1 {l : List UInt8} (h : 0 < l.length) : l = UInt8.ofNat (bt l 0) :: l.drop 1 := by
  cases l with
  | nil => simp at h
  | cons a t => simp [bt]
theorem drop_bt {l : List UInt8} {k : Nat} (h : k < l.length) : l.drop k = UInt8.ofNat (bt l k) :: l.drop (k + 1) := by
  rw [List.drop_eq_getElem_cons h]
  congr 1
  simp [bt, List.getElem?_eq_getElem h]

theorem dec1_some {l : List UInt8} {c : Int} {n : Nat} (h : dec1 l = some (c, n)) : validRune c = true ∧ n = (enc c).length ∧ l = enc c ++ l.drop n := by
  unfold dec1 at h
  split at h
  · cases h
  · rename_i hl
    have hl : 0 < l.length := List.length_pos_iff.2 hl
    split at h
    · cases h
    · rename_i hne
      have h := Option.some.inj h
      obtain ⟨rfl, rfl⟩ := Prod.mk.inj h
      have hv : ∀ c : Nat, validRune (c : Int) = true → (validRune ((c : Nat) : Int) = true) := fun _ h => h
      have q0 := bt_lt l 0; have q1 := bt_lt l 1; have q2 := bt_lt l 2; have q3 := bt_lt l 3
      simp only [decL] at hne ⊢
      by_cases h0 : bt l 0 < 128
      · simp only [if_pos h0]
        have hv : validRune ((bt l 0 : Nat) : Int) = true := (valid_iff _).2 (by omega)
        refine ⟨hv, ?_⟩
        rcases enc_forms _ hv with ⟨a, e⟩ | ⟨a, b, e⟩ | ⟨a, b, e⟩ | ⟨a, b, e⟩ <;> first | omega | skip
        rw [e]
        refine ⟨rfl, ?_⟩
        have e0 := drop_bt (l := l) (k := 0) hl
        simpa using e0
      · simp only [if_neg h0] at hne ⊢
        by_cases g1 : (bt l 0 / 32 == 6 && (decide (1 < l.length) && bt l 1 / 64 == 2)) = true
        · simp only [if_pos g1] at hne ⊢
          simp at g1
          by_cases k1 : 128 ≤ bt l 0 % 32 * 64 + bt l 1 % 64
          · simp only [ge_iff_le, if_pos k1]
            have hv : validRune ((bt l 0 % 32 * 64 + bt l 1 % 64 : Nat) : Int) = true := (valid_iff _).2 (by omega)
            refine ⟨hv, ?_⟩
            rcases enc_forms _ hv with ⟨a, e⟩ | ⟨a, b, e⟩ | ⟨a, b, e⟩ | ⟨a, b, e⟩ <;> first | omega | skip
            rw [e]
            refine ⟨rfl, ?_⟩
            have e0 := drop_bt (l := l) (k := 0) hl
            have e1 := drop_bt (l := l) (k := 1) g1.2.1
            have f0 : 192 + (bt l 0 % 32 * 64 + bt l 1 % 64) / 64 = bt l 0 := by omega
            have f1 : 128 + (bt l 0 % 32 * 64 + bt l 1 % 64) % 64 = bt l 1 := by omega
            simp only [Int.toNat_natCast, f0, f1]
            simp only [List.drop_zero] at e0
            rw [e1] at e0
            simpa using e0
          · simp only [ge_iff_le, if_neg k1] at hne
            exact absurd trivial hne
        · simp only [if_neg g1] at hne ⊢
          by_cases g2 : (bt l 0 / 16 == 14 && (decide (1 < l.length) && bt l 1 / 64 == 2) && (decide (2 < l.length) && bt l 2 / 64 == 2)) = true
          · simp only [if_pos g2] at hne ⊢
            simp at g2
            by_cases k1 : (decide (bt l 0 % 16 * 4096 + bt l 1 % 64 * 64 + bt l 2 % 64 ≥ 2048) && Utf8.valid ((bt l 0 % 16 * 4096 + bt l 1 % 64 * 64 + bt l 2 % 64 : Nat) : Int)) = true
            · simp only [if_pos k1]
              simp only [Bool.and_eq_true, decide_eq_true_eq] at k1
              have hv : validRune ((bt l 0 % 16 * 4096 + bt l 1 % 64 * 64 + bt l 2 % 64 : Nat) : Int) = true := by rw [← validRune_eq]; exact k1.2
              refine ⟨hv, ?_⟩
              have hvv := (valid_iff _).1 hv
              rcases enc_forms _ hv with ⟨a, e⟩ | ⟨a, b, e⟩ | ⟨a, b, e⟩ | ⟨a, b, e⟩ <;> first | omega | skip
              rw [e]
              refine ⟨rfl, ?_⟩
              have e0 := drop_bt (l := l) (k := 0) hl
              have e1 := drop_bt (l := l) (k := 1) g2.1.2.1
              have e2 := drop_bt (l := l) (k := 2) g2.2.1
              have f0 : 224 + (bt l 0 % 16 * 4096 + bt l 1 % 64 * 64 + bt l 2 % 64) / 4096 = bt l 0 := by omega
              have f1 : 128 + (bt l 0 % 16 * 4096 + bt l 1 % 64 * 64 + bt l 2 % 64) / 64 % 64 = bt l 1 := by omega
              have f2 : 128 + (bt l 0 % 16 * 4096 + bt l 1 % 64 * 64 + bt l 2 % 64) % 64 = bt l 2 := by omega
              simp only [Int.toNat_natCast, f0, f1, f2]
              simp only [List.drop_zero] at e0
              rw [e1, e2] at e0
              simpa using e0
            · simp only [if_neg k1] at hne
              exact absurd trivial hne
          · simp only [if_neg g2] at hne ⊢
            by_cases g3 : (bt l 0 / 8 == 30 && (decide (1 < l.length) && bt l 1 / 64 == 2) && (decide (2 < l.length) && bt l 2 / 64 == 2) && (decide (3 < l.length) && bt l 3 / 64 == 2)) = true
            · simp only [if_pos g3] at hne ⊢
              simp at g3
              by_cases k1 : (decide (bt l 0 % 8 * 262144 + bt l 1 % 64 * 4096 + bt l 2 % 64 * 64 + bt l 3 % 64 ≥ 65536) && Utf8.valid ((bt l 0 % 8 * 262144 + bt l 1 % 64 * 4096 + bt l 2 % 64 * 64 + bt l 3 % 64 : Nat) : Int)) = true
              · simp only [if_pos k1]
                simp only [Bool.and_eq_true, decide_eq_true_eq] at k1
                have hv : validRune ((bt l 0 % 8 * 262144 + bt l 1 % 64 * 4096 + bt l 2 % 64 * 64 + bt l 3 % 64 : Nat) : Int) = true := by rw [← validRune_eq]; exact k1.2
                refine ⟨hv, ?_⟩
                have hvv := (valid_iff _).1 hv
                rcases enc_forms _ hv with ⟨a, e⟩ | ⟨a, b, e⟩ | ⟨a, b, e⟩ | ⟨a, b, e⟩ <;> first | omega | skip
                rw [e]
                refine ⟨rfl, ?_⟩
                have e0 := drop_bt (l := l) (k := 0) hl
                have e1 := drop_bt (l := l) (k := 1) g3.1.1.2.1
                have e2 := drop_bt (l := l) (k := 2) g3.1.2.1
                have e3 := drop_bt (l := l) (k := 3) g3.2.1
                have f0 : 240 + (bt l 0 % 8 * 262144 + bt l 1 % 64 * 4096 + bt l 2 % 64 * 64 + bt l 3 % 64) / 262144 = bt l 0 := by omega
                have f1 : 128 + (bt l 0 % 8 * 262144 + bt l 1 % 64 * 4096 + bt l 2 % 64 * 64 + bt l 3 % 64) / 4096 % 64 = bt l 1 := by omega
                have f2 : 128 + (bt l 0 % 8 * 262144 + bt l 1 % 64 * 4096 + bt l 2 % 64 * 64 + bt l 3 % 64) / 64 % 64 = bt l 2 := by omega
                have f3 : 128 + (bt l 0 % 8 * 262144 + bt l 1 % 64 * 4096 + bt l 2 % 64 * 64 + bt l 3 % 64) % 64 = bt l 3 := by omega
                simp only [Int.toNat_natCast, f0, f1, f2, f3]
                simp only [List.drop_zero] at e0
                rw [e1, e2, e3] at e0
                simpa using e0
              · simp only [if_neg k1] at hne
                exact absurd trivial hne
            · simp only [if_neg g3] at hne
              exact absurd trivial hne

theorem dec1_pos {l : List UInt8} {c : Int} {n : Nat} (h : dec1 l = some (c, n)) : 1 ≤ n ∧ n ≤ l.length := by
  obtain ⟨hv, hn, hl⟩ := dec1_some h
  have := enc_len c hv
  have h2 := congrArg List.length hl
  simp at h2
  omega

/-- The characters of a list of bytes. -/
def charsF : Nat → List UInt8 → Option (List Int)
  | 0, l => if l = [] then some [] else none
  | f + 1, l => if l = [] then some [] else match dec1 l with
    | none => none
    | some (c, n) => (charsF f (l.drop n)).map (c :: ·)
def chars (l : List UInt8) : Option (List Int) := charsF l.length l

theorem charsF_enough : ∀ (f g : Nat) (l : List UInt8), l.length ≤ f → l.length ≤ g → charsF f l = charsF g l := by
  intro f
  induction f with
  | zero =>
    intro g l h _
    have : l = [] := List.eq_nil_of_length_eq_zero (by omega)
    subst this
    cases g <;> simp [charsF]
  | succ f ih =>
    intro g l h hg
    cases g with
    | zero =>
      have : l = [] := List.eq_nil_of_length_eq_zero (by omega)
      subst this
      simp [charsF]
    | succ g =>
      unfold charsF
      by_cases hl : l = []
      · simp [hl]
      · rw [if_neg hl, if_neg hl]
        cases hd : dec1 l with
        | none => rfl
        | some p =>
          obtain ⟨c, n⟩ := p
          have hp := dec1_pos hd
          simp only
          rw [ih g (l.drop n) (by simp; omega) (by simp; omega)]

theorem chars_nil : chars [] = some [] := rfl
theorem chars_bad {l : List UInt8} (hl : l ≠ []) (h : dec1 l = none) : chars l = none := by
  unfold chars
  cases l with
  | nil => exact absurd rfl hl
  | cons a t => simp [charsF, h]
theorem chars_step {l : List UInt8} {c : Int} {n : Nat} (h : dec1 l = some (c, n)) : chars l = (chars (l.drop n)).map (c :: ·) := by
  have hp := dec1_pos h
  unfold chars
  cases l with
  | nil => simp at hp; omega
  | cons a t =>
    show charsF (t.length + 1) (a :: t) = _
    simp only [charsF, h]
    rw [charsF_enough t.length ((a :: t).drop n).length _ (by simp; omega) (Nat.le_refl _)]
    simp

theorem chars_enc {c : Int} (h : validRune c = true) (t : List UInt8) : chars (enc c ++ t) = (chars t).map (c :: ·) := by
  rw [chars_step (dec1_enc c h t)]; simp

theorem chars_encs_append {cs : List Int} (h : ∀ c ∈ cs, validRune c = true) (t : List UInt8) : chars (encs cs ++ t) = (chars t).map (cs ++ ·) := by
  induction cs with
  | nil => simp [encs]
  | cons c cs ih =>
    have : encs (c :: cs) ++ t = enc c ++ (encs cs ++ t) := by simp [encs]
    rw [this, chars_enc (h c (by simp)), ih (fun x hx => h x (by simp [hx]))]
    cases chars t <;> simp

theorem chars_encs {cs : List Int} (h : ∀ c ∈ cs, validRune c = true) : chars (encs cs) = some cs := by
  have := chars_encs_append h []
  simpa [chars_nil] using this

theorem chars_some_aux : ∀ (f : Nat) (l : List UInt8) (cs : List Int), l.length ≤ f → chars l = some cs → (∀ c ∈ cs, validRune c = true) ∧ l = encs cs := by
  intro f
  induction f with
  | zero =>
    intro l cs h hc
    have : l = [] := List.eq_nil_of_length_eq_zero (by omega)
    subst this
    rw [chars_nil] at hc
    obtain rfl := Option.some.inj hc
    exact ⟨by simp, rfl⟩
  | succ f ih =>
    intro l cs h hc
    by_cases hl : l = []
    · subst hl
      rw [chars_nil] at hc
      obtain rfl := Option.some.inj hc
      exact ⟨by simp, rfl⟩
    · cases hd : dec1 l with
      | none => rw [chars_bad hl hd] at hc; cases hc
      | some p =>
        obtain ⟨c, n⟩ := p
        have hp := dec1_pos hd
        obtain ⟨hv, hn, hle⟩ := dec1_some hd
        rw [chars_step hd] at hc
        cases hr : chars (l.drop n) with
        | none => rw [hr] at hc; cases hc
        | some ds =>
          rw [hr] at hc
          have := Option.some.inj hc
          subst this
          obtain ⟨h1, h2⟩ := ih (l.drop n) ds (by simp; omega) hr
          refine ⟨?_, ?_⟩
          · intro x hx
            rcases List.mem_cons.1 hx with rfl | hx
            · exact hv
            · exact h1 x hx
          · show l = enc c ++ encs ds
            rw [← h2]; exact hle

theorem chars_some {l : List UInt8} {cs : List Int} (h : chars l = some cs) : (∀ c ∈ cs, validRune c = true) ∧ l = encs cs := chars_some_aux _ l cs (Nat.le_refl _) h

theorem encs_length_ge {cs : List Int} (h : ∀ c ∈ cs, validRune c = true) : cs.length ≤ (encs cs).length := by
  induction cs with
  | nil => simp
  | cons c cs ih =>
    have h1 := enc_len c (h c (by simp))
    have h2 := ih (fun x hx => h x (by simp [hx]))
    simp only [encs, List.flatMap_cons, List.length_append, List.length_cons] at h2 ⊢
    omega

theorem encs_length_le {cs : List Int} (h : ∀ c ∈ cs, validRune c = true) : (encs cs).length ≤ 4 * cs.length := by
  induction cs with
  | nil => simp [encs]
  | cons c cs ih =>
    have h1 := enc_len c (h c (by simp))
    have h2 := ih (fun x hx => h x (by simp [hx]))
    simp only [encs, List.flatMap_cons, List.length_append, List.length_cons] at h2 ⊢
    omega

theorem encs_append (a b : List Int) : encs (a ++ b) = encs a ++ encs b := by simp [encs]
theorem encs_cons (a : Int) (b : List Int) : encs (a :: b) = enc a ++ encs b := by simp [encs]

end Go.Proofs.YtamdlbefiggkfaaGreat.Utf

set_option linter.unusedVariables false
set_option linter.unusedSimpArgs false
namespace Go.Proofs.YtamdlbefiggkfaaGreat.Utf
open Go

/-- How two lists of characters compare: -1, 0 or 1. -/
def cmpL : List Int → List Int → Int
  | [], [] => 0
  | [], _ :: _ => -1
  | _ :: _, [] => 1
  | a :: x, b :: y => if a < b then -1 else if b < a then 1 else cmpL x y

theorem bl_cons (m n : Nat) (hm : m < 256) (hn : n < 256) (x y : List UInt8) : Op.bytesLess (UInt8.ofNat m :: x) (UInt8.ofNat n :: y) = (decide (m < n) || (decide (m = n) && Op.bytesLess x y)) := by
  have e1 : (decide (UInt8.ofNat m < UInt8.ofNat n)) = decide (m < n) := by
    rw [decide_eq_decide, UInt8.lt_iff_toNat_lt, toNat_ofNat m hm, toNat_ofNat n hn]
  have e2 : (UInt8.ofNat m == UInt8.ofNat n) = decide (m = n) := by
    by_cases h : m = n
    · subst h; simp
    · rw [decide_eq_false h]
      rw [beq_eq_false_iff_ne]
      intro e
      have := congrArg UInt8.toNat e
      rw [toNat_ofNat m hm, toNat_ofNat n hn] at this
      exact h this
  rw [Op.bytesLess, e1, e2]

theorem bl_lt {m n : Nat} (hm : m < 256) (hn : n < 256) (h : m < n) (x y : List UInt8) : Op.bytesLess (UInt8.ofNat m :: x) (UInt8.ofNat n :: y) = true ∧ Op.bytesLess (UInt8.ofNat n :: y) (UInt8.ofNat m :: x) = false := by
  rw [bl_cons m n hm hn, bl_cons n m hn hm]
  have h1 : ¬ n < m := by omega
  have h2 : ¬ n = m := by omega
  simp [h, h1, h2]
theorem bl_eq {m n : Nat} (hm : m < 256) (h : m = n) {x y : List UInt8} (k : Op.bytesLess x y = true ∧ Op.bytesLess y x = false) : Op.bytesLess (UInt8.ofNat m :: x) (UInt8.ofNat n :: y) = true ∧ Op.bytesLess (UInt8.ofNat n :: y) (UInt8.ofNat m :: x) = false := by
  subst h
  rw [bl_cons m m hm hm, bl_cons m m hm hm]
  simp [k.1, k.2]

theorem enc_less {c d : Int} (hc : validRune c = true) (hd : validRune d = true) (h : c < d) (x y : List UInt8) : Op.bytesLess (enc c ++ x) (enc d ++ y) = true ∧ Op.bytesLess (enc d ++ y) (enc c ++ x) = false := by
  have vc := (valid_iff c).1 hc
  have vd := (valid_iff d).1 hd
  rcases enc_forms c hc with ⟨h1, e⟩ | ⟨h1, h2, e⟩ | ⟨h1, h2, e⟩ | ⟨h1, h2, e⟩ <;> rcases enc_forms d hd with ⟨k1, f⟩ | ⟨k1, k2, f⟩ | ⟨k1, k2, f⟩ | ⟨k1, k2, f⟩ <;> first | (exfalso; omega) | (rw [e, f]; simp only [List.cons_append, List.nil_append]) 
  · exact bl_lt (by omega) (by omega) (by omega) _ _
  · exact bl_lt (by omega) (by omega) (by omega) _ _
  · exact bl_lt (by omega) (by omega) (by omega) _ _
  · exact bl_lt (by omega) (by omega) (by omega) _ _
  · by_cases g : c.toNat / 64 < d.toNat / 64
    · exact bl_lt (by omega) (by omega) (by omega) _ _
    · exact bl_eq (by omega) (by omega) (bl_lt (by omega) (by omega) (by omega) _ _)
  · exact bl_lt (by omega) (by omega) (by omega) _ _
  · exact bl_lt (by omega) (by omega) (by omega) _ _
  · by_cases g : c.toNat / 4096 < d.toNat / 4096
    · exact bl_lt (by omega) (by omega) (by omega) _ _
    · by_cases g2 : c.toNat / 64 % 64 < d.toNat / 64 % 64
      · exact bl_eq (by omega) (by omega) (bl_lt (by omega) (by omega) (by omega) _ _)
      · exact bl_eq (by omega) (by omega) (bl_eq (by omega) (by omega) (bl_lt (by omega) (by omega) (by omega) _ _))
  · exact bl_lt (by omega) (by omega) (by omega) _ _
  · by_cases g : c.toNat / 262144 < d.toNat / 262144
    · exact bl_lt (by omega) (by omega) (by omega) _ _
    · by_cases g2 : c.toNat / 4096 % 64 < d.toNat / 4096 % 64
      · exact bl_eq (by omega) (by omega) (bl_lt (by omega) (by omega) (by omega) _ _)
      · by_cases g3 : c.toNat / 64 % 64 < d.toNat / 64 % 64
        · exact bl_eq (by omega) (by omega) (bl_eq (by omega) (by omega) (bl_lt (by omega) (by omega) (by omega) _ _))
        · exact bl_eq (by omega) (by omega) (bl_eq (by omega) (by omega) (bl_eq (by omega) (by omega) (bl_lt (by omega) (by omega) (by omega) _ _)))

theorem bl_same (l x y : List UInt8) : Op.bytesLess (l ++ x) (l ++ y) = Op.bytesLess x y := by
  induction l with
  | nil => rfl
  | cons a l ih =>
    show Op.bytesLess (a :: (l ++ x)) (a :: (l ++ y)) = _
    rw [Op.bytesLess, ih]
    simp

theorem enc_ne {c : Int} (h : validRune c = true) : enc c ≠ [] := by
  have := enc_len c h
  intro e; rw [e] at this; simp at this

/-- Strings are in the order of their characters. -/
theorem less_encs : ∀ {cs ds : List Int}, (∀ c ∈ cs, validRune c = true) → (∀ d ∈ ds, validRune d = true) → Op.bytesLess (encs cs) (encs ds) = decide (cmpL cs ds < 0)
  | [], [], _, _ => by simp [encs, Op.bytesLess, cmpL]
  | [], d :: ds, _, hd => by
    have h := enc_ne (hd d (by simp))
    rw [encs_cons]
    show Op.bytesLess [] _ = _
    cases he : enc d ++ encs ds with
    | nil => simp at he; exact absurd he.1 h
    | cons a t => rfl
  | c :: cs, [], hc, _ => by
    show Op.bytesLess (encs (c :: cs)) [] = _
    cases encs (c :: cs) <;> rfl
  | c :: cs, d :: ds, hc, hd => by
    have h1 := hc c (by simp)
    have h2 := hd d (by simp)
    rw [encs_cons, encs_cons]
    unfold cmpL
    by_cases hlt : c < d
    · rw [(enc_less h1 h2 hlt _ _).1, if_pos hlt]; rfl
    · rw [if_neg hlt]
      by_cases hgt : d < c
      · rw [(enc_less h2 h1 hgt _ _).2, if_pos hgt]; rfl
      · rw [if_neg hgt]
        obtain rfl : c = d := by omega
        rw [bl_same]
        exact less_encs (fun x hx => hc x (by simp [hx])) (fun x hx => hd x (by simp [hx]))

theorem cmpL_zero : ∀ {cs ds : List Int}, cmpL cs ds = 0 ↔ cs = ds
  | [], [] => by simp [cmpL]
  | [], d :: ds => by simp [cmpL]
  | c :: cs, [] => by simp [cmpL]
  | c :: cs, d :: ds => by
    unfold cmpL
    by_cases hlt : c < d
    · rw [if_pos hlt]; simp; omega
    · rw [if_neg hlt]
      by_cases hgt : d < c
      · rw [if_pos hgt]; simp; omega
      · rw [if_neg hgt, cmpL_zero]
        simp; omega

theorem encs_inj {cs ds : List Int} (hc : ∀ c ∈ cs, validRune c = true) (hd : ∀ d ∈ ds, validRune d = true) (h : encs cs = encs ds) : cs = ds := by
  have h1 := chars_encs hc
  have h2 := chars_encs hd
  rw [h] at h1
  rw [h1] at h2
  exact Option.some.inj h2

theorem eq_encs {cs ds : List Int} (hc : ∀ c ∈ cs, validRune c = true) (hd : ∀ d ∈ ds, validRune d = true) : (encs cs == encs ds) = decide (cmpL cs ds = 0) := by
  by_cases h : cs = ds
  · subst h; rw [decide_eq_true (cmpL_zero.2 rfl)]; simp
  · rw [decide_eq_false (fun e => h (cmpL_zero.1 e)), beq_eq_false_iff_ne]
    exact fun e => h (encs_inj hc hd e)

theorem cmpL_range : ∀ (cs ds : List Int), cmpL cs ds = -1 ∨ cmpL cs ds = 0 ∨ cmpL cs ds = 1
  | [], [] => by simp [cmpL]
  | [], d :: ds => by simp [cmpL]
  | c :: cs, [] => by simp [cmpL]
  | c :: cs, d :: ds => by
    unfold cmpL
    by_cases hlt : c < d
    · rw [if_pos hlt]; simp
    · rw [if_neg hlt]
      by_cases hgt : d < c
      · rw [if_pos hgt]; simp
      · rw [if_neg hgt]; exact cmpL_range cs ds

theorem cmpL_step {cs ds : List Int} {k : Nat} (h1 : k < cs.length) (h2 : k < ds.length) : cmpL (cs.drop k) (ds.drop k) = if cs[k] < ds[k] then -1 else if ds[k] < cs[k] then 1 else cmpL (cs.drop (k + 1)) (ds.drop (k + 1)) := by
  rw [List.drop_eq_getElem_cons h1, List.drop_eq_getElem_cons h2]; rfl

end Go.Proofs.YtamdlbefiggkfaaGreat.Utf

set_option linter.unusedVariables false
set_option linter.unusedSimpArgs false
namespace Go.Proofs.YtamdlbefiggkfaaGreat.Kit
open Go Go.RowKit

/-- The slice v reads as the values xs, each of one cell. -/
def Reads (w : World) (v : Value) (xs : List Value) : Prop :=
  ∃ a len cap, v = .slice a len cap ∧ len = xs.length ∧ len ≤ cap ∧ cap ≤ maxLen ∧
    ((a = none ∧ len = 0 ∧ cap = 0) ∨ (∃ x, a = some x ∧ len = 0) ∨ ∃ b off, a = some ⟨b, off, none⟩ ∧ b < w.heap.size ∧ ∀ i x, xs[i]? = some x → w.cell? ⟨b, off + i, none⟩ = some x)

theorem Reads.later {w w' : World} {v : Value} {xs : List Value} (h : Reads w v xs) (hb : Below w.heap.size w w') : Reads w' v xs := by
  obtain ⟨a, len, cap, rfl, hl, hc, hm, h⟩ := h
  refine ⟨a, len, cap, rfl, hl, hc, hm, ?_⟩
  rcases h with h | h | ⟨b, off, rfl, hlt, hx⟩
  · exact .inl h
  · exact .inr (.inl h)
  · exact .inr (.inr ⟨b, off, rfl, Nat.lt_of_lt_of_le hlt hb.size, fun i x hi => by rw [hb.cell (p := ⟨b, off + i, none⟩) hlt]; exact hx i x hi⟩)

theorem Reads.drewN {w : World} {v : Value} {xs : List Value} (h : Reads w v xs) (n : Nat) : Reads (w.drewN n) v xs := h

theorem own_lt {w : World} {base : Nat} {e : TypeId} {v : Value} {n : Nat} {xs : List Value} (h : w.ownsRow base e 1 v n xs) : xs.length = n := by have := h.1; omega

theorem own_reads {w : World} {base : Nat} {e : TypeId} {v : Value} {n : Nat} {xs : List Value} (h : w.ownsRow base e 1 v n xs) : Reads w v xs := by
  have hn := own_lt h
  rcases h.2 with ⟨rfl, h0⟩ | ⟨g, cap, cur, rfl, hb, hg, hnc, hcm, hcs, htake⟩
  · exact ⟨none, 0, 0, rfl, by omega, Nat.le_refl _, by simp [maxLen], .inl ⟨rfl, rfl, rfl⟩⟩
  · refine ⟨_, n, cap, rfl, hn.symm, hnc, hcm, .inr (.inr ⟨g, 0, rfl, (Array.getElem?_eq_some_iff.1 hg).1, fun i x hi => ?_⟩)⟩
    rw [Nat.zero_add]
    rw [cell_of_row w g i cur e (0, 0) hg]
    rw [← htake, List.getElem?_take] at hi
    split at hi
    · simpa using hi
    · cases hi

theorem Reads.len {w : World} {a : Option Addr} {n cap : Nat} {xs : List Value} (h : Reads w (.slice a n cap) xs) : n = xs.length ∧ n ≤ cap ∧ cap ≤ maxLen := by
  obtain ⟨a, len, cap, e, h1, h2, h3, _⟩ := h
  cases e
  exact ⟨h1, h2, h3⟩

/-- A slice of a slice, 'x[i:j]', as the walk spells it: where i is not the capacity, and where it is. -/
theorem reads_cut {w : World} {a : Option Addr} {n cap i j : Nat} {xs : List Value} (h : Reads w (.slice a n cap) xs) (hij : i ≤ j) (hj : j ≤ n) :
    Reads w (.slice (a.map (fun x => x.add i)) (j - i) (cap - i)) ((xs.take j).drop i) := by
  obtain ⟨a, len, cap, e, h1, h2, h3, hx⟩ := h
  cases e
  refine ⟨_, _, _, rfl, by simp; omega, by omega, by omega, ?_⟩
  rcases hx with ⟨rfl, rfl, rfl⟩ | ⟨x, rfl, h0⟩ | ⟨b, off, rfl, hlt, hx⟩
  · exact .inl ⟨rfl, by omega, by omega⟩
  · exact .inr (.inl ⟨_, rfl, by omega⟩)
  · refine .inr (.inr ⟨b, off + i, by simp [Addr.add_lit], hlt, fun k x hk => ?_⟩)
    rw [List.getElem?_drop, List.getElem?_take] at hk
    split at hk
    · have := hx (i + k) x hk
      rwa [← Nat.add_assoc] at this
    · cases hk
theorem reads_cut_end {w : World} {a : Option Addr} {n cap i j : Nat} {xs : List Value} (h : Reads w (.slice a n cap) xs) (hij : i ≤ j) (hj : j ≤ n) (hc : cap ≤ i) :
    Reads w (.slice a (j - i) 0) ((xs.take j).drop i) := by
  obtain ⟨a, len, cap, e, h1, h2, h3, hx⟩ := h
  cases e
  have e1 : (xs.take j).drop i = [] := List.drop_of_length_le (by simp; omega)
  refine ⟨_, _, _, rfl, by rw [e1]; simp; omega, by omega, by omega, ?_⟩
  rcases hx with ⟨rfl, rfl, rfl⟩ | ⟨x, rfl, h0⟩ | ⟨b, off, rfl, hlt, hx⟩
  · exact .inl ⟨rfl, by omega, rfl⟩
  · exact .inr (.inl ⟨_, rfl, by omega⟩)
  · exact .inr (.inr ⟨b, off, rfl, hlt, fun k x hk => by rw [e1] at hk; cases hk⟩)

/-- An owned row stays owned in a later world that keeps what lay there. -/
theorem own_later {w w' : World} {base : Nat} {e : TypeId} {size : Nat} {v : Value} {n : Nat} {xs : List Value} (h : w.ownsRow base e size v n xs) (hb : Below w.heap.size w w') : w'.ownsRow base e size v n xs := by
  refine ⟨h.1, ?_⟩
  rcases h.2 with hn | ⟨g, cap, cur, rfl, hbg, hgg, rest⟩
  · exact .inl hn
  · refine .inr ⟨g, cap, cur, rfl, hbg, ?_, rest⟩
    rw [hb.block g (Array.getElem?_eq_some_iff.1 hgg).1]
    exact hgg

theorem own_base {w : World} {base base' : Nat} {e : TypeId} {size : Nat} {v : Value} {n : Nat} {xs : List Value} (h : w.ownsRow base e size v n xs) (hb : base' ≤ base) : w.ownsRow base' e size v n xs := by
  refine ⟨h.1, ?_⟩
  rcases h.2 with hn | ⟨g, cap, cur, rfl, hbg, rest⟩
  · exact .inl hn
  · exact .inr ⟨g, cap, cur, rfl, by omega, rest⟩

/-- A string's iterator that is moved on leaves an owned row owned. -/
theorem own_iterAt {w : World} {B e size n : Nat} {v : Value} {xs : List Value} {k : Nat} {s : ByteArray} {pos : Nat} (h : w.ownsRow B e size v n xs) (hk : w.heap[k]? = some (.stringIter s pos)) (pos' : Nat) : (w.iterAt k s pos').ownsRow B e size v n xs := by
  refine ⟨h.1, ?_⟩
  rcases h.2 with h0 | ⟨g, cap, cur, hv, hb, hg, rest⟩
  · exact .inl h0
  · refine .inr ⟨g, cap, cur, hv, hb, ?_, rest⟩
    rw [Lib.iterAt_other _ _ _ _ _ (fun e => by subst e; rw [hk] at hg; cases hg)]
    exact hg

theorem iter_grown {w w' : World} {B e size n : Nat} {v : Value} {xs : List Value} {k : Nat} {s : ByteArray} {pos : Nat} (hown : w.ownsRow B e size v n xs) (hk : w.heap[k]? = some (.stringIter s pos)) (hg : w.grownBy w' v.ownBlock) : w'.heap[k]? = some (.stringIter s pos) := by
  rw [hg.block k (Array.getElem?_eq_some_iff.1 hk).1 ?_]
  · exact hk
  · intro e1
    rcases hown.2 with ⟨rfl, _⟩ | ⟨g, cap, cur, rfl, hb, hgg, rest⟩
    · simp [Value.ownBlock] at e1
    · simp [Value.ownBlock] at e1
      subst e1
      rw [hk] at hgg
      cases hgg

theorem iter_alloc {w : World} {k : Nat} {s : ByteArray} {pos : Nat} (hk : w.heap[k]? = some (.stringIter s pos)) (o : Obj) : (w.alloc o).heap[k]? = some (.stringIter s pos) := by
  rw [Below.heap_alloc w o k (Array.getElem?_eq_some_iff.1 hk).1]; exact hk

/-- Behind an append to a row of the call's own. -/
theorem below_own {B : Nat} {a w w' : World} {base : Nat} {e : TypeId} {size : Nat} {v : Value} {n : Nat} {xs : List Value} (h : Below B a w) (hown : w.ownsRow base e size v n xs) (hB : B ≤ base) (hB2 : B ≤ w.heap.size) (hg : w.grownBy w' v.ownBlock) : Below B a w' :=
  h.grown hg hB2 (fun k hk => by have := hown.lt k hk; omega)

/-- Bytes as cells. -/
def u8s (l : List UInt8) : List Value := l.map fun b => Value.int .u8 b.toNat
theorem strCells_u8s (s : ByteArray) : Lib.strCells s = u8s s.data.toList := rfl
theorem u8s_len (l : List UInt8) : (u8s l).length = l.length := by simp [u8s]
theorem u8s_append (a b : List UInt8) : u8s (a ++ b) = u8s a ++ u8s b := by simp [u8s]
theorem u8s_oneCell (l : List UInt8) : ∀ u ∈ u8s l, u.oneCell' = true := by
  intro u hu
  simp only [u8s, List.mem_map] at hu
  obtain ⟨b, _, rfl⟩ := hu
  rfl

/-- A block of one cell that the call has just laid is a row of its own. -/
theorem own_one (w : World) (x : Value) (e : TypeId) (base : Nat) (hb : base ≤ w.heap.size) : (w.alloc (.cells #[x] e)).ownsRow base e 1 (.slice (some ⟨w.heap.size, 0, none⟩) 1 1) 1 [x] :=
  ⟨rfl, .inr ⟨w.heap.size, 1, #[x], rfl, hb, heap_alloc_new w _, Nat.le_refl _, by simp [maxLen], rfl, by simp⟩⟩

theorem own_one_at (w : World) (x : Value) (e : TypeId) (base B : Nat) (hB : B = w.heap.size) (hb : base ≤ w.heap.size) : (w.alloc (.cells #[x] e)).ownsRow base e 1 (.slice (some ⟨B, 0, none⟩) 1 1) 1 [x] := by
  subst hB; exact own_one w x e base hb

theorem foldl_push (l : List UInt8) : ∀ r : ByteArray, (((l.map fun b => (b.toNat : Int)).foldl (fun r n => r.push (UInt8.ofNat n.toNat)) r)).data.toList = r.data.toList ++ l := by
  induction l with
  | nil => intro r; simp
  | cons b l ih =>
    intro r
    simp only [List.map_cons, List.foldl_cons]
    rw [ih]
    simp
theorem ba_ext {a b : ByteArray} (h : a.data.toList = b.data.toList) : a = b := by
  have h2 := Array.toList_inj.1 h
  cases a; cases b
  simp only at h2
  rw [h2]

/-- A row of bytes that the call owns, made a string. -/
theorem conv_bytes {P : Program} {w : World} {base : Nat} {v : Value} {n : Nat} {l : List UInt8} {src dst e : TypeId} (h : w.ownsRow base e 1 v n (u8s l))
    (hs : P.underlying src = some (.slice e)) (he : P.underlying e = some (.int .u8)) (hd : P.underlying dst = some .string) :
    (convert src dst v).run P w = .ok (.string ⟨l.toArray⟩) w := by
  have hn := own_lt h
  rw [u8s_len] at hn
  rcases h.2 with ⟨rfl, h0⟩ | ⟨g, cap, cur, rfl, hb, hg, hnc, hcm, hcs, htake⟩
  · have : l = [] := List.eq_nil_of_length_eq_zero (by omega)
    subst this
    rw [run_convert_bytes_string w src dst e _ _ _ hs he hd]
    rfl
  · rw [run_convert_bytes_string w src dst e _ _ _ hs he hd]
    rw [run_bytesToString w ⟨g, 0, none⟩ n cap (l.map fun b => (b.toNat : Int))]
    · congr 2
      apply ba_ext
      rw [foldl_push]
      simp
    · have hx := run_loadCells_list (P := P) (w := w) ⟨g, 0, none⟩ (u8s l) (h.cells (g := g) rfl)
      rw [u8s_len, hn] at hx
      rw [hx]
      simp [u8s]

theorem reads_lit (w : World) (xs : Array Value) (e : TypeId) (B n : Nat) (hB : B = w.heap.size) (hn : n = xs.size) (hm : n ≤ maxLen) : Reads (w.alloc (.cells xs e)) (.slice (some ⟨B, 0, none⟩) n n) xs.toList := by
  subst hB
  refine ⟨_, n, n, rfl, by rw [hn]; simp, Nat.le_refl _, hm, .inr (.inr ⟨w.heap.size, 0, rfl, by simp, fun i x hi => ?_⟩)⟩
  rw [World.cell?_alloc_at _ _ _ _ rfl]
  rw [Nat.zero_add]
  rw [← Array.getElem?_toList]; exact hi

/-- What the frame of a row tells of a slice of integers that came in: nil, or a row of 'cap' cells, of which the first 'len' are its elements. -/
def IsRow (k : IntKind) (w : World) (a : Option Addr) (len cap : Nat) (zs : List Int) : Prop :=
  (a = none ∧ len = 0 ∧ cap = 0 ∧ zs = []) ∨
  ∃ x, a = some x ∧ len ≤ cap ∧ cap ≤ maxLen ∧ zs.length = cap ∧ (∀ i, i < zs.length → w.cell? (x.add i) = some (.int k (zs.getD i 0))) ∧ ∀ n ∈ zs, (Lit.int k n).wf = true

theorem IsRow.reads {k : IntKind} {w : World} {a : Option Addr} {len cap : Nat} {zs : List Int} (h : IsRow k w a len cap zs) : Reads w (.slice a len cap) ((zs.take len).map (Value.int k)) := by
  rcases h with ⟨rfl, rfl, rfl, rfl⟩ | ⟨x, rfl, hl, hm, hz, hcell, hwf⟩
  · exact ⟨none, 0, 0, rfl, rfl, Nat.le_refl _, Nat.zero_le _, .inl ⟨rfl, rfl, rfl⟩⟩
  · refine ⟨_, len, cap, rfl, by simp; omega, hl, hm, ?_⟩
    by_cases h0 : len = 0
    · exact .inr (.inl ⟨x, rfl, h0⟩)
    · obtain ⟨b, off, spot⟩ := x
      have h1 := hcell 0 (by omega)
      have hspot : spot = none := by simpa [Addr.add] using World.cell?_spot h1
      subst hspot
      refine .inr (.inr ⟨b, off, rfl, World.block_lt_of_cell? w _ h1, fun i y hi => ?_⟩)
      rw [List.getElem?_map, List.getElem?_take] at hi
      split at hi
      · rename_i hil
        have h2 := hcell i (by omega)
        rw [Addr.add_lit] at h2
        rw [List.getElem?_eq_getElem (by omega)] at hi
        simp only [Option.map_some, Option.some.injEq] at hi
        rw [h2, ← hi, List.getD_eq_getElem?_getD, List.getElem?_eq_getElem (by omega)]; rfl
      · cases hi

theorem map_cast_len {α : Type} (f : α → Value) (l : List α) : (l.map f).length = l.length := by simp

theorem ret_int {k : IntKind} {a b : Int} (h : a = b) : Ending.returned (.int k a) = .returned (.int k b) := by rw [h]
theorem ret_bool {a b : Bool} (h : a = b) : Ending.returned (.bool a) = .returned (.bool b) := by rw [h]
theorem ret_string {a b : ByteArray} (h : a = b) : Ending.returned (.string a) = .returned (.string b) := by rw [h]

end Go.Proofs.YtamdlbefiggkfaaGreat.Kit

set_option linter.unusedVariables false
set_option linter.unusedSimpArgs false
namespace Go.Proofs.YtamdlbefiggkfaaGreat.Utf
open Go Go.RowKit Go.Proofs.YtamdlbefiggkfaaGreat.Kit

/-- The bytes of a string. -/
abbrev bs (s : ByteArray) : List UInt8 := s.data.toList
theorem bs_len (s : ByteArray) : (bs s).length = s.size := by rw [Array.length_toList]; rfl
theorem drop_ne {s : ByteArray} {pos : Nat} (hp : pos < s.size) : (bs s).drop pos ≠ [] := by
  intro e; have := congrArg List.length e; rw [List.length_drop, bs_len] at this; simp at this; omega
theorem dec_bad {s : ByteArray} {pos : Nat} (hp : pos < s.size) (h : dec1 ((bs s).drop pos) = none) : Utf8.decode s pos = (65533, 1) := by
  rw [decode_eq s pos (by omega)]
  unfold dec1 at h
  rw [if_neg (drop_ne hp)] at h
  split at h
  · assumption
  · cases h
theorem dec_good {s : ByteArray} {pos : Nat} {c : Int} {n : Nat} (hp : pos < s.size) (h : dec1 ((bs s).drop pos) = some (c, n)) : Utf8.decode s pos = (c.toNat, n) := by
  rw [decode_eq s pos (by omega)]
  obtain ⟨hv, hn, hl⟩ := dec1_some h
  rw [hl, decL_enc c hv, hn]

theorem map_nil (o : Option (List Int)) : o = o.map ([] ++ ·) := by cases o <;> rfl
theorem runes_len {s : ByteArray} {pre : List Int} {pos : Nat} {c : Int} {n : Nat} (hc : chars (bs s) = (chars ((bs s).drop pos)).map (pre ++ ·)) (hd : dec1 ((bs s).drop pos) = some (c, n)) :
    chars (bs s) = (chars ((bs s).drop (pos + n))).map ((pre ++ [c]) ++ ·) := by
  rw [hc, chars_step hd, List.drop_drop]
  cases chars ((bs s).drop (pos + n)) <;> simp

end Go.Proofs.YtamdlbefiggkfaaGreat.Utf

set_option linter.unusedVariables false
set_option linter.unusedSimpArgs false
namespace Go.Proofs.YtamdlbefiggkfaaGreat.Rom
open Go Go.Proofs.YtamdlbefiggkfaaGreat.Utf

/-- A rule: its keys, what they write, the keys that are pending then. -/
structure Rule where
  k : ByteArray
  o : ByteArray
  n : ByteArray

theorem Rule.ext' {a b : Rule} (h1 : a.k = b.k) (h2 : a.o = b.o) (h3 : a.n = b.n) : a = b := by cases a; cases b; simp_all
instance : DecidableEq Rule := fun a b =>
  if h : a.k = b.k ∧ a.o = b.o ∧ a.n = b.n then .isTrue (Rule.ext' h.1 h.2.1 h.2.2) else .isFalse (fun e => h (by rw [e]; exact ⟨rfl, rfl, rfl⟩))
instance : Inhabited Rule := ⟨⟨ByteArray.empty, ByteArray.empty, ByteArray.empty⟩⟩

def isKeyZ (b : Int) : Bool := decide (97 ≤ b ∧ b ≤ 122 ∨ b = 45 ∨ b = 44 ∨ b = 46 ∨ b = 39)
def keysOK (l : List UInt8) : Bool := l.all fun b => isKeyZ b.toNat
def isKanaZ (c : Int) : Bool := decide (12353 ≤ c ∧ c ≤ 12438 ∨ c = 12540 ∨ c = 12289 ∨ c = 12290)
def kanaOK (l : List UInt8) : Bool :=
  match chars l with
  | some cs => decide (cs.length ≤ 4) && cs.all isKanaZ
  | none => false
/-- Is a rule by itself allowed? -/
def okR (r : Rule) : Bool :=
  decide (1 ≤ r.k.size ∧ r.k.size ≤ 4) && keysOK (bs r.k) && decide (r.n.size < r.k.size) && keysOK (bs r.n) && kanaOK (bs r.o) && decide (r.o.size ≠ 0 ∨ r.n.size ≠ 0)
/-- Are the rules allowed together, be they as many as they may? -/
def okL (rs : List Rule) : Bool := rs.all okR && decide (rs.map Rule.k).Nodup
def checkL (rs : List Rule) : Int := if rs.length > 500 then 2 else if okL rs then 0 else 50

theorem okL_nil : okL [] = true := rfl
/-- The key is none of those. -/
def newK (ks : List ByteArray) (k : ByteArray) : Bool := ks.all fun x => decide (x ≠ k)
theorem newK_iff {ks : List ByteArray} {k : ByteArray} : newK ks k = true ↔ k ∉ ks := by
  simp only [newK, List.all_eq_true, decide_eq_true_eq]
  exact ⟨fun h hk => h k hk rfl, fun h x hx e => h (e ▸ hx)⟩
theorem okL_snoc (rs : List Rule) (r : Rule) : okL (rs ++ [r]) = (okL rs && (okR r && newK (rs.map Rule.k) r.k)) := by
  unfold okL
  rw [List.all_append, List.map_append, Bool.eq_iff_iff]
  simp only [List.all_cons, List.all_nil, Bool.and_true, List.map_cons, List.map_nil, Bool.and_eq_true, decide_eq_true_eq, List.nodup_append, newK_iff]
  constructor
  · rintro ⟨⟨h1, h2⟩, h3, h4, h5⟩
    exact ⟨⟨h1, h3⟩, h2, fun hc => h5 r.k hc r.k (by simp) rfl⟩
  · rintro ⟨⟨h1, h3⟩, h2, h4⟩
    refine ⟨⟨h1, h2⟩, h3, by simp, fun a ha b hb => ?_⟩
    rw [List.mem_singleton] at hb
    subst hb
    intro e
    subst e
    exact h4 ha
theorem okL_take {rs : List Rule} {k : Nat} (h : okL rs = true) : okL (rs.take k) = true := by
  unfold okL at *
  simp only [Bool.and_eq_true, decide_eq_true_eq, List.all_eq_true] at *
  exact ⟨fun x hx => h.1 x (List.mem_of_mem_take hx), by rw [List.map_take]; exact h.2.sublist (List.take_sublist _ _)⟩
theorem okL_drop {rs : List Rule} {k : Nat} (h : okL rs = true) : okL (rs.drop k) = true := by
  unfold okL at *
  simp only [Bool.and_eq_true, decide_eq_true_eq, List.all_eq_true] at *
  exact ⟨fun x hx => h.1 x (List.mem_of_mem_drop hx), by rw [List.map_drop]; exact h.2.sublist (List.drop_sublist _ _)⟩
/-- Where the list goes wrong, it goes wrong at a first rule. -/
theorem okL_bad {rs : List Rule} {k : Nat} (h : okL (rs.take k) = false) : okL rs = false := by
  cases h2 : okL rs
  · rfl
  · rw [okL_take h2] at h; cases h
theorem okL_perm {a b : List Rule} (h : a.Perm b) : okL a = okL b := by
  unfold okL
  rw [Bool.eq_iff_iff]
  simp only [Bool.and_eq_true, decide_eq_true_eq, List.all_eq_true]
  exact ⟨fun ⟨h1, h2⟩ => ⟨fun x hx => h1 x (h.mem_iff.2 hx), ((h.map _).nodup_iff).1 h2⟩, fun ⟨h1, h2⟩ => ⟨fun x hx => h1 x (h.mem_iff.1 hx), ((h.map _).nodup_iff).2 h2⟩⟩

/-- An allowed rule has few and short strings. -/
theorem okR_short {r : Rule} (h : okR r = true) : 1 ≤ r.k.size ∧ r.k.size ≤ 4 ∧ r.n.size ≤ 3 := by
  unfold okR at h
  simp only [Bool.and_eq_true, decide_eq_true_eq] at h
  omega

theorem bs_nil_iff (s : ByteArray) : s.size = 0 ↔ s = ⟨#[]⟩ := ⟨fun h => ByteArray.ext (Array.eq_empty_of_size_eq_zero h), fun h => by rw [h]; rfl⟩

end Go.Proofs.YtamdlbefiggkfaaGreat.Rom

namespace Go.Proofs
open Go.Shelf
def Tryz.lays169_ren : Go.Shelf.Ren := ⟨fun | 169 => 71 | n => n, fun | 70 => 117 | 9 => 9 | 0 => 0 | 72 => 119 | 37 => 74 | 127 => 129 | 3 => 3 | 5 => 5 | n => n, fun | n => n⟩
theorem Tryz.lays169 : Go.Proofs.Lays.n169 Tryz.prog Tryz.lays169_ren := {
  mixed := by kernel_rfl
  f169 := Tryz.func71.trans (congrArg some (by kernel_rfl))
  t0 := Tryz.underlying0
  a0 := Tryz.isAgg0
  z0 := Tryz.sizeOf0
  v0 := Tryz.zeroValue0
  t3 := Tryz.underlying3
  a3 := Tryz.isAgg3
  z3 := Tryz.sizeOf3
  v3 := Tryz.zeroValue3
  t9 := Tryz.underlying9
  a9 := Tryz.isAgg9
  z9 := Tryz.sizeOf9
  v9 := Tryz.zeroValue9
  t37 := Tryz.underlying74
  a37 := Tryz.isAgg74
  z37 := Tryz.sizeOf74
  v37 := Tryz.zeroValue74
  t70 := Tryz.underlying117
  a70 := Tryz.isAgg117
  z70 := Tryz.sizeOf117
  v70 := Tryz.zeroValue117
  t72 := Tryz.underlying119
  a72 := Tryz.isAgg119
  z72 := Tryz.sizeOf119
  v72 := Tryz.zeroValue119
  t127 := Tryz.underlying129
  a127 := Tryz.isAgg129
  z127 := Tryz.sizeOf129
  v127 := Tryz.zeroValue129 }
theorem Tryz.Builder_Extra_169 : Builder.Extra Tryz.prog Tryz.lays169_ren := {
  sizeBuilder := by kernel_rfl
  liesBuilder := by kernel_rfl
  t5 := Tryz.underlying5
  a5 := Tryz.isAgg5
  z5 := Tryz.sizeOf5
  v5 := Tryz.zeroValue5
  infoByte := by kernel_rfl
  cellsByte := by kernel_rfl
  sizeByte := by kernel_rfl
  neB5 := by decide }
def Tryz.lays156_ren : Go.Shelf.Ren := ⟨fun | 156 => 62 | 165 => 80 | 166 => 79 | 169 => 71 | 240 => 103 | 241 => 104 | 276 => 113 | 277 => 114 | n => n, fun | 31 => 113 | 9 => 9 | 3 => 3 | 4 => 4 | 0 => 0 | 20 => 20 | 72 => 119 | 76 => 132 | 70 => 117 | 37 => 74 | 75 => 131 | 127 => 129 | 164 => 168 | 5 => 5 | 80 => 121 | n => n, fun | n => n⟩
theorem Tryz.lays156 : Go.Proofs.Lays.n156 Tryz.prog Tryz.lays156_ren := {
  mixed := by kernel_rfl
  f156 := Tryz.func62.trans (congrArg some (by kernel_rfl))
  f165 := Tryz.func80.trans (congrArg some (by kernel_rfl))
  f166 := Tryz.func79.trans (congrArg some (by kernel_rfl))
  f169 := Tryz.func71.trans (congrArg some (by kernel_rfl))
  f240 := Tryz.func103.trans (congrArg some (by kernel_rfl))
  f241 := Tryz.func104.trans (congrArg some (by kernel_rfl))
  f276 := Tryz.func113.trans (congrArg some (by kernel_rfl))
  f277 := Tryz.func114.trans (congrArg some (by kernel_rfl))
  t0 := Tryz.underlying0
  a0 := Tryz.isAgg0
  z0 := Tryz.sizeOf0
  v0 := Tryz.zeroValue0
  t3 := Tryz.underlying3
  a3 := Tryz.isAgg3
  z3 := Tryz.sizeOf3
  v3 := Tryz.zeroValue3
  t4 := Tryz.underlying4
  a4 := Tryz.isAgg4
  z4 := Tryz.sizeOf4
  v4 := Tryz.zeroValue4
  t9 := Tryz.underlying9
  a9 := Tryz.isAgg9
  z9 := Tryz.sizeOf9
  v9 := Tryz.zeroValue9
  t20 := Tryz.underlying20
  a20 := Tryz.isAgg20
  z20 := Tryz.sizeOf20
  v20 := Tryz.zeroValue20
  t31 := Tryz.underlying113
  a31 := Tryz.isAgg113
  z31 := Tryz.sizeOf113
  v31 := Tryz.zeroValue113
  t37 := Tryz.underlying74
  a37 := Tryz.isAgg74
  z37 := Tryz.sizeOf74
  v37 := Tryz.zeroValue74
  t70 := Tryz.underlying117
  a70 := Tryz.isAgg117
  z70 := Tryz.sizeOf117
  v70 := Tryz.zeroValue117
  t72 := Tryz.underlying119
  a72 := Tryz.isAgg119
  z72 := Tryz.sizeOf119
  v72 := Tryz.zeroValue119
  t75 := Tryz.underlying131
  a75 := Tryz.isAgg131
  z75 := Tryz.sizeOf131
  v75 := Tryz.zeroValue131
  t76 := Tryz.underlying132
  a76 := Tryz.isAgg132
  z76 := Tryz.sizeOf132
  v76 := Tryz.zeroValue132
  t127 := Tryz.underlying129
  a127 := Tryz.isAgg129
  z127 := Tryz.sizeOf129
  v127 := Tryz.zeroValue129
  t164 := Tryz.underlying168
  a164 := Tryz.isAgg168
  z164 := Tryz.sizeOf168
  v164 := Tryz.zeroValue168 }
theorem Tryz.Builder_Extra_156 : Builder.Extra Tryz.prog Tryz.lays156_ren := {
  sizeBuilder := by kernel_rfl
  liesBuilder := by kernel_rfl
  t5 := Tryz.underlying5
  a5 := Tryz.isAgg5
  z5 := Tryz.sizeOf5
  v5 := Tryz.zeroValue5
  infoByte := by kernel_rfl
  cellsByte := by kernel_rfl
  sizeByte := by kernel_rfl
  neB5 := by decide }
open Go.RowKit in
/-- strings.Join: "Join concatenates the elements of its first argument to create a single string. The separator string sep is placed between elements in the resulting string.": HOWEVER MANY ELEMENTS. Below the heap's end the world is as it was. (LAID: no walk: one application.) -/
theorem Tryz.strings_Join (bk o c : Nat) (xs : List ByteArray) (sep : ByteArray) (w : World) (hcells : ∀ (j : Nat) x, xs[j]? = some x → w.cell? ⟨bk, o + j, none⟩ = some (.string x)) (hbk : bk < w.heap.size) (hN : xs.length ≤ 140737488355328) (hcap : xs.length ≤ c) (hlen : (Lib.join (xs.map (·.data.toList)) sep.data.toList).length ≤ 140737488355328) :
    Calls Tryz.prog 62 #[.slice (some ⟨bk, o, none⟩) xs.length c, .string sep] w fun e w' => e = .returned (.string ⟨(Lib.join (xs.map (·.data.toList)) sep.data.toList).toArray⟩) ∧ Below w.heap.size w w' := Any.strings_Join Tryz.lays156 Tryz.Builder_Extra_156 bk o c xs sep w hcells hbk hN hcap hlen
def Tryz.lays119_ren : Go.Shelf.Ren := ⟨fun | 119 => 121 | n => n, fun | 21 => 21 | 4 => 4 | n => n, fun | n => n⟩
theorem Tryz.lays119 : Go.Proofs.Lays.n119 Tryz.prog Tryz.lays119_ren := {
  mixed := by kernel_rfl
  f119 := Tryz.func121.trans (congrArg some (by kernel_rfl))
  t4 := Tryz.underlying4
  a4 := Tryz.isAgg4
  z4 := Tryz.sizeOf4
  v4 := Tryz.zeroValue4
  t21 := Tryz.underlying21
  a21 := Tryz.isAgg21
  z21 := Tryz.sizeOf21
  v21 := Tryz.zeroValue21 }
/-- utf8.ValidRune: "ValidRune reports whether r can be legally encoded as UTF-8. Code points that are out of range or a surrogate half are illegal.": IT RETURNS 'Lib.validRune r'; the world is as it was. (LAID: no walk: one application.) -/
theorem Tryz.utf8_ValidRune (r : Int) (w : World) :
    Calls Tryz.prog 121 #[.int .i32 r] w fun e w' => e = .returned (.bool (Lib.validRune r)) ∧ w' = w := Any.utf8_ValidRune Tryz.lays119 r w
def Tryz.lays106_ren : Go.Shelf.Ren := ⟨fun | 106 => 56 | 213 => 76 | 265 => 100 | n => n, fun | 9 => 9 | 3 => 3 | n => n, fun | n => n⟩
theorem Tryz.lays106 : Go.Proofs.Lays.n106 Tryz.prog Tryz.lays106_ren := {
  mixed := by kernel_rfl
  f106 := Tryz.func56.trans (congrArg some (by kernel_rfl))
  f213 := Tryz.func76.trans (congrArg some (by kernel_rfl))
  f265 := Tryz.func100.trans (congrArg some (by kernel_rfl))
  t3 := Tryz.underlying3
  a3 := Tryz.isAgg3
  z3 := Tryz.sizeOf3
  v3 := Tryz.zeroValue3
  t9 := Tryz.underlying9
  a9 := Tryz.isAgg9
  z9 := Tryz.sizeOf9
  v9 := Tryz.zeroValue9 }
open Go.RowKit in
/-- strings.Compare: "Compare returns an integer comparing two strings lexicographically. The result will be 0 if a == b, -1 if a < b, and +1 if a > b.": IT RETURNS 'Lib.compareBytes a b'; the world is as it was. (LAID: no walk: one application.) -/
theorem Tryz.strings_Compare (a b : ByteArray) (w : World) :
    Calls Tryz.prog 56 #[.string a, .string b] w fun e w' => e = .returned (.int .i64 (Lib.compareBytes a.data.toList b.data.toList)) ∧ w' = w := Any.strings_Compare Tryz.lays106 a b w
def Tryz.lays137_ren : Go.Shelf.Ren := ⟨fun | 137 => 116 | 217 => 118 | 266 => 120 | n => n, fun | 9 => 9 | 5 => 5 | 3 => 3 | n => n, fun | n => n⟩
theorem Tryz.lays137 : Go.Proofs.Lays.n137 Tryz.prog Tryz.lays137_ren := {
  mixed := by kernel_rfl
  f137 := Tryz.func116.trans (congrArg some (by kernel_rfl))
  f217 := Tryz.func118.trans (congrArg some (by kernel_rfl))
  f266 := Tryz.func120.trans (congrArg some (by kernel_rfl))
  t3 := Tryz.underlying3
  a3 := Tryz.isAgg3
  z3 := Tryz.sizeOf3
  v3 := Tryz.zeroValue3
  t5 := Tryz.underlying5
  a5 := Tryz.isAgg5
  z5 := Tryz.sizeOf5
  v5 := Tryz.zeroValue5
  t9 := Tryz.underlying9
  a9 := Tryz.isAgg9
  z9 := Tryz.sizeOf9
  v9 := Tryz.zeroValue9 }
open Go.RowKit in
/-- strings.IndexByte: "IndexByte returns the index of the first instance of c in s, or -1 if c is not present in s.": IT RETURNS 'Lib.indexByte s c'; the world is as it was. (LAID: no walk: one application.) -/
theorem Tryz.strings_IndexByte (s : ByteArray) (c : Int) (w : World) :
    Calls Tryz.prog 116 #[.string s, .int .u8 c] w fun e w' => e = .returned (.int .i64 (Lib.indexByte s.data.toList c.toNat.toUInt8)) ∧ w' = w := Any.strings_IndexByte Tryz.lays137 s c w
open Go.RowKit in
/-- (*strings.Builder).String: "String returns the accumulated string.": WHATEVER THE BUILDER HOLDS; THE FORM '_k': OVER 'Lib.IsBuilderF' (a builder that 'String()' may have read), AND WITH THE FRAME THAT REACHES ABOVE THE BUILDER: 'Lib.OthersKept': every block that is not b and is no row of uint8's stands as it stood: the iterator of a range among them. (LAID: no walk: one application.) -/
theorem Tryz.Builder_String_any_k (B b : Nat) (l : List UInt8) (w : World) (h : Lib.IsBuilderF 119 5 B b (Lib.byteCells l) w) (hBw : B ≤ w.heap.size) :
    Calls Tryz.prog 71 #[.pointer (some ⟨b, 0, none⟩)] w fun e w' => e = .returned (.string ⟨l.toArray⟩) ∧ (Lib.IsBuilderF 119 5 B b (Lib.byteCells l) w' ∧ Below B w w' ∧ Lib.OthersKept 5 (some b) w w') := Any.Builder_String_any_k Tryz.lays169 Tryz.Builder_Extra_169 B b l w h hBw
def Tryz.lays102_ren : Go.Shelf.Ren := ⟨fun | 102 => 34 | 209 => 66 | 207 => 83 | n => n, fun | 9 => 9 | 4 => 4 | 3 => 3 | n => n, fun | n => n⟩
theorem Tryz.lays102 : Go.Proofs.Lays.n102 Tryz.prog Tryz.lays102_ren := {
  mixed := by kernel_rfl
  f102 := Tryz.func34.trans (congrArg some (by kernel_rfl))
  f207 := Tryz.func83.trans (congrArg some (by kernel_rfl))
  f209 := Tryz.func66.trans (congrArg some (by kernel_rfl))
  t3 := Tryz.underlying3
  a3 := Tryz.isAgg3
  z3 := Tryz.sizeOf3
  v3 := Tryz.zeroValue3
  t4 := Tryz.underlying4
  a4 := Tryz.isAgg4
  z4 := Tryz.sizeOf4
  v4 := Tryz.zeroValue4
  t9 := Tryz.underlying9
  a9 := Tryz.isAgg9
  z9 := Tryz.sizeOf9
  v9 := Tryz.zeroValue9 }
open Go.RowKit Go.Lib in
/-- strings.TrimSuffix: "TrimSuffix returns s without the provided trailing suffix string. If s doesn't end with suffix, s is returned unchanged.": IT RETURNS 'Lib.trimSuffix s suffix'; the world is as it was. (LAID: no walk: one application.) -/
theorem Tryz.strings_TrimSuffix (s p : ByteArray) (w : World) (hs : s.size ≤ 9223372036854775807) :
    Calls Tryz.prog 34 #[.string s, .string p] w fun e w' => e = .returned (.string ⟨(Lib.trimSuffix s.data.toList p.data.toList).toArray⟩) ∧ w' = w := Any.strings_TrimSuffix Tryz.lays102 s p w hs
def Tryz.lays151_ren : Go.Shelf.Ren := ⟨fun | 151 => 117 | 152 => 119 | 137 => 116 | 119 => 121 | 224 => 122 | 225 => 123 | 217 => 118 | 266 => 120 | n => n, fun | 9 => 9 | 21 => 21 | 4 => 4 | 3 => 3 | 5 => 5 | 0 => 0 | 46 => 127 | n => n, fun | n => n⟩
theorem Tryz.lays151 : Go.Proofs.Lays.n151 Tryz.prog Tryz.lays151_ren := {
  mixed := by kernel_rfl
  f119 := Tryz.func121.trans (congrArg some (by kernel_rfl))
  f137 := Tryz.func116.trans (congrArg some (by kernel_rfl))
  f151 := Tryz.func117.trans (congrArg some (by kernel_rfl))
  f152 := Tryz.func119.trans (congrArg some (by kernel_rfl))
  f217 := Tryz.func118.trans (congrArg some (by kernel_rfl))
  f224 := Tryz.func122.trans (congrArg some (by kernel_rfl))
  f225 := Tryz.func123.trans (congrArg some (by kernel_rfl))
  f266 := Tryz.func120.trans (congrArg some (by kernel_rfl))
  t0 := Tryz.underlying0
  a0 := Tryz.isAgg0
  z0 := Tryz.sizeOf0
  v0 := Tryz.zeroValue0
  t3 := Tryz.underlying3
  a3 := Tryz.isAgg3
  z3 := Tryz.sizeOf3
  v3 := Tryz.zeroValue3
  t4 := Tryz.underlying4
  a4 := Tryz.isAgg4
  z4 := Tryz.sizeOf4
  v4 := Tryz.zeroValue4
  t5 := Tryz.underlying5
  a5 := Tryz.isAgg5
  z5 := Tryz.sizeOf5
  v5 := Tryz.zeroValue5
  t9 := Tryz.underlying9
  a9 := Tryz.isAgg9
  z9 := Tryz.sizeOf9
  v9 := Tryz.zeroValue9
  t21 := Tryz.underlying21
  a21 := Tryz.isAgg21
  z21 := Tryz.sizeOf21
  v21 := Tryz.zeroValue21
  t46 := Tryz.underlying127
  a46 := Tryz.isAgg127
  z46 := Tryz.sizeOf127
  v46 := Tryz.zeroValue127 }
open Go.RowKit Go.Lib in
theorem Tryz.strings_ContainsRune_ascii (s : ByteArray) (r : Int) (w : World) (h0 : 0 ≤ r) (h1 : r < 128) :
    Calls Tryz.prog 117 #[.string s, .int .i32 r] w fun e w' => e = .returned (.bool (decide (0 ≤ Lib.indexByte s.data.toList r.toNat.toUInt8))) ∧ w' = w := Any.strings_ContainsRune_ascii Tryz.lays151 s r w h0 h1

end Go.Proofs
