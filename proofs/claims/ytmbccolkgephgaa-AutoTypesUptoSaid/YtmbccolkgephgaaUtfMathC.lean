/-
  Plain facts: bytes and characters have the same order.
-/
import Derived.Test.YtmbccolkgephgaaUtfMath
import GoSem.Op.String
set_option linter.unusedVariables false
set_option linter.unusedSimpArgs false
namespace Go.Proofs.Ytmbccolkgephgaa.Utf
open Go

/-- How two lists of characters compare: -1, 0 or 1. -/
def cmpL : List Int → List Int → Int
  | [], [] => 0
  | [], _ :: _ => -1
  | _ :: _, [] => 1
  | a :: x, b :: y => if a < b then -1 else if b < a then 1 else cmpL x y

theorem bl_cons (m n : Nat) (hm : m < 256) (hn : n < 256) (x y : List UInt8) : Op.bytesLess (UInt8.ofNat m :: x) (UInt8.ofNat n :: y) = (decide (m < n) || (decide (m = n) && Op.bytesLess x y)) := by
  have e1 : (decide (UInt8.ofNat m < UInt8.ofNat n)) = decide (m < n) := by
    rw [decide_eq_decide, UInt8.lt_iff_toNat_lt, toNat_ofNat m hm, toNat_ofNat n hn]
  have e2 : (UInt8.ofNat m == UInt8.ofNat n) = decide (m = n) := by
    by_cases h : m = n
    · subst h; simp
    · rw [decide_eq_false h]
      rw [beq_eq_false_iff_ne]
      intro e
      have := congrArg UInt8.toNat e
      rw [toNat_ofNat m hm, toNat_ofNat n hn] at this
      exact h this
  rw [Op.bytesLess, e1, e2]

theorem bl_lt {m n : Nat} (hm : m < 256) (hn : n < 256) (h : m < n) (x y : List UInt8) : Op.bytesLess (UInt8.ofNat m :: x) (UInt8.ofNat n :: y) = true ∧ Op.bytesLess (UInt8.ofNat n :: y) (UInt8.ofNat m :: x) = false := by
  rw [bl_cons m n hm hn, bl_cons n m hn hm]
  have h1 : ¬ n < m := by omega
  have h2 : ¬ n = m := by omega
  simp [h, h1, h2]
theorem bl_eq {m n : Nat} (hm : m < 256) (h : m = n) {x y : List UInt8} (k : Op.bytesLess x y = true ∧ Op.bytesLess y x = false) : Op.bytesLess (UInt8.ofNat m :: x) (UInt8.ofNat n :: y) = true ∧ Op.bytesLess (UInt8.ofNat n :: y) (UInt8.ofNat m :: x) = false := by
  subst h
  rw [bl_cons m m hm hm, bl_cons m m hm hm]
  simp [k.1, k.2]

theorem enc_less {c d : Int} (hc : validRune c = true) (hd : validRune d = true) (h : c < d) (x y : List UInt8) : Op.bytesLess (enc c ++ x) (enc d ++ y) = true ∧ Op.bytesLess (enc d ++ y) (enc c ++ x) = false := by
  have vc := (valid_iff c).1 hc
  have vd := (valid_iff d).1 hd
  rcases enc_forms c hc with ⟨h1, e⟩ | ⟨h1, h2, e⟩ | ⟨h1, h2, e⟩ | ⟨h1, h2, e⟩ <;> rcases enc_forms d hd with ⟨k1, f⟩ | ⟨k1, k2, f⟩ | ⟨k1, k2, f⟩ | ⟨k1, k2, f⟩ <;> first | (exfalso; omega) | (rw [e, f]; simp only [List.cons_append, List.nil_append]) 
  · exact bl_lt (by omega) (by omega) (by omega) _ _
  · exact bl_lt (by omega) (by omega) (by omega) _ _
  · exact bl_lt (by omega) (by omega) (by omega) _ _
  · exact bl_lt (by omega) (by omega) (by omega) _ _
  · by_cases g : c.toNat / 64 < d.toNat / 64
    · exact bl_lt (by omega) (by omega) (by omega) _ _
    · exact bl_eq (by omega) (by omega) (bl_lt (by omega) (by omega) (by omega) _ _)
  · exact bl_lt (by omega) (by omega) (by omega) _ _
  · exact bl_lt (by omega) (by omega) (by omega) _ _
  · by_cases g : c.toNat / 4096 < d.toNat / 4096
    · exact bl_lt (by omega) (by omega) (by omega) _ _
    · by_cases g2 : c.toNat / 64 % 64 < d.toNat / 64 % 64
      · exact bl_eq (by omega) (by omega) (bl_lt (by omega) (by omega) (by omega) _ _)
      · exact bl_eq (by omega) (by omega) (bl_eq (by omega) (by omega) (bl_lt (by omega) (by omega) (by omega) _ _))
  · exact bl_lt (by omega) (by omega) (by omega) _ _
  · by_cases g : c.toNat / 262144 < d.toNat / 262144
    · exact bl_lt (by omega) (by omega) (by omega) _ _
    · by_cases g2 : c.toNat / 4096 % 64 < d.toNat / 4096 % 64
      · exact bl_eq (by omega) (by omega) (bl_lt (by omega) (by omega) (by omega) _ _)
      · by_cases g3 : c.toNat / 64 % 64 < d.toNat / 64 % 64
        · exact bl_eq (by omega) (by omega) (bl_eq (by omega) (by omega) (bl_lt (by omega) (by omega) (by omega) _ _))
        · exact bl_eq (by omega) (by omega) (bl_eq (by omega) (by omega) (bl_eq (by omega) (by omega) (bl_lt (by omega) (by omega) (by omega) _ _)))

theorem bl_same (l x y : List UInt8) : Op.bytesLess (l ++ x) (l ++ y) = Op.bytesLess x y := by
  induction l with
  | nil => rfl
  | cons a l ih =>
    show Op.bytesLess (a :: (l ++ x)) (a :: (l ++ y)) = _
    rw [Op.bytesLess, ih]
    simp

theorem enc_ne {c : Int} (h : validRune c = true) : enc c ≠ [] := by
  have := enc_len c h
  intro e; rw [e] at this; simp at this

/-- Strings are in the order of their characters. -/
theorem less_encs : ∀ {cs ds : List Int}, (∀ c ∈ cs, validRune c = true) → (∀ d ∈ ds, validRune d = true) → Op.bytesLess (encs cs) (encs ds) = decide (cmpL cs ds < 0)
  | [], [], _, _ => by simp [encs, Op.bytesLess, cmpL]
  | [], d :: ds, _, hd => by
    have h := enc_ne (hd d (by simp))
    rw [encs_cons]
    show Op.bytesLess [] _ = _
    cases he : enc d ++ encs ds with
    | nil => simp at he; exact absurd he.1 h
    | cons a t => rfl
  | c :: cs, [], hc, _ => by
    show Op.bytesLess (encs (c :: cs)) [] = _
    cases encs (c :: cs) <;> rfl
  | c :: cs, d :: ds, hc, hd => by
    have h1 := hc c (by simp)
    have h2 := hd d (by simp)
    rw [encs_cons, encs_cons]
    unfold cmpL
    by_cases hlt : c < d
    · rw [(enc_less h1 h2 hlt _ _).1, if_pos hlt]; rfl
    · rw [if_neg hlt]
      by_cases hgt : d < c
      · rw [(enc_less h2 h1 hgt _ _).2, if_pos hgt]; rfl
      · rw [if_neg hgt]
        obtain rfl : c = d := by omega
        rw [bl_same]
        exact less_encs (fun x hx => hc x (by simp [hx])) (fun x hx => hd x (by simp [hx]))

theorem cmpL_zero : ∀ {cs ds : List Int}, cmpL cs ds = 0 ↔ cs = ds
  | [], [] => by simp [cmpL]
  | [], d :: ds => by simp [cmpL]
  | c :: cs, [] => by simp [cmpL]
  | c :: cs, d :: ds => by
    unfold cmpL
    by_cases hlt : c < d
    · rw [if_pos hlt]; simp; omega
    · rw [if_neg hlt]
      by_cases hgt : d < c
      · rw [if_pos hgt]; simp; omega
      · rw [if_neg hgt, cmpL_zero]
        simp; omega

theorem encs_inj {cs ds : List Int} (hc : ∀ c ∈ cs, validRune c = true) (hd : ∀ d ∈ ds, validRune d = true) (h : encs cs = encs ds) : cs = ds := by
  have h1 := chars_encs hc
  have h2 := chars_encs hd
  rw [h] at h1
  rw [h1] at h2
  exact Option.some.inj h2

theorem eq_encs {cs ds : List Int} (hc : ∀ c ∈ cs, validRune c = true) (hd : ∀ d ∈ ds, validRune d = true) : (encs cs == encs ds) = decide (cmpL cs ds = 0) := by
  by_cases h : cs = ds
  · subst h; rw [decide_eq_true (cmpL_zero.2 rfl)]; simp
  · rw [decide_eq_false (fun e => h (cmpL_zero.1 e)), beq_eq_false_iff_ne]
    exact fun e => h (encs_inj hc hd e)

theorem cmpL_range : ∀ (cs ds : List Int), cmpL cs ds = -1 ∨ cmpL cs ds = 0 ∨ cmpL cs ds = 1
  | [], [] => by simp [cmpL]
  | [], d :: ds => by simp [cmpL]
  | c :: cs, [] => by simp [cmpL]
  | c :: cs, d :: ds => by
    unfold cmpL
    by_cases hlt : c < d
    · rw [if_pos hlt]; simp
    · rw [if_neg hlt]
      by_cases hgt : d < c
      · rw [if_pos hgt]; simp
      · rw [if_neg hgt]; exact cmpL_range cs ds

theorem cmpL_step {cs ds : List Int} {k : Nat} (h1 : k < cs.length) (h2 : k < ds.length) : cmpL (cs.drop k) (ds.drop k) = if cs[k] < ds[k] then -1 else if ds[k] < cs[k] then 1 else cmpL (cs.drop (k + 1)) (ds.drop (k + 1)) := by
  rw [List.drop_eq_getElem_cons h1, List.drop_eq_getElem_cons h2]; rfl

end Go.Proofs.Ytmbccolkgephgaa.Utf
