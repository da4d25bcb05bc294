/-
  Texts with a skipped line more, beginnings of texts; as mathematics.
-/
import Derived.Test.YtpaeppklkicngaaDoorRomO
import Derived.Test.YtpaeppklkicngaaDoorRomT
set_option linter.unusedVariables false
set_option linter.unusedSimpArgs false
set_option maxRecDepth 100000
namespace Go.Proofs.YtpaeppklkicngaaDoor.Rom
open Go Go.RowKit Go.Proofs.YtpaeppklkicngaaDoor.Kit Go.Proofs.YtpaeppklkicngaaDoor.Utf

/-- The bytes of lines, each with the byte behind it. -/
def tl (ps : List (List UInt8)) : Nat := (ps.map fun p => p.length + 1).sum
theorem tl_app (a b : List (List UInt8)) : tl (a ++ b) = tl a + tl b := by simp [tl]
theorem tl_one (p : List UInt8) : tl [p] = p.length + 1 := by simp [tl]
theorem tl_cons (p : List UInt8) (ps : List (List UInt8)) : tl (p :: ps) = p.length + 1 + tl ps := by simp [tl]
theorem jn_tl (c : UInt8) : ∀ {ps : List (List UInt8)}, ps ≠ [] → (jn c ps).length + 1 = tl ps := by
  intro ps
  induction ps with
  | nil => intro h; exact absurd rfl h
  | cons p ps ih =>
    intro _
    by_cases h : ps = []
    · subst h; rw [tl_one]; rfl
    · rw [jn_cons c p h, tl_cons, ← ih h]
      simp only [List.length_append, List.length_cons]
      omega
theorem jn_le (c : UInt8) (ps : List (List UInt8)) : (jn c ps).length ≤ tl ps := by
  by_cases h : ps = []
  · subst h; exact Nat.zero_le _
  · have := jn_tl c h; omega
theorem tl_take (ps : List (List UInt8)) (k : Nat) : tl (ps.take k) ≤ tl ps := by
  have := tl_app (ps.take k) (ps.drop k)
  rw [List.take_append_drop] at this
  omega
theorem tl_getD (ps : List (List UInt8)) (k : Nat) : (ps.getD k []).length ≤ tl ps := by
  by_cases h : k < ps.length
  · have h1 : ps.getD k [] = ps[k] := by rw [List.getD_eq_getElem?_getD, List.getElem?_eq_getElem h]; rfl
    have h2 := List.take_append_drop k ps
    have h3 := tl_app (ps.take k) (ps.drop k)
    rw [h2, List.drop_eq_getElem_cons h, tl_cons] at h3
    rw [h1]; omega
  · rw [List.getD_eq_getElem?_getD, List.getElem?_eq_none (by omega)]
    exact Nat.zero_le _
theorem jn_snoc (c : UInt8) (p : List UInt8) : ∀ {ps : List (List UInt8)}, ps ≠ [] → jn c (ps ++ [p]) = jn c ps ++ c :: p := by
  intro ps
  induction ps with
  | nil => intro h; exact absurd rfl h
  | cons q ps ih =>
    intro _
    by_cases h : ps = []
    · subst h; rfl
    · show jn c (q :: (ps ++ [p])) = _
      rw [jn_cons c q (by simp), ih h, jn_cons c q h, List.append_assoc]
      rfl
theorem take_succ_p {ps : List (List UInt8)} {k : Nat} (h : k < ps.length) : ps.take (k + 1) = ps.take k ++ [ps.getD k []] := by
  rw [List.take_add_one, List.getElem?_eq_getElem h, List.getD_eq_getElem?_getD, List.getElem?_eq_getElem h]; rfl
theorem jn_first {ps : List (List UInt8)} (h : 0 < ps.length) : jn 10 (ps.take 1) = ps.getD 0 [] := by
  rw [take_succ_p (k := 0) h]; rfl
theorem jn_more {ps : List (List UInt8)} {k : Nat} (h : k < ps.length) (h0 : 0 < k) : jn 10 (ps.take (k + 1)) = jn 10 (ps.take k) ++ 10 :: ps.getD k [] := by
  rw [take_succ_p h, jn_snoc]
  intro e
  have := congrArg List.length e
  rw [List.length_take, List.length_nil] at this
  omega

/-! ### lines that are read from a later number on -/
theorem fold_shift : ∀ (ls : List (List UInt8)) (acc : List Rule) (i : Nat), (foldP acc i ls).2.1 = 0 ∧ foldP acc (i + 1) ls = foldP acc i ls ∨ i < (foldP acc i ls).2.1 ∧ foldP acc (i + 1) ls = ((foldP acc i ls).1, (foldP acc i ls).2.1 + 1, (foldP acc i ls).2.2) := by
  intro ls
  induction ls with
  | nil => intro acc i; exact .inl ⟨rfl, rfl⟩
  | cons l ls ih =>
    intro acc i
    cases hst : stepP acc l with
    | none => rw [fold_none hst, fold_none hst]; right; exact ⟨Nat.lt_succ_self _, rfl⟩
    | some acc' =>
      rw [fold_some hst, fold_some hst]
      rcases ih acc' (i + 1) with ⟨h1, h2⟩ | ⟨h1, h2⟩
      · exact .inl ⟨h1, h2⟩
      · exact .inr ⟨by omega, h2⟩
/-- A skipped line more. -/
theorem fold_insert {x : List UInt8} (hx : skips x = true) (l2 : List (List UInt8)) : ∀ (l1 : List (List UInt8)) (acc : List Rule) (i : Nat),
    foldP acc i (l1 ++ x :: l2) = ((foldP acc i (l1 ++ l2)).1, (if i + l1.length < (foldP acc i (l1 ++ l2)).2.1 then (foldP acc i (l1 ++ l2)).2.1 + 1 else (foldP acc i (l1 ++ l2)).2.1), (foldP acc i (l1 ++ l2)).2.2) := by
  intro l1
  induction l1 with
  | nil =>
    intro acc i
    show foldP acc i (x :: l2) = _
    rw [fold_skip hx, List.nil_append, List.length_nil, Nat.add_zero]
    rcases fold_shift l2 acc i with ⟨h1, h2⟩ | ⟨h1, h2⟩
    · rw [h2, if_neg (by omega)]
    · rw [h2, if_pos (by omega)]
  | cons l l1 ih =>
    intro acc i
    show foldP acc i (l :: (l1 ++ x :: l2)) = _
    rw [List.cons_append]
    cases hst : stepP acc l with
    | none => rw [fold_none hst, fold_none hst, if_neg (by simp)]
    | some acc' =>
      rw [fold_some hst, fold_some hst, ih acc' (i + 1)]
      simp only [List.length_cons]
      rw [show i + 1 + l1.length = i + (l1.length + 1) by omega]
theorem fold_grows : ∀ (ls : List (List UInt8)) (acc : List Rule) (i : Nat), (foldP acc i ls).2.2 = 0 → (foldP acc i ls).2.1 = 0 ∧ ∃ t, (foldP acc i ls).1 = acc ++ t := by
  intro ls
  induction ls with
  | nil => intro acc i _; exact ⟨rfl, [], (List.append_nil _).symm⟩
  | cons l ls ih =>
    intro acc i h
    cases hst : stepP acc l with
    | none => rw [fold_none hst] at h; cases h
    | some acc' =>
      rw [fold_some hst] at h ⊢
      obtain ⟨h1, t, ht⟩ := ih acc' (i + 1) h
      refine ⟨h1, ?_⟩
      unfold stepP at hst
      split at hst
      · cases hst; exact ⟨t, ht⟩
      · split at hst
        · split at hst
          · cases hst; exact ⟨_ :: t, by rw [ht, List.append_assoc]; rfl⟩
          · cases hst
        · cases hst
/-- A beginning of what is accepted. -/
theorem fold_prefix (l2 : List (List UInt8)) : ∀ (l1 : List (List UInt8)) (acc : List Rule) (i : Nat), (foldP acc i (l1 ++ l2)).2.2 = 0 →
    ∃ c t, foldP acc i l1 = (c, 0, 0) ∧ (foldP acc i (l1 ++ l2)).1 = c ++ t := by
  intro l1
  induction l1 with
  | nil =>
    intro acc i h
    obtain ⟨_, t, ht⟩ := fold_grows l2 acc i h
    exact ⟨acc, t, rfl, ht⟩
  | cons l l1 ih =>
    intro acc i h
    rw [List.cons_append] at h ⊢
    cases hst : stepP acc l with
    | none => rw [fold_none hst] at h; cases h
    | some acc' =>
      rw [fold_some hst] at h ⊢
      rw [fold_some hst]
      exact ih acc' (i + 1) h

/-- What is read of joined lines. -/
theorem parse_joined {ps : List (List UInt8)} (hf : ∀ p ∈ ps, (10 : UInt8) ∉ p) (hl : tl ps ≤ 1048576) : parseL (ba (jn 10 ps)) = foldP [] 0 ps := by
  have h := jn_le 10 ps
  unfold parseL
  rw [if_neg (by rw [ba_size]; omega), bs_ba]
  by_cases h0 : ps = []
  · subst h0
    show foldP [] 0 [[]] = _
    rw [fold_skip rfl]
    rfl
  · rw [pc_jn h0 hf]
theorem parse_lines (s : ByteArray) (hs : s.size ≤ 5000) : parseL s = foldP [] 0 (pc 10 (bs s)) := by
  unfold parseL
  rw [if_neg (by omega)]
theorem tl_lines (s : ByteArray) : tl (pc 10 (bs s)) = s.size + 1 := by
  rw [← jn_tl 10 (pc_ne 10 (bs s)), jn_pc, bs_len]

end Go.Proofs.YtpaeppklkicngaaDoor.Rom
