/-
  Texts that are written and read again, as mathematics.
-/
import Derived.Test.YtpaeppklkicngaaDoorRomU
import Derived.Test.YtpaeppklkicngaaDoorRomR
set_option linter.unusedVariables false
set_option linter.unusedSimpArgs false
namespace Go.Proofs.YtpaeppklkicngaaDoor.Rom
open Go Go.RowKit Go.Proofs.YtpaeppklkicngaaDoor.Kit Go.Proofs.YtpaeppklkicngaaDoor.Utf

theorem nl_no_key : isKeyZ ((10 : UInt8).toNat : Int) = false := by decide
theorem hash_no_key : isKeyZ ((35 : UInt8).toNat : Int) = false := by decide
theorem keys_free {l : List UInt8} (h : keysOK l = true) (b : UInt8) (hb : isKeyZ (b.toNat : Int) = false) : b ∉ l := by
  intro hm
  unfold keysOK at h
  have := List.all_eq_true.1 h b hm
  rw [hb] at this; cases this
/-- No byte below 128 is in a text of kana. -/
theorem kana_free {l : List UInt8} (h : kanaOK l = true) (b : UInt8) (hb : b.toNat < 128) : b ∉ l := by
  unfold kanaOK at h
  cases hc : chars l with
  | none => rw [hc] at h; cases h
  | some cs =>
    rw [hc] at h
    simp only [Bool.and_eq_true, decide_eq_true_eq, List.all_eq_true] at h
    obtain ⟨hv, e⟩ := chars_some hc
    rw [e]
    intro hm
    unfold encs at hm
    obtain ⟨c, hcm, hm⟩ := List.mem_flatMap.1 hm
    have hk := h.2 c hcm
    unfold isKanaZ at hk
    rw [decide_eq_true_eq] at hk
    rcases enc_forms c (hv c hcm) with ⟨h1, _⟩ | ⟨_, h1, _⟩ | ⟨h1, h2, e2⟩ | ⟨h1, _⟩
    · omega
    · omega
    · rw [e2] at hm
      have hlt : ∀ n, n < 256 → (UInt8.ofNat n).toNat = n := toNat_ofNat
      simp only [List.mem_cons, List.mem_nil_iff, or_false] at hm
      rcases hm with e3 | e3 | e3
      · have := congrArg UInt8.toNat e3; rw [hlt _ (by omega)] at this; omega
      · have := congrArg UInt8.toNat e3; rw [hlt _ (by omega)] at this; omega
      · have := congrArg UInt8.toNat e3; rw [hlt _ (by omega)] at this; omega
    · omega

theorem okR_parts {r : Rule} (h : okR r = true) : (1 ≤ r.k.size ∧ r.k.size ≤ 4) ∧ keysOK (bs r.k) = true ∧ r.n.size < r.k.size ∧ keysOK (bs r.n) = true ∧ kanaOK (bs r.o) = true ∧ (r.o.size ≠ 0 ∨ r.n.size ≠ 0) := by
  unfold okR at h
  simp only [Bool.and_eq_true, decide_eq_true_eq] at h
  exact ⟨h.1.1.1.1.1, h.1.1.1.1.2, h.1.1.1.2, h.1.1.2, h.1.2, h.2⟩

theorem line_free {r : Rule} (h : okR r = true) : (10 : UInt8) ∉ lineT r := by
  obtain ⟨_, h1, _, h2, h3, _⟩ := okR_parts h
  have k1 := keys_free h1 10 nl_no_key
  have k2 := keys_free h2 10 nl_no_key
  have k3 := kana_free h3 10 (by decide)
  unfold lineT
  intro hm
  rcases List.mem_append.1 hm with hm | hm
  · rcases List.mem_append.1 hm with hm | hm
    · exact k1 hm
    · rcases List.mem_cons.1 hm with e | hm
      · cases e
      · exact k3 hm
  · split at hm
    · cases hm
    · rcases List.mem_cons.1 hm with e | hm
      · cases e
      · exact k2 hm
theorem line_skip {r : Rule} (h : okR r = true) : skips (lineT r) = false := by
  obtain ⟨h0, h1, _, _, _, _⟩ := okR_parts h
  have k1 := keys_free h1 35 hash_no_key
  rw [← bs_len] at h0
  unfold lineT
  cases hb : bs r.k with
  | nil => rw [hb] at h0; simp at h0
  | cons b l =>
    show decide (b = 35) = false
    rw [decide_eq_false_iff_not]
    intro e
    exact k1 (by rw [hb, e]; exact List.mem_cons_self)
theorem line_rule {r : Rule} (h : okR r = true) : ruleOf (lineT r) = some r := by
  obtain ⟨h0, h1, _, h2, h3, _⟩ := okR_parts h
  have k1 := keys_free h1 9 tab_no_key
  have k2 := keys_free h2 9 tab_no_key
  have k3 := kana_free h3 9 (by decide)
  unfold ruleOf lineT
  by_cases hn : r.n.size = 0
  · rw [if_pos hn, List.append_nil, pc_cut k1, pc_none k3]
    simp only
    have e : r.n = ba [] := (bs_nil_iff r.n).1 hn
    rw [ba_bs, ba_bs, ← e]
  · rw [if_neg hn, List.append_assoc, List.cons_append, pc_cut k1, pc_cut k3, pc_none k2]
    simp only
    have : bs r.n ≠ [] := fun e => hn (by rw [← bs_len, e]; rfl)
    rw [if_neg this, ba_bs, ba_bs, ba_bs]

/-- What is written is read line by line. -/
theorem pc_print {rs : List Rule} (h : ∀ r ∈ rs, okR r = true) : pc 10 (printB rs) = rs.map lineT ++ [[]] := by
  induction rs with
  | nil => rfl
  | cons r rs ih =>
    have e : printB (r :: rs) = lineT r ++ 10 :: printB rs := by
      show (lineT r ++ [10]) ++ printB rs = _
      rw [List.append_assoc]; rfl
    rw [e, pc_cut (line_free (h r (by simp))), ih (fun x hx => h x (List.mem_cons_of_mem _ hx))]
    rfl
theorem fold_print {rs : List Rule} : ∀ {acc : List Rule} {k : Nat}, okL (acc ++ rs) = true → (acc ++ rs).length ≤ 500 → foldP acc k (rs.map lineT ++ [[]]) = (acc ++ rs, 0, 0) := by
  induction rs with
  | nil =>
    intro acc k h hl
    rw [List.append_nil]
    show foldP acc k [[]] = _
    rw [fold_skip rfl]
    rfl
  | cons r rs ih =>
    intro acc k h hl
    have h2 : okL (acc ++ [r]) = true := by
      have := okL_take (k := acc.length + 1) h
      rw [show acc ++ r :: rs = (acc ++ [r]) ++ rs by simp, List.take_left' (by simp)] at this
      exact this
    rw [okL_snoc] at h2
    simp only [Bool.and_eq_true] at h2
    obtain ⟨_, h3, h4⟩ := h2
    have hl2 : acc.length < 500 := by simp at hl; omega
    have hst : stepP acc (lineT r) = some (acc ++ [r]) := by
      unfold stepP
      rw [line_skip h3, line_rule h3]
      simp [h3, h4, hl2]
    show foldP acc k (lineT r :: (rs.map lineT ++ [[]])) = _
    have e : foldP acc k (lineT r :: (rs.map lineT ++ [[]])) = foldP (acc ++ [r]) (k + 1) (rs.map lineT ++ [[]]) := by
      show (match stepP acc (lineT r) with | some acc' => foldP acc' (k + 1) _ | none => ([], k + 1, 50)) = _
      rw [hst]
    rw [e, ih (by rw [List.append_assoc]; exact h) (by rw [List.append_assoc]; exact hl), List.append_assoc]
    rfl

/-- The round trip. -/
theorem parse_print {rs : List Rule} (h : checkL rs = 0) (hs : (ba (printB rs)).size ≤ 1048576) : parseL (ba (printB rs)) = (rs, 0, 0) := by
  unfold checkL at h
  split at h
  · cases h
  · rename_i hl
    split at h
    · rename_i hok
      unfold parseL
      rw [if_neg (by omega), bs_ba]
      have hall : ∀ r ∈ rs, okR r = true := by
        unfold okL at hok
        simp only [Bool.and_eq_true, List.all_eq_true] at hok
        exact hok.1
      rw [pc_print hall]
      exact fold_print (acc := []) hok (by simpa using hl)
    · cases h

/-- What is read is allowed. -/
theorem fold_ok : ∀ (ls : List (List UInt8)) (acc : List Rule) (k : Nat), okL acc = true → acc.length ≤ 500 → (foldP acc k ls).2.2 = 0 → okL (foldP acc k ls).1 = true ∧ (foldP acc k ls).1.length ≤ 500 := by
  intro ls
  induction ls with
  | nil => intro acc k h hl _; exact ⟨h, hl⟩
  | cons l ls ih =>
    intro acc k h hl h0
    have e : foldP acc k (l :: ls) = match stepP acc l with | some acc' => foldP acc' (k + 1) ls | none => ([], k + 1, 50) := rfl
    rw [e] at h0 ⊢
    cases hst : stepP acc l with
    | none => rw [hst] at h0; cases h0
    | some acc' =>
      rw [hst] at h0
      simp only at h0 ⊢
      refine ih acc' (k + 1) ?_ ?_ h0
      · unfold stepP at hst
        split at hst
        · cases hst; exact h
        · split at hst
          · split at hst
            · rename_i r _ hc
              cases hst
              simp only [Bool.and_eq_true] at hc
              rw [okL_snoc, h]
              simp [hc.1.1, hc.1.2]
            · cases hst
          · cases hst
      · unfold stepP at hst
        split at hst
        · cases hst; exact hl
        · split at hst
          · split at hst
            · rename_i r _ hc
              cases hst
              simp only [Bool.and_eq_true, decide_eq_true_eq] at hc
              rw [List.length_append]; simp; omega
            · cases hst
          · cases hst
theorem parse_ok {s : ByteArray} (h : (parseL s).2.2 = 0) : checkL (parseL s).1 = 0 := by
  have key : okL (parseL s).1 = true ∧ (parseL s).1.length ≤ 500 := by
    unfold parseL at h ⊢
    split at h
    · cases h
    · rename_i hs
      rw [if_neg hs]
      exact fold_ok _ [] 0 rfl (by simp) h
  unfold checkL
  rw [if_neg (by omega), key.1]
  rfl
theorem parse_err {s : ByteArray} (h : (parseL s).2.2 ≠ 0) : (parseL s).1 = [] := by
  unfold parseL at *
  split at h
  · rename_i hs; rw [if_pos hs]
  · rename_i hs
    rw [if_neg hs]
    have : ∀ (ls : List (List UInt8)) (acc : List Rule) (k : Nat), (foldP acc k ls).2.2 ≠ 0 → (foldP acc k ls).1 = [] := by
      intro ls
      induction ls with
      | nil => intro acc k h; exact absurd rfl h
      | cons l ls ih =>
        intro acc k h
        have e : foldP acc k (l :: ls) = match stepP acc l with | some acc' => foldP acc' (k + 1) ls | none => ([], k + 1, 50) := rfl
        rw [e] at h ⊢
        cases hst : stepP acc l with
        | none => rfl
        | some acc' => rw [hst] at h; exact ih acc' (k + 1) h
    exact this _ _ _ h

end Go.Proofs.YtpaeppklkicngaaDoor.Rom
