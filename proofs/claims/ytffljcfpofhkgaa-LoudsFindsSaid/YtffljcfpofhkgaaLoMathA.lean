/-
  Ascending strings as a tree of prefixes, as mathematics: common prefixes, the beginnings and ends of the prefixes of each length. Of no program.
-/
set_option linter.unusedVariables false
set_option linter.unusedSimpArgs false
namespace Go.Proofs.Ytffljcfpofhkgaa.Lo

abbrev Str := List UInt8

/-- How many bytes two strings have in common at their beginnings. -/
def lcp : Str → Str → Nat
  | a :: x, b :: y => if a = b then lcp x y + 1 else 0
  | _, _ => 0
theorem lcp_left : ∀ a b : Str, lcp a b ≤ a.length
  | [], _ => by simp [lcp]
  | _ :: _, [] => by simp [lcp]
  | a :: x, b :: y => by
    have := lcp_left x y
    unfold lcp
    split
    · simp; omega
    · simp
theorem lcp_right : ∀ a b : Str, lcp a b ≤ b.length
  | [], _ => by simp [lcp]
  | _ :: _, [] => by simp [lcp]
  | a :: x, b :: y => by
    have := lcp_right x y
    unfold lcp
    split
    · simp; omega
    · simp
theorem lcp_le : ∀ (n : Nat) (a b : Str), n ≤ lcp a b ↔ n ≤ a.length ∧ n ≤ b.length ∧ a.take n = b.take n := by
  intro n
  induction n with
  | zero => intro a b; simp
  | succ n ih =>
    intro a b
    cases a with
    | nil => simp [lcp]
    | cons x a =>
      cases b with
      | nil => simp [lcp]
      | cons y b =>
        unfold lcp
        split
        · rename_i h
          subst h
          rw [Nat.add_le_add_iff_right, ih]
          simp
        · rename_i h
          constructor
          · intro h'; omega
          · rintro ⟨_, _, h'⟩; simp at h'; exact absurd h'.1 h
theorem lcp_comm (a b : Str) : lcp a b = lcp b a := by
  apply Nat.le_antisymm
  · rw [lcp_le]; have := (lcp_le _ a b).1 (Nat.le_refl _); exact ⟨this.2.1, this.1, this.2.2.symm⟩
  · rw [lcp_le]; have := (lcp_le _ b a).1 (Nat.le_refl _); exact ⟨this.2.1, this.1, this.2.2.symm⟩
theorem lcp_trans {n : Nat} {a b c : Str} (h : n ≤ lcp a b) (k : n ≤ lcp b c) : n ≤ lcp a c := by
  rw [lcp_le] at *
  exact ⟨h.1, k.2.1, h.2.2.trans k.2.2⟩
theorem cons_lt {a b : UInt8} {x y : Str} : a :: x < b :: y ↔ a < b ∨ (a = b ∧ x < y) := List.cons_lt_cons_iff
/-- A greater string is not a prefix of a smaller one. -/
theorem lcp_lt : ∀ {a b : Str}, a < b → lcp a b < b.length
  | [], [], h => absurd h (List.lt_irrefl _)
  | [], _ :: _, _ => by simp [lcp]
  | _ :: _, [], h => absurd h (List.not_lt_nil _)
  | a :: x, b :: y, h => by
    unfold lcp
    split
    · rename_i e
      subst e
      rcases cons_lt.1 h with h | ⟨_, h⟩
      · exact absurd h (UInt8.lt_irrefl _)
      · have := lcp_lt h; simp; omega
    · simp
theorem lcp_mid : ∀ {a b c : Str}, a < b → b < c → lcp a c ≤ lcp a b ∧ lcp a c ≤ lcp b c
  | [], _, _, _, _ => by simp [lcp]
  | _ :: _, [], _, h, _ => absurd h (List.not_lt_nil _)
  | _ :: _, _ :: _, [], _, h => absurd h (List.not_lt_nil _)
  | a :: x, b :: y, c :: z, h, k => by
    rcases cons_lt.1 h with h1 | ⟨rfl, h1⟩ <;> rcases cons_lt.1 k with k1 | ⟨rfl, k1⟩
    · have hac : a < c := UInt8.lt_trans h1 k1
      have e : ¬ a = c := fun e => by subst e; exact UInt8.lt_irrefl _ hac
      simp [lcp, e]
    · have e : ¬ a = b := fun e => by subst e; exact UInt8.lt_irrefl _ h1
      simp [lcp, e]
    · have e : ¬ a = c := fun e => by subst e; exact UInt8.lt_irrefl _ k1
      simp [lcp, e]
    · have := lcp_mid h1 k1
      simp [lcp]; exact this

/-- String i of a list. -/
def sg (L : List Str) (i : Nat) : Str := L.getD i []
theorem sg_get {L : List Str} {i : Nat} (h : i < L.length) : L[i]? = some (sg L i) := by
  unfold sg; rw [List.getD_eq_getElem?_getD, List.getElem?_eq_getElem h]; rfl
theorem sg_of {L : List Str} {i : Nat} {s : Str} (h : L[i]? = some s) : sg L i = s := by
  unfold sg; rw [List.getD_eq_getElem?_getD, h]; rfl
def ln (L : List Str) (i : Nat) : Nat := (sg L i).length
/-- What a string has in common with the one before it. -/
def lc (L : List Str) (i : Nat) : Nat := lcp (sg L (i - 1)) (sg L i)
/-- The lists of strings that are sets. -/
def Ok (L : List Str) : Prop := (∀ i, i < L.length → 1 ≤ ln L i ∧ ln L i ≤ 256) ∧ ∀ i, i + 1 < L.length → sg L i < sg L (i + 1)
theorem Ok.lt {L : List Str} (h : Ok L) {i : Nat} : ∀ {j : Nat}, i < j → j < L.length → sg L i < sg L j := by
  intro j
  induction j with
  | zero => intro h1; omega
  | succ j ih =>
    intro h1 h2
    have h3 := h.2 j h2
    by_cases e : i = j
    · subst e; exact h3
    · exact List.lt_trans (ih (by omega) (by omega)) h3
theorem Ok.inj {L : List Str} (h : Ok L) {i j : Nat} (hi : i < L.length) (hj : j < L.length) (e : sg L i = sg L j) : i = j := by
  rcases Nat.lt_trichotomy i j with h1 | h1 | h1
  · have := h.lt h1 hj; rw [e] at this; exact absurd this (List.lt_irrefl _)
  · exact h1
  · have := h.lt h1 hi; rw [e] at this; exact absurd this (List.lt_irrefl _)
theorem Ok.lc_lt {L : List Str} (h : Ok L) {i : Nat} (h0 : 0 < i) (hi : i < L.length) : lc L i < ln L i := by
  have := h.2 (i - 1) (by omega)
  rw [show i - 1 + 1 = i by omega] at this
  exact lcp_lt this
theorem lc_le_left (L : List Str) (i : Nat) : lc L (i + 1) ≤ ln L i := lcp_left _ _
theorem lc_le_right (L : List Str) (i : Nat) : lc L i ≤ ln L i := lcp_right _ _
/-- Strings have n bytes in common if each neighbours between them have. -/
theorem lcp_run {L : List Str} {n i : Nat} : ∀ d, n ≤ ln L i → (∀ e, i < e → e ≤ i + d → n ≤ lc L e) → n ≤ lcp (sg L i) (sg L (i + d)) := by
  intro d
  induction d with
  | zero => intro h _; exact (lcp_le _ _ _).2 ⟨h, h, rfl⟩
  | succ d ih =>
    intro h hr
    have h1 := ih h fun e h1 h2 => hr e h1 (by omega)
    have h2 := hr (i + (d + 1)) (by omega) (Nat.le_refl _)
    unfold lc at h2
    rw [show i + (d + 1) - 1 = i + d by omega] at h2
    exact lcp_trans h1 h2
theorem Ok.run {L : List Str} (h : Ok L) {n i j : Nat} (hj : j < L.length) (hn : n ≤ lcp (sg L i) (sg L j)) : ∀ e, i < e → e ≤ j → n ≤ lc L e := by
  intro e h1 h2
  unfold lc
  by_cases e1 : i = e - 1
  · by_cases e2 : e = j
    · subst e1 e2; exact hn
    · have := (lcp_mid (h.lt (show i < e by omega) (by omega)) (h.lt (show e < j by omega) hj)).1
      subst e1; omega
  · have a1 := h.lt (show i < e - 1 by omega) (by omega)
    have a2 := h.lt (show e - 1 < e by omega) (by omega)
    have b1 : n ≤ lcp (sg L (e - 1)) (sg L j) := by
      by_cases e3 : e - 1 = j
      · omega
      · have := (lcp_mid a1 (h.lt (show e - 1 < j by omega) hj)).2; omega
    by_cases e2 : e = j
    · subst e2; exact b1
    · have := (lcp_mid a2 (h.lt (show e < j by omega) hj)).1; omega

/-- A prefix of n bytes begins at string i. -/
def st (L : List Str) (n i : Nat) : Bool := decide (n ≤ ln L i) && (decide (i = 0) || decide (lc L i < n))
theorem st_iff {L : List Str} {n i : Nat} : st L n i = true ↔ n ≤ ln L i ∧ (i = 0 ∨ lc L i < n) := by unfold st; simp
def enA (L : List Str) (n : Nat) : Nat → Nat → Nat
  | 0, e => e
  | k + 1, e => if lc L e < n then e else enA L n k (e + 1)
/-- Where the strings that begin with n bytes of string i end. -/
def en (L : List Str) (n i : Nat) : Nat := enA L n (L.length - (i + 1)) (i + 1)
theorem enA_ge (L : List Str) (n : Nat) : ∀ k e, e ≤ enA L n k e := by
  intro k
  induction k with
  | zero => intro e; exact Nat.le_refl _
  | succ k ih => intro e; unfold enA; split; exact Nat.le_refl _; have := ih (e + 1); omega
theorem enA_le (L : List Str) (n : Nat) : ∀ k e, enA L n k e ≤ e + k := by
  intro k
  induction k with
  | zero => intro e; exact Nat.le_refl _
  | succ k ih => intro e; unfold enA; split; omega; have := ih (e + 1); omega
theorem enA_in (L : List Str) (n : Nat) : ∀ k e x, e ≤ x → x < enA L n k e → n ≤ lc L x := by
  intro k
  induction k with
  | zero => intro e x h1 h2; simp [enA] at h2; omega
  | succ k ih =>
    intro e x h1 h2
    unfold enA at h2
    split at h2
    · omega
    · by_cases h3 : x = e
      · subst h3; omega
      · exact ih (e + 1) x (by omega) h2
theorem enA_end (L : List Str) (n : Nat) : ∀ k e, enA L n k e = e + k ∨ lc L (enA L n k e) < n := by
  intro k
  induction k with
  | zero => intro e; exact .inl rfl
  | succ k ih =>
    intro e
    unfold enA
    split
    · rename_i h; exact .inr h
    · rcases ih (e + 1) with h | h
      · exact .inl (by omega)
      · exact .inr h
theorem en_gt (L : List Str) (n i : Nat) : i < en L n i := enA_ge L n _ _
theorem en_le (L : List Str) (n i : Nat) (h : i < L.length) : en L n i ≤ L.length := by have := enA_le L n (L.length - (i + 1)) (i + 1); unfold en; omega
theorem en_in {L : List Str} {n i x : Nat} (h1 : i < x) (h2 : x < en L n i) : n ≤ lc L x := enA_in L n _ _ x h1 h2
theorem en_end {L : List Str} {n i : Nat} (h : i < L.length) : en L n i = L.length ∨ lc L (en L n i) < n := by
  rcases enA_end L n (L.length - (i + 1)) (i + 1) with h1 | h1
  · left; unfold en; omega
  · exact .inr h1
/-- The end is known by what it does. -/
theorem en_eq {L : List Str} {n i e : Nat} (h1 : i < e) (h2 : e ≤ L.length) (h3 : ∀ x, i < x → x < e → n ≤ lc L x) (h4 : e = L.length ∨ lc L e < n) : en L n i = e := by
  have hi : i < L.length := by omega
  rcases Nat.lt_trichotomy (en L n i) e with h | h | h
  · have := h3 _ (en_gt L n i) h
    rcases en_end (n := n) hi with h5 | h5
    · omega
    · omega
  · exact h
  · have := en_in h1 h
    have := en_le L n i hi
    omega
theorem en_same {L : List Str} {n i j : Nat} (h : n ≤ ln L i) (h1 : i ≤ j) (h2 : j < en L n i) : n ≤ lcp (sg L i) (sg L j) := by
  have := lcp_run (L := L) (n := n) (i := i) (j - i) h fun e h3 h4 => en_in h3 (by omega)
  rwa [show i + (j - i) = j by omega] at this
/-- Which strings begin so: those from the beginning to the end. -/
theorem en_iff {L : List Str} (hL : Ok L) {n i j : Nat} (hs : st L n i = true) (hi : i < L.length) (hj : j < L.length) : n ≤ lcp (sg L i) (sg L j) ↔ i ≤ j ∧ j < en L n i := by
  obtain ⟨hn, hb⟩ := st_iff.1 hs
  constructor
  · intro h
    have h1 : i ≤ j := by
      rcases Nat.lt_or_ge j i with h2 | h2
      · have := hL.run hi (by rw [lcp_comm]; exact h) i h2 (Nat.le_refl _)
        omega
      · exact h2
    refine ⟨h1, ?_⟩
    rcases Nat.lt_or_ge j (en L n i) with h2 | h2
    · exact h2
    · have h3 := hL.run hj h (en L n i) (en_gt L n i) h2
      rcases en_end (n := n) hi with h5 | h5
      · omega
      · omega
  · rintro ⟨h1, h2⟩
    exact en_same hn h1 h2
end Go.Proofs.Ytffljcfpofhkgaa.Lo
