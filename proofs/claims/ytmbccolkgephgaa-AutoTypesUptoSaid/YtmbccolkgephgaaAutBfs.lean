/-
  The search for the least keys as mathematics: states in the order of their keys; of no program.
-/
import Derived.Test.YtmbccolkgephgaaAutMath
import Derived.Lib.IndexMore
set_option linter.unusedVariables false
set_option linter.unusedSimpArgs false
namespace Go.Proofs.Ytmbccolkgephgaa.Aut
open Go Go.Proofs.Ytmbccolkgephgaa.Utf Go.Proofs.Ytmbccolkgephgaa.Rom

/-! ### shorter keys first, then by bytes -/
def slt (a b : By) : Prop := a.length < b.length ∨ (a.length = b.length ∧ a < b)
def sle (a b : By) : Prop := a = b ∨ slt a b
theorem slt_trans {a b c : By} (h : slt a b) (k : slt b c) : slt a c := by
  rcases h with h | ⟨h1, h2⟩ <;> rcases k with k | ⟨k1, k2⟩
  · exact .inl (by omega)
  · exact .inl (by omega)
  · exact .inl (by omega)
  · exact .inr ⟨by omega, List.lt_trans h2 k2⟩
theorem slt_irrefl (a : By) : ¬ slt a a := by
  rintro (h | ⟨_, h⟩)
  · omega
  · exact List.lt_irrefl a h
theorem sle_trans {a b c : By} (h : sle a b) (k : sle b c) : sle a c := by
  rcases h with rfl | h
  · exact k
  · rcases k with rfl | k
    · exact .inr h
    · exact .inr (slt_trans h k)
theorem sle_antisymm {a b : By} (h : sle a b) (k : sle b a) : a = b := by
  rcases h with rfl | h
  · rfl
  · rcases k with rfl | k
    · rfl
    · exact absurd (slt_trans h k) (slt_irrefl a)
theorem lt_ext : ∀ {a b : By}, a.length = b.length → a < b → ∀ x y : By, a ++ x < b ++ y
  | [], [], _, h, _, _ => absurd h (List.lt_irrefl [])
  | [], b :: ys, h, _, _, _ => by simp at h
  | a :: xs, [], h, _, _, _ => by simp at h
  | a :: xs, b :: ys, hl, h, x, y => by
    rw [List.cons_lt_cons_iff] at h
    show a :: (xs ++ x) < b :: (ys ++ y)
    rw [List.cons_lt_cons_iff]
    rcases h with h | ⟨h1, h2⟩
    · exact .inl h
    · exact .inr ⟨h1, lt_ext (by simpa using hl) h2 x y⟩
theorem slt_snoc {a b : By} (h : slt a b) (c d : UInt8) : slt (a ++ [c]) (b ++ [d]) := by
  rcases h with h | ⟨h1, h2⟩
  · exact .inl (by simp; omega)
  · exact .inr ⟨by simp; omega, lt_ext h1 h2 _ _⟩
theorem lt_same : ∀ (a : By) {x y : By}, x < y → a ++ x < a ++ y
  | [], _, _, h => h
  | a :: xs, x, y, h => by
    show a :: (xs ++ x) < a :: (xs ++ y)
    rw [List.cons_lt_cons_iff]
    exact .inr ⟨rfl, lt_same xs h⟩
theorem slt_last (a : By) {c d : UInt8} (h : c < d) : slt (a ++ [c]) (a ++ [d]) := .inr ⟨by simp, lt_same a (by rw [List.cons_lt_cons_iff]; exact .inl h)⟩
theorem slt_more (a : By) (c : UInt8) : slt a (a ++ [c]) := .inl (by simp)
theorem slt_nil (a : By) (c : UInt8) : slt [] (a ++ [c]) := .inl (by simp)
theorem sle_snoc {a b : By} (h : sle a b) (c : UInt8) : sle (a ++ [c]) (b ++ [c]) := by
  rcases h with rfl | h
  · exact .inl rfl
  · exact .inr (slt_snoc h c c)
theorem sle_len {a b : By} (h : sle a b) : a.length ≤ b.length := by
  rcases h with rfl | h | ⟨h, _⟩ <;> omega
theorem sle_total (a b : By) : sle a b ∨ sle b a := by
  by_cases h : a.length < b.length
  · exact .inl (.inr (.inl h))
  by_cases h2 : b.length < a.length
  · exact .inr (.inr (.inl h2))
  by_cases h3 : a < b
  · exact .inl (.inr (.inr ⟨by omega, h3⟩))
  by_cases h4 : b < a
  · exact .inr (.inr (.inr ⟨by omega, h4⟩))
  · exact .inl (.inl (List.le_antisymm (List.not_lt.1 h4) (List.not_lt.1 h3)))

/-! ### the least keys -/
def Types (rs : List Rule) (s k : By) : Prop := AllK k ∧ Feeds rs [] k s []
def Least (rs : List Rule) (s k : By) (ok : Bool) : Prop :=
  (ok = true ∧ Types rs s k ∧ ∀ k', Types rs s k' → sle k k') ∨ (ok = false ∧ k = [] ∧ ∀ k', ¬ Types rs s k')
theorem Least.det {rs : List Rule} {s k k' : By} {ok ok' : Bool} (h : Least rs s k ok) (h' : Least rs s k' ok') : k = k' ∧ ok = ok' := by
  rcases h with ⟨rfl, h1, h2⟩ | ⟨rfl, rfl, h3⟩ <;> rcases h' with ⟨rfl, h1', h2'⟩ | ⟨rfl, rfl, h3'⟩
  · exact ⟨sle_antisymm (h2 _ h1') (h2' _ h1), rfl⟩
  · exact absurd h1 (h3' _)
  · exact absurd h1' (h3 _)
  · exact ⟨rfl, rfl⟩

/-! ### occurrences -/
theorem contains_of {s a o b : By} (h : s = a ++ (o ++ b)) : Lib.contains s o = true := by
  unfold Lib.contains
  rw [decide_eq_true_eq]
  subst h
  induction a with
  | nil =>
    rw [List.nil_append]
    cases ho : o ++ b with
    | nil => rw [List.append_eq_nil_iff] at ho; rw [ho.1]; decide
    | cons x l =>
      unfold Lib.index
      rw [if_pos]
      · decide
      · rw [List.isPrefixOf_iff_prefix, ← ho]; exact List.prefix_append _ _
  | cons x a ih =>
    show 0 ≤ Lib.index (x :: (a ++ (o ++ b))) o
    unfold Lib.index
    split
    · decide
    · split
      · rename_i h; simp only [beq_iff_eq] at h; omega
      · omega

/-! ### the states -/
structure Nd where
  n : Nat
  p : By
  w : By
  bn : Nat
  bp : By
  c : UInt8
def nd0 : Nd := ⟨0, [], [], 0, [], 0⟩

/-- What is known when the first i states are done, and of state i the keys cs. -/
structure Inv (rs : List Rule) (s : By) (Q : List Nd) (i : Nat) (cs : By) : Prop where
  good : ∀ x ∈ Q, AllK x.w ∧ x.n ≤ s.length ∧ Feeds rs [] x.w (s.take x.n) x.p
  ord : Q.Pairwise (fun x y => slt x.w y.w)
  dis : Q.Pairwise (fun x y => ¬ (x.n = y.n ∧ x.p = y.p))
  first : ∃ T, Q = nd0 :: T ∧ ∀ y ∈ T, isKb y.c = true ∧ ∃ (j : Nat) (x : Nd), Q[j]? = some x ∧ (j < i ∨ (j = i ∧ y.c ∈ cs)) ∧ y.w = x.w ++ [y.c] ∧ y.bn = x.n ∧ y.bp = x.p
  closed : ∀ (j : Nat) (x : Nd), Q[j]? = some x → ∀ c, isKb c = true → (j < i ∨ (j = i ∧ c ∈ cs)) → ∀ n q, n ≤ s.length → Feeds rs [] (x.w ++ [c]) (s.take n) q → ∃ y ∈ Q, y.n = n ∧ y.p = q ∧ sle y.w (x.w ++ [c])

theorem inv_start (rs : List Rule) (s : By) : Inv rs s [nd0] 0 [] where
  good x hx := by
    rw [List.mem_singleton] at hx; subst hx
    exact ⟨AllK.nil, Nat.zero_le _, by show Feeds rs [] [] (s.take 0) []; rw [List.take_zero]; exact .nil _⟩
  ord := List.pairwise_singleton _ _
  dis := List.pairwise_singleton _ _
  first := ⟨[], rfl, fun y hy => by cases hy⟩
  closed j x hj c hc h n q := by
    rcases h with h | ⟨_, h⟩
    · omega
    · cases h

variable {rs : List Rule} {s : By}

theorem pw_lt {α : Type} {R : α → α → Prop} {Q : List α} (h : Q.Pairwise R) {a b : Nat} {x y : α} (ha : Q[a]? = some x) (hb : Q[b]? = some y) (hab : a < b) : R x y := by
  rw [List.pairwise_iff_getElem] at h
  obtain ⟨ha', rfl⟩ := List.getElem?_eq_some_iff.1 ha
  obtain ⟨hb', rfl⟩ := List.getElem?_eq_some_iff.1 hb
  exact h a b ha' hb' hab

/-- Every state's keys are less than the next keys of state i. -/
theorem Inv.less {Q : List Nd} {i : Nat} {cs : By} (h : Inv rs s Q i cs) {x : Nd} (hx : Q[i]? = some x) {c : UInt8} (hc : ∀ d ∈ cs, d < c) {y : Nd} (hy : y ∈ Q) : slt y.w (x.w ++ [c]) := by
  obtain ⟨T, hQ, hT⟩ := h.first
  rw [hQ] at hy
  rcases List.mem_cons.1 hy with rfl | hy
  · exact slt_nil _ _
  · obtain ⟨_, j, x', hj, hji, hw, _⟩ := hT y hy
    rw [hw]
    rcases hji with hji | ⟨rfl, hm⟩
    · exact slt_snoc (pw_lt h.ord hj hx hji) _ _
    · rw [hx] at hj; cases hj
      exact slt_last _ (hc _ hm)

theorem mem_at {Q : List Nd} {y : Nd} (h : y ∈ Q) : ∃ j : Nat, Q[j]? = some y := List.mem_iff_getElem?.1 h
/-- Two states of the list that are alike are one. -/
theorem Inv.same {Q : List Nd} {i : Nat} {cs : By} (h : Inv rs s Q i cs) {a b : Nat} {x y : Nd} (ha : Q[a]? = some x) (hb : Q[b]? = some y) (hn : x.n = y.n) (hp : x.p = y.p) : a = b := by
  rcases Nat.lt_trichotomy a b with hab | hab | hab
  · exact absurd ⟨hn, hp⟩ (pw_lt h.dis ha hb hab)
  · exact hab
  · exact absurd ⟨hn.symm, hp.symm⟩ (pw_lt h.dis hb ha hab)

/-- What a key that follows a state's keys leads to. -/
theorem cont (hok : okL rs = true) {x : Nd} (hg : AllK x.w ∧ x.n ≤ s.length ∧ Feeds rs [] x.w (s.take x.n) x.p) {c : UInt8} {o q : By} (hst : Feeds rs x.p [c] o q) {n : Nat} {q' : By} (hn : n ≤ s.length) (h : Feeds rs [] (x.w ++ [c]) (s.take n) q') :
    n = x.n + o.length ∧ q' = q ∧ s = s.take x.n ++ (o ++ s.drop n) := by
  obtain ⟨h1, h2⟩ := h.det (hg.2.2.comp hst)
  have hl := congrArg List.length h1
  simp only [List.length_append, List.length_take] at hl
  refine ⟨by omega, h2, ?_⟩
  rw [← List.append_assoc, ← h1, List.take_append_drop]
theorem cont_mk {x : Nd} (hg : AllK x.w ∧ x.n ≤ s.length ∧ Feeds rs [] x.w (s.take x.n) x.p) {c : UInt8} {o q : By} (hst : Feeds rs x.p [c] o q) (hp : o <+: s.drop x.n) :
    x.n + o.length ≤ s.length ∧ Feeds rs [] (x.w ++ [c]) (s.take (x.n + o.length)) q := by
  obtain ⟨t, ht⟩ := hp
  have hs : s = s.take x.n ++ (o ++ t) := by rw [ht, List.take_append_drop]
  have hl := congrArg List.length hs
  simp only [List.length_append, List.length_take] at hl
  refine ⟨by omega, ?_⟩
  have : s.take (x.n + o.length) = s.take x.n ++ o := by
    rw [List.take_add]; congr 1
    rw [← ht, List.take_append_of_le_length (Nat.le_refl _), List.take_of_length_le (Nat.le_refl _)]
  rw [this]
  exact hg.2.2.comp hst

theorem Inv.at {Q : List Nd} {i : Nat} {cs : By} (h : Inv rs s Q i cs) {j : Nat} {x : Nd} (hx : Q[j]? = some x) : AllK x.w ∧ x.n ≤ s.length ∧ Feeds rs [] x.w (s.take x.n) x.p := h.good x (List.mem_of_getElem? hx)

/-- A key that leads nowhere. -/
theorem Inv.skip (hok : okL rs = true) {Q : List Nd} {i : Nat} {cs : By} (h : Inv rs s Q i cs) {x : Nd} (hx : Q[i]? = some x) {c : UInt8} {o q : By} (hst : Feeds rs x.p [c] o q) (hno : ¬ o <+: s.drop x.n) : Inv rs s Q i (cs ++ [c]) where
  good := h.good
  ord := h.ord
  dis := h.dis
  first := by
    obtain ⟨T, hQ, hT⟩ := h.first
    refine ⟨T, hQ, fun y hy => ?_⟩
    obtain ⟨hk, j, x', h1, h2, h3⟩ := hT y hy
    exact ⟨hk, j, x', h1, h2.imp id (fun ⟨a, b⟩ => ⟨a, List.mem_append_left _ b⟩), h3⟩
  closed j x' hj d hd hor n q' hn hf := by
    rcases hor with hor | ⟨rfl, hor⟩
    · exact h.closed j x' hj d hd (.inl hor) n q' hn hf
    · rcases List.mem_append.1 hor with hor | hor
      · exact h.closed j x' hj d hd (.inr ⟨rfl, hor⟩) n q' hn hf
      · rw [List.mem_singleton] at hor; subst hor
        rw [hx] at hj; cases hj
        obtain ⟨h1, h2, h3⟩ := cont hok (h.at hx) hst hn hf
        refine absurd ⟨s.drop n, ?_⟩ hno
        have h4 := congrArg (List.drop x.n) h3
        rw [List.drop_left' (l₁ := s.take x.n) (by rw [List.length_take]; have := (h.at hx).2.1; omega)] at h4
        exact h4.symm

/-- A key that leads to a state that is known. -/
theorem Inv.old (hok : okL rs = true) {Q : List Nd} {i : Nat} {cs : By} (h : Inv rs s Q i cs) {x : Nd} (hx : Q[i]? = some x) {c : UInt8} (hc : ∀ d ∈ cs, d < c) {o q : By} (hst : Feeds rs x.p [c] o q) {y : Nd} (hy : y ∈ Q) (hyn : y.n = x.n + o.length) (hyp : y.p = q) : Inv rs s Q i (cs ++ [c]) where
  good := h.good
  ord := h.ord
  dis := h.dis
  first := by
    obtain ⟨T, hQ, hT⟩ := h.first
    refine ⟨T, hQ, fun y hy => ?_⟩
    obtain ⟨hk, j, x', h1, h2, h3⟩ := hT y hy
    exact ⟨hk, j, x', h1, h2.imp id (fun ⟨a, b⟩ => ⟨a, List.mem_append_left _ b⟩), h3⟩
  closed j x' hj d hd hor n q' hn hf := by
    rcases hor with hor | ⟨rfl, hor⟩
    · exact h.closed j x' hj d hd (.inl hor) n q' hn hf
    · rcases List.mem_append.1 hor with hor | hor
      · exact h.closed j x' hj d hd (.inr ⟨rfl, hor⟩) n q' hn hf
      · rw [List.mem_singleton] at hor; subst hor
        rw [hx] at hj; cases hj
        obtain ⟨h1, h2, h3⟩ := cont hok (h.at hx) hst hn hf
        exact ⟨y, hy, by rw [hyn, h1], by rw [hyp, h2], .inr (h.less hx hc hy)⟩

/-- A key that leads to a new state. -/
theorem Inv.new (hok : okL rs = true) {Q : List Nd} {i : Nat} {cs : By} (h : Inv rs s Q i cs) {x : Nd} (hx : Q[i]? = some x) {c : UInt8} (hkc : isKb c = true) (hc : ∀ d ∈ cs, d < c) {o q : By} (hst : Feeds rs x.p [c] o q) (hp : o <+: s.drop x.n)
    (hnew : ∀ y ∈ Q, ¬ (y.n = x.n + o.length ∧ y.p = q)) : Inv rs s (Q ++ [⟨x.n + o.length, q, x.w ++ [c], x.n, x.p, c⟩]) i (cs ++ [c]) := by
  obtain ⟨hm1, hm2⟩ := cont_mk (h.at hx) hst hp
  have hlt : i < Q.length := (List.getElem?_eq_some_iff.1 hx).1
  have get : ∀ {j : Nat} {y : Nd}, Q[j]? = some y → (Q ++ [⟨x.n + o.length, q, x.w ++ [c], x.n, x.p, c⟩])[j]? = some y := fun {j y} hj => by
    rw [List.getElem?_append_left (List.getElem?_eq_some_iff.1 hj).1]; exact hj
  refine ⟨?_, ?_, ?_, ?_, ?_⟩
  · intro y hy
    rcases List.mem_append.1 hy with hy | hy
    · exact h.good y hy
    · rw [List.mem_singleton] at hy; subst hy
      exact ⟨(h.at hx).1.append (AllK.one hkc), hm1, hm2⟩
  · rw [List.pairwise_append]
    refine ⟨h.ord, List.pairwise_singleton _ _, fun a ha b hb => ?_⟩
    rw [List.mem_singleton] at hb; subst hb
    exact h.less hx hc ha
  · rw [List.pairwise_append]
    refine ⟨h.dis, List.pairwise_singleton _ _, fun a ha b hb => ?_⟩
    rw [List.mem_singleton] at hb; subst hb
    exact hnew a ha
  · obtain ⟨T, hQ, hT⟩ := h.first
    refine ⟨T ++ [⟨x.n + o.length, q, x.w ++ [c], x.n, x.p, c⟩], by rw [hQ]; rfl, fun y hy => ?_⟩
    rcases List.mem_append.1 hy with hy | hy
    · obtain ⟨hk, j, x', h1, h2, h3⟩ := hT y hy
      exact ⟨hk, j, x', get h1, h2.imp id (fun ⟨a, b⟩ => ⟨a, List.mem_append_left _ b⟩), h3⟩
    · rw [List.mem_singleton] at hy; subst hy
      exact ⟨hkc, i, x, get hx, .inr ⟨rfl, by simp⟩, rfl, rfl, rfl⟩
  · intro j x' hj d hd hor n q' hn hf
    have hjl : j ≤ i := by rcases hor with h | ⟨h, _⟩ <;> omega
    rw [List.getElem?_append_left (by omega)] at hj
    have lift : (∃ y ∈ Q, y.n = n ∧ y.p = q' ∧ sle y.w (x'.w ++ [d])) → ∃ y ∈ Q ++ [⟨x.n + o.length, q, x.w ++ [c], x.n, x.p, c⟩], y.n = n ∧ y.p = q' ∧ sle y.w (x'.w ++ [d]) := fun ⟨y, hy, h⟩ => ⟨y, List.mem_append_left _ hy, h⟩
    rcases hor with hor | ⟨rfl, hor⟩
    · exact lift (h.closed j x' hj d hd (.inl hor) n q' hn hf)
    · rcases List.mem_append.1 hor with hor | hor
      · exact lift (h.closed j x' hj d hd (.inr ⟨rfl, hor⟩) n q' hn hf)
      · rw [List.mem_singleton] at hor; subst hor
        rw [hx] at hj; cases hj
        obtain ⟨h1, h2, h3⟩ := cont hok (h.at hx) hst hn hf
        exact ⟨_, List.mem_append_right _ (List.mem_singleton.2 rfl), h1.symm, h2.symm, .inl rfl⟩

/-- State i is done. -/
theorem Inv.next (hok : okL rs = true) {Q : List Nd} {i : Nat} {cs : By} (h : Inv rs s Q i cs) {x : Nd} (hx : Q[i]? = some x) (hall : ∀ c, isKb c = true → c ∉ cs → ∀ o q, Feeds rs x.p [c] o q → Lib.contains s o = false) : Inv rs s Q (i + 1) [] where
  good := h.good
  ord := h.ord
  dis := h.dis
  first := by
    obtain ⟨T, hQ, hT⟩ := h.first
    refine ⟨T, hQ, fun y hy => ?_⟩
    obtain ⟨hk, j, x', h1, h2, h3⟩ := hT y hy
    exact ⟨hk, j, x', h1, .inl (by rcases h2 with h2 | ⟨h2, _⟩ <;> omega), h3⟩
  closed j x' hj d hd hor n q' hn hf := by
    have hji : j < i + 1 := by
      rcases hor with h | ⟨_, h⟩
      · exact h
      · cases h
    by_cases hlt : j < i
    · exact h.closed j x' hj d hd (.inl hlt) n q' hn hf
    · obtain rfl : j = i := by omega
      by_cases hm : d ∈ cs
      · exact h.closed j x' hj d hd (.inr ⟨rfl, hm⟩) n q' hn hf
      · rw [hx] at hj; cases hj
        obtain ⟨o, q, hst⟩ := feeds_ex hok x.p [d]
        obtain ⟨h1, h2, h3⟩ := cont hok (h.at hx) hst hn hf
        have := hall d hd hm o q hst
        rw [contains_of h3] at this
        cases this

/-- Where keys lead: to a state of the list with no greater keys, or some state that is not done has no greater keys. -/
theorem Inv.reach (hok : okL rs = true) {Q : List Nd} {i : Nat} (h : Inv rs s Q i []) : ∀ (m : Nat) (ks : By), ks.length = m → AllK ks → ∀ n q, n ≤ s.length → Feeds rs [] ks (s.take n) q →
    (∃ x ∈ Q, x.n = n ∧ x.p = q ∧ sle x.w ks) ∨ (∃ (j : Nat) (x : Nd), i ≤ j ∧ Q[j]? = some x ∧ sle x.w ks) := by
  intro m
  induction m with
  | zero =>
    intro ks hl hk n q hn hf
    have : ks = [] := List.eq_nil_of_length_eq_zero hl
    subst this
    obtain ⟨h1, h2⟩ := hf.det (.nil [])
    have h3 := congrArg List.length h1
    rw [List.length_take, List.length_nil] at h3
    obtain ⟨T, hQ, _⟩ := h.first
    exact .inl ⟨nd0, by rw [hQ]; simp, by show 0 = n; omega, h2.symm, .inl rfl⟩
  | succ m ih =>
    intro ks hl hk n q hn hf
    have hne : ks ≠ [] := by intro e; rw [e] at hl; cases hl
    obtain ⟨ks', c, rfl⟩ : ∃ ks' c, ks = ks' ++ [c] := ⟨ks.dropLast, ks.getLast hne, (List.dropLast_concat_getLast hne).symm⟩
    obtain ⟨o1, q1, o2, hf1, hf2, ho⟩ := hf.split hok
    have hl1 := congrArg List.length ho
    rw [List.length_take, List.length_append] at hl1
    have e1 : o1 = s.take o1.length := by
      have := congrArg (List.take o1.length) ho
      rw [List.take_take, List.take_append_of_le_length (Nat.le_refl _), List.take_of_length_le (Nat.le_refl o1.length), Nat.min_eq_left (by omega)] at this
      exact this.symm
    rw [e1] at hf1
    rcases ih ks' (by simpa using hl) hk.left o1.length q1 (by omega) hf1 with ⟨x, hx, hxn, hxp, hle⟩ | ⟨j, x, hj, hx, hle⟩
    · obtain ⟨j, hj⟩ := mem_at hx
      by_cases hji : j < i
      · have hcc := hk.right c (by simp)
        have hg := h.good x hx
        obtain ⟨y, hy, h1, h2, h3⟩ := h.closed j x hj c hcc (.inl hji) n q hn (by
          have h4 : Feeds rs x.p [c] o2 q := by rw [hxp]; exact hf2
          have := hg.2.2.comp h4
          rw [ho, e1, ← hxn]
          exact this)
        exact .inl ⟨y, hy, h1, h2, sle_trans h3 (sle_snoc hle c)⟩
      · exact .inr ⟨j, x, by omega, hj, sle_trans hle (.inr (slt_more _ _))⟩
    · exact .inr ⟨j, x, hj, hx, sle_trans hle (.inr (slt_more _ _))⟩

theorem Inv.found (hok : okL rs = true) {Q : List Nd} {i : Nat} (h : Inv rs s Q i []) {x : Nd} (hx : Q[i]? = some x) (hn : x.n = s.length) (hp : x.p = []) : Least rs s x.w true := by
  have hg := h.at hx
  rw [hn, List.take_length, hp] at hg
  refine .inl ⟨rfl, ⟨hg.1, hg.2.2⟩, fun k' hk' => ?_⟩
  rcases h.reach hok _ k' rfl hk'.1 s.length [] (Nat.le_refl _) (by rw [List.take_length]; exact hk'.2) with ⟨y, hy, h1, h2, h3⟩ | ⟨j, y, hj, hy, h3⟩
  · obtain ⟨j, hj⟩ := mem_at hy
    obtain rfl := h.same hj hx (by rw [h1, hn]) (by rw [h2, hp])
    rw [hx] at hj; cases hj
    exact h3
  · by_cases e : j = i
    · subst e; rw [hx] at hy; cases hy; exact h3
    · exact sle_trans (.inr (pw_lt h.ord hx hy (by omega))) h3
theorem Inv.none (hok : okL rs = true) {Q : List Nd} (h : Inv rs s Q Q.length []) (hno : ∀ (j : Nat) (x : Nd), Q[j]? = some x → ¬ (x.n = s.length ∧ x.p = [])) : Least rs s [] false := by
  refine .inr ⟨rfl, rfl, fun k' hk' => ?_⟩
  rcases h.reach hok _ k' rfl hk'.1 s.length [] (Nat.le_refl _) (by rw [List.take_length]; exact hk'.2) with ⟨y, hy, h1, h2, h3⟩ | ⟨j, y, hj, hy, h3⟩
  · obtain ⟨j, hj⟩ := mem_at hy
    exact hno j y hj ⟨h1, h2⟩
  · have := (List.getElem?_eq_some_iff.1 hy).1
    omega

/-! ### how many states there are -/
theorem nodup_le {α : Type} [DecidableEq α] : ∀ {l u : List α}, l.Nodup → (∀ x ∈ l, x ∈ u) → l.length ≤ u.length
  | [], u, _, _ => Nat.zero_le _
  | a :: l, u, h, hs => by
    rw [List.nodup_cons] at h
    have ha := hs a (by simp)
    have := nodup_le (l := l) (u := u.erase a) h.2 (fun x hx => by
      rw [List.mem_erase_of_ne (by intro e; subst e; exact h.1 hx)]
      exact hs x (List.mem_cons_of_mem _ hx))
    rw [List.length_erase_of_mem ha] at this
    have : 0 < u.length := List.length_pos_of_mem ha
    rw [List.length_cons]; omega
def pends (rs : List Rule) : List By := [] :: rs.flatMap fun r => (List.range r.k.size).map fun i => (bs r.k).take i
theorem pends_mem {p : By} (h : Pend rs p) : p ∈ pends rs := by
  rcases h with rfl | h
  · exact List.mem_cons_self ..
  · refine List.mem_cons_of_mem _ ?_
    unfold longL at h
    rw [List.any_eq_true] at h
    obtain ⟨r, hr, h⟩ := h
    unfold longR at h
    rw [Bool.and_eq_true, decide_eq_true_eq, ba_size, bs_ba, List.isPrefixOf_iff_prefix] at h
    rw [List.mem_flatMap]
    refine ⟨r, hr, List.mem_map.2 ⟨p.length, by rw [List.mem_range]; omega, ?_⟩⟩
    exact (List.prefix_iff_eq_take.1 h.2).symm
theorem pends_len (hok : okL rs = true) : (pends rs).length ≤ 1 + 4 * rs.length := by
  unfold pends
  rw [List.length_cons]
  have : (rs.flatMap fun r => (List.range r.k.size).map fun i => (bs r.k).take i).length ≤ 4 * rs.length := by
    have hs : ∀ r ∈ rs, r.k.size ≤ 4 := fun r hr => (okR_next (ok_of hok hr)).2.1
    clear hok
    induction rs with
    | nil => simp
    | cons r rs ih =>
      rw [List.flatMap_cons, List.length_append, List.length_map, List.length_range, List.length_cons]
      have h1 := hs r (by simp)
      have h2 := ih (fun r hr => hs r (List.mem_cons_of_mem _ hr))
      omega
  omega
theorem Inv.few (hok : okL rs = true) {Q : List Nd} {i : Nat} {cs : By} (h : Inv rs s Q i cs) : Q.length ≤ (s.length + 1) * (1 + 4 * rs.length) := by
  have h1 : (Q.map fun x => (x.n, x.p)).Nodup := by
    unfold List.Nodup
    rw [List.pairwise_map]
    exact h.dis.imp (fun {a b} hab e => hab (by injection e with e1 e2; exact ⟨e1, e2⟩))
  have h2 := nodup_le (u := (List.range (s.length + 1)).flatMap fun n => (pends rs).map fun p => (n, p)) h1 (fun y hy => by
    rw [List.mem_map] at hy
    obtain ⟨x, hx, rfl⟩ := hy
    obtain ⟨_, hn, hf⟩ := h.good x hx
    rw [List.mem_flatMap]
    exact ⟨x.n, by rw [List.mem_range]; omega, List.mem_map.2 ⟨x.p, pends_mem (hf.pend (.inl rfl)), rfl⟩⟩)
  rw [List.length_map] at h2
  have h3 : ∀ (l : List Nat), (l.flatMap fun n => (pends rs).map fun p => (n, p)).length = l.length * (pends rs).length := by
    intro l
    induction l with
    | nil => simp
    | cons a l ih => rw [List.flatMap_cons, List.length_append, ih, List.length_map, List.length_cons, Nat.add_mul]; omega
  rw [h3, List.length_range] at h2
  exact Nat.le_trans h2 (Nat.mul_le_mul_left _ (pends_len hok))

/-! ### what each key does -/
def keyB (i : Nat) : UInt8 := UInt8.ofNat (33 + i)
theorem keyB_is {i : Nat} (h : i < 94) : (keyB i).toNat = 33 + i ∧ isKb (keyB i) = true := by
  have e : (keyB i).toNat = 33 + i := by unfold keyB; rw [toNat_ofNat _ (by omega)]
  exact ⟨e, by unfold isKb; rw [e, decide_eq_true_eq]; omega⟩
theorem keyB_of {c : UInt8} (h : isKb c = true) : ∃ i, i < 94 ∧ c = keyB i := by
  unfold isKb at h
  rw [decide_eq_true_eq] at h
  exact ⟨c.toNat - 33, by omega, by unfold keyB; rw [show 33 + (c.toNat - 33) = c.toNat by omega]; simp⟩
structure Mv where
  c : UInt8
  o : By
  q : By
/-- The moves of the first n keys. -/
noncomputable def mvs (rs : List Rule) (s p : By) (n : Nat) : List Mv := (List.range n).filterMap fun i => if Lib.contains s (fd rs p [keyB i]).1 then some ⟨keyB i, (fd rs p [keyB i]).1, (fd rs p [keyB i]).2⟩ else none
theorem mvs_succ (rs : List Rule) (s p : By) (n : Nat) : mvs rs s p (n + 1) = mvs rs s p n ++ (if Lib.contains s (fd rs p [keyB n]).1 then [⟨keyB n, (fd rs p [keyB n]).1, (fd rs p [keyB n]).2⟩] else []) := by
  unfold mvs
  rw [List.range_succ, List.filterMap_append]
  congr 1
  split <;> simp_all
theorem mvs_mem {p : By} {n : Nat} (hn : n ≤ 94) {m : Mv} (h : m ∈ mvs rs s p n) : ∃ i, i < n ∧ m.c = keyB i ∧ isKb m.c = true ∧ m.o = (fd rs p [m.c]).1 ∧ m.q = (fd rs p [m.c]).2 := by
  unfold mvs at h
  rw [List.mem_filterMap] at h
  obtain ⟨i, hi, h⟩ := h
  rw [List.mem_range] at hi
  split at h
  · cases h
    exact ⟨i, hi, rfl, (keyB_is (by omega)).2, rfl, rfl⟩
  · cases h
theorem mvs_sorted (p : By) : ∀ n, n ≤ 94 → (mvs rs s p n).Pairwise (fun a b => a.c < b.c)
  | 0, _ => by simp [mvs]
  | n + 1, h => by
    rw [mvs_succ, List.pairwise_append]
    refine ⟨mvs_sorted p n (by omega), by split <;> simp, fun a ha b hb => ?_⟩
    obtain ⟨i, hi, e, _⟩ := mvs_mem (by omega) ha
    split at hb
    · rw [List.mem_singleton] at hb; subst hb
      show a.c < keyB n
      rw [e, UInt8.lt_iff_toNat_lt, (keyB_is (by omega)).1, (keyB_is (by omega)).1]
      omega
    · cases hb
theorem mvs_all {p : By} {c : UInt8} (hc : isKb c = true) (h : c ∉ (mvs rs s p 94).map Mv.c) : Lib.contains s (fd rs p [c]).1 = false := by
  obtain ⟨i, hi, rfl⟩ := keyB_of hc
  cases hq : Lib.contains s (fd rs p [keyB i]).1
  · rfl
  · refine absurd ?_ h
    rw [List.mem_map]
    refine ⟨⟨keyB i, (fd rs p [keyB i]).1, (fd rs p [keyB i]).2⟩, ?_, rfl⟩
    unfold mvs
    rw [List.mem_filterMap]
    exact ⟨i, List.mem_range.2 hi, by rw [if_pos hq]⟩
theorem mvs_len (rs : List Rule) (s p : By) (n : Nat) : (mvs rs s p n).length ≤ n := by
  have := List.length_filterMap_le (fun i => if Lib.contains s (fd rs p [keyB i]).1 then some (⟨keyB i, (fd rs p [keyB i]).1, (fd rs p [keyB i]).2⟩ : Mv) else none) (List.range n)
  rw [List.length_range] at this
  exact this

end Go.Proofs.Ytmbccolkgephgaa.Aut
