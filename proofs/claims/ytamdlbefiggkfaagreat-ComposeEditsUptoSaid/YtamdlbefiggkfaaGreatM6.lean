/-
  Joined texts: AutBfs, RomG, ShelfW, RomU, AutM, AutA.
-/
import Derived.Test.YtamdlbefiggkfaaGreatM5
import Derived.Lib.IndexMore
import Derived.Test.YtamdlbefiggkfaaGreatM4
import Derived.Shelf.Strings.BuilderK
import Derived.Shelf.Strings.BuilderRune
import Derived.Test.YtamdlbefiggkfaaGreatProg
import Derived.Laws.MakeOwn
set_option linter.unusedVariables false
set_option linter.unusedSimpArgs false
namespace Go.Proofs.YtamdlbefiggkfaaGreat.Aut
open Go Go.Proofs.YtamdlbefiggkfaaGreat.Utf Go.Proofs.YtamdlbefiggkfaaGreat.Rom

/-! ### shorter keys first, then by bytes -/
def slt (a b : By) : Prop := a.length < b.length ∨ (a.length = b.length ∧ a < b)
def sle (a b : By) : Prop := a = b ∨ slt a b
theorem slt_trans {a b c : By} (h : slt a b) (k : slt b c) : slt a c := by
  rcases h with h | ⟨h1, h2⟩ <;> rcases k with k | ⟨k1, k2⟩
  · exact .inl (by omega)
  · exact .inl (by omega)
  · exact .inl (by omega)
  · exact .inr ⟨by omega, List.lt_trans h2 k2⟩
theorem slt_irrefl (a : By) : ¬ slt a a := by
  rintro (h | ⟨_, h⟩)
  · omega
  · exact List.lt_irrefl a h
theorem sle_trans {a b c : By} (h : sle a b) (k : sle b c) : sle a c := by
  rcases h with rfl | h
  · exact k
  · rcases k with rfl | k
    · exact .inr h
    · exact .inr (slt_trans h k)
theorem sle_antisymm {a b : By} (h : sle a b) (k : sle b a) : a = b := by
  rcases h with rfl | h
  · rfl
  · rcases k with rfl | k
    · rfl
    · exact absurd (slt_trans h k) (slt_irrefl a)
theorem lt_ext : ∀ {a b : By}, a.length = b.length → a < b → ∀ x y : By, a ++ x < b ++ y
  | [], [], _, h, _, _ => absurd h (List.lt_irrefl [])
  | [], b :: ys, h, _, _, _ => by simp at h
  | a :: xs, [], h, _, _, _ => by simp at h
  | a :: xs, b :: ys, hl, h, x, y => by
    rw [List.cons_lt_cons_iff] at h
    show a :: (xs ++ x) < b :: (ys ++ y)
    rw [List.cons_lt_cons_iff]
    rcases h with h | ⟨h1, h2⟩
    · exact .inl h
    · exact .inr ⟨h1, lt_ext (by simpa using hl) h2 x y⟩
theorem slt_snoc {a b : By} (h : slt a b) (c d : UInt8) : slt (a ++ [c]) (b ++ [d]) := by
  rcases h with h | ⟨h1, h2⟩
  · exact .inl (by simp; omega)
  · exact .inr ⟨by simp; omega, lt_ext h1 h2 _ _⟩
theorem lt_same : ∀ (a : By) {x y : By}, x < y → a ++ x < a ++ y
  | [], _, _, h => h
  | a :: xs, x, y, h => by
    show a :: (xs ++ x) < a :: (xs ++ y)
    rw [List.cons_lt_cons_iff]
    exact .inr ⟨rfl, lt_same xs h⟩
theorem slt_last (a : By) {c d : UInt8} (h : c < d) : slt (a ++ [c]) (a ++ [d]) := .inr ⟨by simp, lt_same a (by rw [List.cons_lt_cons_iff]; exact .inl h)⟩
theorem slt_more (a : By) (c : UInt8) : slt a (a ++ [c]) := .inl (by simp)
theorem slt_nil (a : By) (c : UInt8) : slt [] (a ++ [c]) := .inl (by simp)
theorem sle_snoc {a b : By} (h : sle a b) (c : UInt8) : sle (a ++ [c]) (b ++ [c]) := by
  rcases h with rfl | h
  · exact .inl rfl
  · exact .inr (slt_snoc h c c)
theorem sle_len {a b : By} (h : sle a b) : a.length ≤ b.length := by
  rcases h with rfl | h | ⟨h, _⟩ <;> omega
theorem sle_total (a b : By) : sle a b ∨ sle b a := by
  by_cases h : a.length < b.length
  · exact .inl (.inr (.inl h))
  by_cases h2 : b.length < a.length
  · exact .inr (.inr (.inl h2))
  by_cases h3 : a < b
  · exact .inl (.inr (.inr ⟨by omega, h3⟩))
  by_cases h4 : b < a
  · exact .inr (.inr (.inr ⟨by omega, h4⟩))
  · exact .inl (.inl (List.le_antisymm (List.not_lt.1 h4) (List.not_lt.1 h3)))

/-! ### the least keys -/
def Types (rs : List Rule) (s k : By) : Prop := AllK k ∧ Feeds rs [] k s []
def Least (rs : List Rule) (s k : By) (ok : Bool) : Prop :=
  (ok = true ∧ Types rs s k ∧ ∀ k', Types rs s k' → sle k k') ∨ (ok = false ∧ k = [] ∧ ∀ k', ¬ Types rs s k')
theorem Least.det {rs : List Rule} {s k k' : By} {ok ok' : Bool} (h : Least rs s k ok) (h' : Least rs s k' ok') : k = k' ∧ ok = ok' := by
  rcases h with ⟨rfl, h1, h2⟩ | ⟨rfl, rfl, h3⟩ <;> rcases h' with ⟨rfl, h1', h2'⟩ | ⟨rfl, rfl, h3'⟩
  · exact ⟨sle_antisymm (h2 _ h1') (h2' _ h1), rfl⟩
  · exact absurd h1 (h3' _)
  · exact absurd h1' (h3 _)
  · exact ⟨rfl, rfl⟩

/-! ### occurrences -/
theorem contains_of {s a o b : By} (h : s = a ++ (o ++ b)) : Lib.contains s o = true := by
  unfold Lib.contains
  rw [decide_eq_true_eq]
  subst h
  induction a with
  | nil =>
    rw [List.nil_append]
    cases ho : o ++ b with
    | nil => rw [List.append_eq_nil_iff] at ho; rw [ho.1]; decide
    | cons x l =>
      unfold Lib.index
      rw [if_pos]
      · decide
      · rw [List.isPrefixOf_iff_prefix, ← ho]; exact List.prefix_append _ _
  | cons x a ih =>
    show 0 ≤ Lib.index (x :: (a ++ (o ++ b))) o
    unfold Lib.index
    split
    · decide
    · split
      · rename_i h; simp only [beq_iff_eq] at h; omega
      · omega

/-! ### the states -/
structure Nd where
  n : Nat
  p : By
  w : By
  bn : Nat
  bp : By
  c : UInt8
def nd0 : Nd := ⟨0, [], [], 0, [], 0⟩

/-- What is known when the first i states are done, and of state i the keys cs. -/
structure Inv (rs : List Rule) (s : By) (Q : List Nd) (i : Nat) (cs : By) : Prop where
  good : ∀ x ∈ Q, AllK x.w ∧ x.n ≤ s.length ∧ Feeds rs [] x.w (s.take x.n) x.p
  ord : Q.Pairwise (fun x y => slt x.w y.w)
  dis : Q.Pairwise (fun x y => ¬ (x.n = y.n ∧ x.p = y.p))
  first : ∃ T, Q = nd0 :: T ∧ ∀ y ∈ T, isKb y.c = true ∧ ∃ (j : Nat) (x : Nd), Q[j]? = some x ∧ (j < i ∨ (j = i ∧ y.c ∈ cs)) ∧ y.w = x.w ++ [y.c] ∧ y.bn = x.n ∧ y.bp = x.p
  closed : ∀ (j : Nat) (x : Nd), Q[j]? = some x → ∀ c, isKb c = true → (j < i ∨ (j = i ∧ c ∈ cs)) → ∀ n q, n ≤ s.length → Feeds rs [] (x.w ++ [c]) (s.take n) q → ∃ y ∈ Q, y.n = n ∧ y.p = q ∧ sle y.w (x.w ++ [c])

theorem inv_start (rs : List Rule) (s : By) : Inv rs s [nd0] 0 [] where
  good x hx := by
    rw [List.mem_singleton] at hx; subst hx
    exact ⟨AllK.nil, Nat.zero_le _, by show Feeds rs [] [] (s.take 0) []; rw [List.take_zero]; exact .nil _⟩
  ord := List.pairwise_singleton _ _
  dis := List.pairwise_singleton _ _
  first := ⟨[], rfl, fun y hy => by cases hy⟩
  closed j x hj c hc h n q := by
    rcases h with h | ⟨_, h⟩
    · omega
    · cases h

variable {rs : List Rule} {s : By}

theorem pw_lt {α : Type} {R : α → α → Prop} {Q : List α} (h : Q.Pairwise R) {a b : Nat} {x y : α} (ha : Q[a]? = some x) (hb : Q[b]? = some y) (hab : a < b) : R x y := by
  rw [List.pairwise_iff_getElem] at h
  obtain ⟨ha', rfl⟩ := List.getElem?_eq_some_iff.1 ha
  obtain ⟨hb', rfl⟩ := List.getElem?_eq_some_iff.1 hb
  exact h a b ha' hb' hab

/-- Every state's keys are less than the next keys of state i. -/
theorem Inv.less {Q : List Nd} {i : Nat} {cs : By} (h : Inv rs s Q i cs) {x : Nd} (hx : Q[i]? = some x) {c : UInt8} (hc : ∀ d ∈ cs, d < c) {y : Nd} (hy : y ∈ Q) : slt y.w (x.w ++ [c]) := by
  obtain ⟨T, hQ, hT⟩ := h.first
  rw [hQ] at hy
  rcases List.mem_cons.1 hy with rfl | hy
  · exact slt_nil _ _
  · obtain ⟨_, j, x', hj, hji, hw, _⟩ := hT y hy
    rw [hw]
    rcases hji with hji | ⟨rfl, hm⟩
    · exact slt_snoc (pw_lt h.ord hj hx hji) _ _
    · rw [hx] at hj; cases hj
      exact slt_last _ (hc _ hm)

theorem mem_at {Q : List Nd} {y : Nd} (h : y ∈ Q) : ∃ j : Nat, Q[j]? = some y := List.mem_iff_getElem?.1 h
/-- Two states of the list that are alike are one. -/
theorem Inv.same {Q : List Nd} {i : Nat} {cs : By} (h : Inv rs s Q i cs) {a b : Nat} {x y : Nd} (ha : Q[a]? = some x) (hb : Q[b]? = some y) (hn : x.n = y.n) (hp : x.p = y.p) : a = b := by
  rcases Nat.lt_trichotomy a b with hab | hab | hab
  · exact absurd ⟨hn, hp⟩ (pw_lt h.dis ha hb hab)
  · exact hab
  · exact absurd ⟨hn.symm, hp.symm⟩ (pw_lt h.dis hb ha hab)

/-- What a key that follows a state's keys leads to. -/
theorem cont (hok : okL rs = true) {x : Nd} (hg : AllK x.w ∧ x.n ≤ s.length ∧ Feeds rs [] x.w (s.take x.n) x.p) {c : UInt8} {o q : By} (hst : Feeds rs x.p [c] o q) {n : Nat} {q' : By} (hn : n ≤ s.length) (h : Feeds rs [] (x.w ++ [c]) (s.take n) q') :
    n = x.n + o.length ∧ q' = q ∧ s = s.take x.n ++ (o ++ s.drop n) := by
  obtain ⟨h1, h2⟩ := h.det (hg.2.2.comp hst)
  have hl := congrArg List.length h1
  simp only [List.length_append, List.length_take] at hl
  refine ⟨by omega, h2, ?_⟩
  rw [← List.append_assoc, ← h1, List.take_append_drop]
theorem cont_mk {x : Nd} (hg : AllK x.w ∧ x.n ≤ s.length ∧ Feeds rs [] x.w (s.take x.n) x.p) {c : UInt8} {o q : By} (hst : Feeds rs x.p [c] o q) (hp : o <+: s.drop x.n) :
    x.n + o.length ≤ s.length ∧ Feeds rs [] (x.w ++ [c]) (s.take (x.n + o.length)) q := by
  obtain ⟨t, ht⟩ := hp
  have hs : s = s.take x.n ++ (o ++ t) := by rw [ht, List.take_append_drop]
  have hl := congrArg List.length hs
  simp only [List.length_append, List.length_take] at hl
  refine ⟨by omega, ?_⟩
  have : s.take (x.n + o.length) = s.take x.n ++ o := by
    rw [List.take_add]; congr 1
    rw [← ht, List.take_append_of_le_length (Nat.le_refl _), List.take_of_length_le (Nat.le_refl _)]
  rw [this]
  exact hg.2.2.comp hst

theorem Inv.at {Q : List Nd} {i : Nat} {cs : By} (h : Inv rs s Q i cs) {j : Nat} {x : Nd} (hx : Q[j]? = some x) : AllK x.w ∧ x.n ≤ s.length ∧ Feeds rs [] x.w (s.take x.n) x.p := h.good x (List.mem_of_getElem? hx)

/-- A key that leads nowhere. -/
theorem Inv.skip (hok : okL rs = true) {Q : List Nd} {i : Nat} {cs : By} (h : Inv rs s Q i cs) {x : Nd} (hx : Q[i]? = some x) {c : UInt8} {o q : By} (hst : Feeds rs x.p [c] o q) (hno : ¬ o <+: s.drop x.n) : Inv rs s Q i (cs ++ [c]) where
  good := h.good
  ord := h.ord
  dis := h.dis
  first := by
    obtain ⟨T, hQ, hT⟩ := h.first
    refine ⟨T, hQ, fun y hy => ?_⟩
    obtain ⟨hk, j, x', h1, h2, h3⟩ := hT y hy
    exact ⟨hk, j, x', h1, h2.imp id (fun ⟨a, b⟩ => ⟨a, List.mem_append_left _ b⟩), h3⟩
  closed j x' hj d hd hor n q' hn hf := by
    rcases hor with hor | ⟨rfl, hor⟩
    · exact h.closed j x' hj d hd (.inl hor) n q' hn hf
    · rcases List.mem_append.1 hor with hor | hor
      · exact h.closed j x' hj d hd (.inr ⟨rfl, hor⟩) n q' hn hf
      · rw [List.mem_singleton] at hor; subst hor
        rw [hx] at hj; cases hj
        obtain ⟨h1, h2, h3⟩ := cont hok (h.at hx) hst hn hf
        refine absurd ⟨s.drop n, ?_⟩ hno
        have h4 := congrArg (List.drop x.n) h3
        rw [List.drop_left' (l₁ := s.take x.n) (by rw [List.length_take]; have := (h.at hx).2.1; omega)] at h4
        exact h4.symm

/-- A key that leads to a state that is known. -/
theorem Inv.old (hok : okL rs = true) {Q : List Nd} {i : Nat} {cs : By} (h : Inv rs s Q i cs) {x : Nd} (hx : Q[i]? = some x) {c : UInt8} (hc : ∀ d ∈ cs, d < c) {o q : By} (hst : Feeds rs x.p [c] o q) {y : Nd} (hy : y ∈ Q) (hyn : y.n = x.n + o.length) (hyp : y.p = q) : Inv rs s Q i (cs ++ [c]) where
  good := h.good
  ord := h.ord
  dis := h.dis
  first := by
    obtain ⟨T, hQ, hT⟩ := h.first
    refine ⟨T, hQ, fun y hy => ?_⟩
    obtain ⟨hk, j, x', h1, h2, h3⟩ := hT y hy
    exact ⟨hk, j, x', h1, h2.imp id (fun ⟨a, b⟩ => ⟨a, List.mem_append_left _ b⟩), h3⟩
  closed j x' hj d hd hor n q' hn hf := by
    rcases hor with hor | ⟨rfl, hor⟩
    · exact h.closed j x' hj d hd (.inl hor) n q' hn hf
    · rcases List.mem_append.1 hor with hor | hor
      · exact h.closed j x' hj d hd (.inr ⟨rfl, hor⟩) n q' hn hf
      · rw [List.mem_singleton] at hor; subst hor
        rw [hx] at hj; cases hj
        obtain ⟨h1, h2, h3⟩ := cont hok (h.at hx) hst hn hf
        exact ⟨y, hy, by rw [hyn, h1], by rw [hyp, h2], .inr (h.less hx hc hy)⟩

/-- A key that leads to a new state. -/
theorem Inv.new (hok : okL rs = true) {Q : List Nd} {i : Nat} {cs : By} (h : Inv rs s Q i cs) {x : Nd} (hx : Q[i]? = some x) {c : UInt8} (hkc : isKb c = true) (hc : ∀ d ∈ cs, d < c) {o q : By} (hst : Feeds rs x.p [c] o q) (hp : o <+: s.drop x.n)
    (hnew : ∀ y ∈ Q, ¬ (y.n = x.n + o.length ∧ y.p = q)) : Inv rs s (Q ++ [⟨x.n + o.length, q, x.w ++ [c], x.n, x.p, c⟩]) i (cs ++ [c]) := by
  obtain ⟨hm1, hm2⟩ := cont_mk (h.at hx) hst hp
  have hlt : i < Q.length := (List.getElem?_eq_some_iff.1 hx).1
  have get : ∀ {j : Nat} {y : Nd}, Q[j]? = some y → (Q ++ [⟨x.n + o.length, q, x.w ++ [c], x.n, x.p, c⟩])[j]? = some y := fun {j y} hj => by
    rw [List.getElem?_append_left (List.getElem?_eq_some_iff.1 hj).1]; exact hj
  refine ⟨?_, ?_, ?_, ?_, ?_⟩
  · intro y hy
    rcases List.mem_append.1 hy with hy | hy
    · exact h.good y hy
    · rw [List.mem_singleton] at hy; subst hy
      exact ⟨(h.at hx).1.append (AllK.one hkc), hm1, hm2⟩
  · rw [List.pairwise_append]
    refine ⟨h.ord, List.pairwise_singleton _ _, fun a ha b hb => ?_⟩
    rw [List.mem_singleton] at hb; subst hb
    exact h.less hx hc ha
  · rw [List.pairwise_append]
    refine ⟨h.dis, List.pairwise_singleton _ _, fun a ha b hb => ?_⟩
    rw [List.mem_singleton] at hb; subst hb
    exact hnew a ha
  · obtain ⟨T, hQ, hT⟩ := h.first
    refine ⟨T ++ [⟨x.n + o.length, q, x.w ++ [c], x.n, x.p, c⟩], by rw [hQ]; rfl, fun y hy => ?_⟩
    rcases List.mem_append.1 hy with hy | hy
    · obtain ⟨hk, j, x', h1, h2, h3⟩ := hT y hy
      exact ⟨hk, j, x', get h1, h2.imp id (fun ⟨a, b⟩ => ⟨a, List.mem_append_left _ b⟩), h3⟩
    · rw [List.mem_singleton] at hy; subst hy
      exact ⟨hkc, i, x, get hx, .inr ⟨rfl, by simp⟩, rfl, rfl, rfl⟩
  · intro j x' hj d hd hor n q' hn hf
    have hjl : j ≤ i := by rcases hor with h | ⟨h, _⟩ <;> omega
    rw [List.getElem?_append_left (by omega)] at hj
    have lift : (∃ y ∈ Q, y.n = n ∧ y.p = q' ∧ sle y.w (x'.w ++ [d])) → ∃ y ∈ Q ++ [⟨x.n + o.length, q, x.w ++ [c], x.n, x.p, c⟩], y.n = n ∧ y.p = q' ∧ sle y.w (x'.w ++ [d]) := fun ⟨y, hy, h⟩ => ⟨y, List.mem_append_left _ hy, h⟩
    rcases hor with hor | ⟨rfl, hor⟩
    · exact lift (h.closed j x' hj d hd (.inl hor) n q' hn hf)
    · rcases List.mem_append.1 hor with hor | hor
      · exact lift (h.closed j x' hj d hd (.inr ⟨rfl, hor⟩) n q' hn hf)
      · rw [List.mem_singleton] at hor; subst hor
        rw [hx] at hj; cases hj
        obtain ⟨h1, h2, h3⟩ := cont hok (h.at hx) hst hn hf
        exact ⟨_, List.mem_append_right _ (List.mem_singleton.2 rfl), h1.symm, h2.symm, .inl rfl⟩

/-- State i is done. -/
theorem Inv.next (hok : okL rs = true) {Q : List Nd} {i : Nat} {cs : By} (h : Inv rs s Q i cs) {x : Nd} (hx : Q[i]? = some x) (hall : ∀ c, isKb c = true → c ∉ cs → ∀ o q, Feeds rs x.p [c] o q → Lib.contains s o = false) : Inv rs s Q (i + 1) [] where
  good := h.good
  ord := h.ord
  dis := h.dis
  first := by
    obtain ⟨T, hQ, hT⟩ := h.first
    refine ⟨T, hQ, fun y hy => ?_⟩
    obtain ⟨hk, j, x', h1, h2, h3⟩ := hT y hy
    exact ⟨hk, j, x', h1, .inl (by rcases h2 with h2 | ⟨h2, _⟩ <;> omega), h3⟩
  closed j x' hj d hd hor n q' hn hf := by
    have hji : j < i + 1 := by
      rcases hor with h | ⟨_, h⟩
      · exact h
      · cases h
    by_cases hlt : j < i
    · exact h.closed j x' hj d hd (.inl hlt) n q' hn hf
    · obtain rfl : j = i := by omega
      by_cases hm : d ∈ cs
      · exact h.closed j x' hj d hd (.inr ⟨rfl, hm⟩) n q' hn hf
      · rw [hx] at hj; cases hj
        obtain ⟨o, q, hst⟩ := feeds_ex hok x.p [d]
        obtain ⟨h1, h2, h3⟩ := cont hok (h.at hx) hst hn hf
        have := hall d hd hm o q hst
        rw [contains_of h3] at this
        cases this

/-- Where keys lead: to a state of the list with no greater keys, or some state that is not done has no greater keys. -/
theorem Inv.reach (hok : okL rs = true) {Q : List Nd} {i : Nat} (h : Inv rs s Q i []) : ∀ (m : Nat) (ks : By), ks.length = m → AllK ks → ∀ n q, n ≤ s.length → Feeds rs [] ks (s.take n) q →
    (∃ x ∈ Q, x.n = n ∧ x.p = q ∧ sle x.w ks) ∨ (∃ (j : Nat) (x : Nd), i ≤ j ∧ Q[j]? = some x ∧ sle x.w ks) := by
  intro m
  induction m with
  | zero =>
    intro ks hl hk n q hn hf
    have : ks = [] := List.eq_nil_of_length_eq_zero hl
    subst this
    obtain ⟨h1, h2⟩ := hf.det (.nil [])
    have h3 := congrArg List.length h1
    rw [List.length_take, List.length_nil] at h3
    obtain ⟨T, hQ, _⟩ := h.first
    exact .inl ⟨nd0, by rw [hQ]; simp, by show 0 = n; omega, h2.symm, .inl rfl⟩
  | succ m ih =>
    intro ks hl hk n q hn hf
    have hne : ks ≠ [] := by intro e; rw [e] at hl; cases hl
    obtain ⟨ks', c, rfl⟩ : ∃ ks' c, ks = ks' ++ [c] := ⟨ks.dropLast, ks.getLast hne, (List.dropLast_concat_getLast hne).symm⟩
    obtain ⟨o1, q1, o2, hf1, hf2, ho⟩ := hf.split hok
    have hl1 := congrArg List.length ho
    rw [List.length_take, List.length_append] at hl1
    have e1 : o1 = s.take o1.length := by
      have := congrArg (List.take o1.length) ho
      rw [List.take_take, List.take_append_of_le_length (Nat.le_refl _), List.take_of_length_le (Nat.le_refl o1.length), Nat.min_eq_left (by omega)] at this
      exact this.symm
    rw [e1] at hf1
    rcases ih ks' (by simpa using hl) hk.left o1.length q1 (by omega) hf1 with ⟨x, hx, hxn, hxp, hle⟩ | ⟨j, x, hj, hx, hle⟩
    · obtain ⟨j, hj⟩ := mem_at hx
      by_cases hji : j < i
      · have hcc := hk.right c (by simp)
        have hg := h.good x hx
        obtain ⟨y, hy, h1, h2, h3⟩ := h.closed j x hj c hcc (.inl hji) n q hn (by
          have h4 : Feeds rs x.p [c] o2 q := by rw [hxp]; exact hf2
          have := hg.2.2.comp h4
          rw [ho, e1, ← hxn]
          exact this)
        exact .inl ⟨y, hy, h1, h2, sle_trans h3 (sle_snoc hle c)⟩
      · exact .inr ⟨j, x, by omega, hj, sle_trans hle (.inr (slt_more _ _))⟩
    · exact .inr ⟨j, x, hj, hx, sle_trans hle (.inr (slt_more _ _))⟩

theorem Inv.found (hok : okL rs = true) {Q : List Nd} {i : Nat} (h : Inv rs s Q i []) {x : Nd} (hx : Q[i]? = some x) (hn : x.n = s.length) (hp : x.p = []) : Least rs s x.w true := by
  have hg := h.at hx
  rw [hn, List.take_length, hp] at hg
  refine .inl ⟨rfl, ⟨hg.1, hg.2.2⟩, fun k' hk' => ?_⟩
  rcases h.reach hok _ k' rfl hk'.1 s.length [] (Nat.le_refl _) (by rw [List.take_length]; exact hk'.2) with ⟨y, hy, h1, h2, h3⟩ | ⟨j, y, hj, hy, h3⟩
  · obtain ⟨j, hj⟩ := mem_at hy
    obtain rfl := h.same hj hx (by rw [h1, hn]) (by rw [h2, hp])
    rw [hx] at hj; cases hj
    exact h3
  · by_cases e : j = i
    · subst e; rw [hx] at hy; cases hy; exact h3
    · exact sle_trans (.inr (pw_lt h.ord hx hy (by omega))) h3
theorem Inv.none (hok : okL rs = true) {Q : List Nd} (h : Inv rs s Q Q.length []) (hno : ∀ (j : Nat) (x : Nd), Q[j]? = some x → ¬ (x.n = s.length ∧ x.p = [])) : Least rs s [] false := by
  refine .inr ⟨rfl, rfl, fun k' hk' => ?_⟩
  rcases h.reach hok _ k' rfl hk'.1 s.length [] (Nat.le_refl _) (by rw [List.take_length]; exact hk'.2) with ⟨y, hy, h1, h2, h3⟩ | ⟨j, y, hj, hy, h3⟩
  · obtain ⟨j, hj⟩ := mem_at hy
    exact hno j y hj ⟨h1, h2⟩
  · have := (List.getElem?_eq_some_iff.1 hy).1
    omega

/-! ### how many states there are -/
theorem nodup_le {α : Type} [DecidableEq α] : ∀ {l u : List α}, l.Nodup → (∀ x ∈ l, x ∈ u) → l.length ≤ u.length
  | [], u, _, _ => Nat.zero_le _
  | a :: l, u, h, hs => by
    rw [List.nodup_cons] at h
    have ha := hs a (by simp)
    have := nodup_le (l := l) (u := u.erase a) h.2 (fun x hx => by
      rw [List.mem_erase_of_ne (by intro e; subst e; exact h.1 hx)]
      exact hs x (List.mem_cons_of_mem _ hx))
    rw [List.length_erase_of_mem ha] at this
    have : 0 < u.length := List.length_pos_of_mem ha
    rw [List.length_cons]; omega
def pends (rs : List Rule) : List By := [] :: rs.flatMap fun r => (List.range r.k.size).map fun i => (bs r.k).take i
theorem pends_mem {p : By} (h : Pend rs p) : p ∈ pends rs := by
  rcases h with rfl | h
  · exact List.mem_cons_self ..
  · refine List.mem_cons_of_mem _ ?_
    unfold longL at h
    rw [List.any_eq_true] at h
    obtain ⟨r, hr, h⟩ := h
    unfold longR at h
    rw [Bool.and_eq_true, decide_eq_true_eq, ba_size, bs_ba, List.isPrefixOf_iff_prefix] at h
    rw [List.mem_flatMap]
    refine ⟨r, hr, List.mem_map.2 ⟨p.length, by rw [List.mem_range]; omega, ?_⟩⟩
    exact (List.prefix_iff_eq_take.1 h.2).symm
theorem pends_len (hok : okL rs = true) : (pends rs).length ≤ 1 + 4 * rs.length := by
  unfold pends
  rw [List.length_cons]
  have : (rs.flatMap fun r => (List.range r.k.size).map fun i => (bs r.k).take i).length ≤ 4 * rs.length := by
    have hs : ∀ r ∈ rs, r.k.size ≤ 4 := fun r hr => (okR_next (ok_of hok hr)).2.1
    clear hok
    induction rs with
    | nil => simp
    | cons r rs ih =>
      rw [List.flatMap_cons, List.length_append, List.length_map, List.length_range, List.length_cons]
      have h1 := hs r (by simp)
      have h2 := ih (fun r hr => hs r (List.mem_cons_of_mem _ hr))
      omega
  omega
theorem Inv.few (hok : okL rs = true) {Q : List Nd} {i : Nat} {cs : By} (h : Inv rs s Q i cs) : Q.length ≤ (s.length + 1) * (1 + 4 * rs.length) := by
  have h1 : (Q.map fun x => (x.n, x.p)).Nodup := by
    unfold List.Nodup
    rw [List.pairwise_map]
    exact h.dis.imp (fun {a b} hab e => hab (by injection e with e1 e2; exact ⟨e1, e2⟩))
  have h2 := nodup_le (u := (List.range (s.length + 1)).flatMap fun n => (pends rs).map fun p => (n, p)) h1 (fun y hy => by
    rw [List.mem_map] at hy
    obtain ⟨x, hx, rfl⟩ := hy
    obtain ⟨_, hn, hf⟩ := h.good x hx
    rw [List.mem_flatMap]
    exact ⟨x.n, by rw [List.mem_range]; omega, List.mem_map.2 ⟨x.p, pends_mem (hf.pend (.inl rfl)), rfl⟩⟩)
  rw [List.length_map] at h2
  have h3 : ∀ (l : List Nat), (l.flatMap fun n => (pends rs).map fun p => (n, p)).length = l.length * (pends rs).length := by
    intro l
    induction l with
    | nil => simp
    | cons a l ih => rw [List.flatMap_cons, List.length_append, ih, List.length_map, List.length_cons, Nat.add_mul]; omega
  rw [h3, List.length_range] at h2
  exact Nat.le_trans h2 (Nat.mul_le_mul_left _ (pends_len hok))

/-! ### what each key does -/
def keyB (i : Nat) : UInt8 := UInt8.ofNat (33 + i)
theorem keyB_is {i : Nat} (h : i < 94) : (keyB i).toNat = 33 + i ∧ isKb (keyB i) = true := by
  have e : (keyB i).toNat = 33 + i := by unfold keyB; rw [toNat_ofNat _ (by omega)]
  exact ⟨e, by unfold isKb; rw [e, decide_eq_true_eq]; omega⟩
theorem keyB_of {c : UInt8} (h : isKb c = true) : ∃ i, i < 94 ∧ c = keyB i := by
  unfold isKb at h
  rw [decide_eq_true_eq] at h
  exact ⟨c.toNat - 33, by omega, by unfold keyB; rw [show 33 + (c.toNat - 33) = c.toNat by omega]; simp⟩
structure Mv where
  c : UInt8
  o : By
  q : By
/-- The moves of the first n keys. -/
noncomputable def mvs (rs : List Rule) (s p : By) (n : Nat) : List Mv := (List.range n).filterMap fun i => if Lib.contains s (fd rs p [keyB i]).1 then some ⟨keyB i, (fd rs p [keyB i]).1, (fd rs p [keyB i]).2⟩ else none
theorem mvs_succ (rs : List Rule) (s p : By) (n : Nat) : mvs rs s p (n + 1) = mvs rs s p n ++ (if Lib.contains s (fd rs p [keyB n]).1 then [⟨keyB n, (fd rs p [keyB n]).1, (fd rs p [keyB n]).2⟩] else []) := by
  unfold mvs
  rw [List.range_succ, List.filterMap_append]
  congr 1
  split <;> simp_all
theorem mvs_mem {p : By} {n : Nat} (hn : n ≤ 94) {m : Mv} (h : m ∈ mvs rs s p n) : ∃ i, i < n ∧ m.c = keyB i ∧ isKb m.c = true ∧ m.o = (fd rs p [m.c]).1 ∧ m.q = (fd rs p [m.c]).2 := by
  unfold mvs at h
  rw [List.mem_filterMap] at h
  obtain ⟨i, hi, h⟩ := h
  rw [List.mem_range] at hi
  split at h
  · cases h
    exact ⟨i, hi, rfl, (keyB_is (by omega)).2, rfl, rfl⟩
  · cases h
theorem mvs_sorted (p : By) : ∀ n, n ≤ 94 → (mvs rs s p n).Pairwise (fun a b => a.c < b.c)
  | 0, _ => by simp [mvs]
  | n + 1, h => by
    rw [mvs_succ, List.pairwise_append]
    refine ⟨mvs_sorted p n (by omega), by split <;> simp, fun a ha b hb => ?_⟩
    obtain ⟨i, hi, e, _⟩ := mvs_mem (by omega) ha
    split at hb
    · rw [List.mem_singleton] at hb; subst hb
      show a.c < keyB n
      rw [e, UInt8.lt_iff_toNat_lt, (keyB_is (by omega)).1, (keyB_is (by omega)).1]
      omega
    · cases hb
theorem mvs_all {p : By} {c : UInt8} (hc : isKb c = true) (h : c ∉ (mvs rs s p 94).map Mv.c) : Lib.contains s (fd rs p [c]).1 = false := by
  obtain ⟨i, hi, rfl⟩ := keyB_of hc
  cases hq : Lib.contains s (fd rs p [keyB i]).1
  · rfl
  · refine absurd ?_ h
    rw [List.mem_map]
    refine ⟨⟨keyB i, (fd rs p [keyB i]).1, (fd rs p [keyB i]).2⟩, ?_, rfl⟩
    unfold mvs
    rw [List.mem_filterMap]
    exact ⟨i, List.mem_range.2 hi, by rw [if_pos hq]⟩
theorem mvs_len (rs : List Rule) (s p : By) (n : Nat) : (mvs rs s p n).length ≤ n := by
  have := List.length_filterMap_le (fun i => if Lib.contains s (fd rs p [keyB i]).1 then some (⟨keyB i, (fd rs p [keyB i]).1, (fd rs p [keyB i]).2⟩ : Mv) else none) (List.range n)
  rw [List.length_range] at this
  exact this

end Go.Proofs.YtamdlbefiggkfaaGreat.Aut

set_option linter.unusedVariables false
set_option linter.unusedSimpArgs false
set_option maxRecDepth 100000
namespace Go.Proofs.YtamdlbefiggkfaaGreat.Rom
open Go Go.RowKit Go.Proofs.YtamdlbefiggkfaaGreat.Kit Go.Proofs.YtamdlbefiggkfaaGreat.Utf

/-- A variable of three strings that the call has laid: what it holds, that it may be written. -/
structure Var3 (w : World) (g : Nat) : Prop where
  z0 : w.cell? ⟨g, 0, none⟩ = some (.string { data := #[] })
  z1 : w.cell? ⟨g, 1, none⟩ = some (.string { data := #[] })
  z2 : w.cell? ⟨g, 2, none⟩ = some (.string { data := #[] })
  y : ∀ j, w.frozen? ⟨g, j, none⟩ = false
theorem Var3.of {w : World} {g : Nat} {t : TypeId} (e0 : w.heap[g]? = some (Obj.cells #[.string { data := #[] }, .string { data := #[] }, .string { data := #[] }] t (0, 0))) : Var3 w g :=
  ⟨by rw [cell_of_row w _ 0 _ _ _ e0]; rfl, by rw [cell_of_row w _ 1 _ _ _ e0]; rfl, by rw [cell_of_row w _ 2 _ _ _ e0]; rfl, fun j => by unfold World.frozen?; rw [show w.heap[(⟨g, j, none⟩ : Addr).block]? = _ from e0]; simp⟩
theorem Var3.later {w w' : World} {g B : Nat} (h : Var3 w g) (hb : Below B w w') (hg : g < B) : Var3 w' g :=
  ⟨by rw [hb.cell (by exact hg)]; exact h.z0, by rw [hb.cell (by exact hg)]; exact h.z1, by rw [hb.cell (by exact hg)]; exact h.z2, fun j => by rw [hb.frozen (by exact hg)]; exact h.y j⟩
theorem Var3.set {w : World} {g : Nat} (h : Var3 w g) (r : Rule) :
    (((w.setCell ⟨g, 0, none⟩ (.string r.k)).setCell ⟨g, 1, none⟩ (.string r.o)).setCell ⟨g, 2, none⟩ (.string r.n)).cell? ⟨g, 0, none⟩ = some (.string r.k) ∧ (((w.setCell ⟨g, 0, none⟩ (.string r.k)).setCell ⟨g, 1, none⟩ (.string r.o)).setCell ⟨g, 2, none⟩ (.string r.n)).cell? ⟨g, 1, none⟩ = some (.string r.o) ∧ (((w.setCell ⟨g, 0, none⟩ (.string r.k)).setCell ⟨g, 1, none⟩ (.string r.o)).setCell ⟨g, 2, none⟩ (.string r.n)).cell? ⟨g, 2, none⟩ = some (.string r.n) :=
  three_set (by rw [h.z0]; rfl) (by rw [h.z1]; rfl) (by rw [h.z2]; rfl)
theorem below_set3 {B : Nat} {a w : World} (h : Below B a w) {g : Nat} (hg : B ≤ g) (x y z : Value) : Below B a (((w.setCell ⟨g, 0, none⟩ x).setCell ⟨g, 1, none⟩ y).setCell ⟨g, 2, none⟩ z) :=
  Below.setCell (Below.setCell (Below.setCell h (by exact hg) _) (by exact hg) _) (by exact hg) _

set_option maxHeartbeats 1000000 in
theorem find_any (v : Value) (rs : List Rule) (x : ByteArray) (w : World) (hR : RowR w v rs) (hs : ∀ r ∈ rs, Short r) :
    Calls Tryz.prog 53 #[v, .string x] w fun e w' => e = .returned (.tuple #[ragg (findL rs x).1, .bool (findL rs x).2]) ∧ Below w.heap.size w w' := by
  obtain ⟨a, len, cap, rfl, hlen, hcap, hmax, _⟩ := id hR
  subst hlen
  have hmx : rs.length ≤ maxLen := by omega
  unfold maxLen at hmx
  have HR := Lib.hid hR
  have HS := Lib.hid hs
  clear hR hmax hs
  go_enter Tryz.func53, Tryz.ntmps53
  go_wp2
  have e0 := heap_alloc_new w (Obj.cells #[.string { data := #[] }, .string { data := #[] }, .string { data := #[] }] 64)
  obtain ⟨W, hW⟩ : ∃ W, w.alloc (Obj.cells #[.string { data := #[] }, .string { data := #[] }, .string { data := #[] }] 64) = W := ⟨_, rfl⟩
  have hb0 : Below w.heap.size w W := by rw [← hW]; exact (Below.refl _ _).alloc (Nat.le_refl _) _
  have hsz : W.heap.size = w.heap.size + 1 := by rw [← hW]; simp
  rw [hW] at e0 ⊢
  have HV := Lib.hid (Var3.of e0)
  have HR2 := Lib.hid (HR.out.later hb0 (Nat.le_refl _))
  clear hW e0
  go_loopw [10] (fun i wr => ∃ k : Nat, i = .int .i64 k ∧ k ≤ rs.length ∧ Hid ((findL (rs.take k) x).2 = false) ∧ Below W.heap.size W wr) (fun i _ => rs.length - (intOf i).toNat)
  case atStart => exact ⟨0, rfl, Nat.zero_le _, Lib.hid rfl, Below.refl _ _⟩
  case round =>
    obtain ⟨k, rfl, hk, hno, hbw⟩ := hrel
    have hws := hbw.size
    by_cases hkl : k < rs.length
    · obtain ⟨b, off, rfl, hb, hx⟩ := HR2.out.at (by omega)
      obtain ⟨x0, x1, x2⟩ := hx k hkl
      rw [← hbw.cell (p := ⟨b, _, none⟩) hb] at x0 x1 x2
      have hsr := Lib.hid (HS.out _ (ri_mem hkl))
      have k0 : (0 : Int) ≤ k := by omega
      have k1 : (k : Int) < rs.length := by omega
      by_cases hq : (ri rs k).k = x
      · have HF := Lib.hid (findL_hit hkl hno.out hq)
        have hq2 : ((ri rs k).k.toList == x.toList) = true := by rw [str_beq, decide_eq_true hq]
        generalize ri rs k = r at *
        clear hq hx
        go_wp2_with (go_at_call 51; (refine (fresh_any r _ hsr.out).mono ?_); rintro e w3 ⟨rfl, hb3⟩; have hbW : Below W.heap.size W w3 := (hbw.alloc hbw.size _).trans (hb3.mono (by simp; omega)); have hv := HV.out.later hbW (by omega); have v0 := hv.z0; have v1 := hv.z1; have v2 := hv.z2; have v3 := hv.y; unfold ragg)
        (try simp only [Exit.inBlock, Exit.then])
        rw [HF.out]
        refine bodyPost_ret (v := .tuple #[ragg r, .bool true]) ?_ rfl ⟨rfl, below_set3 (hb0.trans (hbW.mono hb0.size)) (Nat.le_refl _) _ _ _⟩
        rw [results_cell_tmp rfl]
        obtain ⟨q0, q1, q2⟩ := hv.set r
        show ((loadVar 64 ⟨w.heap.size, 0, none⟩).run Tryz.prog _).andThen _ = _
        rw [load_rule q0 q1 q2]
        rfl
      · have HF := Lib.hid (findL_miss hkl hno.out hq)
        have hq2 : ((ri rs k).k.toList == x.toList) = false := by rw [str_beq, decide_eq_false hq]
        generalize ri rs k = r at *
        clear hq hx
        go_wp2
        go_roundw
        case rel => exact ⟨k + 1, by go_num, by omega, HF, hbw.alloc hbw.size _⟩
        case measure => simp [intOf]; omega
    · have HF := Lib.hid (findL_none rs x (by have := hno.out; rwa [List.take_of_length_le (by omega)] at this))
      have hv := HV.out.later hbw (by omega)
      have v0 := hv.z0
      have v1 := hv.z1
      have v2 := hv.z2
      have v3 := hv.y
      go_wp2
      (try simp only [Exit.inBlock, Exit.then])
      rw [HF.out]
      refine bodyPost_ret (v := .tuple #[ragg noRule, .bool false]) ?_ rfl ⟨rfl, below_set3 (hb0.trans (hbw.mono hb0.size)) (Nat.le_refl _) _ _ _⟩
      rw [results_cell_tmp rfl]
      obtain ⟨q0, q1, q2⟩ := hv.set noRule
      show ((loadVar 64 ⟨w.heap.size, 0, none⟩).run Tryz.prog _).andThen _ = _
      erw [load_rule (r := noRule) q0 q1 q2]
      rfl

theorem prefix_len {x y : ByteArray} (h : ¬ x.size < y.size) (r : Rule) (e : r.k = y) : longR r x = false := by unfold longR; rw [e, decide_eq_false h]; rfl

theorem extract_pref (s x : ByteArray) (h : x.size ≤ s.size) : ((s.extract 0 x.size).toList == x.toList) = (bs x).isPrefixOf (bs s) := by
  rw [str_beq, Bool.eq_iff_iff, List.isPrefixOf_iff_prefix, decide_eq_true_eq]
  constructor
  · intro e
    rw [← e]
    rw [show bs (s.extract 0 x.size) = (bs s).take x.size by simp [bs, ByteArray.data_extract]]
    exact List.take_prefix _ _
  · intro hp
    apply ba_ext
    rw [show (s.extract 0 x.size).data.toList = (bs s).take x.size by simp [bs, ByteArray.data_extract]]
    have e := List.prefix_iff_eq_take.1 hp
    rw [bs_len] at e
    exact e.symm

theorem rlonger_any (v : Value) (rs : List Rule) (x : ByteArray) (w : World) (hR : RowR w v rs) (hxs : x.size ≤ 1048576) (hs : ∀ r ∈ rs, Short r) :
    Calls Tryz.prog 85 #[v, .string x] w fun e w' => e = .returned (.bool (longL rs x)) ∧ w' = w := by
  obtain ⟨a, len, cap, rfl, hlen, hcap, hmax, _⟩ := id hR
  subst hlen
  have hmx : rs.length ≤ maxLen := by omega
  unfold maxLen at hmx
  have HR := Lib.hid hR
  have HS := Lib.hid hs
  clear hR hmax hs
  obtain ⟨E, hE⟩ : ∃ E : Bool, longL rs x = E := ⟨_, rfl⟩
  rw [hE]
  go_enter Tryz.func85, Tryz.ntmps85
  go_wp2
  go_loopw [5] (fun i wr => ∃ k : Nat, i = .int .i64 k ∧ k ≤ rs.length ∧ Hid (longL (rs.take k) x = false) ∧ wr = w) (fun i _ => rs.length - (intOf i).toNat)
  case atStart => exact ⟨0, rfl, Nat.zero_le _, Lib.hid rfl, rfl⟩
  case round =>
    obtain ⟨k, rfl, hk, hno, rfl⟩ := hrel
    by_cases hkl : k < rs.length
    · obtain ⟨b, off, rfl, hb, hx⟩ := HR.out.at (by omega)
      obtain ⟨x0, x1, x2⟩ := hx k hkl
      have hsr := (HS.out _ (ri_mem hkl)).1
      have k0 : (0 : Int) ≤ k := by omega
      have k1 : (k : Int) < rs.length := by omega
      have hsu := longL_succ (x := x) hkl
      rw [hno.out, Bool.false_or] at hsu
      have hhit : longL (rs.take (k + 1)) x = true → true = E := fun h => by rw [← hE, longL_hit h]
      have HH := Lib.hid hhit
      have HSU := Lib.hid hsu
      clear hx hsu hhit
      generalize ri rs k = r at *
      by_cases hl : x.size < r.k.size
      · have hlr : longR r x = ((r.k.extract 0 x.size).toList == x.toList) := by unfold longR; rw [decide_eq_true hl, extract_pref _ _ (by omega)]; rfl
        have HL := Lib.hid hlr
        clear hlr
        cases q : ((r.k.extract 0 x.size).toList == x.toList)
        · rw [q] at HL
          go_wp2
          go_roundw
          case rel => exact ⟨k + 1, by go_num, by omega, Lib.hid (by rw [HSU.out, HL.out]), trivial⟩
          case measure => simp [intOf]; omega
        · rw [q] at HL
          go_wp2
          go_ret
          exact ⟨ret_bool (HH.out (by rw [HSU.out, HL.out])), rfl⟩
      · have HL := Lib.hid (show longR r x = false by unfold longR; rw [decide_eq_false hl]; rfl)
        go_wp2
        go_roundw
        case rel => exact ⟨k + 1, by go_num, by omega, Lib.hid (by rw [HSU.out, HL.out]), trivial⟩
        case measure => simp [intOf]; omega
    · have HF := Lib.hid (show false = E by rw [← hE]; have := hno.out; rw [List.take_of_length_le (by omega)] at this; rw [this])
      go_wp2
      go_ret
      exact ⟨ret_bool HF.out, rfl⟩

end Go.Proofs.YtamdlbefiggkfaaGreat.Rom

namespace Go.Proofs
open Go.Shelf
def Tryz.wr_ren : Go.Shelf.Ren := ⟨fun | 166 => 79 | 240 => 103 | 276 => 113 | n => n, fun | 0 => 0 | 3 => 3 | 4 => 4 | 5 => 5 | 9 => 9 | 20 => 20 | 21 => 21 | 37 => 74 | 46 => 127 | 51 => 156 | 70 => 117 | 72 => 119 | 75 => 131 | 80 => 121 | 164 => 168 | n => n, fun n => n⟩
theorem Tryz.wr166 : Go.Proofs.Lays.n166 Tryz.prog Tryz.wr_ren := {
  mixed := by kernel_rfl
  f166 := Tryz.func79.trans (congrArg some (by kernel_rfl))
  f240 := Tryz.func103.trans (congrArg some (by kernel_rfl))
  f276 := Tryz.func113.trans (congrArg some (by kernel_rfl))
  t0 := Tryz.underlying0
  a0 := Tryz.isAgg0
  z0 := Tryz.sizeOf0
  v0 := Tryz.zeroValue0
  t3 := Tryz.underlying3
  a3 := Tryz.isAgg3
  z3 := Tryz.sizeOf3
  v3 := Tryz.zeroValue3
  t4 := Tryz.underlying4
  a4 := Tryz.isAgg4
  z4 := Tryz.sizeOf4
  v4 := Tryz.zeroValue4
  t9 := Tryz.underlying9
  a9 := Tryz.isAgg9
  z9 := Tryz.sizeOf9
  v9 := Tryz.zeroValue9
  t20 := Tryz.underlying20
  a20 := Tryz.isAgg20
  z20 := Tryz.sizeOf20
  v20 := Tryz.zeroValue20
  t37 := Tryz.underlying74
  a37 := Tryz.isAgg74
  z37 := Tryz.sizeOf74
  v37 := Tryz.zeroValue74
  t70 := Tryz.underlying117
  a70 := Tryz.isAgg117
  z70 := Tryz.sizeOf117
  v70 := Tryz.zeroValue117
  t72 := Tryz.underlying119
  a72 := Tryz.isAgg119
  z72 := Tryz.sizeOf119
  v72 := Tryz.zeroValue119
  t75 := Tryz.underlying131
  a75 := Tryz.isAgg131
  z75 := Tryz.sizeOf131
  v75 := Tryz.zeroValue131
  t164 := Tryz.underlying168
  a164 := Tryz.isAgg168
  z164 := Tryz.sizeOf168
  v164 := Tryz.zeroValue168 }
theorem Tryz.wr_extra : Builder.Extra Tryz.prog Tryz.wr_ren := {
  sizeBuilder := by kernel_rfl
  liesBuilder := by kernel_rfl
  t5 := Tryz.underlying5
  a5 := Tryz.isAgg5
  z5 := Tryz.sizeOf5
  v5 := Tryz.zeroValue5
  infoByte := by kernel_rfl
  cellsByte := by kernel_rfl
  sizeByte := by kernel_rfl
  neB5 := by decide }
open Go.RowKit in
theorem Tryz.writeString (B b : Nat) (bs : List Value) (s : ByteArray) (w : World) (h : Lib.IsBuilderF 119 5 B b bs w) (hlen : bs.length + s.size ≤ 140737488355328) (hBw : B ≤ w.heap.size) :
    Calls Tryz.prog 79 #[.pointer (some ⟨b, 0, none⟩), .string s] w fun e w' => e = .returned (.tuple #[.int .i64 s.size, .nilIface]) ∧ (Lib.BuilderAtF 119 5 B b (.pointer (some ⟨b, 0, none⟩)) (bs ++ Lib.strCells s) w' ∧ Below B w w' ∧ Lib.OthersKept 5 (some b) w w') :=
  Any.Builder_WriteString_k Tryz.wr166 Tryz.wr_extra B b bs s w h hlen hBw
end Go.Proofs

set_option linter.unusedVariables false
set_option linter.unusedSimpArgs false
set_option maxRecDepth 100000
namespace Go.Proofs.YtamdlbefiggkfaaGreat.Rom
open Go Go.RowKit Go.Proofs.YtamdlbefiggkfaaGreat.Kit Go.Proofs.YtamdlbefiggkfaaGreat.Utf

/-- A rule's line, without its end. -/
def lineT (r : Rule) : List UInt8 := (bs r.k ++ 9 :: bs r.o) ++ (if r.n.size = 0 then [] else 9 :: bs r.n)
def printB (rs : List Rule) : List UInt8 := rs.flatMap fun r => lineT r ++ [10]
def printL (rs : List Rule) : ByteArray × Int := if checkL rs = 0 then (ba (printB rs), 0) else (ba [], checkL rs)
theorem printB_succ {rs : List Rule} {k : Nat} (h : k < rs.length) : printB (rs.take (k + 1)) = printB (rs.take k) ++ (lineT (ri rs k) ++ [10]) := by
  unfold printB; rw [take_succ_ri rs k h, List.flatMap_append]; simp
theorem lineT_len {r : Rule} (h : Short r) : (lineT r).length ≤ 4000000 := by
  obtain ⟨h1, h2, h3⟩ := h
  unfold lineT
  split <;> simp only [List.length_append, List.length_cons, List.length_nil, bs_len] <;> omega
theorem printB_len {rs : List Rule} (h : ∀ r ∈ rs, Short r) : (printB rs).length ≤ rs.length * 4000001 := by
  induction rs with
  | nil => simp [printB]
  | cons r rs ih =>
    have h1 := lineT_len (h r (by simp))
    have h2 := ih (fun x hx => h x (List.mem_cons_of_mem _ hx))
    show ((lineT r ++ [10]) ++ printB rs).length ≤ _
    simp only [List.length_append, List.length_cons, List.length_nil]
    omega
theorem strCells_bs (s : ByteArray) : Lib.strCells s = Lib.byteCells (bs s) := rfl
theorem byteCells_app (a b : List UInt8) : Lib.byteCells (a ++ b) = Lib.byteCells a ++ Lib.byteCells b := by simp [Lib.byteCells]
theorem bs_app (a b : ByteArray) : bs (a ++ b) = bs a ++ bs b := by simp [bs]

theorem builder_kept2 {T e : TypeId} {B b : Nat} {bs : List Value} {w w' : World} (h : Lib.IsBuilderF T e B b bs w) (hk : ∀ k, B ≤ k → k < w.heap.size → w'.heap[k]? = w.heap[k]?) : Lib.IsBuilderF T e B b bs w' := by
  have one : ∀ p, Lib.BuilderAtF T e B b p bs w → Lib.BuilderAtF T e B b p bs w' := by
    rintro p ⟨hB, v, hb, hown, hne⟩
    refine ⟨hB, v, ?_, ⟨hown.1, ?_⟩, hne⟩
    · rw [hk b hB (Array.getElem?_eq_some_iff.1 hb).1]; exact hb
    · rcases hown.2 with hn | ⟨g, cap, cur, fz, hv, hbg, hg, rest⟩
      · exact .inl hn
      · exact .inr ⟨g, cap, cur, fz, hv, hbg, by rw [hk g hbg (Array.getElem?_eq_some_iff.1 hg).1]; exact hg, rest⟩
  exact h.elim (fun x => .inl (one _ x)) (fun x => .inr (one _ x))
theorem builder_new2 (T e : TypeId) (w : World) (b : Nat) (hb : b = w.heap.size) : Lib.IsBuilderF T e b b [] (w.alloc (.cells #[.pointer none, .slice none 0 0] T)) := by
  subst hb
  exact .inl ⟨Nat.le_refl _, .slice none 0 0, (by show (w.heap.push _)[w.heap.size]? = _; simp), World.ownsRowF_nil _ _ _ _, by simp [Value.ownBlock]⟩

/-- What a box holds stands behind work on a builder. -/
theorem box_kept {w w' : World} {g b : Nat} {r : Rule} (h : w.heap[g]? = some (.cells #[.string r.k, .string r.o, .string r.n] 64 (0, 0))) (ho : Lib.OthersKept 5 (some b) w w') (hne : g ≠ b) :
    w'.heap[g]? = some (.cells #[.string r.k, .string r.o, .string r.n] 64 (0, 0)) :=
  ho g _ h (by simpa using hne) (fun c fz e => by cases e)

theorem isB {B b : Nat} {bs : List Value} {w : World} (h : Lib.BuilderAtF 119 5 B b (.pointer (some ⟨b, 0, none⟩)) bs w) : Lib.IsBuilderF 119 5 B b bs w := .inr h
theorem nl_size : ({ data := #[10] } : ByteArray).size = 1 := rfl

end Go.Proofs.YtamdlbefiggkfaaGreat.Rom

set_option linter.unusedVariables false
set_option linter.unusedSimpArgs false
set_option maxRecDepth 100000
namespace Go.Proofs.YtamdlbefiggkfaaGreat.Aut
open Go Go.RowKit Go.Proofs.YtamdlbefiggkfaaGreat.Kit Go.Proofs.YtamdlbefiggkfaaGreat.Utf Go.Proofs.YtamdlbefiggkfaaGreat.Rom Go.Maps Go.ChangeMaps Go.WideMaps

/-- An element as it stands. -/
def heldR (v : Value) : Option (DataW Value × List MemPlace) := some (.held v, [])

section
variable {κ : Type} {kt : TypeId} {ek : κ → Value}

/-- Block b is a map of at most n entries that holds f. -/
def MapF (kt : TypeId) (ek : κ → Value) (w : World) (b n : Nat) (f : κ → Option Value) : Prop :=
  ∃ D : DataW Value, w.ownsMap Tryz.prog kt heldR b n D ∧ ∀ x l, keyOf Tryz.prog kt (ek x) = some l → Maps.has D l = (f x).isSome ∧ ∀ z, D.atKey l (.held z) = .held ((f x).getD z)

theorem MapF.made (w : World) : MapF kt ek (w.alloc (.map #[] 0)) w.heap.size 0 (fun _ => none) :=
  ⟨.map [], World.ownsMap_made _ _ _ _, fun x l h => ⟨rfl, fun z => by simp [DataW.atKey]⟩⟩
theorem MapF.lt {w : World} {b n : Nat} {f : κ → Option Value} (h : MapF kt ek w b n f) : b < w.heap.size := let ⟨_, h, _⟩ := h; h.lt
theorem MapF.kept {w w' : World} {b n : Nat} {f : κ → Option Value} {row : Option Nat} (h : MapF kt ek w b n f) (hg : w.grownBy w' row) (hne : some b ≠ row) : MapF kt ek w' b n f := by
  obtain ⟨D, h1, h2⟩ := h
  exact ⟨D, h1.kept hg hne, h2⟩
theorem MapF.alloc {w : World} {b n : Nat} {f : κ → Option Value} (h : MapF kt ek w b n f) (o : Obj) : MapF kt ek (w.alloc o) b n f := h.kept (World.grownBy_alloc w o none) (by simp)
theorem MapF.block {w w' : World} {b n : Nat} {f : κ → Option Value} (h : MapF kt ek w b n f) (hb : w'.heap[b]? = w.heap[b]?) : MapF kt ek w' b n f := by
  obtain ⟨D, ⟨es, clock, h1, h2, h3, h4⟩, h5⟩ := h
  exact ⟨D, ⟨es, clock, by rw [hb]; exact h1, h2, h3, h4⟩, h5⟩
theorem MapF.later {w w' : World} {b n B : Nat} {f : κ → Option Value} (h : MapF kt ek w b n f) (hb : Below B w w') (hB : b < B) : MapF kt ek w' b n f := h.block (hb.block b hB)
theorem MapF.is_map {w : World} {b n : Nat} {f : κ → Option Value} (h : MapF kt ek w b n f) : ∃ es c, w.heap[b]? = some (.map es c) := by
  obtain ⟨D, ⟨es, clock, h1, _⟩, _⟩ := h
  exact ⟨es, clock, h1⟩
theorem MapF.mono {w : World} {b n m : Nat} {f : κ → Option Value} (h : MapF kt ek w b n f) (hm : n ≤ m) : MapF kt ek w b m f := by
  obtain ⟨D, h1, h2⟩ := h
  exact ⟨D, h1.mono hm, h2⟩
theorem MapF.ext {w : World} {b n : Nat} {f g : κ → Option Value} (h : MapF kt ek w b n f) (hfg : ∀ x, (keyOf Tryz.prog kt (ek x)).isSome = true → f x = g x) : MapF kt ek w b n g := by
  obtain ⟨D, h1, h2⟩ := h
  exact ⟨D, h1, fun x l hl => by rw [← hfg x (by rw [hl]; rfl)]; exact h2 x l hl⟩

theorem MapF.get {w : World} {b n : Nat} {f : κ → Option Value} (h : MapF kt ek w b n f) (K : Keyed Tryz.prog kt) {t e : TypeId} (ht : Tryz.prog.underlying t = some (.map kt e)) {z : Value} (hz : (zeroValue e).run Tryz.prog w = .ok z w) {x : κ} {l : Lit} (hk : keyOf Tryz.prog kt (ek x) = some l) :
    (Instr.lookup t (.map (some b)) (ek x) false).run Tryz.prog w = .ok ((f x).getD z) w := by
  obtain ⟨D, h1, h2⟩ := h
  obtain ⟨v, ps, hrun, hv⟩ := h1.lookup K ht hz (show heldR z = some (.held z, []) from rfl) hk
  rw [(h2 x l hk).2 z] at hv
  unfold heldR at hv
  simp only [Option.some.injEq, Prod.mk.injEq, DataW.held.injEq] at hv
  rw [hrun, hv.1]
theorem MapF.look {w : World} {b n : Nat} {f : κ → Option Value} (h : MapF kt ek w b n f) (K : Keyed Tryz.prog kt) {t e : TypeId} (ht : Tryz.prog.underlying t = some (.map kt e)) {z : Value} (hz : (zeroValue e).run Tryz.prog w = .ok z w) {x : κ} {l : Lit} (hk : keyOf Tryz.prog kt (ek x) = some l) :
    (Instr.lookup t (.map (some b)) (ek x) true).run Tryz.prog w = .ok (.tuple #[(f x).getD z, .bool (f x).isSome]) w := by
  obtain ⟨D, h1, h2⟩ := h
  obtain ⟨v, ps, hrun, hv⟩ := h1.look_ok K ht hz (show heldR z = some (.held z, []) from rfl) hk
  rw [(h2 x l hk).2 z] at hv
  unfold heldR at hv
  simp only [Option.some.injEq, Prod.mk.injEq, DataW.held.injEq] at hv
  rw [hrun, hv.1, (h2 x l hk).1]
def upd [DecidableEq κ] (f : κ → Option Value) (x : κ) (v : Value) : κ → Option Value := fun y => if y = x then some v else f y
theorem MapF.put [DecidableEq κ] {w : World} {b n : Nat} {f : κ → Option Value} (h : MapF kt ek w b n f) (K : Keyed Tryz.prog kt) (hinj : ∀ x y, ek x = ek y → x = y) {t e : TypeId} (ht : Tryz.prog.underlying t = some (.map kt e)) (hn : n < maxLen) {x : κ} {l : Lit} (hk : keyOf Tryz.prog kt (ek x) = some l) (v : Value) :
    ∃ w', (Instr.mapUpdate t (.map (some b)) (ek x) v).run Tryz.prog w = .ok () w' ∧ MapF kt ek w' b (n + 1) (upd f x v) ∧ w.grownBy w' (some b) := by
  obtain ⟨D, h1, h2⟩ := h
  obtain ⟨w', hrun, hown, hg⟩ := h1.update K ht hn hk (show heldR v = some (.held v, []) from rfl)
  refine ⟨w', hrun, ⟨_, hown, fun y l' hy => ?_⟩, hg⟩
  have hT := h1.tidy K
  unfold upd
  by_cases e1 : y = x
  · subst e1
    rw [hk] at hy; cases hy
    rw [if_pos rfl]
    exact ⟨by rw [has_put_same hT.isMap (K.key hk)]; rfl, fun z => by rw [atKey_put_same hT.isMap (K.key hk)]; rfl⟩
  · have e2 : l' ≠ l := fun e => e1 (hinj _ _ (K.inj (e ▸ hy) hk))
    rw [if_neg e1]
    exact ⟨by rw [has_put_other e2]; exact (h2 y l' hy).1, fun z => by rw [atKey_put_other e2]; exact (h2 y l' hy).2 z⟩
end

/-! ### strings as keys -/
def eS (s : ByteArray) : Value := .string s
theorem eS_inj : ∀ x y, eS x = eS y → x = y := fun x y h => by injection h
theorem key_str {s : ByteArray} (h : s.size ≤ maxLen) : keyOf Tryz.prog 9 (eS s) = some (.string s.data.toList) := Go.WideMaps.keyOf_string_mk Tryz.underlying9 h

/-! ### the automaton -/
def rulesF (rs : List Rule) (x : ByteArray) : Option Value := if (findL rs x).2 then some (ragg (findL rs x).1) else none
def longF (rs : List Rule) (x : ByteArray) : Option Value := if longL rs x && decide (x.size ≠ 0) then some (.bool true) else none
/-- Block a is an automaton of the rules; it and its maps lie below B. -/
def AutoAt (B : Nat) (w : World) (a : Nat) (rs : List Rule) : Prop :=
  ∃ br bl n m, w.heap[a]? = some (.cells #[.map (some br), .map (some bl)] 62 (0, 0)) ∧ a < B ∧ br < B ∧ bl < B ∧ MapF 9 eS w br n (rulesF rs) ∧ MapF 9 eS w bl m (longF rs)
theorem AutoAt.later {B : Nat} {w w' : World} {a : Nat} {rs : List Rule} (h : AutoAt B w a rs) {B' : Nat} (hb : Below B' w w') (hB : B ≤ B') : AutoAt B w' a rs := by
  obtain ⟨br, bl, n, m, h1, h2, h3, h4, h5, h6⟩ := h
  exact ⟨br, bl, n, m, by rw [hb.block a (by omega)]; exact h1, h2, h3, h4, h5.later hb (by omega), h6.later hb (by omega)⟩
theorem AutoAt.mono {B B' : Nat} {w : World} {a : Nat} {rs : List Rule} (h : AutoAt B w a rs) (hB : B ≤ B') : AutoAt B' w a rs := by
  obtain ⟨br, bl, n, m, h1, h2, h3, h4, h5, h6⟩ := h
  exact ⟨br, bl, n, m, h1, by omega, by omega, by omega, h5, h6⟩
theorem zeroRule (w : World) : (zeroValue 64).run Tryz.prog w = .ok (ragg noRule) w := by kernel_rfl
/-- What the walk asks of an automaton: of this world, and of later ones. -/
theorem AutoAt.use {B : Nat} {w : World} {a : Nat} {rs : List Rule} (h : AutoAt B w a rs) : ∃ br bl, w.cell? ⟨a, 0, none⟩ = some (.map (some br)) ∧ w.cell? ⟨a, 1, none⟩ = some (.map (some bl)) ∧ a < B ∧
    Hid (∀ x : ByteArray, x.size ≤ maxLen → ∀ W, Below B w W → (Instr.lookup 59 (.map (some br)) (.string x) true).run Tryz.prog W = .ok (.tuple #[ragg (if (findL rs x).2 then (findL rs x).1 else noRule), .bool (findL rs x).2]) W) ∧
    Hid (∀ x : ByteArray, x.size ≤ maxLen → x.size ≠ 0 → ∀ W, Below B w W → (Instr.lookup 60 (.map (some bl)) (.string x) false).run Tryz.prog W = .ok (.bool (longL rs x)) W) := by
  obtain ⟨br, bl, n, m, h1, h2, h3, h4, h5, h6⟩ := h
  refine ⟨br, bl, by rw [cell_of_row w _ 0 _ _ _ h1]; rfl, by rw [cell_of_row w _ 1 _ _ _ h1]; rfl, h2, Lib.hid fun x hx W hW => ?_, Lib.hid fun x hx h0 W hW => ?_⟩
  · have := (h5.later hW h3).look law_str Tryz.underlying59 (zeroRule W) (key_str hx)
    unfold eS at this
    rw [this]
    unfold rulesF
    cases (findL rs x).2 <;> rfl
  · have := (h6.later hW h4).get law_str Tryz.underlying60 (zeroBool W) (key_str hx)
    unfold eS at this
    rw [this]
    unfold longF
    rw [decide_eq_true h0, Bool.and_true]
    cases longL rs x <;> rfl

theorem heap_two (w : World) (a b : Obj) : ((w.alloc a).alloc b).heap[w.heap.size]? = some a ∧ ((w.alloc a).alloc b).heap[w.heap.size + 1]? = some b := by
  refine ⟨?_, ?_⟩
  · have h := (Below.refl (w.heap.size + 1) (w.alloc a)).alloc (by simp) b
    rw [h.block w.heap.size (by omega)]
    exact heap_alloc_new w a
  · have h := heap_alloc_new (w.alloc a) b
    rw [World.size_alloc] at h
    exact h

end Go.Proofs.YtamdlbefiggkfaaGreat.Aut

set_option linter.unusedVariables false
set_option linter.unusedSimpArgs false
set_option maxRecDepth 100000
namespace Go.Proofs.YtamdlbefiggkfaaGreat.Aut
open Go Go.RowKit Go.Proofs.YtamdlbefiggkfaaGreat.Kit Go.Proofs.YtamdlbefiggkfaaGreat.Utf Go.Proofs.YtamdlbefiggkfaaGreat.Rom

/-- Byte i of a string, as a byte. -/
def bt8 (s : ByteArray) (i : Nat) : UInt8 := (bs s).getD i 0
theorem bz_bt8 (s : ByteArray) (i : Nat) : bz s i = ((bt8 s i).toNat : Int) := rfl
theorem bs_at (s : ByteArray) (i : Nat) (h : i < s.size) : (bs s).take (i + 1) = (bs s).take i ++ [bt8 s i] := by
  unfold bt8
  rw [List.take_add_one, List.getD_eq_getElem?_getD, List.getElem?_eq_getElem (by rw [bs_len]; exact h)]
  rfl
theorem keysOf_succ (s : ByteArray) (i : Nat) (h : i < s.size) : keysOf ((bs s).take (i + 1)) = keysOf ((bs s).take i) ++ (if isKb (bt8 s i) then [bt8 s i] else []) := by
  rw [bs_at s i h, keysOf_append]
  congr 1
  unfold keysOf
  rw [List.filter_cons]
  rfl

set_option maxHeartbeats 2000000 in
theorem only_any (s : ByteArray) (w : World) (hs : s.size ≤ 140737488351232) :
    Calls Tryz.prog 65 #[.string s] w fun e w' => e = .returned (.string (ba (keysOf (bs s)))) ∧ Below w.heap.size w w' := by
  obtain ⟨i0, hi, hz0, hz1, hz2⟩ := info_parts Clone.info_u8
  have hml : s.size ≤ maxLen := by unfold maxLen; omega
  go_enter Tryz.func65, Tryz.ntmps65
  go_wp2_with (at_make; refine wpList_make_own _ rfl _ _ _ rfl w.heap.size 5 i0 (.int .u8 0) 1 Tryz.underlying74 hi hz0 hz1 _ _ _ s.size rfl rfl rfl (by rw [hz2]; omega) hml (Nat.le_refl _) ?_; intro w2 hown2 hg2)
  have hb2 := (Below.refl w.heap.size w).grown hg2 (Nat.le_refl _) (fun k hk => by cases hk)
  go_loopw [3, 10, 4] (fun v i _ wr => ∃ k : Nat, i = .int .i64 k ∧ k ≤ s.size ∧ wr.ownsRow w.heap.size 5 1 v (keysOf ((bs s).take k)).length (u8s (keysOf ((bs s).take k))) ∧ Below w.heap.size w wr) (fun _ i _ _ => s.size - (intOf i).toNat)
  case atStart => exact ⟨0, rfl, Nat.zero_le _, hown2, hb2⟩
  case round =>
    obtain ⟨k, rfl, hk, hown, hbw⟩ := hrel
    have hws := hbw.size
    by_cases hkl : k < s.size
    · have hrun := run_byte s k hkl
      have hbz := bz_bound s k
      have hsu := Lib.hid (keysOf_succ s k hkl)
      have hln : (keysOf ((bs s).take k)).length ≤ k := by
        have := keysOf_le ((bs s).take k)
        rw [List.length_take] at this; omega
      have hbt := Lib.hid (bz_bt8 s k)
      generalize keysOf ((bs s).take k) = xs at hown hsu hln
      obtain ⟨L, hL⟩ : ∃ L, xs.length = L := ⟨_, rfl⟩
      rw [hL] at hown hln
      have HL := Lib.hid hL
      clear hL
      generalize bz s k = x at hrun hbz hbt
      generalize bt8 s k = c at hsu hbt
      obtain ⟨hb0, hb1⟩ := hbz
      by_cases h1 : (33 : Int) ≤ x ∧ x ≤ 126
      · obtain ⟨h1, h2⟩ := h1
        have hK : isKb c = true := by unfold isKb; rw [decide_eq_true_eq]; have := hbt.out; omega
        have hs2 := hsu.out
        rw [hK, if_pos rfl] at hs2
        have HS := Lib.hid hs2
        clear hs2 hsu hK
        go_wp2_with (at_builtin; refine wpList_append_own _ rfl _ _ _ rfl w.heap.size 5 i0 (.int .u8 0) 1 1 Tryz.underlying74 hi hz0 hz1 hz2 rfl (by decide) _ L (u8s xs) rfl (hown.alloc _) ⟨wr.heap.size, 0, none⟩ 1 1 [.int .u8 x] rfl rfl (cell_one_new _ _ _) ?c2 ?c3 ?c4 ?c5 ?_)
        case c2 => intro u hu; rw [List.mem_singleton] at hu; subst hu; rfl
        case c3 => unfold maxLen; omega
        case c4 => omega
        case c5 => simp; omega
        intro v' w5 hown5 hg5 _
        have hb5 : Below w.heap.size w w5 := (hbw.alloc hws _).grown hg5 (by simp; omega) (fun j hj => by have := hown.lt j hj; omega)
        go_wp2
        go_roundw
        case rel => exact ⟨k + 1, by go_num, by omega, by rw [HS.out, List.length_append, List.length_singleton, HL.out, u8s_append, show u8s [c] = [.int .u8 x] by simp [u8s, hbt.out]]; exact hown5, hb5⟩
        case measure => simp [intOf]; omega
      · have hK : isKb c = false := by unfold isKb; rw [decide_eq_false_iff_not]; have := hbt.out; omega
        have hs2 := hsu.out
        rw [hK] at hs2
        simp only [Bool.false_eq_true, if_false, List.append_nil] at hs2
        have HS := Lib.hid hs2
        clear hs2 hsu hK
        by_cases h2 : (33 : Int) ≤ x
        · have h3 : ¬ x ≤ 126 := by omega
          clear h1
          go_wp2
          go_roundw
          case rel => exact ⟨k + 1, by go_num, by omega, by rw [HS.out, HL.out]; exact hown, hbw⟩
          case measure => simp [intOf]; omega
        · clear h1
          go_wp2
          go_roundw
          case rel => exact ⟨k + 1, by go_num, by omega, by rw [HS.out, HL.out]; exact hown, hbw⟩
          case measure => simp [intOf]; omega
    · have e1 : (bs s).take k = bs s := List.take_of_length_le (by rw [bs_len]; omega)
      rw [e1] at hown
      have hc := Lib.hid (conv_bytes (P := Tryz.prog) (src := 74) (dst := 9) hown Tryz.underlying74 Tryz.underlying5 Tryz.underlying9)
      have hcr := hc.out
      clear e1 hown
      go_wp2
      go_ret
      exact ⟨rfl, hbw⟩

end Go.Proofs.YtamdlbefiggkfaaGreat.Aut
