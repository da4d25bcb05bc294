/-
  The automaton as mathematics: what keys write and leave pending, what pending keys write when they are flushed; of no program.
-/
import Derived.Test.YtmbccolkgephgaaRomP
import Derived.Test.YtmbccolkgephgaaRomF
set_option linter.unusedVariables false
set_option linter.unusedSimpArgs false
namespace Go.Proofs.Ytmbccolkgephgaa.Aut
open Go Go.Proofs.Ytmbccolkgephgaa.Utf Go.Proofs.Ytmbccolkgephgaa.Rom

abbrev By := List UInt8
/-- Is a byte a key? -/
def isKb (b : UInt8) : Bool := decide (33 ≤ b.toNat ∧ b.toNat ≤ 126)
def keysOf (l : By) : By := l.filter isKb
def AllK (l : By) : Prop := ∀ b ∈ l, isKb b = true
theorem keysOf_all (l : By) : AllK (keysOf l) := fun b hb => (List.mem_filter.1 hb).2
theorem keysOf_id {l : By} (h : AllK l) : keysOf l = l := List.filter_eq_self.2 h
theorem keysOf_append (a b : By) : keysOf (a ++ b) = keysOf a ++ keysOf b := List.filter_append ..
theorem keysOf_le (l : By) : (keysOf l).length ≤ l.length := List.length_filter_le ..

/-! ### the rule that is applied -/
/-- The rule with the most keys, at most n of them, with which s begins. -/
def bestN (rs : List Rule) (s : By) : Nat → Option Rule
  | 0 => none
  | n + 1 => if (findL rs (ba (s.take (n + 1)))).2 then some (findL rs (ba (s.take (n + 1)))).1 else bestN rs s n
def best (rs : List Rule) (s : By) : Option Rule := bestN rs s s.length
/-- What is written, and what is fed then. -/
def appO (rs : List Rule) (s : By) : By := match best rs s with
  | some r => bs r.o
  | none => s.take 1
def appK (rs : List Rule) (s : By) : By := match best rs s with
  | some r => bs r.n ++ s.drop r.k.size
  | none => s.drop 1

theorem findL_yes {rs : List Rule} {x : ByteArray} (h : (findL rs x).2 = true) : (findL rs x).1 ∈ rs ∧ (findL rs x).1.k = x := by
  induction rs with
  | nil => cases h
  | cons r rs ih =>
    unfold findL at h ⊢
    split
    · rename_i e; exact ⟨by simp, e⟩
    · rename_i e; rw [if_neg e] at h; exact ⟨List.mem_cons_of_mem _ (ih h).1, (ih h).2⟩

theorem bestN_some {rs : List Rule} {s : By} : ∀ {n : Nat} {r : Rule}, bestN rs s n = some r → r ∈ rs ∧ ∃ m, 1 ≤ m ∧ m ≤ n ∧ r.k = ba (s.take m)
  | 0, _, h => by cases h
  | n + 1, r, h => by
    unfold bestN at h
    split at h
    · rename_i hf
      cases h
      exact ⟨(findL_yes hf).1, n + 1, by omega, Nat.le_refl _, (findL_yes hf).2⟩
    · obtain ⟨h1, m, h2, h3, h4⟩ := bestN_some h
      exact ⟨h1, m, h2, by omega, h4⟩
theorem best_some {rs : List Rule} {s : By} {r : Rule} (h : best rs s = some r) : r ∈ rs ∧ 1 ≤ r.k.size ∧ r.k.size ≤ s.length ∧ bs r.k = s.take r.k.size := by
  obtain ⟨h1, m, h2, h3, h4⟩ := bestN_some h
  have e : r.k.size = m := by rw [h4, ba_size, List.length_take]; omega
  exact ⟨h1, by omega, by omega, by rw [e, h4, bs_ba]⟩

theorem ok_of {rs : List Rule} (h : okL rs = true) {r : Rule} (hr : r ∈ rs) : okR r = true := by
  unfold okL at h
  simp only [Bool.and_eq_true, List.all_eq_true] at h
  exact h.1 r hr
theorem okR_out {r : Rule} (h : okR r = true) : r.o.size ≤ 16 := by
  unfold okR at h
  simp only [Bool.and_eq_true] at h
  have hk := h.1.2
  unfold kanaOK at hk
  split at hk
  · rename_i cs hc
    obtain ⟨hv, he⟩ := chars_some hc
    have := encs_length_le hv
    simp only [Bool.and_eq_true, decide_eq_true_eq] at hk
    rw [← bs_len, he]
    omega
  · cases hk
theorem okR_next {r : Rule} (h : okR r = true) : r.n.size + 1 ≤ r.k.size ∧ r.k.size ≤ 4 ∧ r.n.size ≤ 3 ∧ 1 ≤ r.k.size := by
  unfold okR at h
  simp only [Bool.and_eq_true, decide_eq_true_eq] at h
  omega
theorem isKey_kb {b : UInt8} (h : isKeyZ b.toNat = true) : isKb b = true := by
  unfold isKeyZ at h
  unfold isKb
  rw [decide_eq_true_eq] at h ⊢
  omega
theorem keysOK_all {l : By} (h : keysOK l = true) : AllK l := by
  unfold keysOK at h
  rw [List.all_eq_true] at h
  exact fun b hb => isKey_kb (h b hb)
theorem okR_keys {r : Rule} (h : okR r = true) : AllK (bs r.k) ∧ AllK (bs r.n) := by
  unfold okR at h
  simp only [Bool.and_eq_true] at h
  exact ⟨keysOK_all h.1.1.1.1.2, keysOK_all h.1.1.2⟩

theorem appO_len {rs : List Rule} (hok : okL rs = true) (s : By) : (appO rs s).length ≤ 16 := by
  unfold appO
  split
  · rename_i r hr
    rw [bs_len]
    exact okR_out (ok_of hok (best_some hr).1)
  · rw [List.length_take]; omega
theorem appK_len {rs : List Rule} (hok : okL rs = true) {s : By} (hs : s ≠ []) : (appK rs s).length + 1 ≤ s.length := by
  have h0 : 0 < s.length := List.length_pos_iff.2 hs
  unfold appK
  split
  · rename_i r hr
    obtain ⟨h1, h2, h3, h4⟩ := best_some hr
    have := okR_next (ok_of hok h1)
    rw [List.length_append, bs_len, List.length_drop]
    omega
  · rw [List.length_drop]; omega
theorem AllK.append {a b : By} (ha : AllK a) (hb : AllK b) : AllK (a ++ b) := fun x hx => (List.mem_append.1 hx).elim (ha x) (hb x)
theorem AllK.drop {a : By} (ha : AllK a) (n : Nat) : AllK (a.drop n) := fun x hx => ha x (List.mem_of_mem_drop hx)
theorem AllK.left {a b : By} (h : AllK (a ++ b)) : AllK a := fun x hx => h x (List.mem_append_left _ hx)
theorem AllK.right {a b : By} (h : AllK (a ++ b)) : AllK b := fun x hx => h x (List.mem_append_right _ hx)
theorem AllK.one {c : UInt8} (h : isKb c = true) : AllK [c] := fun x hx => by rw [List.mem_singleton.1 hx]; exact h
theorem AllK.nil : AllK [] := fun x hx => by cases hx
theorem appK_all {rs : List Rule} (hok : okL rs = true) {s : By} (hs : AllK s) : AllK (appK rs s) := by
  unfold appK
  split
  · rename_i r hr
    exact (okR_keys (ok_of hok (best_some hr).1)).2.append (hs.drop _)
  · exact hs.drop _

/-! ### feeding -/
inductive Feeds (rs : List Rule) : By → By → By → By → Prop
  | nil (p : By) : Feeds rs p [] [] p
  | wait {p : By} {k : UInt8} {ks o q : By} (h : longL rs (ba (p ++ [k])) = true) (hf : Feeds rs (p ++ [k]) ks o q) : Feeds rs p (k :: ks) o q
  | app {p : By} {k : UInt8} {ks o q : By} (h : longL rs (ba (p ++ [k])) = false) (hf : Feeds rs [] (appK rs (p ++ [k]) ++ ks) o q) : Feeds rs p (k :: ks) (appO rs (p ++ [k]) ++ o) q

variable {rs : List Rule}

theorem Feeds.det {p ks o q : By} (h : Feeds rs p ks o q) : ∀ {o' q' : By}, Feeds rs p ks o' q' → o = o' ∧ q = q' := by
  induction h with
  | nil p => intro o' q' h'; cases h'; exact ⟨rfl, rfl⟩
  | wait h hf ih =>
    intro o' q' h'
    cases h' with
    | wait _ hf' => exact ih hf'
    | app h2 _ => rw [h] at h2; cases h2
  | app h hf ih =>
    intro o' q' h'
    cases h' with
    | wait h2 _ => rw [h] at h2; cases h2
    | app _ hf' => obtain ⟨rfl, rfl⟩ := ih hf'; exact ⟨rfl, rfl⟩

theorem Feeds.comp {p a o q : By} (h : Feeds rs p a o q) : ∀ {b o' q' : By}, Feeds rs q b o' q' → Feeds rs p (a ++ b) (o ++ o') q' := by
  induction h with
  | nil p => intro b o' q' h'; exact h'
  | wait h hf ih => intro b o' q' h'; exact .wait h (ih h')
  | app h hf ih =>
    intro b o' q' h'
    rw [List.append_assoc]
    refine .app h ?_
    show Feeds rs [] (appK rs _ ++ (_ ++ b)) _ _
    rw [← List.append_assoc]
    exact ih h'

theorem feeds_total (hok : okL rs = true) : ∀ (T : Nat) (ks p : By), p.length + ks.length ≤ T → ∃ o q, Feeds rs p ks o q := by
  intro T
  induction T with
  | zero =>
    intro ks p h
    have : ks = [] := List.eq_nil_of_length_eq_zero (by omega)
    subst this
    exact ⟨_, _, .nil p⟩
  | succ T iT =>
    intro ks
    induction ks with
    | nil => intro p _; exact ⟨_, _, .nil p⟩
    | cons k ks ih =>
      intro p h
      rw [List.length_cons] at h
      cases hl : longL rs (ba (p ++ [k]))
      · have hn := appK_len hok (s := p ++ [k]) (by simp)
        rw [List.length_append, List.length_singleton] at hn
        obtain ⟨o, q, hf⟩ := iT (appK rs (p ++ [k]) ++ ks) [] (by rw [List.length_append, List.length_nil]; omega)
        exact ⟨_, _, .app hl hf⟩
      · obtain ⟨o, q, hf⟩ := ih (p ++ [k]) (by rw [List.length_append, List.length_singleton]; omega)
        exact ⟨_, _, .wait hl hf⟩
theorem feeds_ex (hok : okL rs = true) (p ks : By) : ∃ o q, Feeds rs p ks o q := feeds_total hok _ ks p (Nat.le_refl _)
theorem Feeds.split (hok : okL rs = true) {p a b o q : By} (h : Feeds rs p (a ++ b) o q) : ∃ o1 q1 o2, Feeds rs p a o1 q1 ∧ Feeds rs q1 b o2 q ∧ o = o1 ++ o2 := by
  obtain ⟨o1, q1, h1⟩ := feeds_ex hok p a
  obtain ⟨o2, q2, h2⟩ := feeds_ex hok q1 b
  obtain ⟨rfl, rfl⟩ := h.det (h1.comp h2)
  exact ⟨o1, q1, o2, h1, h2, rfl⟩

theorem Feeds.len (hok : okL rs = true) {p ks o q : By} (h : Feeds rs p ks o q) : q.length ≤ p.length + ks.length ∧ o.length + 16 * q.length ≤ 16 * (p.length + ks.length) := by
  induction h with
  | nil p => simp
  | @wait p k ks o q h hf ih =>
    simp only [List.length_append, List.length_cons, List.length_nil] at ih ⊢
    omega
  | @app p k ks o q h hf ih =>
    have h1 := appK_len hok (s := p ++ [k]) (by simp)
    have h2 := appO_len hok (p ++ [k])
    simp only [List.length_append, List.length_cons, List.length_nil] at ih h1 ⊢
    omega
theorem Feeds.keys (hok : okL rs = true) {p ks o q : By} (h : Feeds rs p ks o q) : AllK p → AllK ks → AllK q := by
  induction h with
  | nil p => intro h _; exact h
  | @wait p k ks o q h hf ih =>
    intro h1 h2
    exact ih (h1.append (AllK.one (h2 k (by simp)))) (fun x hx => h2 x (List.mem_cons_of_mem _ hx))
  | @app p k ks o q h hf ih =>
    intro h1 h2
    exact ih AllK.nil ((appK_all hok (h1.append (AllK.one (h2 k (by simp))))).append (fun x hx => h2 x (List.mem_cons_of_mem _ hx)))
/-- May keys be pending? -/
def Pend (rs : List Rule) (p : By) : Prop := p = [] ∨ longL rs (ba p) = true
theorem Feeds.pend {p ks o q : By} (h : Feeds rs p ks o q) : Pend rs p → Pend rs q := by
  induction h with
  | nil p => exact id
  | wait h hf ih => exact fun _ => ih (.inr h)
  | app h hf ih => exact fun _ => ih (.inl rfl)

/-- As a program that may run out of fuel. -/
def feedO (rs : List Rule) : Nat → By → By → Option (By × By)
  | 0, p, ks => match ks with
    | [] => some ([], p)
    | _ :: _ => none
  | f + 1, p, ks => match ks with
    | [] => some ([], p)
    | k :: ks => if longL rs (ba (p ++ [k])) then feedO rs f (p ++ [k]) ks else (feedO rs f [] (appK rs (p ++ [k]) ++ ks)).map fun x => (appO rs (p ++ [k]) ++ x.1, x.2)
theorem feedO_sound : ∀ {f : Nat} {p ks o q : By}, feedO rs f p ks = some (o, q) → Feeds rs p ks o q
  | 0, p, ks, o, q, h => by
    cases ks with
    | nil => simp only [feedO, Option.some.injEq, Prod.mk.injEq] at h; obtain ⟨rfl, rfl⟩ := h; exact .nil p
    | cons k ks => cases h
  | f + 1, p, ks, o, q, h => by
    cases ks with
    | nil => simp only [feedO, Option.some.injEq, Prod.mk.injEq] at h; obtain ⟨rfl, rfl⟩ := h; exact .nil p
    | cons k ks =>
      unfold feedO at h
      dsimp only at h
      cases hl : longL rs (ba (p ++ [k]))
      · rw [hl] at h
        simp only [Bool.false_eq_true, if_false, Option.map_eq_some_iff, Prod.mk.injEq] at h
        obtain ⟨⟨x1, x2⟩, hx, rfl, rfl⟩ := h
        exact .app hl (feedO_sound hx)
      · rw [hl] at h
        exact .wait hl (feedO_sound h)

/-- What is written, what is pending then: as functions. -/
noncomputable def fd (rs : List Rule) (p ks : By) : By × By := open Classical in if h : ∃ x : By × By, Feeds rs p ks x.1 x.2 then h.choose else ([], [])
theorem fd_spec (hok : okL rs = true) (p ks : By) : Feeds rs p ks (fd rs p ks).1 (fd rs p ks).2 := by
  obtain ⟨o, q, h⟩ := feeds_ex hok p ks
  have he : ∃ x : By × By, Feeds rs p ks x.1 x.2 := ⟨(o, q), h⟩
  unfold fd
  rw [dif_pos he]
  exact he.choose_spec
theorem Feeds.fd {p ks o q : By} (h : Feeds rs p ks o q) : Aut.fd rs p ks = (o, q) := by
  have he : ∃ x : By × By, Feeds rs p ks x.1 x.2 := ⟨(o, q), h⟩
  unfold Aut.fd
  rw [dif_pos he]
  obtain ⟨h1, h2⟩ := he.choose_spec.det h
  exact Prod.ext h1 h2

/-! ### flushing -/
inductive Flushes (rs : List Rule) : By → By → Prop
  | nil : Flushes rs [] []
  | step {s o1 q o2 : By} (hs : s ≠ []) (hf : Feeds rs [] (appK rs s) o1 q) (h2 : Flushes rs q o2) : Flushes rs s (appO rs s ++ o1 ++ o2)
theorem Flushes.det {s o : By} (h : Flushes rs s o) : ∀ {o' : By}, Flushes rs s o' → o = o' := by
  induction h with
  | nil => intro o' h'; cases h' with
    | nil => rfl
    | step hs => exact absurd rfl hs
  | step hs hf h2 ih =>
    intro o' h'
    cases h' with
    | nil => exact absurd rfl hs
    | step _ hf' h2' =>
      obtain ⟨rfl, rfl⟩ := hf.det hf'
      rw [ih h2']
theorem flushes_total (hok : okL rs = true) : ∀ (T : Nat) (s : By), s.length ≤ T → ∃ o, Flushes rs s o ∧ o.length ≤ 16 * s.length := by
  intro T
  induction T with
  | zero =>
    intro s h
    have : s = [] := List.eq_nil_of_length_eq_zero (by omega)
    subst this
    exact ⟨_, .nil, by simp⟩
  | succ T ih =>
    intro s h
    by_cases hs : s = []
    · subst hs; exact ⟨_, .nil, by simp⟩
    · obtain ⟨o1, q, hf⟩ := feeds_ex hok [] (appK rs s)
      have h1 := appK_len hok hs
      have h2 := appO_len hok s
      have h3 := hf.len hok
      rw [List.length_nil] at h3
      obtain ⟨o2, hq, hl⟩ := ih q (by omega)
      refine ⟨_, .step hs hf hq, ?_⟩
      simp only [List.length_append]
      omega
theorem flushes_ex (hok : okL rs = true) (s : By) : ∃ o, Flushes rs s o := let ⟨o, h, _⟩ := flushes_total hok _ s (Nat.le_refl _); ⟨o, h⟩
theorem Flushes.len (hok : okL rs = true) {s o : By} (h : Flushes rs s o) : o.length ≤ 16 * s.length := by
  obtain ⟨o', h', hl⟩ := flushes_total hok _ s (Nat.le_refl _)
  rw [h.det h']; exact hl

def flushO (rs : List Rule) : Nat → By → Option By
  | 0, s => if s = [] then some [] else none
  | f + 1, s => if s = [] then some [] else
    match feedO rs 1000 [] (appK rs s) with
    | some (o1, q) => (flushO rs f q).map fun o2 => appO rs s ++ o1 ++ o2
    | none => none
theorem flushO_sound : ∀ {f : Nat} {s o : By}, flushO rs f s = some o → Flushes rs s o
  | 0, s, o, h => by
    unfold flushO at h
    split at h
    · rename_i hs; subst hs; cases h; exact .nil
    · cases h
  | f + 1, s, o, h => by
    unfold flushO at h
    split at h
    · rename_i hs; subst hs; cases h; exact .nil
    · rename_i hs
      split at h
      · rename_i o1 q hf
        rw [Option.map_eq_some_iff] at h
        obtain ⟨o2, h2, rfl⟩ := h
        exact .step hs (feedO_sound hf) (flushO_sound h2)
      · cases h

/-! ### keys that occur in no rule -/
/-- Does a key occur in no rule's keys? -/
def Other (rs : List Rule) (c : UInt8) : Prop := ∀ r ∈ rs, c ∉ bs r.k
theorem best_other {c : UInt8} (hc : Other rs c) (p : By) : best rs (p ++ [c]) = best rs p := by
  unfold best
  rw [List.length_append, List.length_singleton]
  have key : ∀ n, n ≤ p.length → bestN rs (p ++ [c]) n = bestN rs p n := by
    intro n
    induction n with
    | zero => intro _; rfl
    | succ n ih =>
      intro h
      unfold bestN
      rw [List.take_append_of_le_length (by omega), ih (by omega)]
  have h1 : bestN rs (p ++ [c]) (p.length + 1) = bestN rs (p ++ [c]) p.length := by
    conv => lhs; unfold bestN
    rw [if_neg]
    intro hf
    obtain ⟨h1, h2⟩ := findL_yes hf
    apply hc _ h1
    rw [h2, bs_ba, List.take_of_length_le (by simp)]
    simp
  rw [h1, key _ (Nat.le_refl _)]
theorem long_other {c : UInt8} (hc : Other rs c) (p : By) : longL rs (ba (p ++ [c])) = false := by
  unfold longL
  rw [List.any_eq_false]
  intro r hr h
  unfold longR at h
  rw [bs_ba, Bool.and_eq_true, List.isPrefixOf_iff_prefix] at h
  exact hc r hr (h.2.subset (by simp))
theorem best_nil : best rs [] = none := rfl
theorem feeds_other (hok : okL rs = true) {c : UInt8} (hc : Other rs c) : ∀ (T : Nat) (p : By), p.length ≤ T → ∀ {F : By}, Flushes rs p F → Feeds rs p [c] (F ++ [c]) [] := by
  intro T
  induction T with
  | zero =>
    intro p h F hF
    have : p = [] := List.eq_nil_of_length_eq_zero (by omega)
    subst this
    cases hF with
    | nil =>
      have h1 : appO rs ([] ++ [c]) = [c] := by unfold appO; rw [best_other hc]; rfl
      have h2 : appK rs ([] ++ [c]) = [] := by unfold appK; rw [best_other hc]; rfl
      have := Feeds.app (rs := rs) (p := []) (k := c) (ks := []) (o := []) (q := []) (long_other hc _) (by rw [h2]; exact .nil _)
      rw [h1] at this
      exact this
    | step hs => exact absurd rfl hs
  | succ T ih =>
    intro p h F hF
    cases hF with
    | nil => exact ih [] (by simp) .nil
    | @step _ o1 q o2 hs hf h2 =>
      have e1 : appO rs (p ++ [c]) = appO rs p := by
        unfold appO; rw [best_other hc]
        split
        · rfl
        · cases p with
          | nil => exact absurd rfl hs
          | cons a p => rfl
      have e2 : appK rs (p ++ [c]) = appK rs p ++ [c] := by
        unfold appK; rw [best_other hc]
        split
        · rename_i r hr
          have := best_some hr
          rw [List.drop_append_of_le_length this.2.2.1, List.append_assoc]
        · cases p with
          | nil => exact absurd rfl hs
          | cons a p => rfl
      have hl := appK_len hok hs
      have hq := (hf.len hok).1
      rw [List.length_nil] at hq
      have h3 := hf.comp (ih q (by omega) h2)
      have := Feeds.app (rs := rs) (p := p) (k := c) (ks := []) (long_other hc _) (by rw [e2, List.append_nil]; exact h3)
      rw [e1] at this
      simpa [List.append_assoc] using this
theorem feeds_others (hok : okL rs = true) : ∀ {cs : By}, (∀ c ∈ cs, Other rs c) → Feeds rs [] cs cs []
  | [], _ => .nil _
  | c :: cs, h => by
    have h1 := feeds_other hok (h c (by simp)) 0 [] (by simp) .nil
    have := h1.comp (feeds_others hok fun x hx => h x (List.mem_cons_of_mem _ hx))
    simpa using this
theorem feeds_after (hok : okL rs = true) {ks o p F cs : By} (h : Feeds rs [] ks o p) (hF : Flushes rs p F) (hc : ∀ c ∈ cs, Other rs c) (h0 : cs ≠ []) : Feeds rs [] (ks ++ cs) (o ++ F ++ cs) [] := by
  cases cs with
  | nil => exact absurd rfl h0
  | cons c cs =>
    have h1 := h.comp (feeds_other hok (hc c (by simp)) _ p (Nat.le_refl _) hF)
    have h2 := h1.comp (feeds_others hok fun x hx => hc x (List.mem_cons_of_mem _ hx))
    simpa [List.append_assoc] using h2
theorem flushes_others : ∀ {cs : By}, (∀ c ∈ cs, Other rs c) → okL rs = true → Flushes rs cs cs
  | [], _, _ => .nil
  | c :: cs, h, hok => by
    have hb : ∀ (l : By), (∀ x ∈ l, Other rs x) → best rs l = none := by
      intro l
      induction hn : l.length generalizing l with
      | zero =>
        intro _
        have : l = [] := List.eq_nil_of_length_eq_zero hn
        subst this; rfl
      | succ n ih =>
        intro hl
        have hne : l ≠ [] := by intro e; rw [e] at hn; cases hn
        rw [← List.dropLast_concat_getLast hne, best_other (hl _ (List.getLast_mem hne))]
        exact ih _ (by rw [List.length_dropLast]; omega) (fun x hx => hl x (List.dropLast_subset _ hx))
    have e1 : appO rs (c :: cs) = [c] := by unfold appO; rw [hb _ h]; rfl
    have e2 : appK rs (c :: cs) = cs := by unfold appK; rw [hb _ h]; rfl
    have h1 : Feeds rs [] (appK rs (c :: cs)) cs [] := by rw [e2]; exact feeds_others hok fun x hx => h x (List.mem_cons_of_mem _ hx)
    have := Flushes.step (by simp) h1 .nil
    rw [e1] at this
    simpa using this

end Go.Proofs.Ytmbccolkgephgaa.Aut
