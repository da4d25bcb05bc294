/-
  Joined texts: AutMath, CmpMath, CmpK.
-/
import Derived.Test.YtamdlbefiggkfaaGreatM4
import Derived.Test.YtamdlbefiggkfaaGreatM2
import Derived.Test.YtamdlbefiggkfaaGreatRows
import Derived.Test.YtamdlbefiggkfaaGreatM3
import Derived.Maps.AppendAt
import Derived.Laws.StructEq
import Derived.Lib.Strings
import Derived.Deep.AppendLies
import Derived.Laws.AppendOwnNone
set_option linter.unusedVariables false
set_option linter.unusedSimpArgs false
namespace Go.Proofs.YtamdlbefiggkfaaGreat.Aut
open Go Go.Proofs.YtamdlbefiggkfaaGreat.Utf Go.Proofs.YtamdlbefiggkfaaGreat.Rom

abbrev By := List UInt8
/-- Is a byte a key? -/
def isKb (b : UInt8) : Bool := decide (33 ≤ b.toNat ∧ b.toNat ≤ 126)
def keysOf (l : By) : By := l.filter isKb
def AllK (l : By) : Prop := ∀ b ∈ l, isKb b = true
theorem keysOf_all (l : By) : AllK (keysOf l) := fun b hb => (List.mem_filter.1 hb).2
theorem keysOf_id {l : By} (h : AllK l) : keysOf l = l := List.filter_eq_self.2 h
theorem keysOf_append (a b : By) : keysOf (a ++ b) = keysOf a ++ keysOf b := List.filter_append ..
theorem keysOf_le (l : By) : (keysOf l).length ≤ l.length := List.length_filter_le ..

/-! ### the rule that is applied -/
/-- The rule with the most keys, at most n of them, with which s begins. -/
def bestN (rs : List Rule) (s : By) : Nat → Option Rule
  | 0 => none
  | n + 1 => if (findL rs (ba (s.take (n + 1)))).2 then some (findL rs (ba (s.take (n + 1)))).1 else bestN rs s n
def best (rs : List Rule) (s : By) : Option Rule := bestN rs s s.length
/-- What is written, and what is fed then. -/
def appO (rs : List Rule) (s : By) : By := match best rs s with
  | some r => bs r.o
  | none => s.take 1
def appK (rs : List Rule) (s : By) : By := match best rs s with
  | some r => bs r.n ++ s.drop r.k.size
  | none => s.drop 1

theorem findL_yes {rs : List Rule} {x : ByteArray} (h : (findL rs x).2 = true) : (findL rs x).1 ∈ rs ∧ (findL rs x).1.k = x := by
  induction rs with
  | nil => cases h
  | cons r rs ih =>
    unfold findL at h ⊢
    split
    · rename_i e; exact ⟨by simp, e⟩
    · rename_i e; rw [if_neg e] at h; exact ⟨List.mem_cons_of_mem _ (ih h).1, (ih h).2⟩

theorem bestN_some {rs : List Rule} {s : By} : ∀ {n : Nat} {r : Rule}, bestN rs s n = some r → r ∈ rs ∧ ∃ m, 1 ≤ m ∧ m ≤ n ∧ r.k = ba (s.take m)
  | 0, _, h => by cases h
  | n + 1, r, h => by
    unfold bestN at h
    split at h
    · rename_i hf
      cases h
      exact ⟨(findL_yes hf).1, n + 1, by omega, Nat.le_refl _, (findL_yes hf).2⟩
    · obtain ⟨h1, m, h2, h3, h4⟩ := bestN_some h
      exact ⟨h1, m, h2, by omega, h4⟩
theorem best_some {rs : List Rule} {s : By} {r : Rule} (h : best rs s = some r) : r ∈ rs ∧ 1 ≤ r.k.size ∧ r.k.size ≤ s.length ∧ bs r.k = s.take r.k.size := by
  obtain ⟨h1, m, h2, h3, h4⟩ := bestN_some h
  have e : r.k.size = m := by rw [h4, ba_size, List.length_take]; omega
  exact ⟨h1, by omega, by omega, by rw [e, h4, bs_ba]⟩

theorem ok_of {rs : List Rule} (h : okL rs = true) {r : Rule} (hr : r ∈ rs) : okR r = true := by
  unfold okL at h
  simp only [Bool.and_eq_true, List.all_eq_true] at h
  exact h.1 r hr
theorem okR_out {r : Rule} (h : okR r = true) : r.o.size ≤ 16 := by
  unfold okR at h
  simp only [Bool.and_eq_true] at h
  have hk := h.1.2
  unfold kanaOK at hk
  split at hk
  · rename_i cs hc
    obtain ⟨hv, he⟩ := chars_some hc
    have := encs_length_le hv
    simp only [Bool.and_eq_true, decide_eq_true_eq] at hk
    rw [← bs_len, he]
    omega
  · cases hk
theorem okR_next {r : Rule} (h : okR r = true) : r.n.size + 1 ≤ r.k.size ∧ r.k.size ≤ 4 ∧ r.n.size ≤ 3 ∧ 1 ≤ r.k.size := by
  unfold okR at h
  simp only [Bool.and_eq_true, decide_eq_true_eq] at h
  omega
theorem isKey_kb {b : UInt8} (h : isKeyZ b.toNat = true) : isKb b = true := by
  unfold isKeyZ at h
  unfold isKb
  rw [decide_eq_true_eq] at h ⊢
  omega
theorem keysOK_all {l : By} (h : keysOK l = true) : AllK l := by
  unfold keysOK at h
  rw [List.all_eq_true] at h
  exact fun b hb => isKey_kb (h b hb)
theorem okR_keys {r : Rule} (h : okR r = true) : AllK (bs r.k) ∧ AllK (bs r.n) := by
  unfold okR at h
  simp only [Bool.and_eq_true] at h
  exact ⟨keysOK_all h.1.1.1.1.2, keysOK_all h.1.1.2⟩

theorem appO_len {rs : List Rule} (hok : okL rs = true) (s : By) : (appO rs s).length ≤ 16 := by
  unfold appO
  split
  · rename_i r hr
    rw [bs_len]
    exact okR_out (ok_of hok (best_some hr).1)
  · rw [List.length_take]; omega
theorem appK_len {rs : List Rule} (hok : okL rs = true) {s : By} (hs : s ≠ []) : (appK rs s).length + 1 ≤ s.length := by
  have h0 : 0 < s.length := List.length_pos_iff.2 hs
  unfold appK
  split
  · rename_i r hr
    obtain ⟨h1, h2, h3, h4⟩ := best_some hr
    have := okR_next (ok_of hok h1)
    rw [List.length_append, bs_len, List.length_drop]
    omega
  · rw [List.length_drop]; omega
theorem AllK.append {a b : By} (ha : AllK a) (hb : AllK b) : AllK (a ++ b) := fun x hx => (List.mem_append.1 hx).elim (ha x) (hb x)
theorem AllK.drop {a : By} (ha : AllK a) (n : Nat) : AllK (a.drop n) := fun x hx => ha x (List.mem_of_mem_drop hx)
theorem AllK.left {a b : By} (h : AllK (a ++ b)) : AllK a := fun x hx => h x (List.mem_append_left _ hx)
theorem AllK.right {a b : By} (h : AllK (a ++ b)) : AllK b := fun x hx => h x (List.mem_append_right _ hx)
theorem AllK.one {c : UInt8} (h : isKb c = true) : AllK [c] := fun x hx => by rw [List.mem_singleton.1 hx]; exact h
theorem AllK.nil : AllK [] := fun x hx => by cases hx
theorem appK_all {rs : List Rule} (hok : okL rs = true) {s : By} (hs : AllK s) : AllK (appK rs s) := by
  unfold appK
  split
  · rename_i r hr
    exact (okR_keys (ok_of hok (best_some hr).1)).2.append (hs.drop _)
  · exact hs.drop _

/-! ### feeding -/
inductive Feeds (rs : List Rule) : By → By → By → By → Prop
  | nil (p : By) : Feeds rs p [] [] p
  | wait {p : By} {k : UInt8} {ks o q : By} (h : longL rs (ba (p ++ [k])) = true) (hf : Feeds rs (p ++ [k]) ks o q) : Feeds rs p (k :: ks) o q
  | app {p : By} {k : UInt8} {ks o q : By} (h : longL rs (ba (p ++ [k])) = false) (hf : Feeds rs [] (appK rs (p ++ [k]) ++ ks) o q) : Feeds rs p (k :: ks) (appO rs (p ++ [k]) ++ o) q

variable {rs : List Rule}

theorem Feeds.det {p ks o q : By} (h : Feeds rs p ks o q) : ∀ {o' q' : By}, Feeds rs p ks o' q' → o = o' ∧ q = q' := by
  induction h with
  | nil p => intro o' q' h'; cases h'; exact ⟨rfl, rfl⟩
  | wait h hf ih =>
    intro o' q' h'
    cases h' with
    | wait _ hf' => exact ih hf'
    | app h2 _ => rw [h] at h2; cases h2
  | app h hf ih =>
    intro o' q' h'
    cases h' with
    | wait h2 _ => rw [h] at h2; cases h2
    | app _ hf' => obtain ⟨rfl, rfl⟩ := ih hf'; exact ⟨rfl, rfl⟩

theorem Feeds.comp {p a o q : By} (h : Feeds rs p a o q) : ∀ {b o' q' : By}, Feeds rs q b o' q' → Feeds rs p (a ++ b) (o ++ o') q' := by
  induction h with
  | nil p => intro b o' q' h'; exact h'
  | wait h hf ih => intro b o' q' h'; exact .wait h (ih h')
  | app h hf ih =>
    intro b o' q' h'
    rw [List.append_assoc]
    refine .app h ?_
    show Feeds rs [] (appK rs _ ++ (_ ++ b)) _ _
    rw [← List.append_assoc]
    exact ih h'

theorem feeds_total (hok : okL rs = true) : ∀ (T : Nat) (ks p : By), p.length + ks.length ≤ T → ∃ o q, Feeds rs p ks o q := by
  intro T
  induction T with
  | zero =>
    intro ks p h
    have : ks = [] := List.eq_nil_of_length_eq_zero (by omega)
    subst this
    exact ⟨_, _, .nil p⟩
  | succ T iT =>
    intro ks
    induction ks with
    | nil => intro p _; exact ⟨_, _, .nil p⟩
    | cons k ks ih =>
      intro p h
      rw [List.length_cons] at h
      cases hl : longL rs (ba (p ++ [k]))
      · have hn := appK_len hok (s := p ++ [k]) (by simp)
        rw [List.length_append, List.length_singleton] at hn
        obtain ⟨o, q, hf⟩ := iT (appK rs (p ++ [k]) ++ ks) [] (by rw [List.length_append, List.length_nil]; omega)
        exact ⟨_, _, .app hl hf⟩
      · obtain ⟨o, q, hf⟩ := ih (p ++ [k]) (by rw [List.length_append, List.length_singleton]; omega)
        exact ⟨_, _, .wait hl hf⟩
theorem feeds_ex (hok : okL rs = true) (p ks : By) : ∃ o q, Feeds rs p ks o q := feeds_total hok _ ks p (Nat.le_refl _)
theorem Feeds.split (hok : okL rs = true) {p a b o q : By} (h : Feeds rs p (a ++ b) o q) : ∃ o1 q1 o2, Feeds rs p a o1 q1 ∧ Feeds rs q1 b o2 q ∧ o = o1 ++ o2 := by
  obtain ⟨o1, q1, h1⟩ := feeds_ex hok p a
  obtain ⟨o2, q2, h2⟩ := feeds_ex hok q1 b
  obtain ⟨rfl, rfl⟩ := h.det (h1.comp h2)
  exact ⟨o1, q1, o2, h1, h2, rfl⟩

theorem Feeds.len (hok : okL rs = true) {p ks o q : By} (h : Feeds rs p ks o q) : q.length ≤ p.length + ks.length ∧ o.length + 16 * q.length ≤ 16 * (p.length + ks.length) := by
  induction h with
  | nil p => simp
  | @wait p k ks o q h hf ih =>
    simp only [List.length_append, List.length_cons, List.length_nil] at ih ⊢
    omega
  | @app p k ks o q h hf ih =>
    have h1 := appK_len hok (s := p ++ [k]) (by simp)
    have h2 := appO_len hok (p ++ [k])
    simp only [List.length_append, List.length_cons, List.length_nil] at ih h1 ⊢
    omega
theorem Feeds.keys (hok : okL rs = true) {p ks o q : By} (h : Feeds rs p ks o q) : AllK p → AllK ks → AllK q := by
  induction h with
  | nil p => intro h _; exact h
  | @wait p k ks o q h hf ih =>
    intro h1 h2
    exact ih (h1.append (AllK.one (h2 k (by simp)))) (fun x hx => h2 x (List.mem_cons_of_mem _ hx))
  | @app p k ks o q h hf ih =>
    intro h1 h2
    exact ih AllK.nil ((appK_all hok (h1.append (AllK.one (h2 k (by simp))))).append (fun x hx => h2 x (List.mem_cons_of_mem _ hx)))
/-- May keys be pending? -/
def Pend (rs : List Rule) (p : By) : Prop := p = [] ∨ longL rs (ba p) = true
theorem Feeds.pend {p ks o q : By} (h : Feeds rs p ks o q) : Pend rs p → Pend rs q := by
  induction h with
  | nil p => exact id
  | wait h hf ih => exact fun _ => ih (.inr h)
  | app h hf ih => exact fun _ => ih (.inl rfl)

/-- As a program that may run out of fuel. -/
def feedO (rs : List Rule) : Nat → By → By → Option (By × By)
  | 0, p, ks => match ks with
    | [] => some ([], p)
    | _ :: _ => none
  | f + 1, p, ks => match ks with
    | [] => some ([], p)
    | k :: ks => if longL rs (ba (p ++ [k])) then feedO rs f (p ++ [k]) ks else (feedO rs f [] (appK rs (p ++ [k]) ++ ks)).map fun x => (appO rs (p ++ [k]) ++ x.1, x.2)
theorem feedO_sound : ∀ {f : Nat} {p ks o q : By}, feedO rs f p ks = some (o, q) → Feeds rs p ks o q
  | 0, p, ks, o, q, h => by
    cases ks with
    | nil => simp only [feedO, Option.some.injEq, Prod.mk.injEq] at h; obtain ⟨rfl, rfl⟩ := h; exact .nil p
    | cons k ks => cases h
  | f + 1, p, ks, o, q, h => by
    cases ks with
    | nil => simp only [feedO, Option.some.injEq, Prod.mk.injEq] at h; obtain ⟨rfl, rfl⟩ := h; exact .nil p
    | cons k ks =>
      unfold feedO at h
      dsimp only at h
      cases hl : longL rs (ba (p ++ [k]))
      · rw [hl] at h
        simp only [Bool.false_eq_true, if_false, Option.map_eq_some_iff, Prod.mk.injEq] at h
        obtain ⟨⟨x1, x2⟩, hx, rfl, rfl⟩ := h
        exact .app hl (feedO_sound hx)
      · rw [hl] at h
        exact .wait hl (feedO_sound h)

/-- What is written, what is pending then: as functions. -/
noncomputable def fd (rs : List Rule) (p ks : By) : By × By := open Classical in if h : ∃ x : By × By, Feeds rs p ks x.1 x.2 then h.choose else ([], [])
theorem fd_spec (hok : okL rs = true) (p ks : By) : Feeds rs p ks (fd rs p ks).1 (fd rs p ks).2 := by
  obtain ⟨o, q, h⟩ := feeds_ex hok p ks
  have he : ∃ x : By × By, Feeds rs p ks x.1 x.2 := ⟨(o, q), h⟩
  unfold fd
  rw [dif_pos he]
  exact he.choose_spec
theorem Feeds.fd {p ks o q : By} (h : Feeds rs p ks o q) : Aut.fd rs p ks = (o, q) := by
  have he : ∃ x : By × By, Feeds rs p ks x.1 x.2 := ⟨(o, q), h⟩
  unfold Aut.fd
  rw [dif_pos he]
  obtain ⟨h1, h2⟩ := he.choose_spec.det h
  exact Prod.ext h1 h2

/-! ### flushing -/
inductive Flushes (rs : List Rule) : By → By → Prop
  | nil : Flushes rs [] []
  | step {s o1 q o2 : By} (hs : s ≠ []) (hf : Feeds rs [] (appK rs s) o1 q) (h2 : Flushes rs q o2) : Flushes rs s (appO rs s ++ o1 ++ o2)
theorem Flushes.det {s o : By} (h : Flushes rs s o) : ∀ {o' : By}, Flushes rs s o' → o = o' := by
  induction h with
  | nil => intro o' h'; cases h' with
    | nil => rfl
    | step hs => exact absurd rfl hs
  | step hs hf h2 ih =>
    intro o' h'
    cases h' with
    | nil => exact absurd rfl hs
    | step _ hf' h2' =>
      obtain ⟨rfl, rfl⟩ := hf.det hf'
      rw [ih h2']
theorem flushes_total (hok : okL rs = true) : ∀ (T : Nat) (s : By), s.length ≤ T → ∃ o, Flushes rs s o ∧ o.length ≤ 16 * s.length := by
  intro T
  induction T with
  | zero =>
    intro s h
    have : s = [] := List.eq_nil_of_length_eq_zero (by omega)
    subst this
    exact ⟨_, .nil, by simp⟩
  | succ T ih =>
    intro s h
    by_cases hs : s = []
    · subst hs; exact ⟨_, .nil, by simp⟩
    · obtain ⟨o1, q, hf⟩ := feeds_ex hok [] (appK rs s)
      have h1 := appK_len hok hs
      have h2 := appO_len hok s
      have h3 := hf.len hok
      rw [List.length_nil] at h3
      obtain ⟨o2, hq, hl⟩ := ih q (by omega)
      refine ⟨_, .step hs hf hq, ?_⟩
      simp only [List.length_append]
      omega
theorem flushes_ex (hok : okL rs = true) (s : By) : ∃ o, Flushes rs s o := let ⟨o, h, _⟩ := flushes_total hok _ s (Nat.le_refl _); ⟨o, h⟩
theorem Flushes.len (hok : okL rs = true) {s o : By} (h : Flushes rs s o) : o.length ≤ 16 * s.length := by
  obtain ⟨o', h', hl⟩ := flushes_total hok _ s (Nat.le_refl _)
  rw [h.det h']; exact hl

def flushO (rs : List Rule) : Nat → By → Option By
  | 0, s => if s = [] then some [] else none
  | f + 1, s => if s = [] then some [] else
    match feedO rs 1000 [] (appK rs s) with
    | some (o1, q) => (flushO rs f q).map fun o2 => appO rs s ++ o1 ++ o2
    | none => none
theorem flushO_sound : ∀ {f : Nat} {s o : By}, flushO rs f s = some o → Flushes rs s o
  | 0, s, o, h => by
    unfold flushO at h
    split at h
    · rename_i hs; subst hs; cases h; exact .nil
    · cases h
  | f + 1, s, o, h => by
    unfold flushO at h
    split at h
    · rename_i hs; subst hs; cases h; exact .nil
    · rename_i hs
      split at h
      · rename_i o1 q hf
        rw [Option.map_eq_some_iff] at h
        obtain ⟨o2, h2, rfl⟩ := h
        exact .step hs (feedO_sound hf) (flushO_sound h2)
      · cases h

/-! ### keys that occur in no rule -/
/-- Does a key occur in no rule's keys? -/
def Other (rs : List Rule) (c : UInt8) : Prop := ∀ r ∈ rs, c ∉ bs r.k
theorem best_other {c : UInt8} (hc : Other rs c) (p : By) : best rs (p ++ [c]) = best rs p := by
  unfold best
  rw [List.length_append, List.length_singleton]
  have key : ∀ n, n ≤ p.length → bestN rs (p ++ [c]) n = bestN rs p n := by
    intro n
    induction n with
    | zero => intro _; rfl
    | succ n ih =>
      intro h
      unfold bestN
      rw [List.take_append_of_le_length (by omega), ih (by omega)]
  have h1 : bestN rs (p ++ [c]) (p.length + 1) = bestN rs (p ++ [c]) p.length := by
    conv => lhs; unfold bestN
    rw [if_neg]
    intro hf
    obtain ⟨h1, h2⟩ := findL_yes hf
    apply hc _ h1
    rw [h2, bs_ba, List.take_of_length_le (by simp)]
    simp
  rw [h1, key _ (Nat.le_refl _)]
theorem long_other {c : UInt8} (hc : Other rs c) (p : By) : longL rs (ba (p ++ [c])) = false := by
  unfold longL
  rw [List.any_eq_false]
  intro r hr h
  unfold longR at h
  rw [bs_ba, Bool.and_eq_true, List.isPrefixOf_iff_prefix] at h
  exact hc r hr (h.2.subset (by simp))
theorem best_nil : best rs [] = none := rfl
theorem feeds_other (hok : okL rs = true) {c : UInt8} (hc : Other rs c) : ∀ (T : Nat) (p : By), p.length ≤ T → ∀ {F : By}, Flushes rs p F → Feeds rs p [c] (F ++ [c]) [] := by
  intro T
  induction T with
  | zero =>
    intro p h F hF
    have : p = [] := List.eq_nil_of_length_eq_zero (by omega)
    subst this
    cases hF with
    | nil =>
      have h1 : appO rs ([] ++ [c]) = [c] := by unfold appO; rw [best_other hc]; rfl
      have h2 : appK rs ([] ++ [c]) = [] := by unfold appK; rw [best_other hc]; rfl
      have := Feeds.app (rs := rs) (p := []) (k := c) (ks := []) (o := []) (q := []) (long_other hc _) (by rw [h2]; exact .nil _)
      rw [h1] at this
      exact this
    | step hs => exact absurd rfl hs
  | succ T ih =>
    intro p h F hF
    cases hF with
    | nil => exact ih [] (by simp) .nil
    | @step _ o1 q o2 hs hf h2 =>
      have e1 : appO rs (p ++ [c]) = appO rs p := by
        unfold appO; rw [best_other hc]
        split
        · rfl
        · cases p with
          | nil => exact absurd rfl hs
          | cons a p => rfl
      have e2 : appK rs (p ++ [c]) = appK rs p ++ [c] := by
        unfold appK; rw [best_other hc]
        split
        · rename_i r hr
          have := best_some hr
          rw [List.drop_append_of_le_length this.2.2.1, List.append_assoc]
        · cases p with
          | nil => exact absurd rfl hs
          | cons a p => rfl
      have hl := appK_len hok hs
      have hq := (hf.len hok).1
      rw [List.length_nil] at hq
      have h3 := hf.comp (ih q (by omega) h2)
      have := Feeds.app (rs := rs) (p := p) (k := c) (ks := []) (long_other hc _) (by rw [e2, List.append_nil]; exact h3)
      rw [e1] at this
      simpa [List.append_assoc] using this
theorem feeds_others (hok : okL rs = true) : ∀ {cs : By}, (∀ c ∈ cs, Other rs c) → Feeds rs [] cs cs []
  | [], _ => .nil _
  | c :: cs, h => by
    have h1 := feeds_other hok (h c (by simp)) 0 [] (by simp) .nil
    have := h1.comp (feeds_others hok fun x hx => h x (List.mem_cons_of_mem _ hx))
    simpa using this
theorem feeds_after (hok : okL rs = true) {ks o p F cs : By} (h : Feeds rs [] ks o p) (hF : Flushes rs p F) (hc : ∀ c ∈ cs, Other rs c) (h0 : cs ≠ []) : Feeds rs [] (ks ++ cs) (o ++ F ++ cs) [] := by
  cases cs with
  | nil => exact absurd rfl h0
  | cons c cs =>
    have h1 := h.comp (feeds_other hok (hc c (by simp)) _ p (Nat.le_refl _) hF)
    have h2 := h1.comp (feeds_others hok fun x hx => hc x (List.mem_cons_of_mem _ hx))
    simpa [List.append_assoc] using h2
theorem flushes_others : ∀ {cs : By}, (∀ c ∈ cs, Other rs c) → okL rs = true → Flushes rs cs cs
  | [], _, _ => .nil
  | c :: cs, h, hok => by
    have hb : ∀ (l : By), (∀ x ∈ l, Other rs x) → best rs l = none := by
      intro l
      induction hn : l.length generalizing l with
      | zero =>
        intro _
        have : l = [] := List.eq_nil_of_length_eq_zero hn
        subst this; rfl
      | succ n ih =>
        intro hl
        have hne : l ≠ [] := by intro e; rw [e] at hn; cases hn
        rw [← List.dropLast_concat_getLast hne, best_other (hl _ (List.getLast_mem hne))]
        exact ih _ (by rw [List.length_dropLast]; omega) (fun x hx => hl x (List.dropLast_subset _ hx))
    have e1 : appO rs (c :: cs) = [c] := by unfold appO; rw [hb _ h]; rfl
    have e2 : appK rs (c :: cs) = cs := by unfold appK; rw [hb _ h]; rfl
    have h1 : Feeds rs [] (appK rs (c :: cs)) cs [] := by rw [e2]; exact feeds_others hok fun x hx => h x (List.mem_cons_of_mem _ hx)
    have := Flushes.step (by simp) h1 .nil
    rw [e1] at this
    simpa using this

end Go.Proofs.YtamdlbefiggkfaaGreat.Aut

set_option linter.unusedVariables false
set_option linter.unusedSimpArgs false
namespace Go.Proofs.YtamdlbefiggkfaaGreat.Cmp
open Go Go.Proofs.YtamdlbefiggkfaaGreat.Kit Go.Proofs.YtamdlbefiggkfaaGreat.Utf Go.Proofs.YtamdlbefiggkfaaGreat.Rom Go.Proofs.YtamdlbefiggkfaaGreat.Aut

/-- An item: the keys that wrote it, the character. -/
structure It where
  r : ByteArray
  o : ByteArray
theorem It.ext' {a b : It} (h1 : a.r = b.r) (h2 : a.o = b.o) : a = b := by cases a; cases b; simp_all
instance : DecidableEq It := fun a b =>
  if h : a.r = b.r ∧ a.o = b.o then .isTrue (It.ext' h.1 h.2) else .isFalse (fun e => h (by rw [e]; exact ⟨rfl, rfl⟩))
instance : Inhabited It := ⟨⟨ByteArray.empty, ByteArray.empty⟩⟩
/-- A buffer: its items, the caret, the pending keys. -/
structure Bf where
  is : List It
  c : Int
  p : ByteArray
theorem Bf.ext' {a b : Bf} (h1 : a.is = b.is) (h2 : a.c = b.c) (h3 : a.p = b.p) : a = b := by cases a; cases b; simp_all
instance : DecidableEq Bf := fun a b =>
  if h : a.is = b.is ∧ a.c = b.c ∧ a.p = b.p then .isTrue (Bf.ext' h.1 h.2.1 h.2.2) else .isFalse (fun e => h (by rw [e]; exact ⟨rfl, rfl, rfl⟩))
def noB : Bf := ⟨[], 0, ⟨#[]⟩⟩

/-- Are all bytes from a least one to 126? -/
def fromB (lo : Int) (l : By) : Bool := l.all fun b => decide (lo ≤ (b.toNat : Int) ∧ (b.toNat : Int) ≤ 126)
def okI (i : It) : Bool := decide (count (bs i.o) = 1) && fromB 32 (bs i.r)
/-- Is a buffer valid? -/
def val (b : Bf) : Bool := decide (b.is.length ≤ 64 ∧ 0 ≤ b.c ∧ b.c ≤ b.is.length) && (b.is.all okI && (decide (b.p.size ≤ 8) && fromB 33 (bs b.p)))

/-- Item i of a list. -/
def ii (is : List It) (i : Nat) : It := is.getD i default
theorem ii_get {is : List It} {i : Nat} (h : i < is.length) : is[i]? = some (ii is i) := by
  unfold ii; rw [List.getD_eq_getElem?_getD, List.getElem?_eq_getElem h]; rfl
theorem ii_mem {is : List It} {i : Nat} (h : i < is.length) : ii is i ∈ is := by
  unfold ii; rw [List.getD_eq_getElem?_getD, List.getElem?_eq_getElem h]; exact List.getElem_mem h
theorem take_succ_ii (is : List It) (i : Nat) (h : i < is.length) : is.take (i + 1) = is.take i ++ [ii is i] := by
  rw [List.take_add_one, ii_get h]; rfl
theorem ii_take {is : List It} {k i : Nat} (h : i < k) : ii (is.take k) i = ii is i := by
  unfold ii; rw [List.getD_eq_getElem?_getD, List.getD_eq_getElem?_getD, List.getElem?_take, if_pos h]
theorem ii_drop {is : List It} {k i : Nat} : ii (is.drop k) i = ii is (k + i) := by
  unfold ii; rw [List.getD_eq_getElem?_getD, List.getD_eq_getElem?_getD, List.getElem?_drop]

/-- The items of a text: the keys belong to the first one. -/
def emp : ByteArray := ⟨#[]⟩
def itemsL (raw : ByteArray) : List Int → List It
  | [] => []
  | c :: cs => ⟨raw, Utf8.encode c⟩ :: cs.map fun c => ⟨⟨#[]⟩, Utf8.encode c⟩
theorem itemsL_len (raw : ByteArray) (cs : List Int) : (itemsL raw cs).length = cs.length := by cases cs <;> simp [itemsL]
/-- Items inserted at the caret, which moves after them. -/
def insB (b : Bf) (l : List It) : Bf := ⟨b.is.take b.c.toNat ++ l ++ b.is.drop b.c.toNat, b.c + l.length, b.p⟩
theorem insB_nil (b : Bf) : insB b [] = b := by
  unfold insB
  cases b
  simp
/-- The characters of a string; none if it is not valid. -/
def chs (l : By) : List Int := (chars l).getD []
theorem chs_some {l : By} {cs : List Int} (h : chars l = some cs) : chs l = cs := by unfold chs; rw [h]; rfl

/-- A string without a given one at its end; all of it, if it does not end so. -/
def endsL (s p : By) : By := if p.isSuffixOf s then s.take (s.length - p.length) else s
/-- What Insert hands back: the buffer and the error. -/
noncomputable def keyB (rs : List Rule) (b : Bf) (k : UInt8) : Bf × Int :=
  if val b && isKb k then
    if b.is.length + (chs (fd rs (bs b.p) [k]).1).length > 64 then (noB, 7)
    else (insB { b with p := ba (fd rs (bs b.p) [k]).2 } (itemsL (ba (endsL (bs b.p ++ [k]) (fd rs (bs b.p) [k]).2)) (chs (fd rs (bs b.p) [k]).1)), 0)
  else (noB, 1)
/-- What Put hands back. -/
def putB (b : Bf) (raw out : ByteArray) : Bf × Int :=
  if val b && fromB 32 (bs raw) && decide (1 ≤ count (bs out)) then
    if b.p.size ≠ 0 then (noB, 8)
    else if b.is.length + (chs (bs out)).length > 64 then (noB, 7)
    else (insB b (itemsL raw (chs (bs out))), 0)
  else (noB, 1)
/-- What Flush hands back, where F is what the pending keys write. -/
def fluB (b : Bf) (F : By) : Bf :=
  if val b then insB { b with p := ⟨#[]⟩ } (itemsL b.p ((chs F).take (64 - b.is.length))) else b
def bacB (b : Bf) : Bf :=
  if val b then
    if b.p.size ≠ 0 then { b with p := ba ((bs b.p).dropLast) }
    else if 0 < b.c then ⟨b.is.eraseIdx (b.c - 1).toNat, b.c - 1, b.p⟩ else b
  else b
def delB (b : Bf) : Bf := if val b && decide (b.c < b.is.length) then ⟨b.is.eraseIdx b.c.toNat, b.c, b.p⟩ else b
def movB (b : Bf) (n : Int) : Bf := if val b && decide (b.p.size = 0) then { b with c := max 0 (min (b.c + n) b.is.length) } else b
def outs (l : List It) : By := l.flatMap fun i => bs i.o
def raws (l : List It) : By := l.flatMap fun i => bs i.r
def texB (b : Bf) : ByteArray × ByteArray × ByteArray :=
  if val b then (ba (outs (b.is.take b.c.toNat)), b.p, ba (outs (b.is.drop b.c.toNat))) else (⟨#[]⟩, ⟨#[]⟩, ⟨#[]⟩)
def rawB (b : Bf) : ByteArray := if val b then ba (raws (b.is.take b.c.toNat) ++ bs b.p ++ raws (b.is.drop b.c.toNat)) else ⟨#[]⟩

/-! ### what is valid -/
theorem val_parts {b : Bf} (h : val b = true) : b.is.length ≤ 64 ∧ 0 ≤ b.c ∧ b.c ≤ b.is.length ∧ (∀ i ∈ b.is, okI i = true) ∧ b.p.size ≤ 8 ∧ fromB 33 (bs b.p) = true := by
  unfold val at h
  simp only [Bool.and_eq_true, decide_eq_true_eq, List.all_eq_true] at h
  obtain ⟨⟨h1, h2, h3⟩, h4, h5, h6⟩ := h
  exact ⟨h1, h2, h3, h4, h5, h6⟩
theorem val_of {b : Bf} (h1 : b.is.length ≤ 64) (h2 : 0 ≤ b.c) (h3 : b.c ≤ b.is.length) (h4 : ∀ i ∈ b.is, okI i = true) (h5 : b.p.size ≤ 8) (h6 : fromB 33 (bs b.p) = true) : val b = true := by
  unfold val
  simp only [Bool.and_eq_true, decide_eq_true_eq, List.all_eq_true]
  exact ⟨⟨h1, h2, h3⟩, h4, h5, h6⟩
theorem fromB_keys {l : By} : fromB 33 l = true ↔ AllK l := by
  unfold fromB AllK isKb
  rw [List.all_eq_true]
  exact ⟨fun h b hb => by have := h b hb; rw [decide_eq_true_eq] at this ⊢; omega, fun h b hb => by have := h b hb; rw [decide_eq_true_eq] at this ⊢; omega⟩
theorem allK_from {l : By} (h : AllK l) : fromB 33 l = true := fromB_keys.2 h
theorem from_33_32 {l : By} (h : fromB 33 l = true) : fromB 32 l = true := by
  unfold fromB at h ⊢
  rw [List.all_eq_true] at h ⊢
  intro b hb
  have := h b hb
  rw [decide_eq_true_eq] at this ⊢
  omega
theorem fromB_append (lo : Int) (a b : By) : fromB lo (a ++ b) = (fromB lo a && fromB lo b) := by unfold fromB; rw [List.all_append]
theorem count_enc {c : Int} (h : validRune c = true) : count (bs (Utf8.encode c)) = 1 := by
  have e : bs (Utf8.encode c) = encs [c] := by simp [encs, enc]
  rw [e, count_some (chars_encs (by simpa using h))]
  rfl
theorem itemsL_ok {raw : ByteArray} {cs : List Int} (hr : fromB 32 (bs raw) = true) (hc : ∀ c ∈ cs, validRune c = true) : ∀ i ∈ itemsL raw cs, okI i = true := by
  cases cs with
  | nil => intro i hi; cases hi
  | cons c cs =>
    intro i hi
    rcases List.mem_cons.1 hi with rfl | hi
    · unfold okI
      rw [count_enc (hc c (by simp)), hr]; rfl
    · obtain ⟨d, hd, rfl⟩ := List.mem_map.1 hi
      unfold okI
      rw [count_enc (hc d (by simp [hd]))]; rfl
theorem insB_val {b : Bf} {l : List It} (h : val b = true) (hl : b.is.length + l.length ≤ 64) (ho : ∀ i ∈ l, okI i = true) {p : ByteArray} (hp : p.size ≤ 8) (hk : fromB 33 (bs p) = true) : val (insB { b with p := p } l) = true := by
  obtain ⟨h1, h2, h3, h4, _, _⟩ := val_parts h
  unfold insB
  refine val_of ?_ ?_ ?_ ?_ hp hk
  · simp only [List.length_append, List.length_take, List.length_drop]; omega
  · show 0 ≤ b.c + _
    omega
  · show b.c + (l.length : Int) ≤ _
    simp only [List.length_append, List.length_take, List.length_drop]; omega
  · intro i hi
    simp only [List.mem_append] at hi
    rcases hi with (hi | hi) | hi
    · exact h4 i (List.mem_of_mem_take hi)
    · exact ho i hi
    · exact h4 i (List.mem_of_mem_drop hi)

/-! ### what keys write -/
theorem chars_one {b : UInt8} (h : isKb b = true) : chars [b] = some [(b.toNat : Int)] := by
  unfold isKb at h
  rw [decide_eq_true_eq] at h
  have hv : validRune (b.toNat : Int) = true := (valid_iff _).2 (by omega)
  have e : enc (b.toNat : Int) = [b] := by
    rcases enc_forms (b.toNat : Int) hv with ⟨_, e⟩ | ⟨_, _, e⟩ | ⟨_, _, e⟩ | ⟨_, _, e⟩ <;> first | omega | skip
    rw [e]; simp
  have := chars_encs (cs := [(b.toNat : Int)]) (by simpa using hv)
  rw [show encs [(b.toNat : Int)] = [b] by simp [encs, e]] at this
  exact this
def Good (l : By) : Prop := ∃ cs, chars l = some cs
theorem Good.append {a b : By} (ha : Good a) (hb : Good b) : Good (a ++ b) := by
  obtain ⟨x, hx⟩ := ha
  obtain ⟨y, hy⟩ := hb
  obtain ⟨h1, h2⟩ := chars_some hx
  refine ⟨x ++ y, ?_⟩
  rw [h2, chars_encs_append h1, hy]; rfl
theorem chs_append {a b : By} (ha : Good a) (hb : Good b) : chs (a ++ b) = chs a ++ chs b := by
  obtain ⟨x, hx⟩ := ha
  obtain ⟨y, hy⟩ := hb
  obtain ⟨h1, h2⟩ := chars_some hx
  have : chars (a ++ b) = some (x ++ y) := by rw [h2, chars_encs_append h1, hy]; rfl
  rw [chs_some this, chs_some hx, chs_some hy]
theorem Good.nil : Good [] := ⟨[], rfl⟩
theorem okR_good {r : Rule} (h : okR r = true) : Good (bs r.o) := by
  unfold okR at h
  simp only [Bool.and_eq_true] at h
  have h2 := h.1.2
  unfold kanaOK at h2
  split at h2
  · rename_i cs hc; exact ⟨cs, hc⟩
  · cases h2
theorem appO_good {rs : List Rule} (hok : okL rs = true) {s : By} (hs : AllK s) : Good (appO rs s) := by
  unfold appO
  split
  · rename_i r hr
    exact okR_good (ok_of hok (best_some hr).1)
  · cases s with
    | nil => exact Good.nil
    | cons b l => exact ⟨_, chars_one (hs b (by simp))⟩
theorem feeds_good {rs : List Rule} (hok : okL rs = true) {p ks o q : By} (h : Feeds rs p ks o q) : AllK p → AllK ks → Good o := by
  induction h with
  | nil p => intro _ _; exact Good.nil
  | @wait p k ks o q h hf ih =>
    intro h1 h2
    exact ih (h1.append (AllK.one (h2 k (by simp)))) (fun x hx => h2 x (List.mem_cons_of_mem _ hx))
  | @app p k ks o q h hf ih =>
    intro h1 h2
    have h3 : AllK (p ++ [k]) := h1.append (AllK.one (h2 k (by simp)))
    exact (appO_good hok h3).append (ih AllK.nil ((appK_all hok h3).append (fun x hx => h2 x (List.mem_cons_of_mem _ hx))))
theorem flushes_good {rs : List Rule} (hok : okL rs = true) {s o : By} (h : Flushes rs s o) : AllK s → Good o := by
  induction h with
  | nil => intro _; exact Good.nil
  | @step s o1 q o2 hs hf h2 ih =>
    intro hk
    have h3 := appK_all hok hk
    exact ((appO_good hok hk).append (feeds_good hok hf AllK.nil h3)).append (ih (hf.keys hok AllK.nil h3))
theorem pend_len {rs : List Rule} (hok : okL rs = true) {q : By} (h : Pend rs q) : q.length ≤ 3 := by
  rcases h with rfl | h
  · exact Nat.zero_le _
  · unfold longL at h
    rw [List.any_eq_true] at h
    obtain ⟨r, hr, h⟩ := h
    unfold longR at h
    have := okR_next (ok_of hok hr)
    rw [Bool.and_eq_true] at h
    have h1 := h.1
    rw [decide_eq_true_eq, ba_size] at h1
    omega
theorem feed_pend {rs : List Rule} {p ks o q : By} {k : UInt8} (h : Feeds rs p (k :: ks) o q) : Pend rs q := by
  cases h with
  | wait h hf => exact hf.pend (.inr h)
  | app h hf => exact hf.pend (.inl rfl)

end Go.Proofs.YtamdlbefiggkfaaGreat.Cmp

set_option linter.unusedVariables false
set_option linter.unusedSimpArgs false
set_option maxRecDepth 100000
namespace Go.Proofs.YtamdlbefiggkfaaGreat.Cmp
open Go Go.RowKit Go.Proofs.YtamdlbefiggkfaaGreat.Kit Go.Proofs.YtamdlbefiggkfaaGreat.Utf Go.Proofs.YtamdlbefiggkfaaGreat.Rom Go.Proofs.YtamdlbefiggkfaaGreat.Aut

def icells (i : It) : List Value := [.string i.r, .string i.o]
def ic (is : List It) : List Value := is.flatMap icells
def iagg (i : It) : Value := .agg #[.string i.r, .string i.o]
theorem ic_nil : ic [] = [] := rfl
theorem ic_cons (i : It) (is : List It) : ic (i :: is) = .string i.r :: .string i.o :: ic is := rfl
theorem ic_append (a b : List It) : ic (a ++ b) = ic a ++ ic b := by simp [ic]
theorem ic_snoc (is : List It) (i : It) : ic (is ++ [i]) = ic is ++ [.string i.r, .string i.o] := by rw [ic_append]; rfl
theorem ic_len (is : List It) : (ic is).length = is.length * 2 := by
  induction is with
  | nil => rfl
  | cons r rs ih => rw [ic_cons]; simp [ih]; omega
theorem ic_oneCell (is : List It) : ∀ u ∈ ic is, u.oneCell' = true := by
  induction is with
  | nil => intro u hu; cases hu
  | cons r rs ih =>
    intro u hu
    rw [ic_cons] at hu
    rcases List.mem_cons.1 hu with rfl | hu
    · rfl
    rcases List.mem_cons.1 hu with rfl | hu
    · rfl
    exact ih u hu
theorem ic_at (is : List It) : ∀ i, i < is.length → (ic is)[i * 2]? = some (.string (ii is i).r) ∧ (ic is)[i * 2 + 1]? = some (.string (ii is i).o) := by
  induction is with
  | nil => intro i h; simp at h
  | cons r rs ih =>
    intro i h
    cases i with
    | zero => exact ⟨rfl, rfl⟩
    | succ i =>
      have := ih i (by simpa using h)
      rw [ic_cons, show (i + 1) * 2 = i * 2 + 1 + 1 by omega]
      exact this
theorem ic_take (is : List It) : ∀ k, (ic is).take (k * 2) = ic (is.take k) := by
  induction is with
  | nil => intro k; simp [ic]
  | cons r rs ih =>
    intro k
    cases k with
    | zero => rfl
    | succ k => rw [ic_cons, show (k + 1) * 2 = k * 2 + 1 + 1 by omega, List.take_succ_cons, List.take_succ_cons, ih, List.take_succ_cons, ic_cons]
theorem ic_drop (is : List It) : ∀ k, (ic is).drop (k * 2) = ic (is.drop k) := by
  induction is with
  | nil => intro k; simp [ic]
  | cons r rs ih =>
    intro k
    cases k with
    | zero => rfl
    | succ k => rw [ic_cons, show (k + 1) * 2 = k * 2 + 1 + 1 by omega, List.drop_succ_cons, List.drop_succ_cons, ih, List.drop_succ_cons]

/-- The slice v reads as the items is. -/
def ItR (w : World) (v : Value) (is : List It) : Prop :=
  ∃ a len cap, v = .slice a len cap ∧ len = is.length ∧ len ≤ cap ∧ cap ≤ maxLen ∧
    ((a = none ∧ len = 0 ∧ cap = 0) ∨ (∃ x, a = some x ∧ len = 0) ∨ ∃ b off, a = some ⟨b, off, none⟩ ∧ b < w.heap.size ∧
      ∀ i, i < is.length → w.cell? ⟨b, off + i * 2, none⟩ = some (.string (ii is i).r) ∧ w.cell? ⟨b, off + i * 2 + 1, none⟩ = some (.string (ii is i).o))

theorem ItR.later {w w' : World} {v : Value} {is : List It} (h : ItR w v is) {B : Nat} (hb : Below B w w') (hB : w.heap.size ≤ B) : ItR w' v is := by
  obtain ⟨a, len, cap, rfl, hl, hc, hm, h⟩ := h
  refine ⟨a, len, cap, rfl, hl, hc, hm, ?_⟩
  rcases h with h | h | ⟨b, off, rfl, hlt, hx⟩
  · exact .inl h
  · exact .inr (.inl h)
  · refine .inr (.inr ⟨b, off, rfl, Nat.lt_of_lt_of_le hlt hb.size, fun i hi => ?_⟩)
    obtain ⟨h1, h2⟩ := hx i hi
    exact ⟨by rw [hb.cell (p := ⟨b, _, none⟩) (by show b < B; omega)]; exact h1, by rw [hb.cell (p := ⟨b, _, none⟩) (by show b < B; omega)]; exact h2⟩

theorem items_of_own {w : World} {base : Nat} {e : TypeId} {v : Value} {n : Nat} {is : List It} (h : w.ownsRow base e 2 v n (ic is)) : ItR w v is ∧ n = is.length := by
  have hn : n = is.length := by have := h.1; rw [ic_len] at this; omega
  refine ⟨?_, hn⟩
  rcases h.2 with ⟨rfl, h0⟩ | ⟨g, cap, cur, rfl, hb, hg, hnc, hcm, hcs, htake⟩
  · exact ⟨none, 0, 0, rfl, by omega, Nat.le_refl _, by simp [maxLen], .inl ⟨rfl, rfl, rfl⟩⟩
  · have key : ∀ j x, (ic is)[j]? = some x → w.cell? ⟨g, j, none⟩ = some x := fun j x hx => by
      rw [cell_of_row w g j cur e (0, 0) hg]
      rw [← htake, List.getElem?_take] at hx
      split at hx
      · simpa using hx
      · cases hx
    refine ⟨_, n, cap, rfl, hn, hnc, hcm, .inr (.inr ⟨g, 0, rfl, (Array.getElem?_eq_some_iff.1 hg).1, fun i hi => ?_⟩)⟩
    obtain ⟨h1, h2⟩ := ic_at is i hi
    simp only [Nat.zero_add]
    exact ⟨key _ _ h1, key _ _ h2⟩

theorem ItR.len {w : World} {a : Option Addr} {n cap : Nat} {is : List It} (h : ItR w (.slice a n cap) is) : n = is.length ∧ n ≤ cap ∧ cap ≤ maxLen := by
  obtain ⟨a, len, cap, e, h1, h2, h3, _⟩ := h
  cases e
  exact ⟨h1, h2, h3⟩
theorem ItR.nil (w : World) : ItR w (.slice none 0 0) [] := ⟨none, 0, 0, rfl, rfl, Nat.le_refl _, Nat.zero_le _, .inl ⟨rfl, rfl, rfl⟩⟩
theorem ItR.at {w : World} {a : Option Addr} {n cap : Nat} {is : List It} (h : ItR w (.slice a n cap) is) (h0 : 0 < is.length) :
    ∃ b off, a = some ⟨b, off, none⟩ ∧ b < w.heap.size ∧ ∀ i, i < is.length → w.cell? ⟨b, off + i * 2, none⟩ = some (.string (ii is i).r) ∧ w.cell? ⟨b, off + i * 2 + 1, none⟩ = some (.string (ii is i).o) := by
  obtain ⟨a, len, cap, e, h1, h2, h3, h4⟩ := h
  cases e
  rcases h4 with ⟨rfl, hl, _⟩ | ⟨x, rfl, hl⟩ | h4
  · omega
  · omega
  · exact h4

/-- The beginning of a slice, x[:k], as the walk spells it. -/
theorem ItR.take {w : World} {a : Option Addr} {n cap k : Nat} {is : List It} (h : ItR w (.slice a n cap) is) (hk : k ≤ n) : ItR w (.slice a k cap) (is.take k) := by
  obtain ⟨a, len, cap, e, h1, h2, h3, h4⟩ := h
  cases e
  refine ⟨a, k, cap, rfl, by simp; omega, by omega, h3, ?_⟩
  rcases h4 with ⟨rfl, hl, hc⟩ | ⟨x, rfl, hl⟩ | ⟨b, off, rfl, hlt, hx⟩
  · exact .inl ⟨rfl, by omega, hc⟩
  · exact .inr (.inl ⟨x, rfl, by omega⟩)
  · refine .inr (.inr ⟨b, off, rfl, hlt, fun i hi => ?_⟩)
    rw [List.length_take] at hi
    rw [ii_take (by omega)]
    exact hx i (by omega)
/-- The rest of a slice, x[k:], where k is not the capacity, and where it is. -/
theorem ItR.drop {w : World} {a : Option Addr} {n cap k : Nat} {is : List It} (h : ItR w (.slice a n cap) is) (hk : k ≤ n) : ItR w (.slice (a.map (fun x => x.add (k * 2))) (n - k) (cap - k)) (is.drop k) := by
  obtain ⟨a, len, cap, e, h1, h2, h3, h4⟩ := h
  cases e
  refine ⟨_, _, _, rfl, by simp; omega, by omega, by omega, ?_⟩
  rcases h4 with ⟨rfl, hl, hc⟩ | ⟨x, rfl, hl⟩ | ⟨b, off, rfl, hlt, hx⟩
  · exact .inl ⟨rfl, by omega, by omega⟩
  · exact .inr (.inl ⟨_, rfl, by omega⟩)
  · refine .inr (.inr ⟨b, off + k * 2, by simp [Addr.add_lit], hlt, fun i hi => ?_⟩)
    rw [List.length_drop] at hi
    rw [ii_drop]
    have := hx (k + i) (by omega)
    rw [show off + k * 2 + i * 2 = off + (k + i) * 2 by omega]
    exact this
theorem ItR.drop_end {w : World} {a : Option Addr} {n cap k : Nat} {is : List It} (h : ItR w (.slice a n cap) is) (hk : k ≤ n) (hc : cap ≤ k) : ItR w (.slice a (n - k) 0) (is.drop k) := by
  obtain ⟨a, len, cap, e, h1, h2, h3, h4⟩ := h
  cases e
  have e1 : is.drop k = [] := List.drop_of_length_le (by omega)
  refine ⟨_, _, _, rfl, by simp; omega, by omega, by omega, ?_⟩
  rcases h4 with ⟨rfl, hl, hc⟩ | ⟨x, rfl, hl⟩ | ⟨b, off, rfl, hlt, hx⟩
  · exact .inl ⟨rfl, by omega, rfl⟩
  · exact .inr (.inl ⟨_, rfl, by omega⟩)
  · exact .inr (.inr ⟨b, off, rfl, hlt, fun i hi => by rw [e1] at hi; simp at hi⟩)

theorem ic_cell {w : World} {b off : Nat} {is : List It} (hx : ∀ i, i < is.length → w.cell? ⟨b, off + i * 2, none⟩ = some (.string (ii is i).r) ∧ w.cell? ⟨b, off + i * 2 + 1, none⟩ = some (.string (ii is i).o)) :
    ∀ j u, (ic is)[j]? = some u → w.cell? ((⟨b, off, none⟩ : Addr).add j) = some u := by
  intro j u hu
  have hj : j < is.length * 2 := by
    have := (List.getElem?_eq_some_iff.1 hu).1
    rw [ic_len] at this
    exact this
  obtain ⟨h1, h2⟩ := hx (j / 2) (by omega)
  obtain ⟨g1, g2⟩ := ic_at is (j / 2) (by omega)
  rw [Addr.add_lit]
  rcases (show j = j / 2 * 2 ∨ j = j / 2 * 2 + 1 by omega) with e | e
  · rw [← e] at h1 g1
    rw [h1, ← g1, hu]
  · rw [Nat.add_assoc, ← e] at h2
    rw [← e] at g2
    rw [h2, ← g2, hu]

theorem news_item {w : World} {g : Nat} {i : It} {e : TypeId} (h : w.heap[g]? = some (.cells #[.string i.r, .string i.o] e (0, 0))) : ∀ j u, (ic [i])[j]? = some u → w.cell? (Addr.add ⟨g, 0, none⟩ j) = some u := by
  intro j u hu
  rw [Addr.add_lit, cell_of_row w g _ _ e (0, 0) h]
  rw [Nat.zero_add, ← Array.getElem?_toList]
  exact hu

/-! ### buffers -/
def bagg (v : Value) (c : Int) (p : ByteArray) : Value := .agg #[v, .int .i64 c, .string p]
/-- The value v is the buffer b. -/
def BfR (w : World) (v : Value) (b : Bf) : Prop := ∃ s, v = bagg s b.c b.p ∧ ItR w s b.is
theorem BfR.later {w w' : World} {v : Value} {b : Bf} (h : BfR w v b) {B : Nat} (hb : Below B w w') (hB : w.heap.size ≤ B) : BfR w' v b := by
  obtain ⟨s, e, h⟩ := h
  exact ⟨s, e, h.later hb hB⟩
theorem BfR.none (w : World) : BfR w (.agg #[.slice .none 0 0, .int .i64 0, .string { data := #[] }]) noB := ⟨_, rfl, ItR.nil w⟩
theorem BfR.open {w : World} {v : Value} {b : Bf} (h : BfR w v b) : ∃ a len cap, v = .agg #[.slice a len cap, .int .i64 b.c, .string b.p] ∧ ItR w (.slice a len cap) b.is := by
  obtain ⟨s, rfl, h⟩ := h
  have h' := h
  obtain ⟨a, len, cap, rfl, _⟩ := h'
  exact ⟨a, len, cap, rfl, h⟩

/-! ### items compared -/
theorem istr_beq (a b : ByteArray) : (a.toList == b.toList) = decide (a = b) := by
  rw [Lib.toList_data, Lib.toList_data, Bool.eq_iff_iff]
  simp only [beq_iff_eq, decide_eq_true_eq]
  exact ⟨fun h => ba_ext h, fun h => by rw [h]⟩
theorem it_eq_iff (a b : It) : decide (a = b) = (decide (a.r = b.r) && decide (a.o = b.o)) := by
  rw [Bool.eq_iff_iff]
  simp only [Bool.and_eq_true, decide_eq_true_eq]
  exact ⟨fun h => by rw [h]; exact ⟨rfl, rfl⟩, fun ⟨h1, h2⟩ => It.ext' h1 h2⟩
theorem eq_ritem (a b : It) (w : World) : (Op.equalIn 10000 73 (.agg #[.string a.r, .string a.o]) (.agg #[.string b.r, .string b.o])).run Tryz.prog w = .ok (decide (a = b)) w := by
  have u3 := Tryz.underlying9
  have a3 := Tryz.isAgg9
  have z3 := Tryz.sizeOf9
  have hS : Tryz.prog.underlying 73 = some (.struct (Tryz.prog.fieldsOf 73)) := by kernel_rfl
  have hp : Tryz.prog.stoodInHeld 73 = false := by kernel_rfl
  rw [show (10000 : Nat) = 9999 + 1 from rfl, run_equalIn_agg w 9999 73 _ _ hS hp]
  simp only [Program.fieldsOf, Tryz.underlying73]
  rw [it_eq_iff]
  obtain ⟨ar, ao⟩ := a
  obtain ⟨br, bo⟩ := b
  simp only
  rw [← istr_beq, ← istr_beq]
  go_simp
  by_cases h1 : ar.toList = br.toList <;> by_cases h2 : ao.toList = bo.toList <;> simp [h1, h2]
theorem guard_ritem : Tryz.prog.eqGuardType Tryz.prog.depth 73 = false := by kernel_rfl

/-! ### rows of items: their types' figures, joined to an owned row -/
theorem info_item : (Tryz.prog.info? 72).map (fun i => (i.zero, i.size, i.bytes)) = some (some (.agg #[.string { data := #[] }, .string { data := #[] }]), 2, 32) := by kernel_rfl
theorem info_ritem : (Tryz.prog.info? 73).map (fun i => (i.zero, i.size, i.bytes)) = some (some (.agg #[.string { data := #[] }, .string { data := #[] }]), 2, 32) := by kernel_rfl
theorem len_take_i {is : List It} {k : Nat} (h : k ≤ is.length) : (is.take k).length = k := by rw [List.length_take]; omega

theorem run_append_items (w : World) (base : Nat) (v : Value) (n : Nat) (xs : List Value) (hown : w.ownsRow base 72 2 v n xs) (x : Value) (is : List It) (hR : ItR w x is) (h63 : n + is.length ≤ 1000000000000) (hbase : base ≤ w.heap.size) (ty : TypeId) :
    ∃ v' w', (Builtin.append_ #[23, 23] ty #[v, x]).run Tryz.prog w = .ok v' w' ∧ w'.ownsRow base 72 2 v' (n + is.length) (xs ++ ic is) ∧ w.grownBy w' v.ownBlock := by
  obtain ⟨i0, hi0, hz0, hz1, hz2⟩ := info_parts info_item
  obtain ⟨a, len, cap, rfl, hl, hc, hm, h⟩ := hR
  subst hl
  have h64 : n + is.length ≤ maxLen := by unfold maxLen; omega
  rcases h with ⟨rfl, h0, hc0⟩ | ⟨x, rfl, h0⟩ | ⟨b, off, rfl, hlt, hx⟩
  · have e : is = [] := List.eq_nil_of_length_eq_zero h0
    subst e
    subst hc0
    exact ⟨v, w, run_append_owned_none (P := Tryz.prog) w base _ _ _ i0 2 Tryz.underlying23 hi0 v n xs hown, by simpa [ic_nil] using hown, World.grownBy.refl _ _⟩
  · have e : is = [] := List.eq_nil_of_length_eq_zero h0
    subst e
    obtain ⟨v', w', hr, h2, h3, _⟩ := run_append_own_at (P := Tryz.prog) w base 23 ty 72 i0 _ 2 32 Tryz.underlying23 hi0 hz0 hz1 hz2 rfl (by omega) v n xs hown x 0 cap [] rfl (by simp) (by simp) h64 (by simp at h63 ⊢; omega) hbase
    exact ⟨v', w', hr, h2, h3⟩
  · obtain ⟨v', w', hr, h2, h3, _⟩ := run_append_own_at (P := Tryz.prog) w base 23 ty 72 i0 _ 2 32 Tryz.underlying23 hi0 hz0 hz1 hz2 rfl (by omega) v n xs hown ⟨b, off, none⟩ is.length cap (ic is) (ic_len is) (ic_cell hx) (ic_oneCell is) h64 (by omega) hbase
    exact ⟨v', w', hr, h2, h3⟩
theorem run_append_ritems (w : World) (base : Nat) (v : Value) (n : Nat) (xs : List Value) (hown : w.ownsRow base 73 2 v n xs) (x : Value) (is : List It) (hR : ItR w x is) (h63 : n + is.length ≤ 1000000000000) (hbase : base ≤ w.heap.size) (ty : TypeId) :
    ∃ v' w', (Builtin.append_ #[31, 31] ty #[v, x]).run Tryz.prog w = .ok v' w' ∧ w'.ownsRow base 73 2 v' (n + is.length) (xs ++ ic is) ∧ w.grownBy w' v.ownBlock := by
  obtain ⟨i0, hi0, hz0, hz1, hz2⟩ := info_parts info_ritem
  obtain ⟨a, len, cap, rfl, hl, hc, hm, h⟩ := hR
  subst hl
  have h64 : n + is.length ≤ maxLen := by unfold maxLen; omega
  rcases h with ⟨rfl, h0, hc0⟩ | ⟨x, rfl, h0⟩ | ⟨b, off, rfl, hlt, hx⟩
  · have e : is = [] := List.eq_nil_of_length_eq_zero h0
    subst e
    subst hc0
    exact ⟨v, w, run_append_owned_none (P := Tryz.prog) w base _ _ _ i0 2 Tryz.underlying31 hi0 v n xs hown, by simpa [ic_nil] using hown, World.grownBy.refl _ _⟩
  · have e : is = [] := List.eq_nil_of_length_eq_zero h0
    subst e
    obtain ⟨v', w', hr, h2, h3, _⟩ := run_append_own_at (P := Tryz.prog) w base 31 ty 73 i0 _ 2 32 Tryz.underlying31 hi0 hz0 hz1 hz2 rfl (by omega) v n xs hown x 0 cap [] rfl (by simp) (by simp) h64 (by simp at h63 ⊢; omega) hbase
    exact ⟨v', w', hr, h2, h3⟩
  · obtain ⟨v', w', hr, h2, h3, _⟩ := run_append_own_at (P := Tryz.prog) w base 31 ty 73 i0 _ 2 32 Tryz.underlying31 hi0 hz0 hz1 hz2 rfl (by omega) v n xs hown ⟨b, off, none⟩ is.length cap (ic is) (ic_len is) (ic_cell hx) (ic_oneCell is) h64 (by omega) hbase
    exact ⟨v', w', hr, h2, h3⟩

end Go.Proofs.YtamdlbefiggkfaaGreat.Cmp
