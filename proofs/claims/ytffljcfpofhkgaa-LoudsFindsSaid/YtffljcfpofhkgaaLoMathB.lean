/-
  Ascending strings as a tree of prefixes, as mathematics: the nodes, level by level; each but the first is a child of one before it. Of no program.
-/
import Derived.Test.YtffljcfpofhkgaaLoMathA
set_option linter.unusedVariables false
set_option linter.unusedSimpArgs false
namespace Go.Proofs.Ytffljcfpofhkgaa.Lo

/-- A node: the strings from f on and before t begin with it; it has n bytes. -/
structure Grp where
  f : Nat
  t : Nat
  n : Nat
def g0 : Grp := ⟨0, 0, 0⟩
/-- The node of n bytes that begins at string i. -/
def gr (L : List Str) (n i : Nat) : Grp := ⟨i, en L n i, n⟩
def rootG (L : List Str) : Grp := ⟨0, L.length, 0⟩
/-- The children of a node. -/
def kidI (L : List Str) (n f t : Nat) : List Nat := (List.range' f (t - f)).filter (st L n)
def kids (L : List Str) (g : Grp) : List Grp := (kidI L (g.n + 1) g.f g.t).map (gr L (g.n + 1))
def lev (L : List Str) : Nat → List Grp
  | 0 => [rootG L]
  | n + 1 => (lev L n).flatMap (kids L)
/-- The nodes. -/
def Gs (L : List Str) : List Grp := (List.range 257).flatMap (lev L)

theorem range'_split {a b c : Nat} (h1 : a ≤ b) (h2 : b ≤ c) : List.range' a (c - a) = List.range' a (b - a) ++ List.range' b (c - b) := by
  have h := List.range'_append (s := a) (m := b - a) (n := c - b) (step := 1)
  rw [Nat.one_mul, show a + (b - a) = b by omega, show b - a + (c - b) = c - a by omega] at h
  exact h.symm
theorem range'_head {a c : Nat} (h : a < c) : List.range' a (c - a) = a :: List.range' (a + 1) (c - (a + 1)) := by
  rw [show c - a = (c - (a + 1)) + 1 by omega, List.range'_succ]
theorem kidI_none {L : List Str} {n a c : Nat} (h : ∀ x, a ≤ x → x < c → st L n x = false) : kidI L n a c = [] := by
  unfold kidI
  rw [List.filter_eq_nil_iff]
  intro x hx
  rw [List.mem_range'_1] at hx
  rw [h x hx.1 (by omega)]
  decide
theorem st_no {L : List Str} {n x : Nat} (h0 : 0 < x) (h : n ≤ lc L x) : st L n x = false := by
  cases hs : st L n x with
  | false => rfl
  | true => have := st_iff.1 hs; omega
/-- From a beginning on: this one, then those behind its end. -/
theorem kidI_step {L : List Str} {n a c : Nat} (hs : st L n a = true) (ha : a < c) (he : en L n a ≤ c) : kidI L n a c = a :: kidI L n (en L n a) c := by
  have h1 := en_gt L n a
  have e1 : kidI L n a c = (List.range' a (en L n a - a)).filter (st L n) ++ kidI L n (en L n a) c := by
    unfold kidI
    rw [range'_split (b := en L n a) (by omega) he, List.filter_append]
  rw [e1, range'_head h1, List.filter_cons_of_pos hs]
  have e2 : (List.range' (a + 1) (en L n a - (a + 1))).filter (st L n) = [] := kidI_none (a := a + 1) (c := en L n a) fun x h2 h3 => st_no (by omega) (en_in (by omega) h3)
  rw [e2]; rfl
theorem filt {L : List Str} (Q : Nat → Bool) (n : Nat) (hQ : ∀ i, Q i = true → n ≤ ln L i) : ∀ d a, a + d = L.length → (a = L.length ∨ lc L a < n ∨ a = 0) →
    (List.range' a d).filter Q = ((List.range' a d).filter (st L n)).flatMap fun i => (List.range' i (en L n i - i)).filter Q := by
  intro d
  induction d using Nat.strongRecOn with
  | ind d ih =>
    intro a ha hb
    cases d with
    | zero => rfl
    | succ d =>
      have hd : d + 1 = L.length - a := by omega
      rw [hd]
      by_cases hn : n ≤ ln L a
      · have hs : st L n a = true := st_iff.2 ⟨hn, by rcases hb with h | h | h <;> first | omega | exact .inr h | exact .inl h⟩
        have hk := kidI_step hs (show a < L.length by omega) (en_le L n a (by omega))
        unfold kidI at hk
        rw [hk, List.flatMap_cons, range'_split (b := en L n a) (Nat.le_of_lt (en_gt L n a)) (en_le L n a (by omega)), List.filter_append]
        congr 1
        have h1 := en_gt L n a
        have h2 := en_le L n a (by omega)
        exact ih (L.length - en L n a) (by omega) _ (by omega) (by rcases en_end (n := n) (show a < L.length by omega) with h | h; exact .inl h; exact .inr (.inl h))
      · have hs : st L n a = false := by
          cases h : st L n a with
          | false => rfl
          | true => exact absurd (st_iff.1 h).1 hn
        have hq : Q a = false := by
          cases h : Q a with
          | false => rfl
          | true => exact absurd (hQ a h) hn
        rw [range'_head (show a < L.length by omega), List.filter_cons_of_neg (by rw [hq]; decide), List.filter_cons_of_neg (by rw [hs]; decide)]
        have := lc_le_left L a
        exact ih (L.length - (a + 1)) (by omega) _ (by omega) (by right; left; omega)
/-- A level: the beginnings of its prefixes. -/
theorem lev_succ {L : List Str} (n : Nat) : lev L (n + 1) = ((List.range L.length).filter (st L (n + 1))).map (gr L (n + 1)) := by
  induction n with
  | zero =>
    show [rootG L].flatMap (kids L) = _
    rw [List.flatMap_cons, List.flatMap_nil, List.append_nil, List.range_eq_range']
    rfl
  | succ n ih =>
    show (lev L (n + 1)).flatMap (kids L) = _
    rw [ih, List.range_eq_range', filt (L := L) (st L (n + 2)) (n + 1) (fun i h => by have := (st_iff.1 h).1; omega) L.length 0 (by omega) (.inr (.inr rfl)), List.flatMap_map, List.map_flatMap]
    rfl
theorem mem_lev {L : List Str} {n : Nat} {g : Grp} : g ∈ lev L (n + 1) ↔ ∃ i, i < L.length ∧ st L (n + 1) i = true ∧ g = gr L (n + 1) i := by
  rw [lev_succ, List.mem_map]
  constructor
  · rintro ⟨i, h, rfl⟩
    rw [List.mem_filter, List.mem_range] at h
    exact ⟨i, h.1, h.2, rfl⟩
  · rintro ⟨i, h1, h2, rfl⟩
    exact ⟨i, List.mem_filter.2 ⟨List.mem_range.2 h1, h2⟩, rfl⟩
theorem lev_n {L : List Str} {n : Nat} {g : Grp} (h : g ∈ lev L n) : g.n = n := by
  cases n with
  | zero => rw [show lev L 0 = [rootG L] from rfl, List.mem_singleton] at h; rw [h]; rfl
  | succ n => obtain ⟨i, _, _, rfl⟩ := mem_lev.1 h; rfl
theorem lev_top {L : List Str} (hL : Ok L) : lev L 257 = [] := by
  rw [lev_succ]
  have : (List.range L.length).filter (st L (256 + 1)) = [] := by
    rw [List.filter_eq_nil_iff]
    intro i hi
    rw [List.mem_range] at hi
    intro h
    have := (st_iff.1 h).1
    have := (hL.1 i hi).2
    omega
  rw [this]; rfl
theorem levels (L : List Str) : ∀ k, (List.range (k + 1)).flatMap (lev L) = rootG L :: ((List.range k).flatMap (lev L)).flatMap (kids L) := by
  intro k
  induction k with
  | zero => rfl
  | succ k ih =>
    have e : (List.range (k + 1)).flatMap (lev L) = (List.range k).flatMap (lev L) ++ lev L k := by rw [List.range_succ, List.flatMap_append, List.flatMap_cons, List.flatMap_nil, List.append_nil]
    have e2 : (List.range (k + 1 + 1)).flatMap (lev L) = (List.range (k + 1)).flatMap (lev L) ++ lev L (k + 1) := by rw [List.range_succ, List.flatMap_append, List.flatMap_cons, List.flatMap_nil, List.append_nil]
    rw [e2]
    conv => rhs; rw [e, List.flatMap_append]
    rw [ih]
    rfl
theorem Gs_eq {L : List Str} (hL : Ok L) : Gs L = rootG L :: (Gs L).flatMap (kids L) := by
  have h := levels L 257
  rw [List.range_succ, List.flatMap_append, List.flatMap_cons, List.flatMap_nil, List.append_nil, lev_top hL, List.append_nil] at h
  exact h
theorem mem_Gs {L : List Str} {g : Grp} : g ∈ Gs L ↔ g = rootG L ∨ ∃ n i, n < 256 ∧ i < L.length ∧ st L (n + 1) i = true ∧ g = gr L (n + 1) i := by
  unfold Gs
  rw [List.mem_flatMap]
  constructor
  · rintro ⟨n, h1, h2⟩
    rw [List.mem_range] at h1
    cases n with
    | zero => rw [show lev L 0 = [rootG L] from rfl, List.mem_singleton] at h2; exact .inl h2
    | succ n =>
      obtain ⟨i, h3, h4, h5⟩ := mem_lev.1 h2
      exact .inr ⟨n, i, by omega, h3, h4, h5⟩
  · rintro (rfl | ⟨n, i, h1, h2, h3, rfl⟩)
    · exact ⟨0, List.mem_range.2 (by decide), List.mem_singleton.2 rfl⟩
    · exact ⟨n + 1, List.mem_range.2 (by omega), mem_lev.2 ⟨i, h2, h3, rfl⟩⟩
/-- The order of nodes. -/
def Bef (a b : Grp) : Prop := a.n < b.n ∨ a.n = b.n ∧ a.f < b.f
theorem lev_bef (L : List Str) (n : Nat) : (lev L n).Pairwise Bef := by
  cases n with
  | zero => exact List.pairwise_singleton _ _
  | succ n =>
    rw [lev_succ, List.pairwise_map]
    exact (List.pairwise_lt_range.filter _).imp fun h => .inr ⟨rfl, h⟩
theorem levels_bef (L : List Str) : ∀ k, ((List.range k).flatMap (lev L)).Pairwise Bef := by
  intro k
  induction k with
  | zero => exact List.Pairwise.nil
  | succ k ih =>
    rw [List.range_succ, List.flatMap_append, List.pairwise_append]
    refine ⟨ih, ?_, ?_⟩
    · rw [List.flatMap_cons, List.flatMap_nil, List.append_nil]; exact lev_bef L k
    · intro a ha b hb
      rw [List.flatMap_cons, List.flatMap_nil, List.append_nil] at hb
      obtain ⟨n, h1, h2⟩ := List.mem_flatMap.1 ha
      rw [List.mem_range] at h1
      left
      rw [lev_n h2, lev_n hb]
      exact h1
theorem Gs_bef (L : List Str) : (Gs L).Pairwise Bef := levels_bef L 257

/-! ### the number of nodes -/
def sumTo (f : Nat → Nat) : Nat → Nat
  | 0 => 0
  | k + 1 => sumTo f k + f k
theorem sumTo_add (f g : Nat → Nat) (k : Nat) : sumTo (fun i => f i + g i) k = sumTo f k + sumTo g k := by
  induction k with
  | zero => rfl
  | succ k ih => simp only [sumTo, ih]; omega
theorem sumTo_congr {f g : Nat → Nat} (k : Nat) (h : ∀ i, f i = g i) : sumTo f k = sumTo g k := by
  rw [show f = g from funext h]
theorem sumTo_zero (k : Nat) : sumTo (fun _ => 0) k = 0 := by
  induction k with
  | zero => rfl
  | succ k ih => simp [sumTo, ih]
/-- What a string has in common with the one before it, if there is one. -/
def lc0 (L : List Str) (i : Nat) : Nat := if i = 0 then 0 else lc L i
theorem lc0_le (L : List Str) (i : Nat) : lc0 L i ≤ ln L i := by unfold lc0; split; omega; exact lc_le_right L i
def cntN (L : List Str) : Nat → Nat
  | 0 => 1
  | i + 1 => cntN L i + (ln L i - lc0 L i)
theorem one_sum (a b : Nat) (h : a ≤ b) (k : Nat) : sumTo (fun n => if n + 1 ≤ b ∧ a < n + 1 then 1 else 0) k = min k b - min k a := by
  induction k with
  | zero => simp [sumTo]
  | succ k ih => simp only [sumTo, ih]; split <;> omega
theorem st_num (L : List Str) (n i : Nat) : (if st L (n + 1) i = true then 1 else 0) = if n + 1 ≤ ln L i ∧ lc0 L i < n + 1 then 1 else 0 := by
  by_cases h : st L (n + 1) i = true
  · have := st_iff.1 h
    rw [if_pos h, if_pos ⟨this.1, by unfold lc0; split <;> omega⟩]
  · rw [if_neg h, if_neg]
    rintro ⟨h1, h2⟩
    apply h
    rw [st_iff]
    refine ⟨h1, ?_⟩
    unfold lc0 at h2
    split at h2
    · left; assumption
    · exact .inr h2
theorem level_sum (L : List Str) (hL : ∀ i, i < L.length → ln L i ≤ 256) : ∀ m, m ≤ L.length → sumTo (fun n => ((List.range m).filter (st L (n + 1))).length) 256 + 1 = cntN L m := by
  intro m
  induction m with
  | zero => intro _; simp only [List.range_zero, List.filter_nil, List.length_nil, sumTo_zero]; rfl
  | succ m ih =>
    intro hm
    have e : sumTo (fun n => ((List.range (m + 1)).filter (st L (n + 1))).length) 256 = sumTo (fun n => ((List.range m).filter (st L (n + 1))).length) 256 + sumTo (fun n => if n + 1 ≤ ln L m ∧ lc0 L m < n + 1 then 1 else 0) 256 := by
      rw [← sumTo_add]
      refine sumTo_congr _ fun n => ?_
      rw [List.range_succ, List.filter_append, List.length_append, ← st_num]
      congr 1
      by_cases h : st L (n + 1) m = true <;> simp [h]
    have h1 := lc0_le L m
    have h2 := hL m (by omega)
    rw [e, one_sum _ _ h1]
    have h3 := ih (by omega)
    simp only [cntN]
    omega
theorem levels_len (L : List Str) : ∀ k, ((List.range (k + 1)).flatMap (lev L)).length = sumTo (fun n => ((List.range L.length).filter (st L (n + 1))).length) k + 1 := by
  intro k
  induction k with
  | zero => rfl
  | succ k ih =>
    rw [List.range_succ, List.flatMap_append, List.length_append, ih, List.flatMap_cons, List.flatMap_nil, List.append_nil, lev_succ, List.length_map]
    simp only [sumTo]
    omega
theorem Gs_len {L : List Str} (hL : Ok L) : (Gs L).length = cntN L L.length := by
  unfold Gs
  rw [levels_len L 256, level_sum L (fun i h => (hL.1 i h).2) L.length (Nat.le_refl _)]

/-! ### the levels of the reference -/
/-- The prefixes of n bytes of the first k strings, each once. -/
def lvl (L : List Str) (n k : Nat) : List Str := ((List.range k).filter (st L n)).map fun i => (sg L i).take n
theorem lvl_succ (L : List Str) (n k : Nat) : lvl L n (k + 1) = lvl L n k ++ if st L n k = true then [(sg L k).take n] else [] := by
  unfold lvl
  rw [List.range_succ, List.filter_append, List.map_append]
  congr 1
  by_cases h : st L n k = true <;> simp [h]
theorem lvl_last {L : List Str} {n : Nat} : ∀ k i, i < k → k ≤ L.length → n ≤ ln L i → (∀ e, i < e → e < k → n ≤ lc L e) → (lvl L n k).getLast? = some ((sg L i).take n) := by
  intro k
  induction k with
  | zero => intro i h; omega
  | succ k ih =>
    intro i hi hk hn he
    rw [lvl_succ]
    by_cases h : i = k
    · subst h
      by_cases hs : st L n i = true
      · rw [if_pos hs]; simp
      · rw [if_neg hs, List.append_nil]
        have h1 : i ≠ 0 ∧ n ≤ lc L i := by
          refine ⟨fun e => hs (st_iff.2 ⟨hn, .inl e⟩), ?_⟩
          rcases Nat.lt_or_ge (lc L i) n with h2 | h2
          · exact absurd (st_iff.2 ⟨hn, .inr h2⟩) hs
          · exact h2
        have h2 := (lcp_le n _ _).1 h1.2
        rw [ih (i - 1) (by omega) (by omega) h2.1 (fun e h3 h4 => by omega), h2.2.2]
    · have hs : st L n k = false := st_no (by omega) (he k (by omega) (by omega))
      rw [if_neg (by rw [hs]; decide), List.append_nil]
      exact ih i (by omega) (by omega) hn fun e h3 h4 => he e h3 (by omega)
theorem lvl_step {L : List Str} (hL : Ok L) {n k : Nat} (hk : k < L.length) (hn : n ≤ ln L k) : (lvl L n k).getLast? = some ((sg L k).take n) ↔ st L n k = false := by
  constructor
  · intro h
    have h1 := List.mem_of_getLast? h
    unfold lvl at h1
    rw [List.mem_map] at h1
    obtain ⟨j, h2, h3⟩ := h1
    rw [List.mem_filter, List.mem_range] at h2
    have h4 : n ≤ lcp (sg L j) (sg L k) := (lcp_le _ _ _).2 ⟨(st_iff.1 h2.2).1, hn, h3⟩
    exact st_no (by omega) (hL.run hk h4 k h2.1 (Nat.le_refl _))
  · intro h
    have h1 : k ≠ 0 ∧ n ≤ lc L k := by
      refine ⟨fun e => ?_, ?_⟩
      · rw [st_iff.2 ⟨hn, .inl e⟩] at h; cases h
      · rcases Nat.lt_or_ge (lc L k) n with h2 | h2
        · rw [st_iff.2 ⟨hn, .inr h2⟩] at h; cases h
        · exact h2
    have h2 := (lcp_le n _ _).1 h1.2
    rw [lvl_last k (k - 1) (by omega) (by omega) h2.1 (fun e h3 h4 => by omega), h2.2.2]
theorem lvl_all (L : List Str) (n : Nat) : lvl L (n + 1) L.length = (lev L (n + 1)).map fun g => (sg L g.f).take g.n := by
  rw [lev_succ, List.map_map]; rfl
end Go.Proofs.Ytffljcfpofhkgaa.Lo
