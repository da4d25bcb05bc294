/-
  The nodes by their numbers, as mathematics: children, parents, prefixes, the node of a string. Of no program.
-/
import Derived.Test.YtffljcfpofhkgaaLoMathB
set_option linter.unusedVariables false
set_option linter.unusedSimpArgs false
namespace Go.Proofs.Ytffljcfpofhkgaa.Lo

/-! ### lists of lists -/
theorem fm_split {α β : Type} (k : α → List β) (l : List α) (i : Nat) : l.flatMap k = (l.take i).flatMap k ++ (l.drop i).flatMap k := by
  rw [← List.flatMap_append, List.take_append_drop]
theorem fm_at {α β : Type} (k : α → List β) {l : List α} {i : Nat} {a : α} (h : l[i]? = some a) : l.flatMap k = (l.take i).flatMap k ++ (k a ++ (l.drop (i + 1)).flatMap k) := by
  rw [fm_split k l i]
  congr 1
  have hi := (List.getElem?_eq_some_iff.1 h).1
  rw [List.drop_eq_getElem_cons hi, List.flatMap_cons, (List.getElem?_eq_some_iff.1 h).2]
theorem fm_get {α β : Type} (k : α → List β) {l : List α} {i t : Nat} {a : α} (h : l[i]? = some a) (ht : t < (k a).length) : (l.flatMap k)[((l.take i).flatMap k).length + t]? = (k a)[t]? := by
  rw [fm_at k h, List.getElem?_append_right (by omega), Nat.add_sub_cancel_left, List.getElem?_append_left ht]
theorem fm_dec {α β : Type} (k : α → List β) : ∀ (l : List α) (j : Nat), j < (l.flatMap k).length → ∃ i t a, l[i]? = some a ∧ t < (k a).length ∧ j = ((l.take i).flatMap k).length + t
  | [], j, h => by simp at h
  | a :: l, j, h => by
    rw [List.flatMap_cons, List.length_append] at h
    by_cases h1 : j < (k a).length
    · exact ⟨0, j, a, rfl, h1, by simp⟩
    · obtain ⟨i, t, b, h2, h3, h4⟩ := fm_dec k l (j - (k a).length) (by omega)
      exact ⟨i + 1, t, b, h2, h3, by rw [List.take_succ_cons, List.flatMap_cons, List.length_append]; omega⟩
theorem fm_succ {α β : Type} (k : α → List β) {l : List α} {i : Nat} {a : α} (h : l[i]? = some a) : (l.take (i + 1)).flatMap k = (l.take i).flatMap k ++ k a := by
  rw [List.take_add_one, h, List.flatMap_append]; simp

/-! ### nodes -/
def gd (L : List Str) (k : Nat) : Grp := (Gs L).getD k g0
theorem gd_get {L : List Str} {k : Nat} (h : k < (Gs L).length) : (Gs L)[k]? = some (gd L k) := by
  unfold gd; rw [List.getD_eq_getElem?_getD, List.getElem?_eq_getElem h]; rfl
theorem gd_of {L : List Str} {k : Nat} {g : Grp} (h : (Gs L)[k]? = some g) : gd L k = g := by
  unfold gd; rw [List.getD_eq_getElem?_getD, h]; rfl
theorem gd_mem {L : List Str} {k : Nat} (h : k < (Gs L).length) : gd L k ∈ Gs L := List.mem_of_getElem? (gd_get h)
def deg (L : List Str) (k : Nat) : Nat := (kids L (gd L k)).length
def kid (L : List Str) (k t : Nat) : Grp := (kids L (gd L k)).getD t g0
theorem kid_get {L : List Str} {k t : Nat} (h : t < deg L k) : (kids L (gd L k))[t]? = some (kid L k t) := by
  unfold kid; rw [List.getD_eq_getElem?_getD, List.getElem?_eq_getElem h]; rfl
/-- The number of the first child. -/
def off (L : List Str) (i : Nat) : Nat := 1 + (((Gs L).take i).flatMap (kids L)).length
theorem off_zero (L : List Str) : off L 0 = 1 := rfl
theorem off_succ {L : List Str} {i : Nat} (h : i < (Gs L).length) : off L (i + 1) = off L i + deg L i := by
  unfold off deg; rw [fm_succ _ (gd_get h), List.length_append]; omega
theorem off_mono {L : List Str} {i : Nat} : ∀ {j : Nat}, i ≤ j → off L i ≤ off L j := by
  intro j
  induction j with
  | zero => intro h; rw [Nat.le_zero.1 h]; exact Nat.le_refl _
  | succ j ih =>
    intro h
    by_cases e : i = j + 1
    · rw [e]; exact Nat.le_refl _
    · have h1 := ih (by omega)
      by_cases h2 : j < (Gs L).length
      · rw [off_succ h2]; omega
      · have : off L (j + 1) = off L j := by unfold off; rw [List.take_of_length_le (by omega), List.take_of_length_le (by omega)]
        omega
theorem off_all {L : List Str} (hL : Ok L) : off L (Gs L).length = (Gs L).length := by
  unfold off
  rw [List.take_length]
  conv => rhs; rw [Gs_eq hL, List.length_cons]
  omega
theorem gs_pos {L : List Str} (hL : Ok L) : 0 < (Gs L).length := by rw [Gs_eq hL]; simp
theorem gd_zero {L : List Str} (hL : Ok L) : gd L 0 = rootG L := by apply gd_of; rw [Gs_eq hL]; rfl
/-- The nodes up to the children of the first i. -/
theorem take_off {L : List Str} (hL : Ok L) (i : Nat) : (Gs L).take (off L i) = rootG L :: ((Gs L).take i).flatMap (kids L) := by
  have h : Gs L = rootG L :: (((Gs L).take i).flatMap (kids L) ++ ((Gs L).drop i).flatMap (kids L)) := by
    conv => lhs; rw [Gs_eq hL]
    rw [← fm_split]
  obtain ⟨A, hA⟩ : ∃ A, ((Gs L).take i).flatMap (kids L) = A := ⟨_, rfl⟩
  have e : off L i = A.length + 1 := by unfold off; rw [hA]; omega
  rw [hA] at h
  rw [e, hA, h, List.take_succ_cons, List.take_left]
theorem kid_at {L : List Str} (hL : Ok L) {i t : Nat} (hi : i < (Gs L).length) (ht : t < deg L i) : off L i + t < (Gs L).length ∧ gd L (off L i + t) = kid L i t := by
  have h1 := fm_get (kids L) (gd_get hi) ht
  have h2 : (Gs L)[off L i + t]? = some (kid L i t) := by
    rw [Gs_eq hL]
    unfold off
    rw [show 1 + (((Gs L).take i).flatMap (kids L)).length + t = ((((Gs L).take i).flatMap (kids L)).length + t) + 1 by omega, List.getElem?_cons_succ, h1]
    exact kid_get ht
  exact ⟨(List.getElem?_eq_some_iff.1 h2).1, gd_of h2⟩
theorem par_ex {L : List Str} (hL : Ok L) {k : Nat} (h0 : 0 < k) (hk : k < (Gs L).length) : ∃ i t, i < (Gs L).length ∧ t < deg L i ∧ k = off L i + t := by
  have h : k - 1 < ((Gs L).flatMap (kids L)).length := by
    rw [Gs_eq hL, List.length_cons] at hk
    omega
  obtain ⟨i, t, a, h1, h2, h3⟩ := fm_dec (kids L) (Gs L) (k - 1) h
  have h4 := gd_of h1
  exact ⟨i, t, (List.getElem?_eq_some_iff.1 h1).1, by unfold deg; rw [h4]; exact h2, by unfold off; omega⟩
theorem kid_mem {L : List Str} {i t : Nat} (ht : t < deg L i) : ∃ x, x ∈ kidI L ((gd L i).n + 1) (gd L i).f (gd L i).t ∧ kid L i t = gr L ((gd L i).n + 1) x := by
  have h := List.mem_of_getElem? (kid_get ht)
  unfold kids at h
  obtain ⟨x, h1, h2⟩ := List.mem_map.1 h
  exact ⟨x, h1, h2.symm⟩
theorem kid_n {L : List Str} (hL : Ok L) {i t : Nat} (hi : i < (Gs L).length) (ht : t < deg L i) : (gd L (off L i + t)).n = (gd L i).n + 1 := by
  obtain ⟨x, _, h⟩ := kid_mem ht
  rw [(kid_at hL hi ht).2, h]; rfl
theorem bef_of {L : List Str} {i j : Nat} (h : i < j) (hj : j < (Gs L).length) : Bef (gd L i) (gd L j) := by
  have h1 := List.pairwise_iff_getElem.1 (Gs_bef L) i j (by omega) hj h
  have e1 := (List.getElem?_eq_some_iff.1 (gd_get (show i < (Gs L).length by omega))).2
  have e2 := (List.getElem?_eq_some_iff.1 (gd_get hj)).2
  rw [e1, e2] at h1
  exact h1
theorem n_mono {L : List Str} {i j : Nat} (h : i ≤ j) (hj : j < (Gs L).length) : (gd L i).n ≤ (gd L j).n := by
  by_cases e : i = j
  · rw [e]; exact Nat.le_refl _
  · rcases bef_of (L := L) (show i < j by omega) hj with h1 | h1 <;> omega
/-- A node comes before its children. -/
theorem par_lt {L : List Str} (hL : Ok L) {i t : Nat} (hi : i < (Gs L).length) (ht : t < deg L i) : i < off L i + t := by
  have h1 := kid_n hL hi ht
  rcases Nat.lt_or_ge i (off L i + t) with h | h
  · exact h
  · have := n_mono (L := L) h hi; omega
theorem off_gt {L : List Str} (hL : Ok L) {i : Nat} (hi : i < (Gs L).length) : i < off L i := by
  by_cases h0 : i = 0
  · rw [h0]; exact Nat.lt_of_lt_of_le Nat.zero_lt_one (by unfold off; omega)
  · obtain ⟨p, t, h1, h2, h3⟩ := par_ex hL (by omega) hi
    have h4 := par_lt hL h1 h2
    have h5 := off_mono (L := L) (show p + 1 ≤ i by omega)
    rw [off_succ h1] at h5
    omega
theorem off_le {L : List Str} (hL : Ok L) {i : Nat} (hi : i ≤ (Gs L).length) : off L i ≤ (Gs L).length := by
  have := off_mono (L := L) hi
  rw [off_all hL] at this
  exact this

/-! ### what a node is -/
structure Node (L : List Str) (g : Grp) : Prop where
  ft : g.f ≤ g.t
  tm : g.t ≤ L.length
  n256 : g.n ≤ 256
  some : g.n = 0 ∨ g.f < g.t
  top : g.t = L.length ∨ lc L g.t < g.n
  bot : g.f = 0 ∨ lc L g.f < g.n
  same : ∀ j, g.f ≤ j → j < g.t → g.n ≤ lcp (sg L g.f) (sg L j)
  all : ∀ j, j < L.length → g.n ≤ lcp (sg L g.f) (sg L j) → g.f ≤ j ∧ j < g.t
  run : ∀ e, g.f < e → e < g.t → g.n ≤ lc L e
theorem node_of {L : List Str} (hL : Ok L) {g : Grp} (h : g ∈ Gs L) : Node L g := by
  rcases mem_Gs.1 h with rfl | ⟨n, i, h1, h2, h3, rfl⟩
  · exact ⟨Nat.zero_le _, Nat.le_refl _, Nat.zero_le _, .inl rfl, .inl rfl, .inl rfl, fun _ _ _ => Nat.zero_le _, fun j hj _ => ⟨Nat.zero_le _, hj⟩, fun _ _ _ => Nat.zero_le _⟩
  · have h4 := st_iff.1 h3
    exact ⟨Nat.le_of_lt (en_gt _ _ _), en_le _ _ _ h2, h1, .inr (en_gt _ _ _), en_end h2, h4.2, fun j h5 h6 => en_same h4.1 h5 h6, fun j h5 h6 => (en_iff hL h3 h2 h5).1 h6, fun e h5 h6 => en_in h5 h6⟩
theorem node_at {L : List Str} (hL : Ok L) {k : Nat} (h : k < (Gs L).length) : Node L (gd L k) := node_of hL (gd_mem h)
/-- The string that a node is. -/
def pre (L : List Str) (k : Nat) : Str := (sg L (gd L k).f).take (gd L k).n
theorem Node.n_le {L : List Str} {g : Grp} (h : Node L g) : g.n ≤ ln L g.f := by
  rcases h.some with h1 | h1
  · omega
  · exact Nat.le_trans (h.same g.f (Nat.le_refl _) h1) (lcp_left _ _)
theorem pre_len {L : List Str} (hL : Ok L) {k : Nat} (h : k < (Gs L).length) : (pre L k).length = (gd L k).n := by
  have := (node_at hL h).n_le
  unfold ln at this
  unfold pre; rw [List.length_take]; omega
theorem pre_zero {L : List Str} (hL : Ok L) : pre L 0 = [] := by unfold pre; rw [gd_zero hL]; rfl
theorem Node.lt_len {L : List Str} {g : Grp} (h : Node L g) (h0 : g.n ≠ 0) : g.f < g.t ∧ g.f < L.length := by
  have := h.tm
  rcases h.some with h1 | h1
  · exact absurd h1 h0
  · exact ⟨h1, by omega⟩
theorem pre_inj {L : List Str} (hL : Ok L) {j k : Nat} (hj : j < (Gs L).length) (hk : k < (Gs L).length) (e : pre L j = pre L k) : j = k := by
  have hn : (gd L j).n = (gd L k).n := by rw [← pre_len hL hj, ← pre_len hL hk, e]
  have nj := node_at hL hj
  have nk := node_at hL hk
  have hf : (gd L j).n ≠ 0 → (gd L j).f = (gd L k).f := by
    intro h0
    have aj := nj.lt_len h0
    have ak := nk.lt_len (by omega)
    have h1 : (gd L j).n ≤ lcp (sg L (gd L j).f) (sg L (gd L k).f) := (lcp_le _ _ _).2 ⟨nj.n_le, by have := nk.n_le; unfold ln at this; omega, by unfold pre at e; rw [hn] at e ⊢; exact e⟩
    have h2 := (nj.all _ ak.2 h1).1
    have h3 := (nk.all _ aj.2 (by rw [lcp_comm, ← hn]; exact h1)).1
    omega
  rcases Nat.lt_trichotomy j k with h | h | h
  · rcases bef_of h hk with h1 | h1
    · omega
    · by_cases h0 : (gd L j).n = 0
      · have h2 : 0 < k := by omega
        obtain ⟨p, t, h3, h4, h5⟩ := par_ex hL h2 hk
        have := kid_n hL h3 h4
        rw [← h5] at this; omega
      · have := hf h0; omega
  · exact h
  · rcases bef_of h hj with h1 | h1
    · omega
    · by_cases h0 : (gd L j).n = 0
      · have h2 : 0 < j := by omega
        obtain ⟨p, t, h3, h4, h5⟩ := par_ex hL h2 hj
        have := kid_n hL h3 h4
        rw [← h5] at this; omega
      · have := hf h0; omega
/-- The last byte of a node. -/
def lab (L : List Str) (k : Nat) : UInt8 := (sg L (gd L k).f).getD ((gd L k).n - 1) 0
theorem take_snoc (s : Str) (n : Nat) (h : n < s.length) : s.take (n + 1) = s.take n ++ [s.getD n 0] := by
  rw [List.take_add_one, List.getElem?_eq_getElem h, List.getD_eq_getElem?_getD, List.getElem?_eq_getElem h]; rfl
theorem kidI_mem {L : List Str} {n f t x : Nat} : x ∈ kidI L n f t ↔ f ≤ x ∧ x < t ∧ st L n x = true := by
  unfold kidI
  rw [List.mem_filter, List.mem_range'_1]
  constructor
  · rintro ⟨⟨h1, h2⟩, h3⟩; exact ⟨h1, by omega, h3⟩
  · rintro ⟨h1, h2, h3⟩; exact ⟨⟨h1, by omega⟩, h3⟩
theorem pre_kid {L : List Str} (hL : Ok L) {i t : Nat} (hi : i < (Gs L).length) (ht : t < deg L i) : pre L (off L i + t) = pre L i ++ [lab L (off L i + t)] := by
  obtain ⟨x, h1, h2⟩ := kid_mem ht
  rw [kidI_mem] at h1
  have h3 := (node_at hL hi).same x h1.1 h1.2.1
  have h4 := ((lcp_le _ _ _).1 h3).2.2
  have h5 := (st_iff.1 h1.2.2).1
  unfold pre lab
  rw [(kid_at hL hi ht).2, h2]
  show (sg L x).take ((gd L i).n + 1) = _ ++ [(sg L x).getD ((gd L i).n + 1 - 1) 0]
  rw [take_snoc _ _ (by unfold ln at h5; omega), h4]
  rfl
/-- Where the strings that share n bytes with string j begin. -/
theorem start_ex (L : List Str) (n : Nat) : ∀ j, n ≤ ln L j → ∃ i, i ≤ j ∧ st L n i = true ∧ (sg L i).take n = (sg L j).take n := by
  intro j
  induction j with
  | zero => intro h; exact ⟨0, Nat.le_refl _, st_iff.2 ⟨h, .inl rfl⟩, rfl⟩
  | succ j ih =>
    intro h
    by_cases hs : st L n (j + 1) = true
    · exact ⟨j + 1, Nat.le_refl _, hs, rfl⟩
    · have h1 : n ≤ lc L (j + 1) := by
        rcases Nat.lt_or_ge (lc L (j + 1)) n with h2 | h2
        · exact absurd (st_iff.2 ⟨h, .inr h2⟩) hs
        · exact h2
      have h2 := (lcp_le n _ _).1 h1
      obtain ⟨i, h3, h4, h5⟩ := ih h2.1
      exact ⟨i, by omega, h4, h5.trans h2.2.2⟩
theorem pre_ex {L : List Str} (hL : Ok L) {j n : Nat} (hj : j < L.length) (hn : n ≤ ln L j) : ∃ k, k < (Gs L).length ∧ pre L k = (sg L j).take n ∧ (gd L k).n = n := by
  cases n with
  | zero => exact ⟨0, gs_pos hL, by rw [pre_zero hL]; rfl, by rw [gd_zero hL]; rfl⟩
  | succ n =>
    obtain ⟨i, h1, h2, h3⟩ := start_ex L (n + 1) j hn
    have h4 : gr L (n + 1) i ∈ Gs L := mem_Gs.2 (.inr ⟨n, i, by have := (hL.1 j hj).2; omega, by omega, h2, rfl⟩)
    obtain ⟨k, h5⟩ := List.mem_iff_getElem?.1 h4
    have h6 := gd_of h5
    exact ⟨k, (List.getElem?_eq_some_iff.1 h5).1, by unfold pre; rw [h6]; exact h3, by rw [h6]; rfl⟩
/-- The number of the node that a string is. -/
def nodeOf (L : List Str) (s : Str) : Option Nat := (List.range (Gs L).length).find? fun k => decide (pre L k = s)
theorem nodeOf_some {L : List Str} (hL : Ok L) {s : Str} {k : Nat} : nodeOf L s = some k ↔ k < (Gs L).length ∧ pre L k = s := by
  unfold nodeOf
  constructor
  · intro h
    have h1 := List.mem_of_find?_eq_some h
    have h2 := List.find?_some h
    exact ⟨List.mem_range.1 h1, of_decide_eq_true h2⟩
  · rintro ⟨h1, h2⟩
    cases h : (List.range (Gs L).length).find? fun k => decide (pre L k = s) with
    | none =>
      have := List.find?_eq_none.1 h k (List.mem_range.2 h1)
      simp [h2] at this
    | some j =>
      have h3 := List.mem_range.1 (List.mem_of_find?_eq_some h)
      have h4 : pre L j = s := of_decide_eq_true (List.find?_some (p := fun k => decide (pre L k = s)) h)
      rw [pre_inj hL h3 h1 (h4.trans h2.symm)]
theorem nodeOf_none {L : List Str} {s : Str} : nodeOf L s = none ↔ ∀ k, k < (Gs L).length → pre L k ≠ s := by
  unfold nodeOf
  rw [List.find?_eq_none]
  constructor
  · intro h k hk; have := h k (List.mem_range.2 hk); simpa using this
  · intro h k hk; have := h k (List.mem_range.1 hk); simpa using this
theorem nodeOf_nil {L : List Str} (hL : Ok L) : nodeOf L [] = some 0 := (nodeOf_some hL).2 ⟨gs_pos hL, pre_zero hL⟩
theorem nodeOf_kid {L : List Str} (hL : Ok L) {i k : Nat} {c : UInt8} (hi : i < (Gs L).length) : nodeOf L (pre L i ++ [c]) = some k ↔ ∃ t, t < deg L i ∧ k = off L i + t ∧ lab L k = c := by
  rw [nodeOf_some hL]
  constructor
  · rintro ⟨h1, h2⟩
    have h0 : 0 < k := by
      rcases Nat.eq_zero_or_pos k with h | h
      · subst h; rw [pre_zero hL] at h2; simp at h2
      · exact h
    obtain ⟨p, t, h3, h4, rfl⟩ := par_ex hL h0 h1
    rw [pre_kid hL h3 h4] at h2
    have h5 := List.append_inj' h2 rfl
    obtain rfl := pre_inj hL h3 hi h5.1
    exact ⟨t, h4, rfl, by simpa using h5.2⟩
  · rintro ⟨t, h1, rfl, h2⟩
    exact ⟨(kid_at hL hi h1).1, by rw [pre_kid hL hi h1, h2]⟩
theorem nodeOf_pref {L : List Str} (hL : Ok L) {s : Str} {k : Nat} (h : nodeOf L s = some k) (j : Nat) : ∃ i, nodeOf L (s.take j) = some i := by
  obtain ⟨h1, h2⟩ := (nodeOf_some hL).1 h
  have hn := (node_at hL h1).n_le
  by_cases h0 : (gd L k).n = 0
  · have : s = [] := by
      apply List.eq_nil_of_length_eq_zero
      rw [← h2, pre_len hL h1, h0]
    subst this
    exact ⟨0, by rw [List.take_nil]; exact nodeOf_nil hL⟩
  · have h3 := (node_at hL h1).lt_len h0
    obtain ⟨i, h4, h5, _⟩ := pre_ex hL h3.2 (n := min j (gd L k).n) (by omega)
    refine ⟨i, (nodeOf_some hL).2 ⟨h4, ?_⟩⟩
    rw [h5, ← h2]
    unfold pre
    rw [List.take_take]

/-! ### strings -/
/-- Is a node a string? -/
def isS (L : List Str) (g : Grp) : Bool := decide (g.f < g.t) && decide (ln L g.f = g.n)
theorem isS_iff {L : List Str} {g : Grp} : isS L g = true ↔ g.f < g.t ∧ ln L g.f = g.n := by unfold isS; simp
theorem isS_pre {L : List Str} {k : Nat} (h : isS L (gd L k) = true) : pre L k = sg L (gd L k).f := by
  unfold pre; rw [← (isS_iff.1 h).2]; exact List.take_length
/-- The node of a string. -/
theorem ndx_ex {L : List Str} (hL : Ok L) {i : Nat} (hi : i < L.length) : ∃ k, k < (Gs L).length ∧ (gd L k).f = i ∧ isS L (gd L k) = true := by
  have h1 := hL.1 i hi
  have h2 : st L (ln L i) i = true := by
    rw [st_iff]
    refine ⟨Nat.le_refl _, ?_⟩
    by_cases h0 : i = 0
    · exact .inl h0
    · exact .inr (hL.lc_lt (by omega) hi)
  have h3 : gr L (ln L i) i ∈ Gs L := mem_Gs.2 (.inr ⟨ln L i - 1, i, by omega, hi, by rw [show ln L i - 1 + 1 = ln L i by omega]; exact h2, by rw [show ln L i - 1 + 1 = ln L i by omega]⟩)
  obtain ⟨k, h4⟩ := List.mem_iff_getElem?.1 h3
  have h5 := gd_of h4
  exact ⟨k, (List.getElem?_eq_some_iff.1 h4).1, by rw [h5]; rfl, by rw [h5]; exact isS_iff.2 ⟨en_gt _ _ _, rfl⟩⟩
theorem ndx_uniq {L : List Str} (hL : Ok L) {j k : Nat} (hj : j < (Gs L).length) (hk : k < (Gs L).length) (h1 : isS L (gd L j) = true) (h2 : isS L (gd L k) = true) (e : (gd L j).f = (gd L k).f) : j = k :=
  pre_inj hL hj hk (by rw [isS_pre h1, isS_pre h2, e])
/-- A node that is a string of the set is marked, with its number. -/
theorem isS_of {L : List Str} (hL : Ok L) {i k : Nat} (hi : i < L.length) (hk : k < (Gs L).length) (e : pre L k = sg L i) : isS L (gd L k) = true ∧ (gd L k).f = i := by
  obtain ⟨j, h1, h2, h3⟩ := ndx_ex hL hi
  have : j = k := pre_inj hL h1 hk (by rw [isS_pre h3, h2, e])
  subst this
  exact ⟨h3, h2⟩
end Go.Proofs.Ytffljcfpofhkgaa.Lo
