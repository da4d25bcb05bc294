/-
  The shape of a trie as bits, as mathematics: where children and parents stand; its marks, numbers, labels. Of no program.
-/
import Derived.Test.YtffljcfpofhkgaaLoMathC
import Derived.Test.YtffljcfpofhkgaaBvB
set_option linter.unusedVariables false
set_option linter.unusedSimpArgs false
namespace Go.Proofs.Ytffljcfpofhkgaa.Lo
open Go.Proofs.Ytffljcfpofhkgaa.Bv

/-! ### bits joined -/
theorem bt_left {x y : List Bool} {i : Nat} (h : i < x.length) : bt (x ++ y) i = bt x i := by
  unfold bt; rw [List.getD_eq_getElem?_getD, List.getD_eq_getElem?_getD, List.getElem?_append_left h]
theorem bt_right (x y : List Bool) (i : Nat) : bt (x ++ y) (x.length + i) = bt y i := by
  unfold bt; rw [List.getD_eq_getElem?_getD, List.getD_eq_getElem?_getD, List.getElem?_append_right (by omega), Nat.add_sub_cancel_left]
theorem rk_left (x y : List Bool) (b : Bool) : ∀ i, i ≤ x.length → rk (x ++ y) b i = rk x b i := by
  intro i
  induction i with
  | zero => intro _; rfl
  | succ i ih => intro h; simp only [rk]; rw [ih (by omega), bt_left (by omega)]
theorem rk_join (x y : List Bool) (b : Bool) : ∀ i, rk (x ++ y) b (x.length + i) = rk x b x.length + rk y b i := by
  intro i
  induction i with
  | zero => rw [Nat.add_zero, rk_left _ _ _ _ (Nat.le_refl _)]; rfl
  | succ i ih => rw [← Nat.add_assoc]; simp only [rk]; rw [ih, bt_right]; omega
theorem bt_rep (d : Nat) (z : List Bool) {t : Nat} (h : t < d) : bt (List.replicate d true ++ z) t = true := by
  rw [bt_left (by simpa using h)]
  unfold bt; rw [List.getD_eq_getElem?_getD, List.getElem?_replicate, if_pos h]; rfl
theorem rk_rep_t (d : Nat) (z : List Bool) : ∀ t, t ≤ d → rk (List.replicate d true ++ z) true t = t := by
  intro t
  induction t with
  | zero => intro _; rfl
  | succ t ih => intro h; simp only [rk]; rw [ih (by omega), bt_rep d z (by omega)]; rfl
theorem rk_rep_f (d : Nat) (z : List Bool) : ∀ t, t ≤ d → rk (List.replicate d true ++ z) false t = 0 := by
  intro t
  induction t with
  | zero => intro _; rfl
  | succ t ih => intro h; simp only [rk]; rw [ih (by omega), bt_rep d z (by omega)]; rfl

/-! ### the shape -/
def shG (L : List Str) (gs : List Grp) : List Bool := gs.flatMap fun g => List.replicate (kids L g).length true ++ [false]
def shp (L : List Str) : List Bool := true :: false :: shG L (Gs L)
/-- The shape before node i. -/
def shB (L : List Str) (i : Nat) : List Bool := true :: false :: shG L ((Gs L).take i)
theorem shG_counts (L : List Str) : ∀ gs : List Grp, (shG L gs).length = (gs.flatMap (kids L)).length + gs.length ∧ rk (shG L gs) true (shG L gs).length = (gs.flatMap (kids L)).length ∧ rk (shG L gs) false (shG L gs).length = gs.length
  | [] => ⟨rfl, rfl, rfl⟩
  | g :: gs => by
    obtain ⟨h1, h2, h3⟩ := shG_counts L gs
    have e : shG L (g :: gs) = (List.replicate (kids L g).length true ++ [false]) ++ shG L gs := rfl
    have l1 : (List.replicate (kids L g).length true ++ [false]).length = (kids L g).length + 1 := by simp
    rw [e, List.length_append, rk_join, rk_join, l1, h2, h3, h1]
    have a1 : rk (List.replicate (kids L g).length true ++ [false]) true ((kids L g).length + 1) = (kids L g).length := by
      simp only [rk]
      rw [rk_rep_t _ _ _ (Nat.le_refl _)]
      have := bt_right (List.replicate (kids L g).length true) [false] 0
      rw [List.length_replicate, Nat.add_zero] at this
      rw [this]; rfl
    have a2 : rk (List.replicate (kids L g).length true ++ [false]) false ((kids L g).length + 1) = 1 := by
      simp only [rk]
      rw [rk_rep_f _ _ _ (Nat.le_refl _)]
      have := bt_right (List.replicate (kids L g).length true) [false] 0
      rw [List.length_replicate, Nat.add_zero] at this
      rw [this]; rfl
    rw [a1, a2, List.flatMap_cons, List.length_append, List.length_cons]
    omega
theorem two_counts (l : List Bool) (k : Nat) : rk (true :: false :: l) true (2 + k) = 1 + rk l true k ∧ rk (true :: false :: l) false (2 + k) = 1 + rk l false k := by
  have h1 := rk_join [true, false] l true k
  have h2 := rk_join [true, false] l false k
  exact ⟨h1, h2⟩
theorem shB_counts {L : List Str} {i : Nat} (hi : i ≤ (Gs L).length) : (shB L i).length = off L i + i + 1 ∧ rk (shB L i) true (off L i + i + 1) = off L i ∧ rk (shB L i) false (off L i + i + 1) = i + 1 := by
  obtain ⟨h1, h2, h3⟩ := shG_counts L ((Gs L).take i)
  have h4 : ((Gs L).take i).length = i := by rw [List.length_take]; omega
  have h5 : off L i = 1 + (((Gs L).take i).flatMap (kids L)).length := rfl
  have e : (shB L i).length = off L i + i + 1 := by unfold shB; simp only [List.length_cons]; omega
  have e2 : off L i + i + 1 = 2 + (shG L ((Gs L).take i)).length := by omega
  refine ⟨e, ?_, ?_⟩
  · rw [e2]; unfold shB; rw [(two_counts _ _).1, h2]; omega
  · rw [e2]; unfold shB; rw [(two_counts _ _).2, h3]; omega
theorem shp_at {L : List Str} {i : Nat} (hi : i < (Gs L).length) : ∃ z, shp L = shB L i ++ (List.replicate (deg L i) true ++ (false :: z)) := by
  refine ⟨shG L ((Gs L).drop (i + 1)), ?_⟩
  unfold shp shB
  have := fm_at (fun g => List.replicate (kids L g).length true ++ [false]) (gd_get hi)
  unfold shG deg
  rw [this]
  simp
theorem shp_len {L : List Str} (hL : Ok L) : (shp L).length = 2 * (Gs L).length + 1 := by
  have h1 := (shB_counts (L := L) (i := (Gs L).length) (Nat.le_refl _)).1
  have h2 : shB L (Gs L).length = shp L := by unfold shB shp; rw [List.take_length]
  rw [h2, off_all hL] at h1
  omega
/-- The block of a node in the shape. -/
theorem blk {L : List Str} {i t : Nat} (hi : i < (Gs L).length) (ht : t ≤ deg L i) :
    bt (shp L) (off L i + i + 1 + t) = decide (t < deg L i) ∧ rk (shp L) true (off L i + i + 1 + t) = off L i + t ∧ rk (shp L) false (off L i + i + 1 + t) = i + 1 := by
  obtain ⟨z, hz⟩ := shp_at hi
  obtain ⟨h1, h2, h3⟩ := shB_counts (L := L) (i := i) (Nat.le_of_lt hi)
  rw [hz, ← h1, bt_right, rk_join, rk_join, h1, h2, h3, rk_rep_t _ _ _ ht, rk_rep_f _ _ _ ht]
  refine ⟨?_, rfl, rfl⟩
  by_cases h : t < deg L i
  · rw [bt_rep _ _ h, decide_eq_true h]
  · have e : t = deg L i := by omega
    have := bt_right (List.replicate (deg L i) true) (false :: z) 0
    rw [List.length_replicate, Nat.add_zero] at this
    rw [e, this, decide_eq_false (by omega)]; rfl
theorem blk_in {L : List Str} (hL : Ok L) {i t : Nat} (hi : i < (Gs L).length) (ht : t ≤ deg L i) : off L i + i + 1 + t < (shp L).length := by
  have h := off_le hL (i := i + 1) (by omega)
  rw [off_succ hi] at h
  rw [shp_len hL]
  omega
/-- The zero before a node's block. -/
theorem sel_f {L : List Str} (hL : Ok L) {i : Nat} (hi : i < (Gs L).length) : sel (shp L) false (i : Int) = ((off L i + i : Nat) : Int) := by
  cases i with
  | zero => exact sel_at (j := 1) (by rw [shp_len hL]; have := gs_pos hL; omega) rfl rfl
  | succ j =>
    have hj : j < (Gs L).length := by omega
    obtain ⟨h1, h2, h3⟩ := blk hj (Nat.le_refl (deg L j))
    have e : off L (j + 1) + (j + 1) = off L j + j + 1 + deg L j := by rw [off_succ hj]; omega
    rw [e]
    refine sel_at (blk_in hL hj (Nat.le_refl _)) ?_ ?_
    · rw [h1, decide_eq_false (by omega)]
    · rw [h3]
/-- The one of a child. -/
theorem sel_t {L : List Str} (hL : Ok L) {i t : Nat} (hi : i < (Gs L).length) (ht : t < deg L i) : sel (shp L) true ((off L i + t : Nat) : Int) = ((off L i + i + 1 + t : Nat) : Int) := by
  obtain ⟨h1, h2, h3⟩ := blk hi (Nat.le_of_lt ht)
  refine sel_at (blk_in hL hi (Nat.le_of_lt ht)) ?_ ?_
  · rw [h1, decide_eq_true ht]
  · rw [h2]

/-! ### marks, numbers, labels -/
def labG (L : List Str) (g : Grp) : UInt8 := (sg L g.f).getD (g.n - 1) 0
def labs (L : List Str) : List UInt8 := ((Gs L).flatMap (kids L)).map (labG L)
theorem labs_len {L : List Str} (hL : Ok L) : (labs L).length = (Gs L).length - 1 := by
  unfold labs
  rw [List.length_map]
  conv => rhs; rw [Gs_eq hL, List.length_cons]
  omega
theorem labs_get {L : List Str} (hL : Ok L) {k : Nat} (h : k + 1 < (Gs L).length) : (labs L)[k]? = some (lab L (k + 1)) := by
  have h1 := gd_get h
  rw [Gs_eq hL, List.getElem?_cons_succ] at h1
  unfold labs
  rw [List.getElem?_map, h1]; rfl
def ends (L : List Str) : List Bool := (Gs L).map (isS L)
theorem ends_len (L : List Str) : (ends L).length = (Gs L).length := by simp [ends]
theorem ends_bt {L : List Str} {k : Nat} (h : k < (Gs L).length) : bt (ends L) k = isS L (gd L k) := by
  unfold bt ends; rw [List.getD_eq_getElem?_getD, List.getElem?_map, gd_get h]; rfl
def nums (L : List Str) : List Nat := ((Gs L).filter (isS L)).map fun g => g.f
theorem rk_map {α : Type} (p : α → Bool) (l : List α) : ∀ k, k ≤ l.length → rk (l.map p) true k = ((l.take k).filter p).length := by
  intro k
  induction k with
  | zero => intro _; rfl
  | succ k ih =>
    intro h
    have h1 : l[k]? = some l[k] := List.getElem?_eq_getElem (by omega)
    have h2 : bt (l.map p) k = p l[k] := by unfold bt; rw [List.getD_eq_getElem?_getD, List.getElem?_map, h1]; rfl
    simp only [rk]
    rw [ih (by omega), h2, List.take_add_one, h1, List.filter_append, List.length_append]
    by_cases hp : p l[k] = true
    · simp [hp]
    · simp [hp]
theorem filter_at {α : Type} (p : α → Bool) {l : List α} {k : Nat} {a : α} (h : l[k]? = some a) (hp : p a = true) : (l.filter p)[((l.take k).filter p).length]? = some a := by
  have hk := (List.getElem?_eq_some_iff.1 h)
  have e : l = l.take k ++ a :: l.drop (k + 1) := by rw [← hk.2, ← List.drop_eq_getElem_cons hk.1, List.take_append_drop]
  conv => lhs; arg 1; rw [e]
  rw [List.filter_append, List.getElem?_append_right (Nat.le_refl _), Nat.sub_self, List.filter_cons_of_pos hp]
  rfl
theorem nums_at {L : List Str} {k : Nat} (h : k < (Gs L).length) (hs : isS L (gd L k) = true) : (nums L)[rk (ends L) true k]? = some (gd L k).f := by
  unfold nums ends
  rw [rk_map _ _ _ (Nat.le_of_lt h), List.getElem?_map, filter_at _ (gd_get h) hs]; rfl
theorem nums_mem {L : List Str} (hL : Ok L) (i : Nat) : i ∈ nums L ↔ i < L.length := by
  unfold nums
  rw [List.mem_map]
  constructor
  · rintro ⟨g, h1, rfl⟩
    rw [List.mem_filter] at h1
    have := (isS_iff.1 h1.2).1
    have := (node_of hL h1.1).tm
    omega
  · intro h
    obtain ⟨k, h1, h2, h3⟩ := ndx_ex hL h
    exact ⟨gd L k, List.mem_filter.2 ⟨gd_mem h1, h3⟩, h2⟩
theorem nums_nodup {L : List Str} (hL : Ok L) : (nums L).Nodup := by
  unfold nums
  rw [List.Nodup, List.pairwise_map, List.pairwise_filter]
  refine List.pairwise_iff_getElem.2 fun i j hi hj hij h1 h2 e => ?_
  have e1 := (List.getElem?_eq_some_iff.1 (gd_get hi)).2
  have e2 := (List.getElem?_eq_some_iff.1 (gd_get hj)).2
  rw [e1] at h1 e
  rw [e2] at h2 e
  have := ndx_uniq hL hi hj h1 h2 e
  omega
theorem nums_len {L : List Str} (hL : Ok L) : (nums L).length = L.length := by
  have h := (List.perm_ext_iff_of_nodup (nums_nodup hL) (List.nodup_range (n := L.length))).2 fun a => by rw [nums_mem hL, List.mem_range]
  rw [h.length_eq, List.length_range]
/-- The node of string i. -/
def ndx (L : List Str) (i : Nat) : Nat := (nodeOf L (sg L i)).getD 0
theorem ndx_is {L : List Str} (hL : Ok L) {i : Nat} (hi : i < L.length) : ndx L i < (Gs L).length ∧ (gd L (ndx L i)).f = i ∧ isS L (gd L (ndx L i)) = true ∧ pre L (ndx L i) = sg L i := by
  obtain ⟨k, h1, h2, h3⟩ := ndx_ex hL hi
  have h4 : nodeOf L (sg L i) = some k := (nodeOf_some hL).2 ⟨h1, by rw [isS_pre h3, h2]⟩
  have h5 : ndx L i = k := by unfold ndx; rw [h4]; rfl
  rw [h5]
  exact ⟨h1, h2, h3, ((nodeOf_some hL).1 h4).2⟩
theorem ndx_eq {L : List Str} (hL : Ok L) {i k : Nat} (hi : i < L.length) (hk : k < (Gs L).length) : ndx L i = k ↔ isS L (gd L k) = true ∧ (gd L k).f = i := by
  obtain ⟨h1, h2, h3, h4⟩ := ndx_is hL hi
  constructor
  · rintro rfl; exact ⟨h3, h2⟩
  · rintro ⟨h5, h6⟩; exact ndx_uniq hL h1 hk h3 h5 (by rw [h2, h6])
def nods (L : List Str) : List Nat := (List.range L.length).map (ndx L)
theorem nods_len (L : List Str) : (nods L).length = L.length := by simp [nods]
theorem nods_get {L : List Str} {i : Nat} (h : i < L.length) : (nods L)[i]? = some (ndx L i) := by
  unfold nods; rw [List.getElem?_map, List.getElem?_range h]; rfl

/-! ### the children of a node, one after the other -/
theorem kid_cut {L : List Str} (hL : Ok L) {g : Grp} (hg : Node L g) {a : Nat} (h1 : g.f ≤ a) (h2 : a < g.t) (hs : st L (g.n + 1) a = true) :
    en L (g.n + 1) a ≤ g.t ∧ (en L (g.n + 1) a = g.t ∨ st L (g.n + 1) (en L (g.n + 1) a) = true) := by
  have hm := hg.tm
  have h3 : en L (g.n + 1) a ≤ g.t := by
    rcases hg.top with h | h
    · rw [h]; exact en_le _ _ _ (by omega)
    · rcases Nat.lt_or_ge g.t (en L (g.n + 1) a) with h4 | h4
      · have := en_in (L := L) (n := g.n + 1) h2 h4; omega
      · exact h4
  refine ⟨h3, ?_⟩
  by_cases h4 : en L (g.n + 1) a = g.t
  · exact .inl h4
  · right
    have h5 := en_gt L (g.n + 1) a
    have h6 := hg.run (en L (g.n + 1) a) (by omega) (by omega)
    have h7 : lc L (en L (g.n + 1) a) < g.n + 1 := by
      rcases en_end (L := L) (n := g.n + 1) (i := a) (by omega) with h | h
      · omega
      · exact h
    have h8 := hL.lc_lt (i := en L (g.n + 1) a) (by omega) (by omega)
    exact st_iff.2 ⟨by omega, .inr h7⟩
theorem kid_more {L : List Str} (hL : Ok L) {g : Grp} (hg : Node L g) {a : Nat} (h1 : g.f ≤ a) (h2 : a < g.t) (hs : st L (g.n + 1) a = true) :
    kidI L (g.n + 1) a g.t = a :: kidI L (g.n + 1) (en L (g.n + 1) a) g.t := kidI_step hs h2 (kid_cut hL hg h1 h2 hs).1
theorem kid_end (L : List Str) (n t : Nat) : kidI L n t t = [] := by unfold kidI; rw [Nat.sub_self]; rfl
/-- Where the children begin: behind the string that the node is, if it is one. -/
theorem kid_first {L : List Str} (hL : Ok L) {g : Grp} (hg : Node L g) (hs : isS L g = false) : g.f = g.t ∨ st L (g.n + 1) g.f = true := by
  by_cases h : g.f = g.t
  · exact .inl h
  · right
    have h1 : g.f < g.t := by have := hg.ft; omega
    have h2 : ln L g.f ≠ g.n := fun e => by rw [isS_iff.2 ⟨h1, e⟩] at hs; cases hs
    have h3 := hg.n_le
    exact st_iff.2 ⟨by omega, by rcases hg.bot with h | h; exact .inl h; exact .inr (by omega)⟩
theorem kid_second {L : List Str} (hL : Ok L) {g : Grp} (hg : Node L g) (hs : isS L g = true) : kidI L (g.n + 1) g.f g.t = kidI L (g.n + 1) (g.f + 1) g.t ∧ (g.f + 1 = g.t ∨ st L (g.n + 1) (g.f + 1) = true) := by
  obtain ⟨h1, h2⟩ := isS_iff.1 hs
  have h3 : st L (g.n + 1) g.f = false := by
    cases h : st L (g.n + 1) g.f with
    | false => rfl
    | true => have := (st_iff.1 h).1; omega
  refine ⟨?_, ?_⟩
  · unfold kidI
    rw [range'_head h1, List.filter_cons_of_neg (by rw [h3]; decide)]
  · by_cases h : g.f + 1 = g.t
    · exact .inl h
    · right
      have hm := hg.tm
      have h4 := hg.run (g.f + 1) (by omega) (by omega)
      have h5 := lc_le_left L g.f
      have h6 := hL.lc_lt (i := g.f + 1) (by omega) (by omega)
      exact st_iff.2 ⟨by omega, .inr (by omega)⟩
theorem kid_last {L : List Str} (hL : Ok L) {g : Grp} (hg : Node L g) : ∀ d a, g.t - a ≤ d → g.f ≤ a → a < g.t → st L (g.n + 1) a = true → ∃ x, (kidI L (g.n + 1) a g.t).getLast? = some x ∧ en L (g.n + 1) x = g.t := by
  intro d
  induction d with
  | zero => intro a h1 h2 h3; omega
  | succ d ih =>
    intro a h1 h2 h3 h4
    have h5 := en_gt L (g.n + 1) a
    obtain ⟨h6, h7⟩ := kid_cut hL hg h2 h3 h4
    rw [kid_more hL hg h2 h3 h4]
    by_cases h8 : en L (g.n + 1) a = g.t
    · exact ⟨a, by rw [h8, kid_end]; rfl, h8⟩
    · rcases h7 with h | h
      · exact absurd h h8
      · obtain ⟨x, h9, h10⟩ := ih (en L (g.n + 1) a) (by omega) (by omega) (by omega) h
        refine ⟨x, ?_, h10⟩
        rw [List.getLast?_cons, h9]; rfl
theorem deg_kid {L : List Str} (k : Nat) : deg L k = (kidI L ((gd L k).n + 1) (gd L k).f (gd L k).t).length := by unfold deg kids; rw [List.length_map]
/-- The first child of a node that is no string begins where the node does. -/
theorem down_first {L : List Str} (hL : Ok L) {k : Nat} (hk : k < (Gs L).length) (hf : (gd L k).f < (gd L k).t) (hs : isS L (gd L k) = false) : 0 < deg L k ∧ (gd L (off L k)).f = (gd L k).f := by
  have hg := node_at hL hk
  rcases kid_first hL hg hs with h | h
  · omega
  · have h1 := kid_more hL hg (Nat.le_refl _) hf h
    have h2 : 0 < deg L k := by rw [deg_kid, h1]; simp
    refine ⟨h2, ?_⟩
    have h3 := (kid_at hL hk h2).2
    rw [Nat.add_zero] at h3
    rw [h3]
    unfold kid kids
    rw [h1]; rfl
/-- The last child ends where the node does; without children a node is one string. -/
theorem down_last {L : List Str} (hL : Ok L) {k : Nat} (hk : k < (Gs L).length) (hf : (gd L k).f < (gd L k).t) :
    (0 < deg L k → (gd L (off L k + (deg L k - 1))).t = (gd L k).t) ∧ (deg L k = 0 → isS L (gd L k) = true ∧ (gd L k).t = (gd L k).f + 1) := by
  have hg := node_at hL hk
  refine ⟨fun h => ?_, fun h => ?_⟩
  · have e : ∃ a, (gd L k).f ≤ a ∧ a < (gd L k).t ∧ st L ((gd L k).n + 1) a = true ∧ kidI L ((gd L k).n + 1) (gd L k).f (gd L k).t = kidI L ((gd L k).n + 1) a (gd L k).t := by
      cases hs : isS L (gd L k) with
      | false =>
        rcases kid_first hL hg hs with h1 | h1
        · omega
        · exact ⟨_, Nat.le_refl _, hf, h1, rfl⟩
      | true =>
        obtain ⟨h1, h2⟩ := kid_second hL hg hs
        rcases h2 with h2 | h2
        · rw [deg_kid, h1, h2, kid_end] at h; simp at h
        · have h3 : (gd L k).f + 1 < (gd L k).t := by
            rcases Nat.lt_or_ge ((gd L k).f + 1) (gd L k).t with h4 | h4
            · exact h4
            · rw [deg_kid, h1, show (gd L k).f + 1 = (gd L k).t by omega, kid_end] at h; simp at h
          exact ⟨_, by omega, h3, h2, h1⟩
    obtain ⟨a, h1, h2, h3, h4⟩ := e
    obtain ⟨x, h5, h6⟩ := kid_last hL hg _ a (Nat.le_refl _) h1 h2 h3
    rw [← h4, List.getLast?_eq_getElem?] at h5
    have h7 : (kids L (gd L k))[deg L k - 1]? = some (gr L ((gd L k).n + 1) x) := by
      rw [deg_kid]
      unfold kids
      rw [List.getElem?_map, h5]; rfl
    rw [(kid_at hL hk (show deg L k - 1 < deg L k by omega)).2]
    have h8 := kid_get (L := L) (k := k) (t := deg L k - 1) (by omega)
    rw [h7] at h8
    rw [← Option.some.inj h8]
    exact h6
  · rw [deg_kid] at h
    have h0 := List.eq_nil_of_length_eq_zero h
    cases hs : isS L (gd L k) with
    | false =>
      rcases kid_first hL hg hs with h1 | h1
      · omega
      · rw [kid_more hL hg (Nat.le_refl _) hf h1] at h0; cases h0
    | true =>
      refine ⟨rfl, ?_⟩
      obtain ⟨h1, h2⟩ := kid_second hL hg hs
      rcases Nat.lt_or_ge ((gd L k).f + 1) (gd L k).t with h3 | h3
      · rcases h2 with h2 | h2
        · omega
        · rw [h1, kid_more hL hg (by omega) h3 h2] at h0; cases h0
      · omega
/-- How the beginning of a run goes on: which strings have the same next byte. -/
theorem byte_same {L : List Str} (hL : Ok L) {g : Grp} (hg : Node L g) {a x : Nat} (h1 : g.f ≤ a) (h2 : a < x) (h3 : x < g.t) (ha : g.n < ln L a) :
    g.n < ln L x ∧ ((sg L x).getD g.n 0 = (sg L a).getD g.n 0 ↔ g.n + 1 ≤ lcp (sg L a) (sg L x)) := by
  have hm := hg.tm
  have h4 := hg.run x (by omega) h3
  have h5 := hL.lc_lt (i := x) (by omega) (by omega)
  have h6 : g.n < ln L x := by omega
  refine ⟨h6, ?_⟩
  have k1 := (lcp_le _ _ _).1 (hg.same a h1 (by omega))
  have k2 := (lcp_le _ _ _).1 (hg.same x (by omega) h3)
  unfold ln at ha h6
  rw [lcp_le, take_snoc _ _ ha, take_snoc _ _ h6, ← k1.2.2, ← k2.2.2]
  constructor
  · intro e; exact ⟨ha, h6, by rw [e]⟩
  · rintro ⟨_, _, e⟩
    have := List.append_cancel_left e
    simpa using this.symm
theorem run_end {L : List Str} (hL : Ok L) {g : Grp} (hg : Node L g) {a x : Nat} (h1 : g.f ≤ a) (h2 : a < x) (h3 : x ≤ g.t) (hs : st L (g.n + 1) a = true) (hb : ∀ y, a < y → y < x → (sg L y).getD g.n 0 = (sg L a).getD g.n 0)
    (he : x = g.t ∨ (sg L x).getD g.n 0 ≠ (sg L a).getD g.n 0) : en L (g.n + 1) a = x := by
  have hm := hg.tm
  have ha : g.n < ln L a := (st_iff.1 hs).1
  have hin : ∀ y, a < y → y < x → g.n + 1 ≤ lcp (sg L a) (sg L y) := fun y k1 k2 => (byte_same hL hg h1 k1 (by omega) ha).2.1 (hb y k1 k2)
  refine en_eq h2 (by omega) (fun y k1 k2 => ?_) ?_
  · exact hL.run (by omega) (hin y k1 k2) y k1 (Nat.le_refl _)
  · by_cases e : x = g.t
    · subst e
      rcases hg.top with h | h
      · exact .inl h
      · exact .inr (by omega)
    · right
      rcases he with h | h
      · exact absurd h e
      · have k1 := byte_same hL hg h1 h2 (by omega) ha
        rcases Nat.lt_or_ge (lc L x) (g.n + 1) with k2 | k2
        · exact k2
        · exfalso
          apply h
          apply k1.2.2
          have k3 := lcp_run (L := L) (n := g.n + 1) (i := a) (x - a) ha fun e k4 k5 => by
            by_cases k6 : e = x
            · rw [k6]; exact k2
            · exact hL.run (by omega) (hin e k4 (by omega)) e k4 (Nat.le_refl _)
          rwa [show a + (x - a) = x by omega] at k3
end Go.Proofs.Ytffljcfpofhkgaa.Lo
