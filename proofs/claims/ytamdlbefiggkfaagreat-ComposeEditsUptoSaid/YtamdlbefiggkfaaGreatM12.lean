/-
  Joined texts: RomLm, RomLi, RomLa, RomDa, RomDt, RomDm, RomDc, RomSl, RomDs.
-/
import Derived.Test.YtamdlbefiggkfaaGreatM11
import Derived.Lib.Bytealg
import Derived.Shelf.SlLaysF0
import Derived.Test.YtamdlbefiggkfaaGreatProg
import Derived.Shelf.SlSortCmp.WholeK
set_option linter.unusedVariables false
set_option linter.unusedSimpArgs false
set_option maxRecDepth 100000
namespace Go.Proofs.YtamdlbefiggkfaaGreat.Rom
open Go Go.RowKit Go.Proofs.YtamdlbefiggkfaaGreat.Kit Go.Proofs.YtamdlbefiggkfaaGreat.Utf

/-- The bytes of lines, each with the byte behind it. -/
def tl (ps : List (List UInt8)) : Nat := (ps.map fun p => p.length + 1).sum
theorem tl_app (a b : List (List UInt8)) : tl (a ++ b) = tl a + tl b := by simp [tl]
theorem tl_one (p : List UInt8) : tl [p] = p.length + 1 := by simp [tl]
theorem tl_cons (p : List UInt8) (ps : List (List UInt8)) : tl (p :: ps) = p.length + 1 + tl ps := by simp [tl]
theorem jn_tl (c : UInt8) : ∀ {ps : List (List UInt8)}, ps ≠ [] → (jn c ps).length + 1 = tl ps := by
  intro ps
  induction ps with
  | nil => intro h; exact absurd rfl h
  | cons p ps ih =>
    intro _
    by_cases h : ps = []
    · subst h; rw [tl_one]; rfl
    · rw [jn_cons c p h, tl_cons, ← ih h]
      simp only [List.length_append, List.length_cons]
      omega
theorem jn_le (c : UInt8) (ps : List (List UInt8)) : (jn c ps).length ≤ tl ps := by
  by_cases h : ps = []
  · subst h; exact Nat.zero_le _
  · have := jn_tl c h; omega
theorem tl_take (ps : List (List UInt8)) (k : Nat) : tl (ps.take k) ≤ tl ps := by
  have := tl_app (ps.take k) (ps.drop k)
  rw [List.take_append_drop] at this
  omega
theorem tl_getD (ps : List (List UInt8)) (k : Nat) : (ps.getD k []).length ≤ tl ps := by
  by_cases h : k < ps.length
  · have h1 : ps.getD k [] = ps[k] := by rw [List.getD_eq_getElem?_getD, List.getElem?_eq_getElem h]; rfl
    have h2 := List.take_append_drop k ps
    have h3 := tl_app (ps.take k) (ps.drop k)
    rw [h2, List.drop_eq_getElem_cons h, tl_cons] at h3
    rw [h1]; omega
  · rw [List.getD_eq_getElem?_getD, List.getElem?_eq_none (by omega)]
    exact Nat.zero_le _
theorem jn_snoc (c : UInt8) (p : List UInt8) : ∀ {ps : List (List UInt8)}, ps ≠ [] → jn c (ps ++ [p]) = jn c ps ++ c :: p := by
  intro ps
  induction ps with
  | nil => intro h; exact absurd rfl h
  | cons q ps ih =>
    intro _
    by_cases h : ps = []
    · subst h; rfl
    · show jn c (q :: (ps ++ [p])) = _
      rw [jn_cons c q (by simp), ih h, jn_cons c q h, List.append_assoc]
      rfl
theorem take_succ_p {ps : List (List UInt8)} {k : Nat} (h : k < ps.length) : ps.take (k + 1) = ps.take k ++ [ps.getD k []] := by
  rw [List.take_add_one, List.getElem?_eq_getElem h, List.getD_eq_getElem?_getD, List.getElem?_eq_getElem h]; rfl
theorem jn_first {ps : List (List UInt8)} (h : 0 < ps.length) : jn 10 (ps.take 1) = ps.getD 0 [] := by
  rw [take_succ_p (k := 0) h]; rfl
theorem jn_more {ps : List (List UInt8)} {k : Nat} (h : k < ps.length) (h0 : 0 < k) : jn 10 (ps.take (k + 1)) = jn 10 (ps.take k) ++ 10 :: ps.getD k [] := by
  rw [take_succ_p h, jn_snoc]
  intro e
  have := congrArg List.length e
  rw [List.length_take, List.length_nil] at this
  omega

/-! ### lines that are read from a later number on -/
theorem fold_shift : ∀ (ls : List (List UInt8)) (acc : List Rule) (i : Nat), (foldP acc i ls).2.1 = 0 ∧ foldP acc (i + 1) ls = foldP acc i ls ∨ i < (foldP acc i ls).2.1 ∧ foldP acc (i + 1) ls = ((foldP acc i ls).1, (foldP acc i ls).2.1 + 1, (foldP acc i ls).2.2) := by
  intro ls
  induction ls with
  | nil => intro acc i; exact .inl ⟨rfl, rfl⟩
  | cons l ls ih =>
    intro acc i
    cases hst : stepP acc l with
    | none => rw [fold_none hst, fold_none hst]; right; exact ⟨Nat.lt_succ_self _, rfl⟩
    | some acc' =>
      rw [fold_some hst, fold_some hst]
      rcases ih acc' (i + 1) with ⟨h1, h2⟩ | ⟨h1, h2⟩
      · exact .inl ⟨h1, h2⟩
      · exact .inr ⟨by omega, h2⟩
/-- A skipped line more. -/
theorem fold_insert {x : List UInt8} (hx : skips x = true) (l2 : List (List UInt8)) : ∀ (l1 : List (List UInt8)) (acc : List Rule) (i : Nat),
    foldP acc i (l1 ++ x :: l2) = ((foldP acc i (l1 ++ l2)).1, (if i + l1.length < (foldP acc i (l1 ++ l2)).2.1 then (foldP acc i (l1 ++ l2)).2.1 + 1 else (foldP acc i (l1 ++ l2)).2.1), (foldP acc i (l1 ++ l2)).2.2) := by
  intro l1
  induction l1 with
  | nil =>
    intro acc i
    show foldP acc i (x :: l2) = _
    rw [fold_skip hx, List.nil_append, List.length_nil, Nat.add_zero]
    rcases fold_shift l2 acc i with ⟨h1, h2⟩ | ⟨h1, h2⟩
    · rw [h2, if_neg (by omega)]
    · rw [h2, if_pos (by omega)]
  | cons l l1 ih =>
    intro acc i
    show foldP acc i (l :: (l1 ++ x :: l2)) = _
    rw [List.cons_append]
    cases hst : stepP acc l with
    | none => rw [fold_none hst, fold_none hst, if_neg (by simp)]
    | some acc' =>
      rw [fold_some hst, fold_some hst, ih acc' (i + 1)]
      simp only [List.length_cons]
      rw [show i + 1 + l1.length = i + (l1.length + 1) by omega]
theorem fold_grows : ∀ (ls : List (List UInt8)) (acc : List Rule) (i : Nat), (foldP acc i ls).2.2 = 0 → (foldP acc i ls).2.1 = 0 ∧ ∃ t, (foldP acc i ls).1 = acc ++ t := by
  intro ls
  induction ls with
  | nil => intro acc i _; exact ⟨rfl, [], (List.append_nil _).symm⟩
  | cons l ls ih =>
    intro acc i h
    cases hst : stepP acc l with
    | none => rw [fold_none hst] at h; cases h
    | some acc' =>
      rw [fold_some hst] at h ⊢
      obtain ⟨h1, t, ht⟩ := ih acc' (i + 1) h
      refine ⟨h1, ?_⟩
      unfold stepP at hst
      split at hst
      · cases hst; exact ⟨t, ht⟩
      · split at hst
        · split at hst
          · cases hst; exact ⟨_ :: t, by rw [ht, List.append_assoc]; rfl⟩
          · cases hst
        · cases hst
/-- A beginning of what is accepted. -/
theorem fold_prefix (l2 : List (List UInt8)) : ∀ (l1 : List (List UInt8)) (acc : List Rule) (i : Nat), (foldP acc i (l1 ++ l2)).2.2 = 0 →
    ∃ c t, foldP acc i l1 = (c, 0, 0) ∧ (foldP acc i (l1 ++ l2)).1 = c ++ t := by
  intro l1
  induction l1 with
  | nil =>
    intro acc i h
    obtain ⟨_, t, ht⟩ := fold_grows l2 acc i h
    exact ⟨acc, t, rfl, ht⟩
  | cons l l1 ih =>
    intro acc i h
    rw [List.cons_append] at h ⊢
    cases hst : stepP acc l with
    | none => rw [fold_none hst] at h; cases h
    | some acc' =>
      rw [fold_some hst] at h ⊢
      rw [fold_some hst]
      exact ih acc' (i + 1) h

/-- What is read of joined lines. -/
theorem parse_joined {ps : List (List UInt8)} (hf : ∀ p ∈ ps, (10 : UInt8) ∉ p) (hl : tl ps ≤ 1048576) : parseL (ba (jn 10 ps)) = foldP [] 0 ps := by
  have h := jn_le 10 ps
  unfold parseL
  rw [if_neg (by rw [ba_size]; omega), bs_ba]
  by_cases h0 : ps = []
  · subst h0
    show foldP [] 0 [[]] = _
    rw [fold_skip rfl]
    rfl
  · rw [pc_jn h0 hf]
theorem parse_lines (s : ByteArray) (hs : s.size ≤ 5000) : parseL s = foldP [] 0 (pc 10 (bs s)) := by
  unfold parseL
  rw [if_neg (by omega)]
theorem tl_lines (s : ByteArray) : tl (pc 10 (bs s)) = s.size + 1 := by
  rw [← jn_tl 10 (pc_ne 10 (bs s)), jn_pc, bs_len]

end Go.Proofs.YtamdlbefiggkfaaGreat.Rom

set_option linter.unusedVariables false
set_option linter.unusedSimpArgs false
set_option maxRecDepth 100000
namespace Go.Proofs.YtamdlbefiggkfaaGreat.Rom
open Go Go.RowKit Go.Shelf Go.Proofs.YtamdlbefiggkfaaGreat.Kit Go.Proofs.YtamdlbefiggkfaaGreat.Utf

theorem reads_at {w : World} {a : Option Addr} {n cap : Nat} {ps : List (List UInt8)} (h : Reads w (.slice a n cap) (pcells ps)) (h0 : 0 < ps.length) :
    ∃ b off, a = some ⟨b, off, none⟩ ∧ b < w.heap.size ∧ ∀ k, k < ps.length → w.cell? ⟨b, off + k, none⟩ = some (.string (ba (ps.getD k []))) := by
  obtain ⟨a, len, cap, e, h1, h2, h3, h4⟩ := h
  cases e
  rw [pcells_len] at h1
  rcases h4 with ⟨rfl, hl, _⟩ | ⟨x, rfl, hl⟩ | ⟨b, off, rfl, hlt, hx⟩
  · omega
  · omega
  · refine ⟨b, off, rfl, hlt, fun k hk => hx k _ ?_⟩
    unfold pcells
    rw [List.getElem?_map, List.getD_eq_getElem?_getD, List.getElem?_eq_getElem hk]
    rfl

end Go.Proofs.YtamdlbefiggkfaaGreat.Rom

set_option linter.unusedVariables false
set_option linter.unusedSimpArgs false
set_option maxRecDepth 100000
namespace Go.Proofs.YtamdlbefiggkfaaGreat.Rom
open Go Go.RowKit Go.Proofs.YtamdlbefiggkfaaGreat.Kit Go.Proofs.YtamdlbefiggkfaaGreat.Utf

theorem pcells_oneCell (ps : List (List UInt8)) : ∀ u ∈ pcells ps, u.oneCell' = true := by
  intro u hu
  unfold pcells at hu
  obtain ⟨p, _, rfl⟩ := List.mem_map.1 hu
  rfl
theorem run_append_str (w : World) (base : Nat) (v : Value) (n : Nat) (xs : List Value) (hown : w.ownsRow base 9 1 v n xs) (x : Value) (ps : List (List UInt8)) (hR : Reads w x (pcells ps)) (h63 : n + ps.length ≤ 1000000) (hbase : base ≤ w.heap.size) (ty : TypeId) :
    ∃ v' w', (Builtin.append_ #[113, 113] ty #[v, x]).run Tryz.prog w = .ok v' w' ∧ w'.ownsRow base 9 1 v' (n + ps.length) (xs ++ pcells ps) ∧ w.grownBy w' v.ownBlock := by
  obtain ⟨i0, hi0, hz0, hz1, hz2⟩ := info_parts info_str2
  obtain ⟨a, len, cap, rfl, hl, hc, hm, h⟩ := hR
  rw [pcells_len] at hl
  subst hl
  have h64 : n + ps.length ≤ maxLen := by unfold maxLen; omega
  rcases h with ⟨rfl, h0, hc0⟩ | ⟨x, rfl, h0⟩ | ⟨b, off, rfl, hlt, hx⟩
  · have e : ps = [] := List.eq_nil_of_length_eq_zero h0
    subst e
    subst hc0
    exact ⟨v, w, run_append_owned_none (P := Tryz.prog) w base _ _ _ i0 1 Tryz.underlying113 hi0 v n xs hown, by simpa [pcells] using hown, World.grownBy.refl _ _⟩
  · have e : ps = [] := List.eq_nil_of_length_eq_zero h0
    subst e
    obtain ⟨v', w', hr, h2, h3, _⟩ := run_append_own_at (P := Tryz.prog) w base 113 ty 9 i0 _ 1 16 Tryz.underlying113 hi0 hz0 hz1 hz2 rfl (by omega) v n xs hown x 0 cap [] rfl (by simp) (by simp) h64 (by simp at h63 ⊢; omega) hbase
    exact ⟨v', w', hr, h2, h3⟩
  · obtain ⟨v', w', hr, h2, h3, _⟩ := run_append_own_at (P := Tryz.prog) w base 113 ty 9 i0 _ 1 16 Tryz.underlying113 hi0 hz0 hz1 hz2 rfl (by omega) v n xs hown ⟨b, off, none⟩ ps.length cap (pcells ps) (by rw [pcells_len, Nat.mul_one]) (fun j u hu => by rw [Addr.add_lit]; exact hx j u hu) (pcells_oneCell ps) h64 (by omega) hbase
    exact ⟨v', w', hr, h2, h3⟩

/-- append(v, x...) at a step of a region that draws its order. -/
theorem step_append_str (w : World) {ops : Array Oper} {o : Oper} {a : Act} {K : Act → World → Prop} {Q : Exit → Act → World → Prop} {E : Prop} (hgd : o.guard = none) (s x : Operand)
    (ho : o.op = .call { callee := .builtin .append, args := #[s, x], argTypes := #[113, 113] })
    (base : Nat) (v : Value) (n : Nat) (xs : List Value) (hs : a.eval s = v) (hown : w.ownsRow base 9 1 v n xs)
    (y : Value) (ps : List (List UInt8)) (hx : a.eval x = y) (hR : Reads w y (pcells ps)) (h63 : n + ps.length ≤ 1000000) (hbase : base ≤ w.heap.size)
    (h : ∀ v' w', w'.ownsRow base 9 1 v' (n + ps.length) (xs ++ pcells ps) → w.grownBy w' v.ownBlock → K (a.put o.dst v') w') :
    if Region.wanted o (yielded ops a.tmps) = true then Oper.wp Tryz.prog o a w K Q else E := by
  have hw : Region.wanted o (yielded ops a.tmps) = true := by simp [Region.wanted, hgd]
  rw [if_pos hw]
  obtain ⟨v', w', hr, h2, h3⟩ := run_append_str w base v n xs hown y ps hR h63 hbase o.type
  unfold Oper.wp execOp
  simp only [ho, resolve, invoke, builtin, Sem.run_bind, Sem.run_pure, Result.andThen_ok, List.map_toArray, List.map_cons, List.map_nil, hs, hx, hr]
  exact h v' w' h2 h3

theorem str_upto {w : World} {g n cap k : Nat} {ps : List (List UInt8)} (hR : Reads w (.slice (some ⟨g, 0, none⟩) n cap) (pcells ps)) (hk : k < n) :
    ∃ x, (∀ W, (Instr.sliceAt 113 (.slice (some ⟨g, 0, none⟩) n cap) none (some (.int .i64 k)) none).run Tryz.prog W = .ok x W) ∧ Reads w x (pcells (ps.take k)) := by
  obtain ⟨hn, hc, hm⟩ := hR.len
  refine ⟨.slice (some ⟨g, 0, none⟩) k cap, ?_, ?_⟩
  · intro W
    have k2 : (k : Int) ≤ cap := by omega
    have k4 : ¬ 0 = cap := by omega
    have k5 : ¬ cap = 0 := by omega
    have u := Tryz.underlying113
    go_simp
  · have h := reads_cut (i := 0) (j := k) hR (Nat.zero_le _) (by omega)
    simp only [Option.map_some, Addr.add_lit, Nat.zero_add, Nat.sub_zero, List.drop_zero] at h
    unfold pcells at *
    rw [List.map_take]
    exact h
theorem str_on {w : World} {g n cap k : Nat} {ps : List (List UInt8)} (hR : Reads w (.slice (some ⟨g, 0, none⟩) n cap) (pcells ps)) (hk : k < n) :
    ∃ x, (∀ W, (Instr.sliceAt 113 (.slice (some ⟨g, 0, none⟩) n cap) (some (.int .i64 k)) none none).run Tryz.prog W = .ok x W) ∧ Reads w x (pcells (ps.drop k)) := by
  obtain ⟨hn, hc, hm⟩ := hR.len
  refine ⟨.slice (some ⟨g, k, none⟩) (n - k) (cap - k), ?_, ?_⟩
  · intro W
    have k2 : (k : Int) ≤ n := by omega
    have k3 : (n : Int) ≤ cap := by omega
    have k5 : ¬ cap = k := by omega
    have u := Tryz.underlying113
    go_simp
    try (intro hh; exfalso; omega)
  · have h := reads_cut (i := k) (j := n) hR (by omega) (Nat.le_refl _)
    simp only [Option.map_some, Addr.add_lit, Nat.zero_add] at h
    rw [List.take_of_length_le (by omega)] at h
    unfold pcells at *
    rw [List.map_drop]
    exact h

/-- A block of one string that was laid, in a later world. -/
theorem reads_one {w : World} {b : Nat} {p : List UInt8} {t : TypeId} (h : w.heap[b]? = some (.cells #[.string (ba p)] t (0, 0))) : Reads w (.slice (some ⟨b, 0, none⟩) 1 1) (pcells [p]) := by
  refine ⟨_, 1, 1, rfl, rfl, Nat.le_refl _, by simp [maxLen], .inr (.inr ⟨b, 0, rfl, (Array.getElem?_eq_some_iff.1 h).1, fun i x hx => ?_⟩)⟩
  rw [Nat.zero_add, cell_of_row w b i _ _ (0, 0) h]
  rw [← Array.getElem?_toList]
  exact hx
theorem own_empty3 (w : World) (e : TypeId) (base B size : Nat) (hB : B = w.heap.size) (hb : base ≤ w.heap.size) : (w.alloc (.cells #[] e)).ownsRow base e size (.slice (some ⟨B, 0, none⟩) 0 0) 0 [] := own_empty w e base B size hB hb
theorem below_al {a w : World} (h : Below a.heap.size a w) (o : Obj) : Below a.heap.size a (w.alloc o) := h.alloc h.size o
theorem below_dw {a w : World} (h : Below a.heap.size a w) : Below a.heap.size a w.drew := h.drew
theorem heap_new_at (w : World) (o : Obj) (j : Nat) (hj : j = w.heap.size) : (w.alloc o).heap[j]? = some o := by rw [hj]; exact heap_alloc_new w o
theorem keeps_drew {w : World} {j : Nat} {o : Obj} (h : w.heap[j]? = some o) : w.drew.heap[j]? = some o := h
theorem keeps_alloc {w : World} {j : Nat} {o o' : Obj} (h : w.heap[j]? = some o) : (w.alloc o').heap[j]? = some o := by
  have hlt : j < w.heap.size := (Array.getElem?_eq_some_iff.1 h).1
  show (w.heap.push o')[j]? = some o
  rw [Array.getElem?_push, if_neg (by omega)]
  exact h
theorem grown_keeps {w w' : World} {row : Option Nat} (hg : w.grownBy w' row) {j : Nat} {o : Obj} (h : w.heap[j]? = some o) (hne : some j ≠ row) : w'.heap[j]? = some o := by
  rw [hg.block j (Array.getElem?_eq_some_iff.1 h).1 hne]
  exact h
theorem slice_upto_r {w : World} {a : Option Addr} {n cap k : Nat} {rs : List Rule} (hR : RowR w (.slice a n cap) rs) (hk : k ≤ n) :
    ∃ b, (∀ W, (Instr.sliceAt 22 (.slice a n cap) none (some (.int .i64 k)) none).run Tryz.prog W = .ok (.slice b k cap) W) ∧ RowR w (.slice b k cap) (rs.take k) := by
  refine ⟨a, ?_, hR.take hk⟩
  intro W
  obtain ⟨_, hc, hm⟩ := hR.len
  have k2 : (k : Int) ≤ cap := by omega
  have u := Tryz.underlying22
  obtain ⟨a', len', cap', e, h1, h2, h3, h4⟩ := hR
  cases e
  rcases h4 with ⟨rfl, hl, hc0⟩ | ⟨x, rfl, hl⟩ | ⟨b, off, rfl, hlt, hx⟩
  · have k0 : k = 0 := by omega
    subst k0
    subst hc0
    go_simp
  · go_simp
  · go_simp
theorem fold_le : ∀ (ls : List (List UInt8)) (acc : List Rule) (i : Nat), (foldP acc i ls).2.1 ≤ i + ls.length := by
  intro ls
  induction ls with
  | nil => intro acc i; exact Nat.zero_le _
  | cons l ls ih =>
    intro acc i
    simp only [List.length_cons]
    cases hst : stepP acc l with
    | none => rw [fold_none hst]; show i + 1 ≤ _; omega
    | some acc' => rw [fold_some hst]; have := ih acc' (i + 1); omega
/-- All that a text and its lines say. -/
theorem lines_say {L : List (List UInt8)} {ex : List UInt8} {k m : Nat} {s : ByteArray} (hs : skips ex = true) (hm : L.length = m) (hk : k < m) (htl : tl L = s.size + 1) (hsz : s.size ≤ 5000) (hexl : ex.length ≤ 5) (hexf : (10 : UInt8) ∉ ex) (hf : ∀ p ∈ L, (10 : UInt8) ∉ p)
    (hp : parseL s = foldP [] 0 L) (rs : List Rule) (n : Nat) (e : Int) (hr : parseL s = (rs, n, e)) :
    parseL (ba (jn 10 (L.take k ++ [ex] ++ L.drop k))) = (rs, (if k < n then n + 1 else n), e) ∧ tl (L.take k ++ [ex] ++ L.drop k) ≤ 6000 ∧ tl (L.take k) ≤ 6000 ∧ n ≤ m ∧
    (e = 0 → n = 0 ∧ ∃ c t, parseL (ba (jn 10 (L.take k))) = (c, 0, 0) ∧ rs = c ++ t) := by
  rw [hr] at hp
  have h0 : foldP [] 0 (L.take k ++ L.drop k) = (rs, n, e) := by rw [List.take_append_drop]; exact hp.symm
  have h1 : tl (L.take k ++ [ex] ++ L.drop k) ≤ 6000 := by
    have := tl_app (L.take k) (L.drop k)
    rw [List.take_append_drop] at this
    rw [tl_app, tl_app, tl_one]
    omega
  have h2 : tl (L.take k) ≤ 6000 := by have := tl_take L k; omega
  have hfm : ∀ p ∈ L.take k ++ [ex] ++ L.drop k, (10 : UInt8) ∉ p := fun p hp => by
    rcases List.mem_append.1 hp with hp | hp
    · rcases List.mem_append.1 hp with hp | hp
      · exact hf p (List.mem_of_mem_take hp)
      · rw [List.mem_singleton] at hp; rw [hp]; exact hexf
    · exact hf p (List.mem_of_mem_drop hp)
  refine ⟨?_, h1, h2, ?_, ?_⟩
  · rw [parse_joined hfm (by omega), List.append_assoc]
    show foldP [] 0 (L.take k ++ ex :: L.drop k) = _
    rw [fold_insert hs, h0, List.length_take, hm]
    simp only [Nat.zero_add]
    rw [show min k m = k by omega]
  · have := fold_le L [] 0
    rw [← hp] at this
    simp only at this
    omega
  · intro he
    subst he
    obtain ⟨c, t, hc, ht⟩ := fold_prefix (L.drop k) (L.take k) [] 0 (by rw [h0])
    refine ⟨?_, c, t, ?_, ?_⟩
    · have := (fold_grows (L.take k ++ L.drop k) [] 0 (by rw [h0])).1
      rw [h0] at this
      exact this
    · rw [parse_joined (fun p hp => hf p (List.mem_of_mem_take hp)) (by omega)]
      exact hc
    · rw [h0] at ht
      exact ht

end Go.Proofs.YtamdlbefiggkfaaGreat.Rom

set_option linter.unusedVariables false
set_option linter.unusedSimpArgs false
set_option maxRecDepth 100000
namespace Go.Proofs.YtamdlbefiggkfaaGreat.Rom
open Go Go.RowKit Go.Proofs.YtamdlbefiggkfaaGreat.Kit Go.Proofs.YtamdlbefiggkfaaGreat.Utf

/-- r put ahead of the first rule with greater keys. -/
def putL : List Rule → Rule → List Rule
  | [], r => [r]
  | x :: xs, r => if Op.bytesLess r.k.toList x.k.toList then r :: x :: xs else x :: putL xs r
theorem putL_len (r : Rule) : ∀ rs, (putL rs r).length = rs.length + 1 := by
  intro rs
  induction rs with
  | nil => rfl
  | cons x xs ih => unfold putL; split <;> simp [ih]
theorem drop_ri {rs : List Rule} {k : Nat} (h : k < rs.length) : rs.drop k = ri rs k :: rs.drop (k + 1) := by
  rw [List.drop_eq_getElem_cons h]
  congr 1
  unfold ri
  rw [List.getD_eq_getElem?_getD, List.getElem?_eq_getElem h]
  rfl

theorem own_at {w W2 : World} {n base : Nat} {e : TypeId} {size m : Nat} {v : Value} {xs : List Value} (h : w.drewN n = W2) (hown : w.ownsRow base e size v m xs) : W2.ownsRow base e size v m xs := by rw [← h]; exact hown
/-- Where the loop stands. -/
structure PutRel (rs : List Rule) (r : Rule) (w : World) (iv dv out : Value) (wr : World) : Prop where
  ex : ∃ (k : Nat) (d : Bool) (acc : List Rule), iv = .int .i64 k ∧ dv = .bool d ∧ k ≤ rs.length ∧ acc.length ≤ k + d.toNat ∧ wr.ownsRow (w.heap.size + 1) 90 3 out acc.length (rc acc) ∧ Below w.heap.size w wr ∧ w.heap.size + 1 ≤ wr.heap.size ∧
    wr.heap[w.heap.size]? = some (.cells #[.string r.k, .string r.o, .string r.n] 90 (0, 0)) ∧ Hid (putL rs r = acc ++ (if d then rs.drop k else putL (rs.drop k) r))

end Go.Proofs.YtamdlbefiggkfaaGreat.Rom

set_option linter.unusedVariables false
set_option linter.unusedSimpArgs false
set_option maxRecDepth 100000
namespace Go.Proofs.YtamdlbefiggkfaaGreat.Rom
open Go Go.RowKit Go.Proofs.YtamdlbefiggkfaaGreat.Kit Go.Proofs.YtamdlbefiggkfaaGreat.Utf

/-- The rows of the document's table: letters, and the kana of a, i, u, e, o. -/
def tabL : List (List UInt8 × List (List UInt8)) := [
  ([], [[227, 129, 130], [227, 129, 132], [227, 129, 134], [227, 129, 136], [227, 129, 138]]),
  ([107], [[227, 129, 139], [227, 129, 141], [227, 129, 143], [227, 129, 145], [227, 129, 147]]),
  ([115], [[227, 129, 149], [227, 129, 151], [227, 129, 153], [227, 129, 155], [227, 129, 157]]),
  ([115, 104], [[227, 129, 151, 227, 130, 131], [227, 129, 151], [227, 129, 151, 227, 130, 133], [227, 129, 151, 227, 129, 135], [227, 129, 151, 227, 130, 135]]),
  ([116], [[227, 129, 159], [227, 129, 161], [227, 129, 164], [227, 129, 166], [227, 129, 168]]),
  ([99, 104], [[227, 129, 161, 227, 130, 131], [227, 129, 161], [227, 129, 161, 227, 130, 133], [227, 129, 161, 227, 129, 135], [227, 129, 161, 227, 130, 135]]),
  ([116, 115], [[], [], [227, 129, 164], [], []]),
  ([110], [[227, 129, 170], [227, 129, 171], [227, 129, 172], [227, 129, 173], [227, 129, 174]]),
  ([104], [[227, 129, 175], [227, 129, 178], [227, 129, 181], [227, 129, 184], [227, 129, 187]]),
  ([102], [[227, 129, 181, 227, 129, 129], [227, 129, 181, 227, 129, 131], [227, 129, 181], [227, 129, 181, 227, 129, 135], [227, 129, 181, 227, 129, 137]]),
  ([109], [[227, 129, 190], [227, 129, 191], [227, 130, 128], [227, 130, 129], [227, 130, 130]]),
  ([121], [[227, 130, 132], [], [227, 130, 134], [], [227, 130, 136]]),
  ([114], [[227, 130, 137], [227, 130, 138], [227, 130, 139], [227, 130, 140], [227, 130, 141]]),
  ([119], [[227, 130, 143], [], [], [], [227, 130, 146]]),
  ([103], [[227, 129, 140], [227, 129, 142], [227, 129, 144], [227, 129, 146], [227, 129, 148]]),
  ([122], [[227, 129, 150], [227, 129, 152], [227, 129, 154], [227, 129, 156], [227, 129, 158]]),
  ([106], [[227, 129, 152, 227, 130, 131], [227, 129, 152], [227, 129, 152, 227, 130, 133], [227, 129, 152, 227, 129, 135], [227, 129, 152, 227, 130, 135]]),
  ([100], [[227, 129, 160], [227, 129, 162], [227, 129, 165], [227, 129, 167], [227, 129, 169]]),
  ([98], [[227, 129, 176], [227, 129, 179], [227, 129, 182], [227, 129, 185], [227, 129, 188]]),
  ([112], [[227, 129, 177], [227, 129, 180], [227, 129, 183], [227, 129, 186], [227, 129, 189]]),
  ([118], [[], [], [227, 130, 148], [], []]),
  ([120], [[227, 129, 129], [227, 129, 131], [227, 129, 133], [227, 129, 135], [227, 129, 137]]),
  ([120, 121], [[227, 130, 131], [], [227, 130, 133], [], [227, 130, 135]]),
  ([120, 116], [[], [], [227, 129, 163], [], []]),
  ([120, 116, 115], [[], [], [227, 129, 163], [], []])]
/-- The table as cells. -/
def tabC : List Value := tabL.flatMap fun r => Value.string (ba r.1) :: r.2.map fun k => Value.string (ba k)

set_option maxHeartbeats 8000000 in
theorem rows_any (w : World) :
    Calls Tryz.prog 52 #[] w fun e w' => ∃ cs t, e = .returned (.slice (some ⟨w.heap.size, 0, none⟩) 25 25) ∧ w' = w.alloc (.cells cs t) ∧ cs.toList = tabC := by
  go_enter Tryz.func52, Tryz.ntmps52
  go_wp2
  go_ret
  exact ⟨_, _, rfl, rfl, rfl⟩

end Go.Proofs.YtamdlbefiggkfaaGreat.Rom

set_option linter.unusedVariables false
set_option linter.unusedSimpArgs false
set_option maxRecDepth 100000
namespace Go.Proofs.YtamdlbefiggkfaaGreat.Rom
open Go Go.RowKit Go.Proofs.YtamdlbefiggkfaaGreat.Kit Go.Proofs.YtamdlbefiggkfaaGreat.Utf

/-! ### the order of keys -/
theorem bl_irrefl : ∀ x : List UInt8, Op.bytesLess x x = false
  | [] => rfl
  | a :: x => by
    rw [Op.bytesLess, bl_irrefl x]
    simp
theorem bl_step (a b : UInt8) (x y : List UInt8) : Op.bytesLess (a :: x) (b :: y) = (decide (a.toNat < b.toNat) || (decide (a.toNat = b.toNat) && Op.bytesLess x y)) := by
  rw [Op.bytesLess]
  congr 1
  congr 1
  rw [Bool.eq_iff_iff]
  simp only [beq_iff_eq, decide_eq_true_eq]
  exact ⟨fun h => by rw [h], fun h => UInt8.toNat_inj.1 h⟩
theorem bl_trans : ∀ x y z : List UInt8, Op.bytesLess x y = true → Op.bytesLess y z = true → Op.bytesLess x z = true
  | x, y, [], _, h => by cases y <;> simp [Op.bytesLess] at h
  | [], _, c :: z, _, _ => rfl
  | a :: x, [], c :: z, h, _ => by simp [Op.bytesLess] at h
  | a :: x, b :: y, c :: z, h1, h2 => by
    rw [bl_step] at *
    simp only [Bool.or_eq_true, Bool.and_eq_true, decide_eq_true_eq] at *
    rcases h1 with h1 | ⟨h1, h3⟩ <;> rcases h2 with h2 | ⟨h2, h4⟩
    · left; omega
    · left; omega
    · left; omega
    · right; exact ⟨by omega, bl_trans x y z h3 h4⟩
theorem bl_ntrans : ∀ x y z : List UInt8, Op.bytesLess x y = false → Op.bytesLess y z = false → Op.bytesLess x z = false
  | x, y, [], _, _ => by cases x <;> rfl
  | _, [], c :: z, _, h => by simp [Op.bytesLess] at h
  | [], b :: y, c :: z, h, _ => by simp [Op.bytesLess] at h
  | a :: x, b :: y, c :: z, h1, h2 => by
    rw [bl_step] at *
    simp only [Bool.or_eq_false_iff, Bool.and_eq_false_iff, decide_eq_false_iff_not] at *
    obtain ⟨h1, h3⟩ := h1
    obtain ⟨h2, h4⟩ := h2
    refine ⟨by omega, ?_⟩
    by_cases e : a.toNat = c.toNat
    · right
      have e1 : a.toNat = b.toNat := by omega
      have e2 : b.toNat = c.toNat := by omega
      exact bl_ntrans x y z (h3.resolve_left (fun h => h e1)) (h4.resolve_left (fun h => h e2))
    · exact .inl e
theorem bl_asymm (x y : List UInt8) (h : Op.bytesLess x y = true) : Op.bytesLess y x = false := by
  cases h2 : Op.bytesLess y x
  · rfl
  · rw [← bl_irrefl x, bl_trans x y x h h2]
theorem cmp_bl : ∀ x y : List UInt8, decide (Lib.compareBytes x y < 0) = Op.bytesLess x y
  | [], [] => rfl
  | [], b :: y => rfl
  | a :: x, [] => rfl
  | a :: x, b :: y => by
    rw [bl_step, ← cmp_bl x y, Lib.compareBytes]
    by_cases h1 : a.toNat < b.toNat
    · have h2 : a < b := h1
      simp [h1, h2]
    · have h2 : ¬ a < b := h1
      by_cases h3 : b.toNat < a.toNat
      · have h4 : b < a := h3
        have h5 : ¬ a.toNat = b.toNat := by omega
        simp [h1, h2, h3, h4, h5]
      · have h4 : ¬ b < a := h3
        have h5 : a.toNat = b.toNat := by omega
        simp [h1, h2, h3, h4, h5]

/-! ### rules as triples of lists -/
abbrev R3 := List UInt8 × List UInt8 × List UInt8
def mk3 (p : R3) : Rule := ⟨ba p.1, ba p.2.1, ba p.2.2⟩
def put3 : List R3 → R3 → List R3
  | [], r => [r]
  | x :: xs, r => if Op.bytesLess r.1 x.1 then r :: x :: xs else x :: put3 xs r
theorem toList_ba (l : List UInt8) : (ba l).toList = l := by rw [Lib.toList_data]; simp [ba]
theorem putL_map (r : R3) : ∀ xs : List R3, putL (xs.map mk3) (mk3 r) = (put3 xs r).map mk3 := by
  intro xs
  induction xs with
  | nil => rfl
  | cons x xs ih =>
    rw [List.map_cons, putL, put3]
    show (if Op.bytesLess (ba r.1).toList (ba x.1).toList = true then _ else _) = _
    rw [toList_ba, toList_ba, ih]
    split <;> simp
theorem fold_map : ∀ (l xs : List R3), (l.map mk3).foldl putL (xs.map mk3) = (l.foldl put3 xs).map mk3 := by
  intro l
  induction l with
  | nil => intro xs; rfl
  | cons r l ih => intro xs; rw [List.map_cons, List.foldl_cons, List.foldl_cons, putL_map, ih]
theorem put3_perm (r : R3) : ∀ xs : List R3, (put3 xs r).Perm (r :: xs) := by
  intro xs
  induction xs with
  | nil => exact List.Perm.refl _
  | cons x xs ih =>
    unfold put3
    split
    · exact List.Perm.refl _
    · exact (ih.cons x).trans (List.Perm.swap r x xs)
theorem fold3_perm : ∀ (l xs : List R3), (l.foldl put3 xs).Perm (l ++ xs) := by
  intro l
  induction l with
  | nil => intro xs; exact List.Perm.refl _
  | cons r l ih =>
    intro xs
    rw [List.foldl_cons]
    refine (ih _).trans ?_
    refine ((put3_perm r xs).append_left l).trans ?_
    exact List.perm_middle
def find3 : List R3 → List UInt8 → R3 × Bool
  | [], _ => (([], [], []), false)
  | r :: rs, x => if r.1 = x then (r, true) else find3 rs x
theorem ba_inj {a b : List UInt8} (h : ba a = ba b) : a = b := by rw [← bs_ba a, ← bs_ba b, h]
theorem find_map (x : List UInt8) : ∀ rs : List R3, findL (rs.map mk3) (ba x) = (mk3 (find3 rs x).1, (find3 rs x).2) := by
  intro rs
  induction rs with
  | nil => rfl
  | cons r rs ih =>
    rw [List.map_cons, findL, find3, ih]
    by_cases h : r.1 = x
    · rw [if_pos h, if_pos (show (mk3 r).k = ba x by rw [← h]; rfl)]
    · rw [if_neg h, if_neg (show ¬ (mk3 r).k = ba x from fun e => h (ba_inj e))]
theorem find3_append {a : List R3} {x : List UInt8} (h : (find3 a x).2 = true) (b : List R3) : find3 (a ++ b) x = find3 a x := by
  induction a with
  | nil => cases h
  | cons r a ih =>
    rw [find3] at h
    rw [List.cons_append, find3, find3]
    split
    · rfl
    · rename_i hr; rw [if_neg hr] at h; exact ih h

/-! ### the rules -/
def vw : List UInt8 := [97, 105, 117, 101, 111]
/-- The rules of a row for the first j vowels. -/
def vow3 (L : List UInt8) (K : List (List UInt8)) (j : Nat) : List R3 := (List.range j).filterMap fun i => if K.getD i [] = [] then none else some (L ++ [vw.getD i 0], K.getD i [], [])
theorem vow3_some {L : List UInt8} {K : List (List UInt8)} {j : Nat} (h : K.getD j [] ≠ []) : vow3 L K (j + 1) = vow3 L K j ++ [(L ++ [vw.getD j 0], K.getD j [], [])] := by
  unfold vow3
  rw [List.range_succ, List.filterMap_append, List.filterMap_cons, if_neg h]
  rfl
theorem vow3_none {L : List UInt8} {K : List (List UInt8)} {j : Nat} (h : K.getD j [] = []) : vow3 L K (j + 1) = vow3 L K j := by
  unfold vow3
  rw [List.range_succ, List.filterMap_append, List.filterMap_cons, if_pos h]
  simp
/-- The letters that take small kana: k s t n h m r g z d b p. -/
def conB : List UInt8 := [107, 115, 116, 110, 104, 109, 114, 103, 122, 100, 98, 112]
def conL : List (List UInt8) := [[107], [115], [116], [110], [104], [109], [114], [103], [122], [100], [98], [112]]
def con3 (L k : List UInt8) : List R3 := [(L ++ [121, 97], k ++ [227, 130, 131], []), (L ++ [121, 117], k ++ [227, 130, 133], []), (L ++ [121, 111], k ++ [227, 130, 135], [])]
def row3 (r : List UInt8 × List (List UInt8)) : List R3 := vow3 r.1 r.2 5 ++ if r.1 ∈ conL then con3 r.1 (r.2.getD 1 []) else []
def tc3 : R3 := ([116, 99], [227, 129, 163], [99])
def n3 : List R3 := [([110], [227, 130, 147], []), ([110, 110], [227, 130, 147], []), ([110, 39], [227, 130, 147], [])]
def m3 : List R3 := [([45], [227, 131, 188], []), ([44], [227, 128, 129], []), ([46], [227, 128, 130], [])]
def dblB : List UInt8 := [98, 99, 100, 102, 103, 104, 106, 107, 109, 112, 114, 115, 116, 118, 119, 121, 122]
def dbl3 (c : UInt8) : R3 := ([c] ++ [c], [227, 129, 163], [c])
/-- In the reference's order. -/
def ref3 : List R3 := tabL.flatMap row3 ++ (n3 ++ m3 ++ [tc3]) ++ dblB.map dbl3
def tab3 : List R3 := tabL.flatMap fun r => vow3 r.1 r.2 5
/-- The kana of a letter and i. -/
def kI (c : UInt8) : List UInt8 := match c with
  | 107 => [227, 129, 141]
  | 115 => [227, 129, 151]
  | 116 => [227, 129, 161]
  | 110 => [227, 129, 171]
  | 104 => [227, 129, 178]
  | 109 => [227, 129, 191]
  | 114 => [227, 130, 138]
  | 103 => [227, 129, 142]
  | 122 => [227, 129, 152]
  | 100 => [227, 129, 162]
  | 98 => [227, 129, 179]
  | 112 => [227, 129, 180]
  | _ => []
def cons3 (c : UInt8) : List R3 := con3 [c] (kI c)
/-- In the program's order. -/
def rom3 : List R3 := tab3 ++ conB.flatMap cons3 ++ dblB.map dbl3 ++ [tc3] ++ n3 ++ m3
/-- Sorted by their keys. -/
def def3 : List R3 := [
  ([44], [227, 128, 129], []),
  ([45], [227, 131, 188], []),
  ([46], [227, 128, 130], []),
  ([97], [227, 129, 130], []),
  ([98, 97], [227, 129, 176], []),
  ([98, 98], [227, 129, 163], [98]),
  ([98, 101], [227, 129, 185], []),
  ([98, 105], [227, 129, 179], []),
  ([98, 111], [227, 129, 188], []),
  ([98, 117], [227, 129, 182], []),
  ([98, 121, 97], [227, 129, 179, 227, 130, 131], []),
  ([98, 121, 111], [227, 129, 179, 227, 130, 135], []),
  ([98, 121, 117], [227, 129, 179, 227, 130, 133], []),
  ([99, 99], [227, 129, 163], [99]),
  ([99, 104, 97], [227, 129, 161, 227, 130, 131], []),
  ([99, 104, 101], [227, 129, 161, 227, 129, 135], []),
  ([99, 104, 105], [227, 129, 161], []),
  ([99, 104, 111], [227, 129, 161, 227, 130, 135], []),
  ([99, 104, 117], [227, 129, 161, 227, 130, 133], []),
  ([100, 97], [227, 129, 160], []),
  ([100, 100], [227, 129, 163], [100]),
  ([100, 101], [227, 129, 167], []),
  ([100, 105], [227, 129, 162], []),
  ([100, 111], [227, 129, 169], []),
  ([100, 117], [227, 129, 165], []),
  ([100, 121, 97], [227, 129, 162, 227, 130, 131], []),
  ([100, 121, 111], [227, 129, 162, 227, 130, 135], []),
  ([100, 121, 117], [227, 129, 162, 227, 130, 133], []),
  ([101], [227, 129, 136], []),
  ([102, 97], [227, 129, 181, 227, 129, 129], []),
  ([102, 101], [227, 129, 181, 227, 129, 135], []),
  ([102, 102], [227, 129, 163], [102]),
  ([102, 105], [227, 129, 181, 227, 129, 131], []),
  ([102, 111], [227, 129, 181, 227, 129, 137], []),
  ([102, 117], [227, 129, 181], []),
  ([103, 97], [227, 129, 140], []),
  ([103, 101], [227, 129, 146], []),
  ([103, 103], [227, 129, 163], [103]),
  ([103, 105], [227, 129, 142], []),
  ([103, 111], [227, 129, 148], []),
  ([103, 117], [227, 129, 144], []),
  ([103, 121, 97], [227, 129, 142, 227, 130, 131], []),
  ([103, 121, 111], [227, 129, 142, 227, 130, 135], []),
  ([103, 121, 117], [227, 129, 142, 227, 130, 133], []),
  ([104, 97], [227, 129, 175], []),
  ([104, 101], [227, 129, 184], []),
  ([104, 104], [227, 129, 163], [104]),
  ([104, 105], [227, 129, 178], []),
  ([104, 111], [227, 129, 187], []),
  ([104, 117], [227, 129, 181], []),
  ([104, 121, 97], [227, 129, 178, 227, 130, 131], []),
  ([104, 121, 111], [227, 129, 178, 227, 130, 135], []),
  ([104, 121, 117], [227, 129, 178, 227, 130, 133], []),
  ([105], [227, 129, 132], []),
  ([106, 97], [227, 129, 152, 227, 130, 131], []),
  ([106, 101], [227, 129, 152, 227, 129, 135], []),
  ([106, 105], [227, 129, 152], []),
  ([106, 106], [227, 129, 163], [106]),
  ([106, 111], [227, 129, 152, 227, 130, 135], []),
  ([106, 117], [227, 129, 152, 227, 130, 133], []),
  ([107, 97], [227, 129, 139], []),
  ([107, 101], [227, 129, 145], []),
  ([107, 105], [227, 129, 141], []),
  ([107, 107], [227, 129, 163], [107]),
  ([107, 111], [227, 129, 147], []),
  ([107, 117], [227, 129, 143], []),
  ([107, 121, 97], [227, 129, 141, 227, 130, 131], []),
  ([107, 121, 111], [227, 129, 141, 227, 130, 135], []),
  ([107, 121, 117], [227, 129, 141, 227, 130, 133], []),
  ([109, 97], [227, 129, 190], []),
  ([109, 101], [227, 130, 129], []),
  ([109, 105], [227, 129, 191], []),
  ([109, 109], [227, 129, 163], [109]),
  ([109, 111], [227, 130, 130], []),
  ([109, 117], [227, 130, 128], []),
  ([109, 121, 97], [227, 129, 191, 227, 130, 131], []),
  ([109, 121, 111], [227, 129, 191, 227, 130, 135], []),
  ([109, 121, 117], [227, 129, 191, 227, 130, 133], []),
  ([110], [227, 130, 147], []),
  ([110, 39], [227, 130, 147], []),
  ([110, 97], [227, 129, 170], []),
  ([110, 101], [227, 129, 173], []),
  ([110, 105], [227, 129, 171], []),
  ([110, 110], [227, 130, 147], []),
  ([110, 111], [227, 129, 174], []),
  ([110, 117], [227, 129, 172], []),
  ([110, 121, 97], [227, 129, 171, 227, 130, 131], []),
  ([110, 121, 111], [227, 129, 171, 227, 130, 135], []),
  ([110, 121, 117], [227, 129, 171, 227, 130, 133], []),
  ([111], [227, 129, 138], []),
  ([112, 97], [227, 129, 177], []),
  ([112, 101], [227, 129, 186], []),
  ([112, 105], [227, 129, 180], []),
  ([112, 111], [227, 129, 189], []),
  ([112, 112], [227, 129, 163], [112]),
  ([112, 117], [227, 129, 183], []),
  ([112, 121, 97], [227, 129, 180, 227, 130, 131], []),
  ([112, 121, 111], [227, 129, 180, 227, 130, 135], []),
  ([112, 121, 117], [227, 129, 180, 227, 130, 133], []),
  ([114, 97], [227, 130, 137], []),
  ([114, 101], [227, 130, 140], []),
  ([114, 105], [227, 130, 138], []),
  ([114, 111], [227, 130, 141], []),
  ([114, 114], [227, 129, 163], [114]),
  ([114, 117], [227, 130, 139], []),
  ([114, 121, 97], [227, 130, 138, 227, 130, 131], []),
  ([114, 121, 111], [227, 130, 138, 227, 130, 135], []),
  ([114, 121, 117], [227, 130, 138, 227, 130, 133], []),
  ([115, 97], [227, 129, 149], []),
  ([115, 101], [227, 129, 155], []),
  ([115, 104, 97], [227, 129, 151, 227, 130, 131], []),
  ([115, 104, 101], [227, 129, 151, 227, 129, 135], []),
  ([115, 104, 105], [227, 129, 151], []),
  ([115, 104, 111], [227, 129, 151, 227, 130, 135], []),
  ([115, 104, 117], [227, 129, 151, 227, 130, 133], []),
  ([115, 105], [227, 129, 151], []),
  ([115, 111], [227, 129, 157], []),
  ([115, 115], [227, 129, 163], [115]),
  ([115, 117], [227, 129, 153], []),
  ([115, 121, 97], [227, 129, 151, 227, 130, 131], []),
  ([115, 121, 111], [227, 129, 151, 227, 130, 135], []),
  ([115, 121, 117], [227, 129, 151, 227, 130, 133], []),
  ([116, 97], [227, 129, 159], []),
  ([116, 99], [227, 129, 163], [99]),
  ([116, 101], [227, 129, 166], []),
  ([116, 105], [227, 129, 161], []),
  ([116, 111], [227, 129, 168], []),
  ([116, 115, 117], [227, 129, 164], []),
  ([116, 116], [227, 129, 163], [116]),
  ([116, 117], [227, 129, 164], []),
  ([116, 121, 97], [227, 129, 161, 227, 130, 131], []),
  ([116, 121, 111], [227, 129, 161, 227, 130, 135], []),
  ([116, 121, 117], [227, 129, 161, 227, 130, 133], []),
  ([117], [227, 129, 134], []),
  ([118, 117], [227, 130, 148], []),
  ([118, 118], [227, 129, 163], [118]),
  ([119, 97], [227, 130, 143], []),
  ([119, 111], [227, 130, 146], []),
  ([119, 119], [227, 129, 163], [119]),
  ([120, 97], [227, 129, 129], []),
  ([120, 101], [227, 129, 135], []),
  ([120, 105], [227, 129, 131], []),
  ([120, 111], [227, 129, 137], []),
  ([120, 116, 115, 117], [227, 129, 163], []),
  ([120, 116, 117], [227, 129, 163], []),
  ([120, 117], [227, 129, 133], []),
  ([120, 121, 97], [227, 130, 131], []),
  ([120, 121, 111], [227, 130, 135], []),
  ([120, 121, 117], [227, 130, 133], []),
  ([121, 97], [227, 130, 132], []),
  ([121, 111], [227, 130, 136], []),
  ([121, 117], [227, 130, 134], []),
  ([121, 121], [227, 129, 163], [121]),
  ([122, 97], [227, 129, 150], []),
  ([122, 101], [227, 129, 156], []),
  ([122, 105], [227, 129, 152], []),
  ([122, 111], [227, 129, 158], []),
  ([122, 117], [227, 129, 154], []),
  ([122, 121, 97], [227, 129, 152, 227, 130, 131], []),
  ([122, 121, 111], [227, 129, 152, 227, 130, 135], []),
  ([122, 121, 117], [227, 129, 152, 227, 130, 133], []),
  ([122, 122], [227, 129, 163], [122])]
/-- The rules of the document. -/
def defL : List Rule := def3.map mk3

theorem ref_def : ref3.foldl put3 [] = def3 := by decide +kernel
theorem rom_def : rom3.foldl put3 [] = def3 := by decide +kernel
def asc3 : List R3 → Bool
  | a :: b :: l => Op.bytesLess a.1 b.1 && asc3 (b :: l)
  | _ => true
theorem asc_pairwise : ∀ l : List R3, asc3 l = true → l.Pairwise (fun a b => Op.bytesLess a.1 b.1 = true)
  | [], _ => List.Pairwise.nil
  | [a], _ => List.pairwise_singleton _ _
  | a :: b :: l, h => by
    rw [asc3, Bool.and_eq_true] at h
    have ih := asc_pairwise (b :: l) h.2
    rw [List.pairwise_cons]
    refine ⟨fun c hc => ?_, ih⟩
    rcases List.mem_cons.1 hc with rfl | hc
    · exact h.1
    · exact bl_trans _ _ _ h.1 ((List.pairwise_cons.1 ih).1 c hc)
theorem def_asc : def3.Pairwise (fun a b => Op.bytesLess a.1 b.1 = true) := asc_pairwise _ (by decide +kernel)
theorem def_len : defL.length = 162 := by unfold defL; rw [List.length_map]; decide +kernel
theorem ref_put : (ref3.map mk3).foldl putL [] = defL := by
  have := fold_map ref3 []
  rw [ref_def] at this
  exact this
theorem rom_len : rom3.length = 162 := by decide +kernel
theorem ref_len : ref3.length = 162 := by decide +kernel

/-- A list of these rules that is sorted is the list. -/
theorem rom_sorted {l : List Rule} (hp : l.Perm (rom3.map mk3)) (hs : l.Pairwise (fun a b => Op.bytesLess b.k.toList a.k.toList = false)) : l = defL := by
  have hp2 : l.Perm defL := by
    refine hp.trans (List.Perm.map _ ?_)
    have := fold3_perm rom3 []
    rw [rom_def, List.append_nil] at this
    exact this.symm
  have hd : defL.Pairwise (fun a b => Op.bytesLess a.k.toList b.k.toList = true) := by
    unfold defL
    rw [List.pairwise_map]
    refine def_asc.imp ?_
    intro a b h
    show Op.bytesLess (ba a.1).toList (ba b.1).toList = true
    rw [toList_ba, toList_ba]
    exact h
  have hmem : ∀ a ∈ defL, ∀ b ∈ defL, Op.bytesLess b.k.toList a.k.toList = false → Op.bytesLess a.k.toList b.k.toList = false → a = b := by
    intro a ha b hb h1 h2
    obtain ⟨i, hi, rfl⟩ := List.getElem_of_mem ha
    obtain ⟨j, hj, rfl⟩ := List.getElem_of_mem hb
    have hg := List.pairwise_iff_getElem.1 hd
    by_cases e : i = j
    · subst e; rfl
    · exfalso
      by_cases e2 : i < j
      · rw [hg i j hi hj e2] at h2; cases h2
      · rw [hg j i hj hi (by omega)] at h1; cases h1
  exact List.Perm.eq_of_pairwise (le := fun a b => Op.bytesLess b.k.toList a.k.toList = false) (fun a b ha hb h1 h2 => hmem a (hp2.mem_iff.1 ha) b hb h1 h2) hs (hd.imp fun h => bl_asymm _ _ h) hp2

/-! ### they are allowed -/
def okR3 (p : R3) : Bool := decide (1 ≤ p.1.length ∧ p.1.length ≤ 4) && keysOK p.1 && decide (p.2.2.length < p.1.length) && keysOK p.2.2 && kanaOK p.2.1 && decide (p.2.1.length ≠ 0 ∨ p.2.2.length ≠ 0)
theorem okR_mk (p : R3) : okR (mk3 p) = okR3 p := by
  unfold okR okR3 mk3
  simp only [bs_ba, ba_size]
theorem def_ok : def3.all okR3 = true := by decide +kernel
theorem def_check : checkL defL = 0 := by
  unfold checkL
  rw [if_neg (by rw [def_len]; omega), if_pos]
  unfold okL
  rw [Bool.and_eq_true, decide_eq_true_eq]
  constructor
  · unfold defL
    rw [List.all_map]
    have : (okR ∘ mk3) = okR3 := funext okR_mk
    rw [this]
    exact def_ok
  · unfold defL
    rw [List.map_map]
    refine List.pairwise_map.2 (def_asc.imp ?_)
    intro a b h e
    have e2 : a.1 = b.1 := ba_inj e
    rw [e2, bl_irrefl] at h
    cases h
theorem kI_find : ∀ c ∈ conB, find3 tab3 ([c] ++ [105]) = (([c] ++ [105], kI c, []), true) := by decide +kernel
theorem def_xtsu : find3 def3 [120, 116, 115, 117] = (([120, 116, 115, 117], [227, 129, 163], []), true) := by decide +kernel

end Go.Proofs.YtamdlbefiggkfaaGreat.Rom

set_option linter.unusedVariables false
set_option linter.unusedSimpArgs false
set_option maxRecDepth 100000
namespace Go.Proofs.YtamdlbefiggkfaaGreat.Rom
open Go Go.RowKit Go.Proofs.YtamdlbefiggkfaaGreat.Kit Go.Proofs.YtamdlbefiggkfaaGreat.Utf

/-! ### the table's cells -/
theorem flat_at {α : Type} (f : α → List Value) (d : α) (n : Nat) : ∀ (l : List α), (∀ r ∈ l, (f r).length = n) → ∀ i, i < l.length → ∀ j, j < n → (l.flatMap f)[i * n + j]? = (f (l.getD i d))[j]? := by
  intro l
  induction l with
  | nil => intro _ i h; simp at h
  | cons r l ih =>
    intro hl i hi j hj
    rw [List.flatMap_cons]
    have hr := hl r (by simp)
    cases i with
    | zero =>
      rw [List.getElem?_append_left (by omega), Nat.zero_mul, Nat.zero_add]
      rfl
    | succ i =>
      rw [List.getElem?_append_right (by rw [hr, Nat.succ_mul]; omega), hr, show (i + 1) * n + j - n = i * n + j by rw [Nat.succ_mul]; omega]
      exact ih (fun x hx => hl x (by simp [hx])) i (by simpa using hi) j hj
theorem tab_len : tabL.length = 25 := rfl
theorem tab_row : ∀ r ∈ tabL, r.2.length = 5 ∧ r.1.length ≤ 3 ∧ ∀ k ∈ r.2, k.length ≤ 6 := by decide +kernel
def tabR (i : Nat) : List UInt8 × List (List UInt8) := tabL.getD i ([], [])
theorem tabR_mem {i : Nat} (h : i < 25) : tabR i ∈ tabL := by
  unfold tabR
  rw [List.getD_eq_getElem?_getD, List.getElem?_eq_getElem (by rw [tab_len]; exact h)]
  exact List.getElem_mem _
theorem tabC_at {i : Nat} (h : i < 25) : tabC[i * 6]? = some (.string (ba (tabR i).1)) ∧ ∀ j, j < 5 → tabC[i * 6 + 1 + j]? = some (.string (ba ((tabR i).2.getD j []))) := by
  have key := flat_at (fun r : List UInt8 × List (List UInt8) => Value.string (ba r.1) :: r.2.map fun k => Value.string (ba k)) ([], []) 6 tabL (fun r hr => by simp [(tab_row r hr).1]) i (by rw [tab_len]; exact h)
  have hm := tab_row _ (tabR_mem h)
  refine ⟨key 0 (by omega), fun j hj => ?_⟩
  rw [Nat.add_assoc, Nat.add_comm 1 j]
  refine (key (j + 1) (by omega)).trans ?_
  show ((tabR i).2.map fun k => Value.string (ba k))[j]? = _
  rw [List.getElem?_map, List.getD_eq_getElem?_getD, List.getElem?_eq_getElem (by omega)]
  rfl
theorem tabR_len {i : Nat} (h : i < 25) : (tabR i).1.length ≤ 3 ∧ ∀ j, j < 5 → ((tabR i).2.getD j []).length ≤ 6 := by
  have hm := tab_row _ (tabR_mem h)
  refine ⟨hm.2.1, fun j hj => ?_⟩
  rw [List.getD_eq_getElem?_getD, List.getElem?_eq_getElem (by omega)]
  exact hm.2.2 _ (List.getElem_mem _)

theorem vow3_len (L : List UInt8) (K : List (List UInt8)) : ∀ j, (vow3 L K j).length ≤ j := by
  intro j
  unfold vow3
  refine Nat.le_trans (List.length_filterMap_le _ _) ?_
  rw [List.length_range]; exact Nat.le_refl _
theorem app_lit (a l : List UInt8) (x : ByteArray) (h : x = ba l) : ba a ++ x = ba (a ++ l) := by rw [h, ba_app]
theorem ba_cut (l : List UInt8) (m : Nat) (h : m < l.length) : (ba l).extract m (m + 1) = ba [l.getD m 0] := by
  apply ba_ext
  show ((ba l).extract m (m + 1)).data.toList = [l.getD m 0]
  rw [ByteArray.data_extract, List.getD_eq_getElem?_getD, List.getElem?_eq_getElem h]
  simp only [ba, List.extract_toArray, Option.getD_some]
  rw [List.extract_eq_take_drop, Nat.add_sub_cancel_left, List.drop_eq_getElem_cons h]
  rfl
theorem dbl_succ {m : Nat} (h : m < 17) : (dblB.take (m + 1)).map dbl3 = (dblB.take m).map dbl3 ++ [dbl3 (dblB.getD m 0)] := by
  have h2 : m < dblB.length := h
  rw [List.take_add_one, List.map_append, List.getElem?_eq_getElem h2, List.getD_eq_getElem?_getD, List.getElem?_eq_getElem h2]
  rfl

end Go.Proofs.YtamdlbefiggkfaaGreat.Rom

namespace Go.Proofs
open Go.Shelf
def Tryz.sortR_ren : Go.Shelf.Ren := ⟨fun | 6 => 54 | 15 => 75 | 14 => 74 | 28 => 98 | 29 => 99 | 20 => 90 | 21 => 91 | 22 => 92 | 23 => 93 | 24 => 94 | 25 => 95 | 26 => 96 | 27 => 97 | 46 => 106 | 47 => 107 | 48 => 108 | 49 => 109 | 50 => 110 | 57 => 115 | n => n, fun | 22 => 22 | 24 => 64 | 25 => 108 | 3 => 3 | 39 => 127 | 0 => 0 | 53 => 156 | 55 => 158 | 4 => 4 | 46 => 149 | 45 => 148 | 50 => 153 | 5 => 5 | 9 => 9 | 66 => 161 | 70 => 165 | 76 => 171 | 77 => 172 | n => n, fun | n => n⟩
theorem Tryz.sortR : Go.Proofs.SlLaysF0.n6 Tryz.prog Tryz.sortR_ren := {
  mixed := by kernel_rfl
  f6 := ⟨Tryz.f54.name, by decide, Tryz.func54.trans (congrArg some (by kernel_rfl))⟩
  f14 := ⟨Tryz.f74.name, by decide, Tryz.func74.trans (congrArg some (by kernel_rfl))⟩
  f15 := Tryz.func75.trans (congrArg some (by kernel_rfl))
  f20 := ⟨Tryz.f90.name, by decide, Tryz.func90.trans (congrArg some (by kernel_rfl))⟩
  f21 := ⟨Tryz.f91.name, by decide, Tryz.func91.trans (congrArg some (by kernel_rfl))⟩
  f22 := ⟨Tryz.f92.name, by decide, Tryz.func92.trans (congrArg some (by kernel_rfl))⟩
  f23 := ⟨Tryz.f93.name, by decide, Tryz.func93.trans (congrArg some (by kernel_rfl))⟩
  f24 := ⟨Tryz.f94.name, by decide, Tryz.func94.trans (congrArg some (by kernel_rfl))⟩
  f25 := ⟨Tryz.f95.name, by decide, Tryz.func95.trans (congrArg some (by kernel_rfl))⟩
  f26 := ⟨Tryz.f96.name, by decide, Tryz.func96.trans (congrArg some (by kernel_rfl))⟩
  f27 := ⟨Tryz.f97.name, by decide, Tryz.func97.trans (congrArg some (by kernel_rfl))⟩
  f28 := Tryz.func98.trans (congrArg some (by kernel_rfl))
  f29 := Tryz.func99.trans (congrArg some (by kernel_rfl))
  f46 := ⟨Tryz.f106.name, by decide, Tryz.func106.trans (congrArg some (by kernel_rfl))⟩
  f47 := Tryz.func107.trans (congrArg some (by kernel_rfl))
  f48 := Tryz.func108.trans (congrArg some (by kernel_rfl))
  f49 := ⟨Tryz.f109.name, by decide, Tryz.func109.trans (congrArg some (by kernel_rfl))⟩
  f50 := ⟨Tryz.f110.name, by decide, Tryz.func110.trans (congrArg some (by kernel_rfl))⟩
  f57 := ⟨Tryz.f115.name, by decide, Tryz.func115.trans (congrArg some (by kernel_rfl))⟩
  t0 := Tryz.underlying0
  a0 := Tryz.isAgg0
  z0 := Tryz.sizeOf0
  v0 := Tryz.zeroValue0
  t3 := Tryz.underlying3
  a3 := Tryz.isAgg3
  z3 := Tryz.sizeOf3
  v3 := Tryz.zeroValue3
  t4 := Tryz.underlying4
  a4 := Tryz.isAgg4
  z4 := Tryz.sizeOf4
  v4 := Tryz.zeroValue4
  t5 := Tryz.underlying5
  a5 := Tryz.isAgg5
  z5 := Tryz.sizeOf5
  v5 := Tryz.zeroValue5
  t9 := Tryz.underlying9
  a9 := Tryz.isAgg9
  z9 := Tryz.sizeOf9
  v9 := Tryz.zeroValue9
  t22 := Tryz.underlying22
  a22 := Tryz.isAgg22
  z22 := Tryz.sizeOf22
  v22 := Tryz.zeroValue22
  t25 := Tryz.underlying108
  a25 := Tryz.isAgg108
  z25 := Tryz.sizeOf108
  v25 := Tryz.zeroValue108
  t39 := Tryz.underlying127
  a39 := Tryz.isAgg127
  z39 := Tryz.sizeOf127
  v39 := Tryz.zeroValue127
  t45 := Tryz.underlying148
  a45 := Tryz.isAgg148
  z45 := Tryz.sizeOf148
  v45 := Tryz.zeroValue148
  t46 := Tryz.underlying149
  a46 := Tryz.isAgg149
  z46 := Tryz.sizeOf149
  v46 := Tryz.zeroValue149
  t50 := Tryz.underlying153
  a50 := Tryz.isAgg153
  z50 := Tryz.sizeOf153
  v50 := Tryz.zeroValue153
  t53 := Tryz.underlying156
  a53 := Tryz.isAgg156
  z53 := Tryz.sizeOf156
  v53 := Tryz.zeroValue156
  t55 := Tryz.underlying158
  a55 := Tryz.isAgg158
  z55 := Tryz.sizeOf158
  v55 := Tryz.zeroValue158
  t66 := Tryz.underlying161
  a66 := Tryz.isAgg161
  z66 := Tryz.sizeOf161
  v66 := Tryz.zeroValue161
  t70 := Tryz.underlying165
  a70 := Tryz.isAgg165
  z70 := Tryz.sizeOf165
  v70 := Tryz.zeroValue165
  t76 := Tryz.underlying171
  a76 := Tryz.isAgg171
  z76 := Tryz.sizeOf171
  v76 := Tryz.zeroValue171
  t77 := Tryz.underlying172
  a77 := Tryz.isAgg172
  z77 := Tryz.sizeOf172
  v77 := Tryz.zeroValue172 }
end Go.Proofs

set_option linter.unusedVariables false
set_option linter.unusedSimpArgs false
set_option maxRecDepth 100000
namespace Go.Proofs.YtamdlbefiggkfaaGreat.Rom
open Go Go.RowKit Go.Proofs Go.Proofs.YtamdlbefiggkfaaGreat.Kit Go.Proofs.YtamdlbefiggkfaaGreat.Utf

def cfR (x y : Rule) : Int := Lib.compareBytes x.k.data.toList y.k.data.toList
theorem ltR (x y : Rule) : ltOf cfR x y = Op.bytesLess x.k.toList y.k.toList := by
  unfold ltOf cfR
  rw [cmp_bl, Lib.toList_data, Lib.toList_data]
theorem swoR : Sort.SWO (ltOf cfR) where
  irrefl x := by rw [ltR]; exact bl_irrefl _
  trans x y z h1 h2 := by rw [ltR] at *; exact bl_trans _ _ _ h1 h2
  ntrans x y z h1 h2 := by rw [ltR] at *; exact bl_ntrans _ _ _ h1 h2

set_option maxHeartbeats 1000000 in
theorem less_any (x y : Rule) (W : World) :
    Calls Tryz.prog 55 #[.agg #[.string x.k, .string x.o, .string x.n], .agg #[.string y.k, .string y.o, .string y.n]] W fun e w' => e = .returned (.int .i64 (cfR x y)) ∧ ∃ q os', w' = Sort.grow (W.drewN q) os' := by
  have hcon := fun W' => Tryz.strings_Compare x.k y.k W'
  obtain ⟨r, hr⟩ : ∃ r, cfR x y = r := ⟨_, rfl⟩
  have hr2 : Lib.compareBytes x.k.data.toList y.k.data.toList = r := hr
  rw [hr]
  simp only [hr2] at hcon
  clear hr hr2
  go_enter Tryz.func55, Tryz.ntmps55
  go_wp2_with (go_at_call 56; refine (hcon _).mono ?_; rintro e w' ⟨rfl, rfl⟩)
  go_ret
  exact ⟨rfl, 0, _, by rw [Sort.alloc_eq_grow, Sort.alloc_eq_grow, Sort.grow_grow]; rfl⟩

theorem cmpLaysR (blk off size : Nat) (w : World) : CmpLays Tryz.prog 55 #[] rcells 3 cfR blk off size w :=
  fun _ _ _ _ x y => less_any x y _

/-! ### a row of rules, as the sort sees it -/
theorem rc_flat (d : Array Rule) : (Sort.flatK rcells 3 d).toList = rc d.toList := by
  apply List.ext_getElem?
  intro t
  by_cases ht : t < d.size * 3
  · have hsz : t < (Sort.flatK rcells 3 d).size := by rw [Sort.size_flatK]; exact ht
    have h1 : (Sort.flatK rcells 3 d).toList[t]? = some (rcells d[t / 3]!)[t % 3]! := by
      rw [Array.getElem?_toList, Array.getElem?_eq_getElem hsz, ← Sort.get_flatK rcells 3 d t ht, getElem!_pos _ t hsz]
    rw [h1]
    have hi : t / 3 < d.toList.length := by rw [Array.length_toList]; omega
    have hri : ri d.toList (t / 3) = d[t / 3]! := by
      unfold ri
      rw [List.getD_eq_getElem?_getD, List.getElem?_eq_getElem hi, getElem!_pos d (t / 3) (by simpa using hi)]
      simp
    obtain ⟨g1, g2, g3⟩ := rc_at d.toList (t / 3) hi
    rw [hri] at g1 g2 g3
    generalize d[t / 3]! = r at *
    rcases (show t % 3 = 0 ∨ t % 3 = 1 ∨ t % 3 = 2 by omega) with e | e | e
    · rw [e]; rw [show t / 3 * 3 = t by omega] at g1; rw [g1]; rfl
    · rw [e]; rw [show t / 3 * 3 + 1 = t by omega] at g2; rw [g2]; rfl
    · rw [e]; rw [show t / 3 * 3 + 2 = t by omega] at g3; rw [g3]; rfl
  · rw [List.getElem?_eq_none (by rw [Array.length_toList, Sort.size_flatK]; omega), List.getElem?_eq_none (by rw [rc_len, Array.length_toList]; omega)]

theorem own_parts {w : World} {base n : Nat} {e : TypeId} {v : Value} {rs : List Rule} (h : w.ownsRow base e 3 v n (rc rs)) (h0 : 0 < n) :
    ∃ g cap cur, v = .slice (some ⟨g, 0, none⟩) n cap ∧ base ≤ g ∧ g < w.heap.size ∧ w.heap[g]? = some (.cells cur e (0, 0)) ∧ n ≤ cap ∧ cap ≤ maxLen ∧ cur.size = cap * 3 ∧ cur.toList.take (n * 3) = rc rs ∧ n = rs.length := by
  have hn : n = rs.length := by have := h.1; rw [rc_len] at this; omega
  rcases h.2 with ⟨_, h1⟩ | ⟨g, cap, cur, e1, hb, hg, hnc, hcm, hcs, htake⟩
  · omega
  · exact ⟨g, cap, cur, e1, hb, (Array.getElem?_eq_some_iff.1 hg).1, hg, hnc, hcm, hcs, htake, hn⟩
theorem take_get {cur : Array Value} {n j : Nat} {l : List Value} (h : cur.toList.take n = l) (hj : j < n) : cur[j]? = l[j]? := by
  rw [← h, List.getElem?_take, if_pos hj, Array.getElem?_toList]
theorem holds_own {w : World} {g n : Nat} {e : TypeId} {cur : Array Value} {rs : List Rule} (hg : w.heap[g]? = some (.cells cur e (0, 0))) (htake : cur.toList.take (n * 3) = rc rs) (hn : n = rs.length) : Sort.HoldsK rcells 3 w g 0 rs.toArray := by
  intro j hj
  have hj2 : j < n * 3 := by rw [Sort.size_flatK] at hj; simpa [hn] using hj
  refine ⟨?_, ?_⟩
  · rw [cell_of_row w g (0 + j) cur e (0, 0) hg, Nat.zero_add, take_get htake hj2]
    have hf := rc_flat rs.toArray
    rw [List.toList_toArray] at hf
    rw [← hf, Array.getElem?_toList, Array.getElem?_eq_getElem hj, getElem!_pos _ j hj]
    rfl
  · unfold World.frozen?
    rw [show w.heap[(⟨g, 0 + j, none⟩ : Addr).block]? = _ from hg]
    simp
theorem heap_sorted {w : World} {g n : Nat} {e : TypeId} {cur : Array Value} (d : Array Rule) (m : Nat) (os : Array Obj) (hg : w.heap[g]? = some (.cells cur e (0, 0))) :
    (sortWorldK rcells 3 w g 0 m d os).heap[g]? = some (.cells (Sort.putCells id 0 (Sort.flatK rcells 3 d) cur) e (0, 0)) := by
  have hlt := (Array.getElem?_eq_some_iff.1 hg).1
  unfold sortWorldK
  rw [Sort.heap_grow_old _ _ (by rw [Sort.size_putRowK]; exact hlt)]
  show ((Sort.ahead w m).heap.modify g (Sort.onCells _))[g]? = _
  rw [Array.getElem?_modify, if_pos rfl]
  show (w.heap[g]?).map _ = _
  rw [hg]
  rfl
theorem heap_other {w : World} {g k : Nat} (d : Array Rule) (m : Nat) (os : Array Obj) (hk : k < w.heap.size) (hne : k ≠ g) : (sortWorldK rcells 3 w g 0 m d os).heap[k]? = w.heap[k]? := by
  unfold sortWorldK
  rw [Sort.heap_grow_old _ _ (by rw [Sort.size_putRowK]; exact hk)]
  show ((Sort.ahead w m).heap.modify g (Sort.onCells _))[k]? = _
  rw [Array.getElem?_modify, if_neg (Ne.symm hne)]
  rfl

theorem sort_out {w : World} {base : Nat} {v : Value} {rs : List Rule} (hown : w.ownsRow base 64 3 v rs.length (rc rs)) (hp : rs.Perm (rom3.map mk3)) :
    Calls Tryz.prog 54 #[v, .func (.func 55) #[] #[]] w fun e w' => e = .returned (.tuple #[]) ∧ w'.ownsRow base 64 3 v defL.length (rc defL) ∧ Below base w w' := by
  have hlen : rs.length = 162 := by rw [hp.length_eq, List.length_map]; exact rom_len
  obtain ⟨g, cap, cur, rfl, hb, hlt, hg, hnc, hcm, hcs, htake, hn⟩ := own_parts hown (by omega)
  have eg : ∀ args w, (callFunc 55 args).run Tryz.prog w = .ok (.enter 55 args) w := enters_of Tryz.func55 (by kernel_rfl) rfl
  have hs : rs.toArray.size = rs.length := by simp
  have hcon := AnyQ.slices_SortFunc Tryz.sortR 3 Tryz.isAgg64 Tryz.sizeOf64 rcells (fun _ => rfl) (fun x u hu => by simp [rcells] at hu; rcases hu with rfl | rfl | rfl <;> rfl) cfR swoR 55 #[] g 0 cap rs.toArray w eg (cmpLaysR g 0 rs.toArray.size w) (holds_own hg htake hn) hlt (by rw [hs]; omega)
  rw [hs] at hcon
  refine hcon.mono ?_
  rintro e w' ⟨rfl, d', q, os, hperm, hsort, rfl⟩
  have hds : d'.size = rs.length := by rw [hperm.1, hs]
  have hfin : d'.toList = defL := by
    refine rom_sorted ?_ ?_
    · refine List.Perm.trans ?_ hp
      have h := hperm.2.2
      have e1 : d'.extract 0 rs.length = d' := by rw [← hds]; simp
      have e2 : rs.toArray.extract 0 rs.length = rs.toArray := by rw [← hs]; simp
      rw [e1, e2] at h
      simpa using h
    · rw [List.pairwise_iff_getElem]
      intro i j hi hj hij
      rw [Array.length_toList] at hi hj
      have h := hsort i j (Nat.zero_le _) hij (by omega)
      rw [ltR, getElem!_pos d' i hi, getElem!_pos d' j hj] at h
      simpa using h
  refine ⟨rfl, ⟨?_, .inr ⟨g, cap, _, ?_, hb, heap_sorted (n := 0) d' q os hg, by rw [def_len]; omega, hcm, ?_, ?_⟩⟩, ⟨rfl, rfl, rfl, ?_, fun k hk => ?_⟩⟩
  · rw [rc_len]
  · rw [def_len, hlen]
  · simp [Sort.putCells, hcs]
  · have hF : (Sort.flatK rcells 3 d').size = 162 * 3 := by rw [Sort.size_flatK, hds, hlen]
    rw [← hfin, ← rc_flat]
    apply List.ext_getElem?
    intro t
    rw [show d'.toList.length = 162 by rw [Array.length_toList, hds, hlen]]
    rw [List.getElem?_take, Array.getElem?_toList, Array.getElem?_toList]
    by_cases ht : t < 162 * 3
    · rw [if_pos ht]
      unfold Sort.putCells
      have hcl : t < cur.size := by omega
      rw [Array.getElem?_mapIdx, Array.getElem?_eq_getElem hcl, Option.map_some, if_pos ⟨Nat.zero_le _, by rw [hF]; omega⟩, Array.getElem?_eq_getElem (by rw [hF]; exact ht), Nat.sub_zero, getElem!_pos _ t (by rw [hF]; exact ht)]
      rfl
    · rw [if_neg ht, Array.getElem?_eq_none (by rw [hF]; omega)]
  · unfold sortWorldK
    rw [Sort.size_grow, Sort.size_putRowK]
    exact Nat.le_add_right _ _
  · exact heap_other d' q os (by omega) (by omega)

end Go.Proofs.YtamdlbefiggkfaaGreat.Rom
