/-
  Slices of strings that are cut and joined.
-/
import Derived.Test.YtpaeppklkicngaaDoorRomLi
set_option linter.unusedVariables false
set_option linter.unusedSimpArgs false
set_option maxRecDepth 100000
namespace Go.Proofs.YtpaeppklkicngaaDoor.Rom
open Go Go.RowKit Go.Proofs.YtpaeppklkicngaaDoor.Kit Go.Proofs.YtpaeppklkicngaaDoor.Utf

theorem pcells_oneCell (ps : List (List UInt8)) : ∀ u ∈ pcells ps, u.oneCell' = true := by
  intro u hu
  unfold pcells at hu
  obtain ⟨p, _, rfl⟩ := List.mem_map.1 hu
  rfl
theorem run_append_str (w : World) (base : Nat) (v : Value) (n : Nat) (xs : List Value) (hown : w.ownsRow base 9 1 v n xs) (x : Value) (ps : List (List UInt8)) (hR : Reads w x (pcells ps)) (h63 : n + ps.length ≤ 1000000) (hbase : base ≤ w.heap.size) (ty : TypeId) :
    ∃ v' w', (Builtin.append_ #[52, 52] ty #[v, x]).run Tryd.prog w = .ok v' w' ∧ w'.ownsRow base 9 1 v' (n + ps.length) (xs ++ pcells ps) ∧ w.grownBy w' v.ownBlock := by
  obtain ⟨i0, hi0, hz0, hz1, hz2⟩ := info_parts info_str2
  obtain ⟨a, len, cap, rfl, hl, hc, hm, h⟩ := hR
  rw [pcells_len] at hl
  subst hl
  have h64 : n + ps.length ≤ maxLen := by unfold maxLen; omega
  rcases h with ⟨rfl, h0, hc0⟩ | ⟨x, rfl, h0⟩ | ⟨b, off, rfl, hlt, hx⟩
  · have e : ps = [] := List.eq_nil_of_length_eq_zero h0
    subst e
    subst hc0
    exact ⟨v, w, run_append_owned_none (P := Tryd.prog) w base _ _ _ i0 1 Tryd.underlying52 hi0 v n xs hown, by simpa [pcells] using hown, World.grownBy.refl _ _⟩
  · have e : ps = [] := List.eq_nil_of_length_eq_zero h0
    subst e
    obtain ⟨v', w', hr, h2, h3, _⟩ := run_append_own_at (P := Tryd.prog) w base 52 ty 9 i0 _ 1 16 Tryd.underlying52 hi0 hz0 hz1 hz2 rfl (by omega) v n xs hown x 0 cap [] rfl (by simp) (by simp) h64 (by simp at h63 ⊢; omega) hbase
    exact ⟨v', w', hr, h2, h3⟩
  · obtain ⟨v', w', hr, h2, h3, _⟩ := run_append_own_at (P := Tryd.prog) w base 52 ty 9 i0 _ 1 16 Tryd.underlying52 hi0 hz0 hz1 hz2 rfl (by omega) v n xs hown ⟨b, off, none⟩ ps.length cap (pcells ps) (by rw [pcells_len, Nat.mul_one]) (fun j u hu => by rw [Addr.add_lit]; exact hx j u hu) (pcells_oneCell ps) h64 (by omega) hbase
    exact ⟨v', w', hr, h2, h3⟩

/-- append(v, x...) at a step of a region that draws its order. -/
theorem step_append_str (w : World) {ops : Array Oper} {o : Oper} {a : Act} {K : Act → World → Prop} {Q : Exit → Act → World → Prop} {E : Prop} (hgd : o.guard = none) (s x : Operand)
    (ho : o.op = .call { callee := .builtin .append, args := #[s, x], argTypes := #[52, 52] })
    (base : Nat) (v : Value) (n : Nat) (xs : List Value) (hs : a.eval s = v) (hown : w.ownsRow base 9 1 v n xs)
    (y : Value) (ps : List (List UInt8)) (hx : a.eval x = y) (hR : Reads w y (pcells ps)) (h63 : n + ps.length ≤ 1000000) (hbase : base ≤ w.heap.size)
    (h : ∀ v' w', w'.ownsRow base 9 1 v' (n + ps.length) (xs ++ pcells ps) → w.grownBy w' v.ownBlock → K (a.put o.dst v') w') :
    if Region.wanted o (yielded ops a.tmps) = true then Oper.wp Tryd.prog o a w K Q else E := by
  have hw : Region.wanted o (yielded ops a.tmps) = true := by simp [Region.wanted, hgd]
  rw [if_pos hw]
  obtain ⟨v', w', hr, h2, h3⟩ := run_append_str w base v n xs hown y ps hR h63 hbase o.type
  unfold Oper.wp execOp
  simp only [ho, resolve, invoke, builtin, Sem.run_bind, Sem.run_pure, Result.andThen_ok, List.map_toArray, List.map_cons, List.map_nil, hs, hx, hr]
  exact h v' w' h2 h3

theorem str_upto {w : World} {g n cap k : Nat} {ps : List (List UInt8)} (hR : Reads w (.slice (some ⟨g, 0, none⟩) n cap) (pcells ps)) (hk : k < n) :
    ∃ x, (∀ W, (Instr.sliceAt 52 (.slice (some ⟨g, 0, none⟩) n cap) none (some (.int .i64 k)) none).run Tryd.prog W = .ok x W) ∧ Reads w x (pcells (ps.take k)) := by
  obtain ⟨hn, hc, hm⟩ := hR.len
  refine ⟨.slice (some ⟨g, 0, none⟩) k cap, ?_, ?_⟩
  · intro W
    have k2 : (k : Int) ≤ cap := by omega
    have k4 : ¬ 0 = cap := by omega
    have k5 : ¬ cap = 0 := by omega
    have u := Tryd.underlying52
    go_simp
  · have h := reads_cut (i := 0) (j := k) hR (Nat.zero_le _) (by omega)
    simp only [Option.map_some, Addr.add_lit, Nat.zero_add, Nat.sub_zero, List.drop_zero] at h
    unfold pcells at *
    rw [List.map_take]
    exact h
theorem str_on {w : World} {g n cap k : Nat} {ps : List (List UInt8)} (hR : Reads w (.slice (some ⟨g, 0, none⟩) n cap) (pcells ps)) (hk : k < n) :
    ∃ x, (∀ W, (Instr.sliceAt 52 (.slice (some ⟨g, 0, none⟩) n cap) (some (.int .i64 k)) none none).run Tryd.prog W = .ok x W) ∧ Reads w x (pcells (ps.drop k)) := by
  obtain ⟨hn, hc, hm⟩ := hR.len
  refine ⟨.slice (some ⟨g, k, none⟩) (n - k) (cap - k), ?_, ?_⟩
  · intro W
    have k2 : (k : Int) ≤ n := by omega
    have k3 : (n : Int) ≤ cap := by omega
    have k5 : ¬ cap = k := by omega
    have u := Tryd.underlying52
    go_simp
    try (intro hh; exfalso; omega)
  · have h := reads_cut (i := k) (j := n) hR (by omega) (Nat.le_refl _)
    simp only [Option.map_some, Addr.add_lit, Nat.zero_add] at h
    rw [List.take_of_length_le (by omega)] at h
    unfold pcells at *
    rw [List.map_drop]
    exact h

/-- A block of one string that was laid, in a later world. -/
theorem reads_one {w : World} {b : Nat} {p : List UInt8} {t : TypeId} (h : w.heap[b]? = some (.cells #[.string (ba p)] t (0, 0))) : Reads w (.slice (some ⟨b, 0, none⟩) 1 1) (pcells [p]) := by
  refine ⟨_, 1, 1, rfl, rfl, Nat.le_refl _, by simp [maxLen], .inr (.inr ⟨b, 0, rfl, (Array.getElem?_eq_some_iff.1 h).1, fun i x hx => ?_⟩)⟩
  rw [Nat.zero_add, cell_of_row w b i _ _ (0, 0) h]
  rw [← Array.getElem?_toList]
  exact hx
theorem own_empty3 (w : World) (e : TypeId) (base B size : Nat) (hB : B = w.heap.size) (hb : base ≤ w.heap.size) : (w.alloc (.cells #[] e)).ownsRow base e size (.slice (some ⟨B, 0, none⟩) 0 0) 0 [] := own_empty w e base B size hB hb
theorem below_al {a w : World} (h : Below a.heap.size a w) (o : Obj) : Below a.heap.size a (w.alloc o) := h.alloc h.size o
theorem below_dw {a w : World} (h : Below a.heap.size a w) : Below a.heap.size a w.drew := h.drew
theorem heap_new_at (w : World) (o : Obj) (j : Nat) (hj : j = w.heap.size) : (w.alloc o).heap[j]? = some o := by rw [hj]; exact heap_alloc_new w o
theorem keeps_drew {w : World} {j : Nat} {o : Obj} (h : w.heap[j]? = some o) : w.drew.heap[j]? = some o := h
theorem keeps_alloc {w : World} {j : Nat} {o o' : Obj} (h : w.heap[j]? = some o) : (w.alloc o').heap[j]? = some o := by
  have hlt : j < w.heap.size := (Array.getElem?_eq_some_iff.1 h).1
  show (w.heap.push o')[j]? = some o
  rw [Array.getElem?_push, if_neg (by omega)]
  exact h
theorem grown_keeps {w w' : World} {row : Option Nat} (hg : w.grownBy w' row) {j : Nat} {o : Obj} (h : w.heap[j]? = some o) (hne : some j ≠ row) : w'.heap[j]? = some o := by
  rw [hg.block j (Array.getElem?_eq_some_iff.1 h).1 hne]
  exact h
theorem slice_upto_r {w : World} {a : Option Addr} {n cap k : Nat} {rs : List Rule} (hR : RowR w (.slice a n cap) rs) (hk : k ≤ n) :
    ∃ b, (∀ W, (Instr.sliceAt 22 (.slice a n cap) none (some (.int .i64 k)) none).run Tryd.prog W = .ok (.slice b k cap) W) ∧ RowR w (.slice b k cap) (rs.take k) := by
  refine ⟨a, ?_, hR.take hk⟩
  intro W
  obtain ⟨_, hc, hm⟩ := hR.len
  have k2 : (k : Int) ≤ cap := by omega
  have u := Tryd.underlying22
  obtain ⟨a', len', cap', e, h1, h2, h3, h4⟩ := hR
  cases e
  rcases h4 with ⟨rfl, hl, hc0⟩ | ⟨x, rfl, hl⟩ | ⟨b, off, rfl, hlt, hx⟩
  · have k0 : k = 0 := by omega
    subst k0
    subst hc0
    go_simp
  · go_simp
  · go_simp
theorem fold_le : ∀ (ls : List (List UInt8)) (acc : List Rule) (i : Nat), (foldP acc i ls).2.1 ≤ i + ls.length := by
  intro ls
  induction ls with
  | nil => intro acc i; exact Nat.zero_le _
  | cons l ls ih =>
    intro acc i
    simp only [List.length_cons]
    cases hst : stepP acc l with
    | none => rw [fold_none hst]; show i + 1 ≤ _; omega
    | some acc' => rw [fold_some hst]; have := ih acc' (i + 1); omega
/-- All that a text and its lines say. -/
theorem lines_say {L : List (List UInt8)} {ex : List UInt8} {k m : Nat} {s : ByteArray} (hs : skips ex = true) (hm : L.length = m) (hk : k < m) (htl : tl L = s.size + 1) (hsz : s.size ≤ 5000) (hexl : ex.length ≤ 5) (hexf : (10 : UInt8) ∉ ex) (hf : ∀ p ∈ L, (10 : UInt8) ∉ p)
    (hp : parseL s = foldP [] 0 L) (rs : List Rule) (n : Nat) (e : Int) (hr : parseL s = (rs, n, e)) :
    parseL (ba (jn 10 (L.take k ++ [ex] ++ L.drop k))) = (rs, (if k < n then n + 1 else n), e) ∧ tl (L.take k ++ [ex] ++ L.drop k) ≤ 6000 ∧ tl (L.take k) ≤ 6000 ∧ n ≤ m ∧
    (e = 0 → n = 0 ∧ ∃ c t, parseL (ba (jn 10 (L.take k))) = (c, 0, 0) ∧ rs = c ++ t) := by
  rw [hr] at hp
  have h0 : foldP [] 0 (L.take k ++ L.drop k) = (rs, n, e) := by rw [List.take_append_drop]; exact hp.symm
  have h1 : tl (L.take k ++ [ex] ++ L.drop k) ≤ 6000 := by
    have := tl_app (L.take k) (L.drop k)
    rw [List.take_append_drop] at this
    rw [tl_app, tl_app, tl_one]
    omega
  have h2 : tl (L.take k) ≤ 6000 := by have := tl_take L k; omega
  have hfm : ∀ p ∈ L.take k ++ [ex] ++ L.drop k, (10 : UInt8) ∉ p := fun p hp => by
    rcases List.mem_append.1 hp with hp | hp
    · rcases List.mem_append.1 hp with hp | hp
      · exact hf p (List.mem_of_mem_take hp)
      · rw [List.mem_singleton] at hp; rw [hp]; exact hexf
    · exact hf p (List.mem_of_mem_drop hp)
  refine ⟨?_, h1, h2, ?_, ?_⟩
  · rw [parse_joined hfm (by omega), List.append_assoc]
    show foldP [] 0 (L.take k ++ ex :: L.drop k) = _
    rw [fold_insert hs, h0, List.length_take, hm]
    simp only [Nat.zero_add]
    rw [show min k m = k by omega]
  · have := fold_le L [] 0
    rw [← hp] at this
    simp only at this
    omega
  · intro he
    subst he
    obtain ⟨c, t, hc, ht⟩ := fold_prefix (L.drop k) (L.take k) [] 0 (by rw [h0])
    refine ⟨?_, c, t, ?_, ?_⟩
    · have := (fold_grows (L.take k ++ L.drop k) [] 0 (by rw [h0])).1
      rw [h0] at this
      exact this
    · rw [parse_joined (fun p hp => hf p (List.mem_of_mem_take hp)) (by omega)]
      exact hc
    · rw [h0] at ht
      exact ht

end Go.Proofs.YtpaeppklkicngaaDoor.Rom
