/-
  Laws of maps as functions for the walk; the memory as it is made; how the search stands.
-/
import Derived.Test.YtmbccolkgephgaaAutX
import Derived.Maps.AppendAt
set_option linter.unusedVariables false
set_option linter.unusedSimpArgs false
set_option maxRecDepth 100000
namespace Go.Proofs.Ytmbccolkgephgaa.Aut
open Go Go.RowKit Go.Proofs.Ytmbccolkgephgaa.Kit Go.Proofs.Ytmbccolkgephgaa.Utf Go.Proofs.Ytmbccolkgephgaa.Rom Go.Maps Go.ChangeMaps Go.WideMaps

section
variable {κ : Type} {kt : TypeId} {ek : κ → Value} (w : World) {ops : Array Oper} {rest : List Oper} {o : Oper} {a : Act} {Q : Exit → Act → World → Prop}
/-- 'v, ok := m[k]' at the operation. -/
theorem wpList_look_F (hg : o.guard = none) (m x : Operand) (t : TypeId) (hop : o.op = Op.lookup t m x true) (e : TypeId) (K : Keyed Try.prog kt) (ht : Try.prog.underlying t = some (.map kt e)) (b : Nat) (k : κ) (z : Value) (hz : ∀ w, (zeroValue e).run Try.prog w = .ok z w)
    (hm : a.eval m = .map (some b)) (hx : a.eval x = ek k) (n : Nat) (f : κ → Option Value) (hM : MapF kt ek w b n f) (hk : ∃ l, keyOf Try.prog kt (ek k) = some l)
    (hK : wpList Try.prog ops Q rest (a.put o.dst (.tuple #[(f k).getD z, .bool (f k).isSome])) w) : wpList Try.prog ops Q (o :: rest) a w := by
  refine wpList_plain hg fun K' hK' => ?_
  obtain ⟨l, hl⟩ := hk
  have hrun := hM.look K ht (hz w) hl
  unfold Oper.wp
  simp [execOp, hop, hm, hx, hrun, Result.andThen]
  exact hK' _ _ hK
/-- 'm[k] = v' at the operation. -/
theorem wpList_put_F [DecidableEq κ] (hg : o.guard = none) (m x v : Operand) (t : TypeId) (hop : o.op = Op.mapUpdate t m x v) (e : TypeId) (K : Keyed Try.prog kt) (hinj : ∀ x y, ek x = ek y → x = y) (ht : Try.prog.underlying t = some (.map kt e)) (b : Nat) (k : κ) (u : Value)
    (hm : a.eval m = .map (some b)) (hx : a.eval x = ek k) (hv : a.eval v = u) (n : Nat) (f : κ → Option Value) (hM : MapF kt ek w b n f) (hn : n < maxLen) (hk : ∃ l, keyOf Try.prog kt (ek k) = some l)
    (hK : ∀ w', MapF kt ek w' b (n + 1) (upd f k u) → w.grownBy w' (some b) → wpList Try.prog ops Q rest (a.put o.dst undef) w') : wpList Try.prog ops Q (o :: rest) a w := by
  refine wpList_plain hg fun K' hK' => ?_
  obtain ⟨l, hl⟩ := hk
  obtain ⟨w', hrun, r1, r2⟩ := hM.put K hinj ht hn hl u
  unfold Oper.wp
  simp [execOp, hop, hm, hx, hv, hrun, Result.andThen]
  exact hK' _ _ (hK w' r1 r2)
end

theorem memory_any (a : Nat) (rs : List Rule) (s : ByteArray) (w : World) :
    Calls Try.prog 42 #[.pointer (some ⟨a, 0, none⟩), .string s] w fun e w' => ∃ c1 c2 c3 bm, e = .returned (.func (.func 58) #[] #[.pointer (some ⟨c1, 0, none⟩), .pointer (some ⟨c2, 0, none⟩), .pointer (some ⟨c3, 0, none⟩)]) ∧ Memo c1 c2 c3 bm a rs (bs s) 0 w' ∧ w.heap.size ≤ c1 ∧ w.heap.size ≤ c2 ∧ w.heap.size ≤ c3 ∧ w.heap.size ≤ bm ∧ c1 < w'.heap.size ∧ c2 < w'.heap.size ∧ c3 < w'.heap.size ∧ bm < w'.heap.size ∧ Below w.heap.size w w' := by
  have hmm := @run_makeMap Try.prog
  go_enter Try.func42, Try.ntmps42
  go_wp2
  go_ret
  generalize hW1 : w.alloc (Obj.cells #[.pointer (some ⟨a, 0, none⟩)] 24) = W1
  have s1 : W1.heap.size = w.heap.size + 1 := by rw [← hW1]; simp
  have f1 : W1.heap[w.heap.size]? = some (Obj.cells #[.pointer (some ⟨a, 0, none⟩)] 24 (0, 0)) := by rw [← hW1]; exact heap_alloc_new w _
  have b1 : Below w.heap.size w W1 := by rw [← hW1]; exact (Below.refl _ _).alloc (Nat.le_refl _) _
  generalize hW2 : W1.alloc (Obj.cells #[.string s] 9) = W2
  have s2 : W2.heap.size = w.heap.size + 2 := by rw [← hW2]; simp [s1]
  have f2 : W2.heap[w.heap.size + 1]? = some (Obj.cells #[.string s] 9 (0, 0)) := by rw [← hW2, ← s1]; exact heap_alloc_new W1 _
  have b2 : Below W1.heap.size W1 W2 := by rw [← hW2]; exact (Below.refl _ _).alloc (Nat.le_refl _) _
  generalize hW3 : W2.alloc (.map #[] 0) = W3
  have s3 : W3.heap.size = w.heap.size + 3 := by rw [← hW3]; simp [s2]
  have f3 : MapF 9 eS W3 (w.heap.size + 2) 0 (fun _ => none) := by rw [← hW3, ← s2]; exact MapF.made W2
  have b3 : Below W2.heap.size W2 W3 := by rw [← hW3]; exact (Below.refl _ _).alloc (Nat.le_refl _) _
  have e2 : w.heap.size + 1 + 1 = w.heap.size + 2 := rfl
  rw [e2]
  generalize hW4 : W3.alloc (Obj.cells #[.map (some (w.heap.size + 2))] 101) = W4
  have s4 : W4.heap.size = w.heap.size + 4 := by rw [← hW4]; simp [s3]
  have f4 : W4.heap[w.heap.size + 3]? = some (Obj.cells #[.map (some (w.heap.size + 2))] 101 (0, 0)) := by rw [← hW4, ← s3]; exact heap_alloc_new W3 _
  have b4 : Below W3.heap.size W3 W4 := by rw [← hW4]; exact (Below.refl _ _).alloc (Nat.le_refl _) _
  refine ⟨w.heap.size + 3, w.heap.size, w.heap.size + 1, w.heap.size + 2, rfl, ⟨f4, ?_, ?_, 0, _, Nat.le_refl _, f3.later b4 (by omega), fun p v h => by cases h⟩, by omega, Nat.le_refl _, by omega, by omega, by omega, by omega, by omega, by omega, ?_⟩
  · rw [b4.block _ (by omega), b3.block _ (by omega), b2.block _ (by omega)]; exact f1
  · rw [b4.block _ (by omega), b3.block _ (by omega), ba_bs]; exact f2
  · exact ((b1.trans (b2.mono (by omega))).trans (b3.mono (by omega))).trans (b4.mono (by omega))

/-! ### how the search stands -/
def scells (y : Nd) : List Value := [.int .i64 y.n, .string (ba y.p)]
def qc (Q : List Nd) : List Value := Q.flatMap scells
theorem qc_append (a b : List Nd) : qc (a ++ b) = qc a ++ qc b := by simp [qc]
theorem qc_len (Q : List Nd) : (qc Q).length = Q.length * 2 := by
  induction Q with
  | nil => rfl
  | cons m ms ih => show (scells m ++ qc ms).length = _; rw [List.length_append, ih]; simp [scells]; omega
theorem qc_at : ∀ (Q : List Nd) (i : Nat) (y : Nd), Q[i]? = some y → (qc Q)[i * 2]? = some (.int .i64 y.n) ∧ (qc Q)[i * 2 + 1]? = some (.string (ba y.p))
  | [], i, m, h => by simp at h
  | x :: ms, 0, m, h => by
    simp only [List.getElem?_cons_zero, Option.some.injEq] at h
    subst h
    exact ⟨rfl, rfl⟩
  | x :: ms, i + 1, m, h => by
    have := qc_at ms i m (by simpa using h)
    show (scells x ++ qc ms)[(i + 1) * 2]? = _ ∧ (scells x ++ qc ms)[(i + 1) * 2 + 1]? = _
    rw [show (i + 1) * 2 = i * 2 + 2 by omega]
    exact this
theorem info_state : (Try.prog.info? 71).map (fun i => (i.zero, i.size, i.bytes)) = some (some (.agg #[.int .i64 0, .string { data := #[] }]), 2, 24) := by kernel_rfl

/-- The words of the states are no longer than the list. -/
theorem Inv.wlen {rs : List Rule} {s : By} {Q : List Nd} {i : Nat} {cs : By} (h : Inv rs s Q i cs) : ∀ (j : Nat) (x : Nd), Q[j]? = some x → x.w.length ≤ j := by
  intro j
  induction j using Nat.strongRecOn with
  | _ j ih =>
    intro x hx
    rcases h.before (List.mem_of_getElem? hx) with ⟨_, _, h3⟩ | ⟨_, x', hx', hw, _⟩
    · rw [h3]; simp
    · obtain ⟨k, hk⟩ := mem_at hx'
      have hlt : k < j := by
        rcases Nat.lt_trichotomy k j with h1 | h1 | h1
        · exact h1
        · subst h1; rw [hk] at hx; cases hx
          have := congrArg List.length hw
          simp at this
        · have h2 := pw_lt h.ord hx hk h1
          rcases h2 with h2 | ⟨h2, _⟩
          · rw [hw] at h2; simp at h2; omega
          · rw [hw] at h2; simp at h2
      have := ih k hlt x' hk
      rw [hw]; simp; omega

/-- The search's memory: end's variable e0, the map R of the states that are reached, the memory of moves, the queue v. -/
structure TSt (e0 R c1 c2 c3 bm a qb : Nat) (rs : List Rule) (s : By) (w : World) (v : Value) (Q : List Nd) (N : Nat) (W : World) : Prop where
  bel : Below w.heap.size w W
  endb : W.heap[e0]? = some (.cells #[.int .i64 s.length, .string ⟨#[]⟩] 71 (0, 0))
  mp : MapF 71 eSt W R Q.length (arr Q)
  memo : Memo c1 c2 c3 bm a rs s N W
  queue : W.ownsRow qb 71 2 v Q.length (qc Q)
  n1 : w.heap.size ≤ e0 ∧ e0 < qb ∧ w.heap.size ≤ R ∧ R < qb ∧ w.heap.size ≤ bm ∧ bm < qb ∧ c1 < qb ∧ c2 < qb ∧ c3 < qb ∧ R ≠ bm ∧ qb ≤ W.heap.size
theorem TSt.later {e0 R c1 c2 c3 bm a qb N : Nat} {rs : List Rule} {s : By} {w W W' : World} {v : Value} {Q : List Nd} (h : TSt e0 R c1 c2 c3 bm a qb rs s w v Q N W) (hb : Below W.heap.size W W') : TSt e0 R c1 c2 c3 bm a qb rs s w v Q N W' where
  bel := h.bel.trans (hb.mono h.bel.size)
  endb := by rw [hb.block _ (Array.getElem?_eq_some_iff.1 h.endb).1]; exact h.endb
  mp := h.mp.later hb h.mp.lt
  memo := h.memo.later hb
  queue := own_later h.queue hb
  n1 := by have := h.n1; have := hb.size; omega
/-- The memory of moves turns. -/
theorem TSt.memoed {e0 R c1 c2 c3 bm a qb N M : Nat} {rs : List Rule} {s : By} {w W W' : World} {v : Value} {Q : List Nd} (h : TSt e0 R c1 c2 c3 bm a qb rs s w v Q N W) (hg : W.grownBy W' (some bm)) (hM : Memo c1 c2 c3 bm a rs s M W') : TSt e0 R c1 c2 c3 bm a qb rs s w v Q M W' where
  bel := h.bel.grown hg h.bel.size (fun k hk => by cases hk; exact h.n1.2.2.2.2.1)
  endb := by
    rw [hg.block _ (Array.getElem?_eq_some_iff.1 h.endb).1 (fun e => ?_)]
    · exact h.endb
    · injection e with e
      obtain ⟨n, f, _, hm, _⟩ := h.memo.mp
      obtain ⟨es, c, hb⟩ := hm.is_map
      rw [← e, h.endb] at hb; cases hb
  mp := h.mp.kept hg (fun e => by injection e with e; exact h.n1.2.2.2.2.2.2.2.2.2.1 e)
  memo := hM
  queue := own_kind h.queue hg (fun g e c fz hc => by
    cases e
    obtain ⟨n, f, _, hm, _⟩ := h.memo.mp
    obtain ⟨es, c, hb⟩ := hm.is_map
    rw [hc] at hb; cases hb)
  n1 := by have := h.n1; have := hg.size; omega
/-- A new state is reached. -/
theorem TSt.reached {e0 R c1 c2 c3 bm a qb N : Nat} {rs : List Rule} {s : By} {w W W2 W3 : World} {v v' : Value} {Q : List Nd} {z : Nd} (h : TSt e0 R c1 c2 c3 bm a qb rs s w v Q N W) (hg : W.grownBy W2 (some R)) (hM : MapF 71 eSt W2 R (Q.length + 1) (arr (Q ++ [z])))
    {lit : Obj} (hg2 : (W2.alloc lit).grownBy W3 v.ownBlock) (hown : W3.ownsRow qb 71 2 v' (Q.length + 1) (qc Q ++ scells z)) : TSt e0 R c1 c2 c3 bm a qb rs s w v' (Q ++ [z]) N W3 := by
  obtain ⟨es, cl, hRm⟩ := h.mp.is_map
  have n1 := h.n1
  have hz2 := hg.size
  have hz3 := hg2.size
  have hRlt : R < W.heap.size := h.mp.lt
  have hz4 : (W2.alloc lit).heap.size = W2.heap.size + 1 := by simp
  have hvb : ∀ k, v.ownBlock = some k → qb ≤ k ∧ k < W.heap.size := fun k hk => h.queue.lt k hk
  have hkd : ∀ g, some R = some g → ∀ t c fz, W.heap[g]? ≠ some (.cells c t fz) := by
    rintro g e t c fz hc
    cases e
    rw [hRm] at hc; cases hc
  have hne : ∀ {k c t}, W.heap[k]? = some (.cells c t (0, 0)) → some k ≠ some R := by
    rintro k c t hk e
    cases e
    rw [hRm] at hk; cases hk
  have lt : ∀ {k o}, W.heap[k]? = some o → k < W.heap.size := fun hh => (Array.getElem?_eq_some_iff.1 hh).1
  have b2 : Below W2.heap.size W2 (W2.alloc lit) := (Below.refl _ _).alloc (Nat.le_refl _) _
  have mem1 : Memo c1 c2 c3 bm a rs s N W2 := h.memo.kept hg (hne h.memo.b1) (hne h.memo.b2) (hne h.memo.b3) (fun e => by injection e with e; exact n1.2.2.2.2.2.2.2.2.2.1 e.symm) (fun g e c fz => hkd g e _ c fz)
  have q2 : W2.ownsRow qb 71 2 v Q.length (qc Q) := own_kind h.queue hg (fun g e c fz => hkd g e _ c fz)
  have q3 := own_later q2 b2
  have vne : ∀ k, k < qb → some k ≠ v.ownBlock := fun k hk e => by have := (hvb k e.symm).1; omega
  have mem2 : Memo c1 c2 c3 bm a rs s N W3 := (mem1.later b2).kept hg2 (vne _ (by omega)) (vne _ (by omega)) (vne _ (by omega)) (vne _ (by omega)) (fun g e c fz hc => by
    rcases q3.2 with ⟨rfl, _⟩ | ⟨g', cap, cur, rfl, hb, hg', _⟩
    · simp [Value.ownBlock] at e
    · simp [Value.ownBlock] at e
      subst e
      rw [hg'] at hc
      injection hc with hc
      injection hc with _ hc _
      revert hc; decide)
  have keep : ∀ {k o}, W.heap[k]? = some o → k < qb → some k ≠ some R → W3.heap[k]? = some o := fun {k o} hk hq hR => by
    have h1 : W2.heap[k]? = some o := (hg.block _ (lt hk) hR).trans hk
    have h2 : (W2.alloc lit).heap[k]? = some o := (b2.block _ (by have := lt hk; omega)).trans h1
    exact (hg2.block _ (by have := lt hk; omega) (vne _ hq)).trans h2
  exact {
    bel := ((h.bel.grown hg h.bel.size (fun k hk => by cases hk; exact n1.2.2.1)).alloc (by have := h.bel.size; omega) lit).grown hg2 (by have := h.bel.size; omega) (fun k hk => by have := (hvb k hk).1; omega)
    endb := keep h.endb n1.2.1 (hne h.endb)
    mp := by
      rw [List.length_append, List.length_singleton]
      refine ((hM.alloc lit).block (hg2.block _ (by omega) (vne _ (by omega))))
    memo := mem2
    queue := by rw [List.length_append, List.length_singleton, qc_append]; simpa [qc] using hown
    n1 := by omega }

end Go.Proofs.Ytmbccolkgephgaa.Aut
