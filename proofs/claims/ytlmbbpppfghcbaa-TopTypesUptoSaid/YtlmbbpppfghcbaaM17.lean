/-
  Joined texts: AutY, AutZ, AutL, AutP.
-/
import Derived.Test.YtlmbbpppfghcbaaM16
import Derived.Maps.AppendAt
import Derived.Test.YtlmbbpppfghcbaaM2
import Derived.Deep.AppendLies
import Derived.Deep.QuietTactic
import Derived.BigQuiet
import Derived.Test.YtlmbbpppfghcbaaM6
set_option linter.unusedVariables false
set_option linter.unusedSimpArgs false
set_option maxRecDepth 100000
namespace Go.Proofs.Ytlmbbpppfghcbaa.Aut
open Go Go.RowKit Go.Proofs.Ytlmbbpppfghcbaa.Kit Go.Proofs.Ytlmbbpppfghcbaa.Utf Go.Proofs.Ytlmbbpppfghcbaa.Rom Go.Maps Go.ChangeMaps Go.WideMaps

section
variable {κ : Type} {kt : TypeId} {ek : κ → Value} (w : World) {ops : Array Oper} {rest : List Oper} {o : Oper} {a : Act} {Q : Exit → Act → World → Prop}
/-- 'v, ok := m[k]' at the operation. -/
theorem wpList_look_F (hg : o.guard = none) (m x : Operand) (t : TypeId) (hop : o.op = Op.lookup t m x true) (e : TypeId) (K : Keyed Try.prog kt) (ht : Try.prog.underlying t = some (.map kt e)) (b : Nat) (k : κ) (z : Value) (hz : ∀ w, (zeroValue e).run Try.prog w = .ok z w)
    (hm : a.eval m = .map (some b)) (hx : a.eval x = ek k) (n : Nat) (f : κ → Option Value) (hM : MapF kt ek w b n f) (hk : ∃ l, keyOf Try.prog kt (ek k) = some l)
    (hK : wpList Try.prog ops Q rest (a.put o.dst (.tuple #[(f k).getD z, .bool (f k).isSome])) w) : wpList Try.prog ops Q (o :: rest) a w := by
  refine wpList_plain hg fun K' hK' => ?_
  obtain ⟨l, hl⟩ := hk
  have hrun := hM.look K ht (hz w) hl
  unfold Oper.wp
  simp [execOp, hop, hm, hx, hrun, Result.andThen]
  exact hK' _ _ hK
/-- 'm[k] = v' at the operation. -/
theorem wpList_put_F [DecidableEq κ] (hg : o.guard = none) (m x v : Operand) (t : TypeId) (hop : o.op = Op.mapUpdate t m x v) (e : TypeId) (K : Keyed Try.prog kt) (hinj : ∀ x y, ek x = ek y → x = y) (ht : Try.prog.underlying t = some (.map kt e)) (b : Nat) (k : κ) (u : Value)
    (hm : a.eval m = .map (some b)) (hx : a.eval x = ek k) (hv : a.eval v = u) (n : Nat) (f : κ → Option Value) (hM : MapF kt ek w b n f) (hn : n < maxLen) (hk : ∃ l, keyOf Try.prog kt (ek k) = some l)
    (hK : ∀ w', MapF kt ek w' b (n + 1) (upd f k u) → w.grownBy w' (some b) → wpList Try.prog ops Q rest (a.put o.dst undef) w') : wpList Try.prog ops Q (o :: rest) a w := by
  refine wpList_plain hg fun K' hK' => ?_
  obtain ⟨l, hl⟩ := hk
  obtain ⟨w', hrun, r1, r2⟩ := hM.put K hinj ht hn hl u
  unfold Oper.wp
  simp [execOp, hop, hm, hx, hv, hrun, Result.andThen]
  exact hK' _ _ (hK w' r1 r2)
end

theorem memory_any (a : Nat) (rs : List Rule) (s : ByteArray) (w : World) :
    Calls Try.prog 59 #[.pointer (some ⟨a, 0, none⟩), .string s] w fun e w' => ∃ c1 c2 c3 bm, e = .returned (.func (.func 77) #[] #[.pointer (some ⟨c1, 0, none⟩), .pointer (some ⟨c2, 0, none⟩), .pointer (some ⟨c3, 0, none⟩)]) ∧ Memo c1 c2 c3 bm a rs (bs s) 0 w' ∧ w.heap.size ≤ c1 ∧ w.heap.size ≤ c2 ∧ w.heap.size ≤ c3 ∧ w.heap.size ≤ bm ∧ c1 < w'.heap.size ∧ c2 < w'.heap.size ∧ c3 < w'.heap.size ∧ bm < w'.heap.size ∧ Below w.heap.size w w' := by
  have hmm := @run_makeMap Try.prog
  go_enter Try.func59, Try.ntmps59
  go_wp2
  go_ret
  generalize hW1 : w.alloc (Obj.cells #[.pointer (some ⟨a, 0, none⟩)] 41) = W1
  have s1 : W1.heap.size = w.heap.size + 1 := by rw [← hW1]; simp
  have f1 : W1.heap[w.heap.size]? = some (Obj.cells #[.pointer (some ⟨a, 0, none⟩)] 41 (0, 0)) := by rw [← hW1]; exact heap_alloc_new w _
  have b1 : Below w.heap.size w W1 := by rw [← hW1]; exact (Below.refl _ _).alloc (Nat.le_refl _) _
  generalize hW2 : W1.alloc (Obj.cells #[.string s] 9) = W2
  have s2 : W2.heap.size = w.heap.size + 2 := by rw [← hW2]; simp [s1]
  have f2 : W2.heap[w.heap.size + 1]? = some (Obj.cells #[.string s] 9 (0, 0)) := by rw [← hW2, ← s1]; exact heap_alloc_new W1 _
  have b2 : Below W1.heap.size W1 W2 := by rw [← hW2]; exact (Below.refl _ _).alloc (Nat.le_refl _) _
  generalize hW3 : W2.alloc (.map #[] 0) = W3
  have s3 : W3.heap.size = w.heap.size + 3 := by rw [← hW3]; simp [s2]
  have f3 : MapF 9 eS W3 (w.heap.size + 2) 0 (fun _ => none) := by rw [← hW3, ← s2]; exact MapF.made W2
  have b3 : Below W2.heap.size W2 W3 := by rw [← hW3]; exact (Below.refl _ _).alloc (Nat.le_refl _) _
  have e2 : w.heap.size + 1 + 1 = w.heap.size + 2 := rfl
  rw [e2]
  generalize hW4 : W3.alloc (Obj.cells #[.map (some (w.heap.size + 2))] 136) = W4
  have s4 : W4.heap.size = w.heap.size + 4 := by rw [← hW4]; simp [s3]
  have f4 : W4.heap[w.heap.size + 3]? = some (Obj.cells #[.map (some (w.heap.size + 2))] 136 (0, 0)) := by rw [← hW4, ← s3]; exact heap_alloc_new W3 _
  have b4 : Below W3.heap.size W3 W4 := by rw [← hW4]; exact (Below.refl _ _).alloc (Nat.le_refl _) _
  refine ⟨w.heap.size + 3, w.heap.size, w.heap.size + 1, w.heap.size + 2, rfl, ⟨f4, ?_, ?_, 0, _, Nat.le_refl _, f3.later b4 (by omega), fun p v h => by cases h⟩, by omega, Nat.le_refl _, by omega, by omega, by omega, by omega, by omega, by omega, ?_⟩
  · rw [b4.block _ (by omega), b3.block _ (by omega), b2.block _ (by omega)]; exact f1
  · rw [b4.block _ (by omega), b3.block _ (by omega), ba_bs]; exact f2
  · exact ((b1.trans (b2.mono (by omega))).trans (b3.mono (by omega))).trans (b4.mono (by omega))

/-! ### how the search stands -/
def scells (y : Nd) : List Value := [.int .i64 y.n, .string (ba y.p)]
def qc (Q : List Nd) : List Value := Q.flatMap scells
theorem qc_append (a b : List Nd) : qc (a ++ b) = qc a ++ qc b := by simp [qc]
theorem qc_len (Q : List Nd) : (qc Q).length = Q.length * 2 := by
  induction Q with
  | nil => rfl
  | cons m ms ih => show (scells m ++ qc ms).length = _; rw [List.length_append, ih]; simp [scells]; omega
theorem qc_at : ∀ (Q : List Nd) (i : Nat) (y : Nd), Q[i]? = some y → (qc Q)[i * 2]? = some (.int .i64 y.n) ∧ (qc Q)[i * 2 + 1]? = some (.string (ba y.p))
  | [], i, m, h => by simp at h
  | x :: ms, 0, m, h => by
    simp only [List.getElem?_cons_zero, Option.some.injEq] at h
    subst h
    exact ⟨rfl, rfl⟩
  | x :: ms, i + 1, m, h => by
    have := qc_at ms i m (by simpa using h)
    show (scells x ++ qc ms)[(i + 1) * 2]? = _ ∧ (scells x ++ qc ms)[(i + 1) * 2 + 1]? = _
    rw [show (i + 1) * 2 = i * 2 + 2 by omega]
    exact this
theorem info_state : (Try.prog.info? 104).map (fun i => (i.zero, i.size, i.bytes)) = some (some (.agg #[.int .i64 0, .string { data := #[] }]), 2, 24) := by kernel_rfl

/-- The words of the states are no longer than the list. -/
theorem Inv.wlen {rs : List Rule} {s : By} {Q : List Nd} {i : Nat} {cs : By} (h : Inv rs s Q i cs) : ∀ (j : Nat) (x : Nd), Q[j]? = some x → x.w.length ≤ j := by
  intro j
  induction j using Nat.strongRecOn with
  | _ j ih =>
    intro x hx
    rcases h.before (List.mem_of_getElem? hx) with ⟨_, _, h3⟩ | ⟨_, x', hx', hw, _⟩
    · rw [h3]; simp
    · obtain ⟨k, hk⟩ := mem_at hx'
      have hlt : k < j := by
        rcases Nat.lt_trichotomy k j with h1 | h1 | h1
        · exact h1
        · subst h1; rw [hk] at hx; cases hx
          have := congrArg List.length hw
          simp at this
        · have h2 := pw_lt h.ord hx hk h1
          rcases h2 with h2 | ⟨h2, _⟩
          · rw [hw] at h2; simp at h2; omega
          · rw [hw] at h2; simp at h2
      have := ih k hlt x' hk
      rw [hw]; simp; omega

/-- The search's memory: end's variable e0, the map R of the states that are reached, the memory of moves, the queue v. -/
structure TSt (e0 R c1 c2 c3 bm a qb : Nat) (rs : List Rule) (s : By) (w : World) (v : Value) (Q : List Nd) (N : Nat) (W : World) : Prop where
  bel : Below w.heap.size w W
  endb : W.heap[e0]? = some (.cells #[.int .i64 s.length, .string ⟨#[]⟩] 104 (0, 0))
  mp : MapF 104 eSt W R Q.length (arr Q)
  memo : Memo c1 c2 c3 bm a rs s N W
  queue : W.ownsRow qb 104 2 v Q.length (qc Q)
  n1 : w.heap.size ≤ e0 ∧ e0 < qb ∧ w.heap.size ≤ R ∧ R < qb ∧ w.heap.size ≤ bm ∧ bm < qb ∧ c1 < qb ∧ c2 < qb ∧ c3 < qb ∧ R ≠ bm ∧ qb ≤ W.heap.size
theorem TSt.later {e0 R c1 c2 c3 bm a qb N : Nat} {rs : List Rule} {s : By} {w W W' : World} {v : Value} {Q : List Nd} (h : TSt e0 R c1 c2 c3 bm a qb rs s w v Q N W) (hb : Below W.heap.size W W') : TSt e0 R c1 c2 c3 bm a qb rs s w v Q N W' where
  bel := h.bel.trans (hb.mono h.bel.size)
  endb := by rw [hb.block _ (Array.getElem?_eq_some_iff.1 h.endb).1]; exact h.endb
  mp := h.mp.later hb h.mp.lt
  memo := h.memo.later hb
  queue := own_later h.queue hb
  n1 := by have := h.n1; have := hb.size; omega
/-- The memory of moves turns. -/
theorem TSt.memoed {e0 R c1 c2 c3 bm a qb N M : Nat} {rs : List Rule} {s : By} {w W W' : World} {v : Value} {Q : List Nd} (h : TSt e0 R c1 c2 c3 bm a qb rs s w v Q N W) (hg : W.grownBy W' (some bm)) (hM : Memo c1 c2 c3 bm a rs s M W') : TSt e0 R c1 c2 c3 bm a qb rs s w v Q M W' where
  bel := h.bel.grown hg h.bel.size (fun k hk => by cases hk; exact h.n1.2.2.2.2.1)
  endb := by
    rw [hg.block _ (Array.getElem?_eq_some_iff.1 h.endb).1 (fun e => ?_)]
    · exact h.endb
    · injection e with e
      obtain ⟨n, f, _, hm, _⟩ := h.memo.mp
      obtain ⟨es, c, hb⟩ := hm.is_map
      rw [← e, h.endb] at hb; cases hb
  mp := h.mp.kept hg (fun e => by injection e with e; exact h.n1.2.2.2.2.2.2.2.2.2.1 e)
  memo := hM
  queue := own_kind h.queue hg (fun g e c fz hc => by
    cases e
    obtain ⟨n, f, _, hm, _⟩ := h.memo.mp
    obtain ⟨es, c, hb⟩ := hm.is_map
    rw [hc] at hb; cases hb)
  n1 := by have := h.n1; have := hg.size; omega
/-- A new state is reached. -/
theorem TSt.reached {e0 R c1 c2 c3 bm a qb N : Nat} {rs : List Rule} {s : By} {w W W2 W3 : World} {v v' : Value} {Q : List Nd} {z : Nd} (h : TSt e0 R c1 c2 c3 bm a qb rs s w v Q N W) (hg : W.grownBy W2 (some R)) (hM : MapF 104 eSt W2 R (Q.length + 1) (arr (Q ++ [z])))
    {lit : Obj} (hg2 : (W2.alloc lit).grownBy W3 v.ownBlock) (hown : W3.ownsRow qb 104 2 v' (Q.length + 1) (qc Q ++ scells z)) : TSt e0 R c1 c2 c3 bm a qb rs s w v' (Q ++ [z]) N W3 := by
  obtain ⟨es, cl, hRm⟩ := h.mp.is_map
  have n1 := h.n1
  have hz2 := hg.size
  have hz3 := hg2.size
  have hRlt : R < W.heap.size := h.mp.lt
  have hz4 : (W2.alloc lit).heap.size = W2.heap.size + 1 := by simp
  have hvb : ∀ k, v.ownBlock = some k → qb ≤ k ∧ k < W.heap.size := fun k hk => h.queue.lt k hk
  have hkd : ∀ g, some R = some g → ∀ t c fz, W.heap[g]? ≠ some (.cells c t fz) := by
    rintro g e t c fz hc
    cases e
    rw [hRm] at hc; cases hc
  have hne : ∀ {k c t}, W.heap[k]? = some (.cells c t (0, 0)) → some k ≠ some R := by
    rintro k c t hk e
    cases e
    rw [hRm] at hk; cases hk
  have lt : ∀ {k o}, W.heap[k]? = some o → k < W.heap.size := fun hh => (Array.getElem?_eq_some_iff.1 hh).1
  have b2 : Below W2.heap.size W2 (W2.alloc lit) := (Below.refl _ _).alloc (Nat.le_refl _) _
  have mem1 : Memo c1 c2 c3 bm a rs s N W2 := h.memo.kept hg (hne h.memo.b1) (hne h.memo.b2) (hne h.memo.b3) (fun e => by injection e with e; exact n1.2.2.2.2.2.2.2.2.2.1 e.symm) (fun g e c fz => hkd g e _ c fz)
  have q2 : W2.ownsRow qb 104 2 v Q.length (qc Q) := own_kind h.queue hg (fun g e c fz => hkd g e _ c fz)
  have q3 := own_later q2 b2
  have vne : ∀ k, k < qb → some k ≠ v.ownBlock := fun k hk e => by have := (hvb k e.symm).1; omega
  have mem2 : Memo c1 c2 c3 bm a rs s N W3 := (mem1.later b2).kept hg2 (vne _ (by omega)) (vne _ (by omega)) (vne _ (by omega)) (vne _ (by omega)) (fun g e c fz hc => by
    rcases q3.2 with ⟨rfl, _⟩ | ⟨g', cap, cur, rfl, hb, hg', _⟩
    · simp [Value.ownBlock] at e
    · simp [Value.ownBlock] at e
      subst e
      rw [hg'] at hc
      injection hc with hc
      injection hc with _ hc _
      revert hc; decide)
  have keep : ∀ {k o}, W.heap[k]? = some o → k < qb → some k ≠ some R → W3.heap[k]? = some o := fun {k o} hk hq hR => by
    have h1 : W2.heap[k]? = some o := (hg.block _ (lt hk) hR).trans hk
    have h2 : (W2.alloc lit).heap[k]? = some o := (b2.block _ (by have := lt hk; omega)).trans h1
    exact (hg2.block _ (by have := lt hk; omega) (vne _ hq)).trans h2
  exact {
    bel := ((h.bel.grown hg h.bel.size (fun k hk => by cases hk; exact n1.2.2.1)).alloc (by have := h.bel.size; omega) lit).grown hg2 (by have := h.bel.size; omega) (fun k hk => by have := (hvb k hk).1; omega)
    endb := keep h.endb n1.2.1 (hne h.endb)
    mp := by
      rw [List.length_append, List.length_singleton]
      refine ((hM.alloc lit).block (hg2.block _ (by omega) (vne _ (by omega))))
    memo := mem2
    queue := by rw [List.length_append, List.length_singleton, qc_append]; simpa [qc] using hown
    n1 := by omega }

end Go.Proofs.Ytlmbbpppfghcbaa.Aut

set_option linter.unusedVariables false
set_option linter.unusedSimpArgs false
set_option maxRecDepth 100000
namespace Go.Proofs.Ytlmbbpppfghcbaa.Aut
open Go Go.RowKit Go.Proofs.Ytlmbbpppfghcbaa.Kit Go.Proofs.Ytlmbbpppfghcbaa.Utf Go.Proofs.Ytlmbbpppfghcbaa.Rom

/-- What Type answers. -/
def TypeIs (rs : List Rule) (s k : By) (ok : Bool) : Prop :=
  ((count s < 0 ∨ 64 < count s) ∧ k = [] ∧ ok = false) ∨ ((0 ≤ count s ∧ count s ≤ 64) ∧ Least rs s k ok)
theorem TypeIs.det {rs : List Rule} {s k k' : By} {ok ok' : Bool} (h : TypeIs rs s k ok) (h' : TypeIs rs s k' ok') : k = k' ∧ ok = ok' := by
  rcases h with ⟨h1, rfl, rfl⟩ | ⟨h1, h2⟩ <;> rcases h' with ⟨h1', rfl, rfl⟩ | ⟨h1', h2'⟩
  · exact ⟨rfl, rfl⟩
  · omega
  · omega
  · exact h2.det h2'
theorem count_len {s : By} (h : 0 ≤ count s) (h2 : count s ≤ 64) : s.length ≤ 256 := by
  unfold count at h h2
  cases hc : chars s with
  | none => rw [hc] at h; simp at h
  | some cs =>
    rw [hc] at h2
    obtain ⟨hv, he⟩ := chars_some hc
    have := encs_length_le hv
    rw [← he] at this
    simp at h2
    omega

theorem key_st2 {n : Nat} {q : By} (hn : n ≤ 1000000) (hq : q.length ≤ 1000000) : ∃ l, keyOf Try.prog 104 (eSt (n, ba q)) = some l := key_st (by omega) (by rw [ba_size]; unfold maxLen; omega)

theorem look_st {W : World} {R n N : Nat} {f : Nat × ByteArray → Option Value} {s p : ByteArray} {k : Nat} {c : Int} (h : MapF 104 eSt W R n f) (hk : ∃ l, keyOf Try.prog 104 (eSt (N, s)) = some l) (hf : f (N, s) = some (eAr k p c)) :
    (Instr.lookup 107 (.map (some R)) (.agg #[.int .i64 N, .string s]) true).run Try.prog W = .ok (.tuple #[.agg #[.int .i64 k, .string p, .int .u8 c], .bool true]) W := by
  obtain ⟨l, hl⟩ := hk
  have := h.look law_st Try.underlying107 (zeroAr W) hl
  rw [hf] at this
  exact this
theorem look_st0 {W : World} {R n N : Nat} {f : Nat × ByteArray → Option Value} {s : ByteArray} (h : MapF 104 eSt W R n f) (hk : ∃ l, keyOf Try.prog 104 (eSt (N, s)) = some l) (hf : f (N, s) = none) :
    (Instr.lookup 107 (.map (some R)) (.agg #[.int .i64 N, .string s]) true).run Try.prog W = .ok (.tuple #[.agg #[.int .i64 0, .string ⟨#[]⟩, .int .u8 0], .bool false]) W := by
  obtain ⟨l, hl⟩ := hk
  have := h.look law_st Try.underlying107 (zeroAr W) hl
  rw [hf] at this
  exact this
theorem put_st {W : World} {R n N : Nat} {f : Nat × ByteArray → Option Value} {s : ByteArray} (h : MapF 104 eSt W R n f) (hn : n < maxLen) (hk : ∃ l, keyOf Try.prog 104 (eSt (N, s)) = some l) (v : Value) :
    ∃ W3, (Instr.mapUpdate 107 (.map (some R)) (.agg #[.int .i64 N, .string s]) v).run Try.prog W = .ok () W3 ∧ MapF 104 eSt W3 R (n + 1) (upd f (N, s) v) ∧ W.grownBy W3 (some R) := by
  obtain ⟨l, hl⟩ := hk
  exact h.put law_st eSt_inj Try.underlying107 hn hl v
theorem ax1 {xn ol N2 s pl : Nat} (h : xn + ol = N2) (hx : xn ≤ s) (ho : ol ≤ 16 * (pl + 1)) (hp : pl ≤ 4) (hs : s ≤ 256) : N2 ≤ 1000000 := by omega
theorem ax2 {ql pl : Nat} (h : ql ≤ pl + 1) (hp : pl ≤ 4) : ql ≤ 1000000 := by omega
theorem ax3 {xn ol N2 z : Nat} (h : xn + ol = N2) (hz : z = ol) : (xn : Int) + (z : Int) = N2 := by omega
theorem ax4 {s : Nat} (h : s ≤ 256) : s + 1 ≤ 257 := by omega
theorem ax5 {s : Nat} (h : s ≤ 500) : 1 + 4 * s ≤ 2001 := by omega
theorem ax6 {q : Nat} (h : q ≤ 600000) : q < maxLen := by unfold maxLen; omega
theorem ax7 {j M : Nat} (h : j < M) : M - (intOf (.int .i64 ((j : Int) + 1))).toNat < M - (intOf (.int .i64 (j : Int))).toNat := by simp [intOf]; omega
theorem ax10 {q : Nat} (h : q ≤ 600000) : (q + 1) * 24 ≤ 140737488355328 := by omega
theorem ax6' {q : Nat} (h : q ≤ 600000) : q + 1 ≤ maxLen := by unfold maxLen; omega
theorem ax11 {n : Int} {s : ByteArray} : ∀ u ∈ [Value.int .i64 n, Value.string s], u.oneCell' = true := by
  intro u hu
  simp only [List.mem_cons, List.not_mem_nil, or_false] at hu
  rcases hu with rfl | rfl <;> rfl
theorem queue_kept {e0 R c1 c2 c3 bm a qb N : Nat} {rs : List Rule} {s : By} {w W W' : World} {v : Value} {Q : List Nd} (h : TSt e0 R c1 c2 c3 bm a qb rs s w v Q N W) (hg : W.grownBy W' (some R)) : W'.ownsRow qb 104 2 v Q.length (qc Q) := by
  refine own_kind h.queue hg (fun g e c fz hc => ?_)
  cases e
  obtain ⟨es, cl, hR⟩ := h.mp.is_map
  rw [hR] at hc; cases hc
theorem ax12 {a b c : Nat} (h : a < b) (h2 : b + 2 ≤ c) : a < c + 1 := by omega
theorem ax13 {a b c : Nat} (h : a < b) (h2 : b + 2 ≤ c) : a < c := by omega
theorem ax14 {a b c g : Nat} (h : g = c + 1) (h1 : a < b) (h2 : b + 2 ≤ c) : g ≠ a := by omega
theorem World.heap_alloc_lt (W : World) (o : Obj) (k : Nat) (h : k < W.heap.size) : (W.alloc o).heap[k]? = W.heap[k]? := ((Below.refl W.heap.size W).alloc (Nat.le_refl _) o).block k h
theorem row_apart {W W' : World} {base base' n n' : Nat} {v v' : Value} {xs xs' : List Value} (h : W.ownsRow base 114 3 v n xs) (hq : W.ownsRow base' 104 2 v' n' xs') (hg : W.grownBy W' v'.ownBlock) : W'.ownsRow base 114 3 v n xs := by
  refine own_kind h hg (fun g e c fz hc => ?_)
  rcases hq.2 with ⟨rfl, _⟩ | ⟨g', cap, cur, rfl, hb, hg', _⟩
  · simp [Value.ownBlock] at e
  · simp [Value.ownBlock] at e
    subst e
    rw [hg'] at hc
    injection hc with hc
    injection hc with _ hc _
    revert hc; decide
theorem row_map {W W' : World} {R base m n : Nat} {f : Nat × ByteArray → Option Value} {v : Value} {xs : List Value} (h : W.ownsRow base 114 3 v n xs) (hM : MapF 104 eSt W R m f) (hg : W.grownBy W' (some R)) : W'.ownsRow base 114 3 v n xs := by
  refine own_kind h hg (fun g e c fz hc => ?_)
  cases e
  obtain ⟨es, cl, hR⟩ := hM.is_map
  rw [hR] at hc; cases hc
theorem block_apart {W W' : World} {R m k : Nat} {f : Nat × ByteArray → Option Value} {cs : Array Value} {t : TypeId} (h : W.heap[k]? = some (Obj.cells cs t (0, 0))) (hM : MapF 104 eSt W R m f) (hg : W.grownBy W' (some R)) : W'.heap[k]? = some (Obj.cells cs t (0, 0)) := by
  rw [hg.block k (Array.getElem?_eq_some_iff.1 h).1 (fun e => ?_)]
  · exact h
  · injection e with e
    obtain ⟨es, cl, hR⟩ := hM.is_map
    rw [← e, h] at hR; cases hR
theorem ax9 {n : Nat} (h : n ≤ 1000000) : (n : Int) ≤ 1000000 := by omega
theorem ax8 {a b : Nat} (h : a = b) (h2 : b < a) : False := by omega
set_option maxHeartbeats 16000000 in
theorem type_any {rs : List Rule} (hok : okL rs = true) (h500 : rs.length ≤ 500) (B a : Nat) (s : ByteArray) (w : World) (hA : AutoAt B w a rs) (hB : B ≤ w.heap.size) (hm : MaxL w) (hG : 0 < w.heap.size) (hs : s.size ≤ maxLen) :
    Calls Try.prog 30 #[.pointer (some ⟨a, 0, none⟩), .string s] w fun e w' => ∃ k ok, e = .returned (.tuple #[.string (ba k), .bool ok]) ∧ TypeIs rs (bs s) k ok ∧ k.length ≤ 1000000 ∧ Below w.heap.size w w' := by
  have HCN := Lib.hid (count_any s w hs)
  obtain ⟨C, hC⟩ : ∃ C : Int, count (bs s) = C := ⟨_, rfl⟩
  rw [hC] at HCN
  have HC := Lib.hid hC
  by_cases hc0 : C < 0
  · clear hC
    go_enter Try.func30, Try.ntmps30
    go_wp2_with (go_at_call 58; (with_reducible refine HCN.out.mono ?_); rintro e w1 ⟨rfl, hb1⟩)
    go_ret2
    exact ⟨[], false, rfl, .inl ⟨.inl (by rw [HC.out]; exact hc0), rfl, rfl⟩, Nat.zero_le _, hb1⟩
  by_cases hc1 : 64 < C
  · clear hC
    go_enter Try.func30, Try.ntmps30
    go_wp2_with (go_at_call 58; (with_reducible refine HCN.out.mono ?_); rintro e w1 ⟨rfl, hb1⟩)
    go_ret2
    exact ⟨[], false, rfl, .inl ⟨.inr (by rw [HC.out]; exact hc1), rfl, rfl⟩, Nat.zero_le _, hb1⟩
  have hsl := count_len (s := bs s) (by rw [hC]; omega) (by rw [hC]; omega)
  rw [bs_len] at hsl
  have HME := Lib.hid (fun W => memory_any a rs s W)
  have hmm := @run_makeMap Try.prog
  clear hC
  have HMK : Hid (∀ W : World, ∃ W3, (Instr.mapUpdate 107 (.map (some (W.heap.size + 1))) (.agg #[.int .i64 0, .string ⟨#[]⟩]) (.agg #[.int .i64 0, .string ⟨#[]⟩, .int .u8 0])).run Try.prog ((W.alloc (Obj.cells #[.int .i64 s.size, .string ⟨#[]⟩] 104)).alloc (Obj.map #[] 0)) = .ok () W3 ∧ MapF 104 eSt W3 (W.heap.size + 1) 1 (arr [nd0]) ∧ Below W.heap.size W W3 ∧ W.heap.size + 2 ≤ W3.heap.size ∧ W3.heap[W.heap.size]? = some (Obj.cells #[.int .i64 s.size, .string ⟨#[]⟩] 104 (0, 0))) := Lib.hid fun W => by
    have hz1 : (W.alloc (Obj.cells #[.int .i64 s.size, .string ⟨#[]⟩] 104)).heap.size = W.heap.size + 1 := by simp
    have hM := MapF.made (kt := 104) (ek := eSt) (W.alloc (Obj.cells #[.int .i64 s.size, .string ⟨#[]⟩] 104))
    rw [hz1] at hM
    obtain ⟨l, hl⟩ := key_st (n := 0) (s := ⟨#[]⟩) (by omega) (by show 0 ≤ _; omega)
    obtain ⟨W3, hrun, hM3, hg⟩ := hM.put law_st eSt_inj Try.underlying107 (by unfold maxLen; omega) hl (eAr 0 ⟨#[]⟩ 0)
    have hsz := hg.size
    have hz2 : ((W.alloc (Obj.cells #[.int .i64 s.size, .string ⟨#[]⟩] 104)).alloc (Obj.map #[] 0)).heap.size = W.heap.size + 2 := by simp
    refine ⟨W3, hrun, ?_, ?_, by omega, ?_⟩
    · have e := arr_new (Q := []) (z := nd0) (fun y hy => by cases hy)
      have e2 : arr ([] : List Nd) = fun _ => none := rfl
      rw [e2] at e
      rw [show ([nd0] : List Nd) = [] ++ [nd0] from rfl, ← e]
      exact hM3
    · exact (((Below.refl _ _).alloc (Nat.le_refl _) _).alloc (by simp) _).grown hg (by simp; omega) (fun k hk => by cases hk; omega)
    · rw [hg.block _ (by omega) (by simp)]
      exact (heap_two W _ _).1
  have HA := Lib.hid hA
  have HML := Lib.hid hm
  have hnw : Hid (∀ g, Try.prog.underlying g = Try.prog.underlying g) := Lib.hid fun _ => rfl
  clear hA hm hnw
  go_enter Try.func30, Try.ntmps30
  go_wp2_with (first
    | (go_at_call 58; (with_reducible refine HCN.out.mono ?_); rintro e w1 ⟨rfl, hb1⟩; obtain ⟨w3, hrun3, hM3, hb3, hz3, he3⟩ := HMK.out w1)
    | (go_at_call 59; (with_reducible refine (HME.out _).mono ?_); rintro e w4 ⟨c1, c2, c3, bm, rfl, hMe, q1, q2, q3, q4, q5, q6, q7, q8, hb4⟩))
  obtain ⟨W, hW⟩ : ∃ W, w4.alloc (Obj.cells #[.int .i64 0, .string ⟨#[]⟩] 104) = W := ⟨_, rfl⟩
  have hb5 : Below w4.heap.size w4 W := by rw [← hW]; exact (Below.refl _ _).alloc (Nat.le_refl _) _
  have hz5 : W.heap.size = w4.heap.size + 1 := by rw [← hW]; simp
  have hz4 := hb4.size
  have hz1 := hb1.size
  have hT : TSt w1.heap.size (w1.heap.size + 1) c1 c2 c3 bm a w4.heap.size rs (bs s) w (.slice (some ⟨w4.heap.size, 0, none⟩) 1 1) [nd0] 0 W := {
    bel := ((hb1.trans (hb3.mono hz1)).trans (hb4.mono (by omega))).trans (hb5.mono (by omega))
    endb := by rw [bs_len, hb5.block _ (by omega), hb4.block _ (by omega)]; exact he3
    mp := (hM3.later hb4 (by omega)).later hb5 (by omega)
    memo := hMe.later hb5
    queue := ⟨rfl, .inr ⟨w4.heap.size, 1, #[.int .i64 0, .string ⟨#[]⟩], rfl, Nat.le_refl _, by rw [← hW]; exact heap_alloc_new w4 _, Nat.le_refl _, by simp [maxLen], rfl, rfl⟩⟩
    n1 := by omega }
  rw [hW]
  generalize w1.heap.size = e0 at *
  generalize w4.heap.size = qb at *
  generalize hR : e0 + 1 = R at *
  have HT := Lib.hid hT
  clear hT hW hb5 hz5 hz4 hz1 hM3 hb3 hz3 he3 hb4 hMe hb1 hrun3 q1 q2 q3 q4 q5 q6 q7 q8 HMK HME HCN hR
  go_loopw [10, 11] (fun v i wr => ∃ (Q : List Nd) (k : Nat), i = .int .i64 k ∧ Hid (Inv rs (bs s) Q k []) ∧ k ≤ Q.length ∧ Hid (∀ (j : Nat) (x : Nd), j < k → Q[j]? = some x → ¬ (x.n = (bs s).length ∧ x.p = [])) ∧ Hid (TSt e0 R c1 c2 c3 bm a qb rs (bs s) w v Q k wr)) (fun _ i _ => 700000 - (intOf i).toNat)
  case atStart => exact ⟨[nd0], 0, rfl, Lib.hid (inv_start rs (bs s)), Nat.zero_le _, Lib.hid (fun j x h => by omega), HT⟩
  case round =>
    obtain ⟨Q, k, rfl, hI, hk, hno, hT⟩ := hrel
    have hfew := hI.out.few hok
    rw [bs_len] at hfew
    have hfw : Q.length ≤ 600000 := Nat.le_trans hfew (Nat.le_trans (Nat.mul_le_mul (show s.size + 1 ≤ 257 by omega) (show 1 + 4 * rs.length ≤ 2001 by omega)) (by decide))
    clear hfew
    by_cases hkl : k < Q.length
    · obtain ⟨x, hx⟩ : ∃ x, Q[k]? = some x := ⟨_, List.getElem?_eq_getElem hkl⟩
      have hxm := List.mem_of_getElem? hx
      obtain ⟨hpd, hp4, hpk, hxn⟩ := hI.out.pend hok hxm
      rw [bs_len] at hxn
      have hbel := hT.out.bel
      have hws := hbel.size
      obtain ⟨a0, cap0, hv0, hl1, hl2, _, _⟩ := id (RowG.of_own hT.out.queue)
      have hrow := RowG.of_own hT.out.queue
      rw [hv0] at hrow hT ⊢
      obtain ⟨b, off, rfl, hbl, hcell⟩ := hrow.at (by omega)
      obtain ⟨x0, x1⟩ := qc_at Q k x hx
      have y0 := hcell _ _ x0
      have y1 := hcell _ _ x1
      rw [show off + (k * 2 + 1) = off + k * 2 + 1 by omega] at y1
      have z0 : wr.cell? ⟨e0, 0, none⟩ = some (.int .i64 s.size) := by rw [cell_of_row wr _ 0 _ _ _ hT.out.endb, bs_len]; rfl
      have z1 : wr.cell? ⟨e0, 1, none⟩ = some (.string ⟨#[]⟩) := by rw [cell_of_row wr _ 1 _ _ _ hT.out.endb]; rfl
      have heq := eq_st x.n s.size (ba x.p) ⟨#[]⟩
      have hgd := guard_st
      have k0 : (0 : Int) ≤ k := by omega
      have k1 : (k : Int) < Q.length := by omega
      have e0lt : e0 < wr.heap.size := (Array.getElem?_eq_some_iff.1 hT.out.endb).1
      clear hcell x0 x1 hrow
      by_cases hend : x.n = s.size ∧ x.p = []
      · have hd : decide (x.n = s.size ∧ ba x.p = ⟨#[]⟩) = true := by rw [decide_eq_true_eq]; exact ⟨hend.1, by rw [hend.2]; rfl⟩
        rw [hd] at heq
        have hwl := hI.out.wlen k x hx
        have HF := Lib.hid (hI.out.found hok hx (by rw [bs_len]; exact hend.1) hend.2)
        have HK : Hid (∀ W, Below wr.heap.size wr W → Calls Try.prog 60 #[.map (some R), .agg #[.int .i64 s.size, .string ⟨#[]⟩]] W fun e w' => e = .returned (.string (ba x.w)) ∧ Below W.heap.size W w') := Lib.hid fun W hW => by
          have := keysTo_any hok hI.out (by rw [bs_len]; omega) x hxm (by omega) R _ W (hT.out.mp.later hW hT.out.mp.lt)
          rw [hend.1, hend.2] at this
          exact this
        have HHb := Lib.hid hbel
        have HWL := Lib.hid (show x.w.length ≤ 1000000 by omega)
        clear hd hbel hend
        go_wp2_with (go_at_call 60; (with_reducible refine (HK.out _ ((Below.refl _ _).alloc (Nat.le_refl _) _)).mono ?_); rintro e w6 ⟨rfl, hb6⟩)
        go_ret2
        exact ⟨x.w, true, rfl, .inr ⟨by rw [HC.out]; omega, HF.out⟩, HWL.out, (HHb.out.alloc hws _).trans (hb6.mono (by simp; omega))⟩
      · have hd : decide (x.n = s.size ∧ ba x.p = ⟨#[]⟩) = false := by
          rw [decide_eq_false_iff_not]
          rintro ⟨h1, h2⟩
          exact hend ⟨h1, by rw [← bs_ba x.p, h2]; first | done | rfl⟩
        rw [hd] at heq
        have HNE := Lib.hid hend
        have HMM : Hid (∀ W, Below wr.heap.size wr W → Calls Try.prog 77 #[.string (ba x.p), .pointer (some ⟨c1, 0, none⟩), .pointer (some ⟨c2, 0, none⟩), .pointer (some ⟨c3, 0, none⟩)] W fun e w' => ∃ v, e = .returned v ∧ w'.ownsRow 0 114 3 v (mvs rs (bs s) x.p 94).length (mc (mvs rs (bs s) x.p 94)) ∧ Memo c1 c2 c3 bm a rs (bs s) (k + 1) w' ∧ W.grownBy w' (some bm)) := Lib.hid fun W hW => by
          have hb2 := hbel.trans (hW.mono hws)
          have := memo_any hok B a c1 c2 c3 bm k (bs s) (ba x.p) W (HA.out.later hb2 hB) (by have := hb2.size; omega) (HML.out.later hb2 hG) (by have := hb2.size; omega) (by rw [bs_len]; omega) (by rw [ba_size]; omega) (by rw [bs_ba]; exact hpk) (hT.out.memo.later hW) (by omega)
          rw [bs_ba] at this
          exact this
        clear hd hbel hend
        have HBL : Hid (∀ o : Obj, TSt e0 R c1 c2 c3 bm a qb rs (bs s) w (.slice (some ⟨b, off, none⟩) Q.length cap0) Q k (wr.alloc o)) := Lib.hid fun o => hT.out.later ((Below.refl _ _).alloc (Nat.le_refl _) _)
        have hbh := heap_alloc_new wr (Obj.cells #[.int .i64 x.n, .string (ba x.p)] 104)
        obtain ⟨gh, hgh⟩ : ∃ gh, wr.heap.size = gh := ⟨_, rfl⟩
        have hqlt : Hid (∀ g, (Value.slice (some ⟨b, off, none⟩) Q.length cap0).ownBlock = some g → g ≠ gh) := Lib.hid fun g hg => by have := (hT.out.queue.lt g hg).2; omega
        have HBH := Lib.hid hbh
        have HGH := Lib.hid hgh
        clear hgh hbh
        go_wp2_with (go_at_call 77; (with_reducible refine (HMM.out _ ((Below.refl _ _).alloc (Nat.le_refl _) _)).mono ?_); rintro e w5 ⟨mv, rfl, hmrow, hme5, hg5⟩; obtain ⟨ma, mcap, rfl, _⟩ := id (RowG.of_own hmrow))
        have hbh := HBH.out
        have hz5 := hg5.size
        rw [World.size_alloc] at hz5
        rw [HGH.out] at hbh hz5
        have hT5 := (HBL.out _).memoed hg5 hme5
        have hnn := hT.out.n1
        have hbh5 : w5.heap[gh]? = some (Obj.cells #[.int .i64 x.n, .string (ba x.p)] 104 (0, 0)) := by
          rw [hg5.block gh (by rw [World.size_alloc, HGH.out]; omega) (fun e => by injection e with e; have := HGH.out; omega)]
          exact hbh
        rw [HGH.out]
        have HMm : Hid (∀ m ∈ mvs rs (bs s) x.p 94, isKb m.c = true ∧ m.o = (fd rs x.p [m.c]).1 ∧ m.q = (fd rs x.p [m.c]).2) := Lib.hid fun m hm => by
          obtain ⟨_, _, _, h1, h2, h3⟩ := mvs_mem (Nat.le_refl 94) hm
          exact ⟨h1, h2, h3⟩
        have HMs := Lib.hid (mvs_sorted (rs := rs) (s := bs s) x.p 94 (Nat.le_refl _))
        have HMa : Hid (∀ c, isKb c = true → c ∉ (mvs rs (bs s) x.p 94).map Mv.c → Lib.contains (bs s) (fd rs x.p [c]).1 = false) := Lib.hid fun c h1 h2 => mvs_all h1 h2
        have hMl := mvs_len rs (bs s) x.p 94
        generalize mvs rs (bs s) x.p 94 = M at *
        have HX := Lib.hid hx
        have HT5 := Lib.hid hT5
        have HB5 := Lib.hid hbh5
        have HM5 := Lib.hid hmrow
        have HN2 : Hid (∀ (j : Nat) (y : Nd), j < k + 1 → Q[j]? = some y → ¬ (y.n = (bs s).length ∧ y.p = [])) := Lib.hid fun j y hj hy => by
          by_cases e : j = k
          · subst e; rw [hx] at hy; cases hy
            rw [bs_len]; exact HNE.out
          · exact hno.out j y (by omega) hy
        clear hT5 hbh5 hmrow hme5 hg5 hbh HBH HBL HMM hx hT y0 y1 z0 z1 heq hno e0lt hxm
        obtain ⟨wo, hwo⟩ : ∃ wo, wo = wr := ⟨_, rfl⟩
        subst hwo
        go_loopw [10, 63] (fun v j wi => ∃ (Q2 : List Nd) (jn : Nat), j = .int .i64 jn ∧ jn ≤ M.length ∧ Hid (Inv rs (bs s) Q2 k ((M.take jn).map Mv.c)) ∧ Hid (Q2[k]? = some x) ∧ Hid (∀ (j : Nat) (y : Nd), j < k + 1 → Q2[j]? = some y → ¬ (y.n = (bs s).length ∧ y.p = [])) ∧ Hid (TSt e0 R c1 c2 c3 bm a qb rs (bs s) w v Q2 (k + 1) wi) ∧ Hid (wi.ownsRow 0 114 3 (.slice ma M.length mcap) M.length (mc M)) ∧ Hid (wi.heap[gh]? = some (Obj.cells #[.int .i64 x.n, .string (ba x.p)] 104 (0, 0))) ∧ Hid (∀ g, v.ownBlock = some g → g ≠ gh) ∧ gh < wi.heap.size) (fun _ j _ => M.length - (intOf j).toNat)
        case atStart => exact ⟨Q, 0, rfl, Nat.zero_le _, hI, HX, HN2, HT5, HM5, HB5, hqlt, by omega⟩
        case round =>
          obtain ⟨Q2, jn, rfl, hj, hI2, hx2, hno2, hT2, hm2, hh2, hq2, hlt2⟩ := hrel
          by_cases hjl : jn < M.length
          · obtain ⟨m, hmj⟩ : ∃ m, M[jn]? = some m := ⟨_, List.getElem?_eq_getElem hjl⟩
            obtain ⟨hkc, hmo, hmq⟩ := HMm.out m (List.mem_of_getElem? hmj)
            have hst := fd_spec hok x.p [m.c]
            rw [← hmo, ← hmq] at hst
            have hlt : ∀ d ∈ (M.take jn).map Mv.c, d < m.c := fun d hd => by
              rw [List.mem_map] at hd
              obtain ⟨y, hy, rfl⟩ := hd
              obtain ⟨i, hi⟩ := List.mem_iff_getElem?.1 hy
              have hil := (List.getElem?_eq_some_iff.1 hi).1
              rw [List.length_take] at hil
              rw [List.getElem?_take_of_lt (by omega)] at hi
              exact pw_lt HMs.out hi hmj (by omega)
            have htk : (M.take (jn + 1)).map Mv.c = (M.take jn).map Mv.c ++ [m.c] := by
              rw [List.take_add_one, hmj, List.map_append]; rfl
            have hol : m.o.length ≤ 16 * (x.p.length + 1) ∧ m.q.length ≤ x.p.length + 1 := by
              have := hst.len hok
              simp only [List.length_singleton] at this
              omega
            obtain ⟨b2, off2, hab, hb2l, hcell2⟩ := (RowG.of_own hm2.out).at (by omega)
            subst hab
            obtain ⟨x0, x1, x2⟩ := mc_at M jn m hmj
            have y0 := hcell2 _ _ x0
            have y1 := hcell2 _ _ x1
            have y2 := hcell2 _ _ x2
            rw [show off2 + (jn * 3 + 1) = off2 + jn * 3 + 1 by omega] at y1
            rw [show off2 + (jn * 3 + 2) = off2 + jn * 3 + 2 by omega] at y2
            have v0 : wr.cell? ⟨gh, 0, none⟩ = some (.int .i64 x.n) := by rw [cell_of_row wr _ 0 _ _ _ hh2.out]; rfl
            have v1 : wr.cell? ⟨gh, 1, none⟩ = some (.string (ba x.p)) := by rw [cell_of_row wr _ 1 _ _ _ hh2.out]; rfl
            have j0 : (0 : Int) ≤ jn := by omega
            have j1 : (jn : Int) < M.length := by omega
            have n0 : (0 : Int) ≤ x.n := by omega
            have n1 : (x.n : Int) ≤ s.size := by omega
            obtain ⟨pf, hpf⟩ : ∃ pf, m.o.isPrefixOf ((bs s).drop x.n) = pf := ⟨_, rfl⟩
            have HP : Hid (∀ W : World, Calls Try.prog 61 #[.string (s.extract x.n s.size), .string (ba m.o)] W fun e w' => e = .returned (.bool pf) ∧ w' = W) := Lib.hid fun W => by
              have h := Try.strings_HasPrefix (s.extract x.n s.size) (ba m.o) W
              have e : Lib.hasPrefix (s.extract x.n s.size).data.toList (ba m.o).data.toList = pf := by
                rw [← hpf, ext_drop]
                rfl
              rw [e] at h
              exact h
            have HST := Lib.hid hst
            have HLT := Lib.hid hlt
            have HTK := Lib.hid htk
            have HPF := Lib.hid hpf
            have hmc : m.c.toNat < 256 := m.c.toNat_lt
            have hgs : gh ≠ wr.heap.size := by omega
            clear hcell2 x0 x1 x2 hst hlt htk hpf hmo hmq
            go_wp2
            go_quiet (first | (go_at_call 61; with_reducible refine Calls.quiet_of_same (HP.out _)))
            obtain ⟨W1, hW1⟩ : ∃ W1, (wr.alloc (Obj.cells #[.int .u8 m.c.toNat, .string (ba m.o), .string (ba m.q)] 114)).drewN nq = W1 := ⟨_, rfl⟩
            have hb1 : Below wr.heap.size wr W1 := by rw [← hW1]; exact ((Below.refl _ _).alloc (Nat.le_refl _) _).trans ⟨rfl, rfl, rfl, Nat.le_refl _, fun _ _ => rfl⟩
            have hz1 : W1.heap.size = wr.heap.size + 1 := by rw [← hW1]; show (wr.alloc _).heap.size = _; simp
            have hmb : W1.heap[wr.heap.size]? = some (Obj.cells #[.int .u8 m.c.toNat, .string (ba m.o), .string (ba m.q)] 114 (0, 0)) := by rw [← hW1]; exact heap_alloc_new wr _
            rw [hW1]
            obtain ⟨gm, hgm⟩ : ∃ gm, wr.heap.size = gm := ⟨_, rfl⟩
            have u0 : W1.cell? ⟨gm, 0, none⟩ = some (.int .u8 m.c.toNat) := by rw [← hgm, cell_of_row W1 _ 0 _ _ _ hmb]; rfl
            have u1 : W1.cell? ⟨gm, 1, none⟩ = some (.string (ba m.o)) := by rw [← hgm, cell_of_row W1 _ 1 _ _ _ hmb]; rfl
            have u2 : W1.cell? ⟨gm, 2, none⟩ = some (.string (ba m.q)) := by rw [← hgm, cell_of_row W1 _ 2 _ _ _ hmb]; rfl
            rw [← hb1.cell (p := ⟨gh, 0, none⟩) hlt2] at v0
            rw [← hb1.cell (p := ⟨gh, 1, none⟩) hlt2] at v1
            have hh1 := Lib.hid ((hb1.block gh hlt2).trans hh2.out)
            have hm1 := Lib.hid (own_later hm2.out hb1)
            have hT1 := Lib.hid (hT2.out.later hb1)
            rw [hgm] at hz1 hlt2
            have hgmw : gm < W1.heap.size := by omega
            have hghw : gh < W1.heap.size := by omega
            rw [hgm]
            clear hW1 hb1 hmb hgm hT2 hm2 hh2 y0 y1 y2 hb2l hgs
            cases pf
            · have hI3 := hI2.out.skip hok hx2.out HST.out (fun h => by
                have := HPF.out
                rw [List.isPrefixOf_iff_prefix.2 h] at this
                cases this)
              rw [← HTK.out] at hI3
              have HI3 := Lib.hid hI3
              clear hI3
              go_wp2
              exact ⟨⟨Q2, jn + 1, by go_num, hjl, HI3, hx2, hno2, hT1, hm1, hh1, hq2, hghw⟩, ax7 hjl⟩
            · have hpp : m.o <+: (bs s).drop x.n := List.isPrefixOf_iff_prefix.1 HPF.out
              obtain ⟨N2, hN2⟩ : ∃ N2, x.n + m.o.length = N2 := ⟨_, rfl⟩
              have hos : (ba m.o).size = m.o.length := ba_size _
              have hn2 : (x.n : Int) + ((ba m.o).size : Int) = (N2 : Int) := ax3 hN2 hos
              have hNs : N2 ≤ 1000000 := ax1 hN2 hxn hol.1 hp4 hsl
              have hqs : m.q.length ≤ 1000000 := ax2 hol.2 hp4
              have hky : ∃ l, keyOf Try.prog 104 (eSt (N2, ba m.q)) = some l := key_st2 hNs hqs
              have hNi : (N2 : Int) ≤ 1000000 := ax9 hNs
              have hfew2 := hI2.out.few hok
              rw [bs_len] at hfew2
              have hfw2 : Q2.length ≤ 600000 := Nat.le_trans hfew2 (Nat.le_trans (Nat.mul_le_mul (ax4 hsl) (ax5 h500)) (by decide))
              have HQM : Hid (Q2.length < maxLen) := Lib.hid (ax6 hfw2)
              clear hfew2
              have HMP : Hid (∀ W, Below W1.heap.size W1 W → MapF 104 eSt W R Q2.length (arr Q2)) := Lib.hid fun W hW => (hT1.out.later hW).mp
              by_cases hkn : ∃ y ∈ Q2, y.n = N2 ∧ y.p = m.q
              · obtain ⟨y, hy, hyn, hyp⟩ := hkn
                have hka := arr_at hI2.out hy
                rw [hyn, hyp] at hka
                have hI3 := hI2.out.old hok hx2.out HLT.out HST.out hy (by rw [hyn, hN2]) hyp
                rw [← HTK.out] at hI3
                have HI3 := Lib.hid hI3
                have HKA := Lib.hid hka
                have HKY := Lib.hid hky
                clear hI3 hka hky hpp hN2 hyn hyp hos
                have hlk : ∀ o : Obj, (Instr.lookup 107 (.map (some R)) (.agg #[.int .i64 N2, .string (ba m.q)]) true).run Try.prog (W1.alloc o) = .ok (.tuple #[.agg #[.int .i64 y.bn, .string (ba y.bp), .int .u8 y.c.toNat], .bool true]) (W1.alloc o) := fun o => look_st (HMP.out _ ((Below.refl _ _).alloc (Nat.le_refl _) o)) HKY.out HKA.out
                go_wp2
                have hbz : Below W1.heap.size W1 ((W1.alloc (Obj.cells #[.int .i64 N2, .string (ba m.q)] 104)).alloc (Obj.cells #[.int .i64 y.bn, .string (ba y.bp), .int .u8 y.c.toNat] 106)) := ((Below.refl _ _).alloc (Nat.le_refl _) _).alloc (by simp) _
                exact ⟨⟨Q2, jn + 1, by go_num, hjl, HI3, hx2, hno2, Lib.hid (hT1.out.later hbz), Lib.hid (own_later hm1.out hbz), Lib.hid ((hbz.block gh hghw).trans hh1.out), hq2, Nat.lt_of_lt_of_le hghw hbz.size⟩, ax7 hjl⟩
              · have hnew : ∀ y ∈ Q2, ¬ (y.n = N2 ∧ y.p = m.q) := fun y hy h => hkn ⟨y, hy, h⟩
                have hka := arr_none hnew
                have hI3 := hI2.out.new hok hx2.out hkc HLT.out HST.out hpp (by rw [hN2]; exact hnew)
                rw [← HTK.out, hN2] at hI3
                have hup := arr_new (z := ⟨N2, m.q, x.w ++ [m.c], x.n, x.p, m.c⟩) hnew
                have HI3 := Lib.hid hI3
                have HKA := Lib.hid hka
                have HKY := Lib.hid hky
                have HUP := Lib.hid hup
                have hv0 : ∀ o1 o2, ((W1.alloc o1).alloc o2).cell? ⟨gh, 0, none⟩ = some (.int .i64 x.n) := fun o1 o2 => ((((Below.refl W1.heap.size W1).alloc (Nat.le_refl _) o1).alloc (by simp) o2).cell (p := ⟨gh, 0, none⟩) hghw).trans v0
                have hv1 : ∀ o1 o2, ((W1.alloc o1).alloc o2).cell? ⟨gh, 1, none⟩ = some (.string (ba x.p)) := fun o1 o2 => ((((Below.refl W1.heap.size W1).alloc (Nat.le_refl _) o1).alloc (by simp) o2).cell (p := ⟨gh, 1, none⟩) hghw).trans v1
                have hu0 : ∀ o1 o2, ((W1.alloc o1).alloc o2).cell? ⟨gm, 0, none⟩ = some (.int .u8 m.c.toNat) := fun o1 o2 => ((((Below.refl W1.heap.size W1).alloc (Nat.le_refl _) o1).alloc (by simp) o2).cell (p := ⟨gm, 0, none⟩) hgmw).trans u0
                have hRlt : R < gm + 1 := by rw [← hz1]; exact hT1.out.mp.lt
                have HNB : Hid (∀ (o2 : Obj) (W3 : World), ((W1.alloc (Obj.cells #[.int .i64 N2, .string (ba m.q)] 104)).alloc o2).grownBy W3 (some R) → W3.cell? ⟨gm + 1, 0, none⟩ = some (.int .i64 N2) ∧ W3.cell? ⟨gm + 1, 1, none⟩ = some (.string (ba m.q))) := Lib.hid fun o2 W3 hg3 => by
                  have h1 := (heap_two W1 (Obj.cells #[.int .i64 N2, .string (ba m.q)] 104) o2).1
                  rw [hz1] at h1
                  have h2 := (hg3.block (gm + 1) (Array.getElem?_eq_some_iff.1 h1).1 (fun e => by injection e with e; exact ax8 e hRlt)).trans h1
                  exact ⟨by rw [cell_of_row W3 _ 0 _ _ _ h2]; rfl, by rw [cell_of_row W3 _ 1 _ _ _ h2]; rfl⟩
                clear hI3 hka hky hpp hN2 hos hnew hkn hup
                have hlk : ∀ o : Obj, (Instr.lookup 107 (.map (some R)) (.agg #[.int .i64 N2, .string (ba m.q)]) true).run Try.prog (W1.alloc o) = .ok (.tuple #[.agg #[.int .i64 0, .string ⟨#[]⟩, .int .u8 0], .bool false]) (W1.alloc o) := fun o => look_st0 (HMP.out _ ((Below.refl _ _).alloc (Nat.le_refl _) o)) HKY.out HKA.out
                obtain ⟨W3, hrun3, hM3, hg3⟩ := put_st (HMP.out ((W1.alloc (Obj.cells #[.int .i64 N2, .string (ba m.q)] 104)).alloc (Obj.cells #[.int .i64 0, .string ⟨#[]⟩, .int .u8 0] 106)) (((Below.refl _ _).alloc (Nat.le_refl _) _).alloc (by simp) _)) HQM.out HKY.out (.agg #[.int .i64 x.n, .string (ba x.p), .int .u8 m.c.toNat])
                obtain ⟨w0, w1⟩ := HNB.out _ W3 hg3
                have HM3 := Lib.hid hM3
                have HG3 := Lib.hid hg3
                obtain ⟨qa, qcap, rfl, _⟩ := id (RowG.of_own hT1.out.queue)
                have hz12 : ((W1.alloc (Obj.cells #[.int .i64 N2, .string (ba m.q)] 104)).alloc (Obj.cells #[.int .i64 0, .string ⟨#[]⟩, .int .u8 0] 106)).heap.size = W1.heap.size + 2 := by simp
                have hbz : Below W1.heap.size W1 ((W1.alloc (Obj.cells #[.int .i64 N2, .string (ba m.q)] 104)).alloc (Obj.cells #[.int .i64 0, .string ⟨#[]⟩, .int .u8 0] 106)) := ((Below.refl _ _).alloc (Nat.le_refl _) _).alloc (by simp) _
                have hTz := hT1.out.later hbz
                have hq3 := queue_kept hTz hg3
                have hz3 := hg3.size
                have hqb : qb ≤ W3.heap.size := Nat.le_trans (hTz.n1.2.2.2.2.2.2.2.2.2.2) hz3
                have HTZ := Lib.hid hTz
                have HBZ := Lib.hid hbz
                have hz13 : W1.heap.size + 2 ≤ W3.heap.size := by rw [← hz12]; exact hz3
                clear hM3 hg3 hTz hbz hz3 hz12
                obtain ⟨i0, hi0, hq0, hq1', hq2'⟩ := info_parts info_state
                have hfb : (Q2.length + 1) * 24 ≤ 140737488355328 := ax10 hfw2
                have hfm : Q2.length + 1 ≤ maxLen := ax6' hfw2
                have hqa : qb ≤ (W3.alloc (Obj.cells #[.int .i64 N2, .string (ba m.q)] 104)).heap.size := by rw [World.size_alloc]; exact Nat.le_succ_of_le hqb
                go_wp2_with (at_builtin; refine wpList_append_own_at _ rfl _ _ _ rfl qb 104 i0 (.agg #[.int .i64 0, .string { data := #[] }]) 2 24 Try.underlying110 hi0 hq0 hq1' hq2' rfl (by decide) _ Q2.length (qc Q2) rfl (hq3.alloc _) ⟨W3.heap.size, 0, none⟩ 1 1 [.int .i64 N2, .string (ba m.q)] rfl rfl (World.news_of_block (heap_alloc_new _ _)) ax11 hfm hfb hqa ?_; intro v' W5 hown5 hg5 _ hloc)
                have hM : MapF 104 eSt W3 R (Q2.length + 1) (arr (Q2 ++ [⟨N2, m.q, x.w ++ [m.c], x.n, x.p, m.c⟩])) := by rw [← HUP.out]; exact HM3.out
                have hTn := HTZ.out.reached HG3.out hM hg5 hown5
                have hmn := row_apart ((row_map (own_later hm1.out HBZ.out) HTZ.out.mp HG3.out).alloc _) (hq3.alloc _) hg5
                have hbn := (hg5.block gh (by rw [World.size_alloc]; exact ax12 hghw hz13) (fun e => hq2.out gh e.symm rfl)).trans ((World.heap_alloc_lt _ _ _ (ax13 hghw hz13)).trans ((block_apart ((HBZ.out.block gh hghw).trans hh1.out) HTZ.out.mp HG3.out)))
                have hzz : gh < W5.heap.size := (Array.getElem?_eq_some_iff.1 hbn).1
                refine ⟨⟨_, jn + 1, by go_num, hjl, HI3, ?_, ?_, Lib.hid hTn, Lib.hid hmn, Lib.hid hbn, ?_, hzz⟩, ax7 hjl⟩
                · have h1 := hx2.out
                  exact Lib.hid (by rw [List.getElem?_append_left (List.getElem?_eq_some_iff.1 h1).1]; exact h1)
                · have h1 := (List.getElem?_eq_some_iff.1 hx2.out).1
                  exact Lib.hid (fun j y hj hy => hno2.out j y hj (by rw [List.getElem?_append_left (Nat.lt_of_lt_of_le hj h1)] at hy; exact hy))
                · refine Lib.hid fun g hg => ?_
                  rcases hloc with hl | hl
                  · exact hq2.out g (hl.symm.trans hg)
                  · rw [hg] at hl
                    injection hl with hl
                    rw [World.size_alloc] at hl
                    exact ax14 hl hghw hz13
          · obtain rfl : jn = M.length := by omega
            have e1 : M.take M.length = M := List.take_length
            have hNx := Lib.hid (hI2.out.next hok hx2.out (fun c h1 h2 o q hf => by
              rw [e1] at h2
              have := HMa.out c h1 h2
              rw [hf.fd] at this
              exact this))
            have hlen2 : k + 1 ≤ Q2.length := (List.getElem?_eq_some_iff.1 hx2.out).1
            clear e1
            go_wp2
            go_roundw
            case rel => exact ⟨Q2, k + 1, by go_num, hNx, hlen2, hno2, hT2⟩
            case measure => simp [intOf]; omega
    · have e1 : k = Q.length := by omega
      subst e1
      have hN := Lib.hid (hI.out.none hok (fun j x hj => hno.out j x (List.getElem?_eq_some_iff.1 hj).1 hj))
      have hb := hT.out.bel
      obtain ⟨a0, cap0, rfl, _⟩ := id (RowG.of_own hT.out.queue)
      go_wp2
      go_ret2
      exact ⟨[], false, rfl, .inr ⟨by rw [HC.out]; omega, hN.out⟩, Nat.zero_le _, hb⟩

theorem type_nil (s : ByteArray) (w : World) (hs : s.size ≤ maxLen) :
    Calls Try.prog 30 #[.pointer none, .string s] w fun e w' => e = .returned (.tuple #[.string ⟨#[]⟩, .bool false]) ∧ Below w.heap.size w w' := by
  have HCN := Lib.hid (count_any s w hs)
  generalize count (bs s) = C at HCN
  go_enter Try.func30, Try.ntmps30
  go_wp2_with (go_at_call 58; (with_reducible refine HCN.out.mono ?_); rintro e w1 ⟨rfl, hb1⟩)
  go_ret2
  exact ⟨rfl, hb1⟩

end Go.Proofs.Ytlmbbpppfghcbaa.Aut

set_option linter.unusedVariables false
set_option linter.unusedSimpArgs false
namespace Go.Proofs.Ytlmbbpppfghcbaa.Aut
open Go Go.Proofs.Ytlmbbpppfghcbaa.Utf Go.Proofs.Ytlmbbpppfghcbaa.Rom

def tryKey (rs : List Rule) (s : By) (x : Nd) (Q : List Nd) (i : Nat) : List Nd :=
  match feedO rs 1000 x.p [keyB i] with
  | none => Q
  | some (o, q) => if o.isPrefixOf (s.drop x.n) then
      (if Q.any (fun y => decide (y.n = x.n + o.length ∧ y.p = q)) then Q else Q ++ [⟨x.n + o.length, q, x.w ++ [keyB i], x.n, x.p, keyB i⟩]) else Q
def expand (rs : List Rule) (s : By) (x : Nd) (k : Nat) (Q : List Nd) : List Nd := (List.range k).foldl (tryKey rs s x) Q
def allSome (rs : List Rule) (p : By) : Bool := (List.range 94).all fun i => (feedO rs 1000 p [keyB i]).isSome
def bfs (rs : List Rule) (s : By) : Nat → Nat → List Nd → Option (Option By)
  | 0, _, _ => none
  | f + 1, i, Q => match Q[i]? with
    | none => some none
    | some x => if x.n = s.length ∧ x.p = [] then some (some x.w) else if allSome rs x.p then bfs rs s f (i + 1) (expand rs s x 94 Q) else none

variable {rs : List Rule} {s : By}
theorem keyB_lt {i k : Nat} (h : i < k) (hk : k < 94) : keyB i < keyB k := by
  rw [UInt8.lt_iff_toNat_lt, (keyB_is (by omega)).1, (keyB_is hk).1]; omega
theorem expand_inv (hok : okL rs = true) {x : Nd} {i : Nat} (hall : allSome rs x.p = true) : ∀ (k : Nat) {Q : List Nd}, k ≤ 94 → Inv rs s Q i [] → Q[i]? = some x →
    Inv rs s (expand rs s x k Q) i ((List.range k).map keyB) ∧ (expand rs s x k Q)[i]? = some x ∧ ∀ j, j ≤ i → (expand rs s x k Q)[j]? = Q[j]?
  | 0, Q, _, hI, hx => ⟨hI, hx, fun _ _ => rfl⟩
  | k + 1, Q, hk, hI, hx => by
    obtain ⟨h1, h2, h3⟩ := expand_inv hok hall k (by omega) hI hx
    have e : expand rs s x (k + 1) Q = tryKey rs s x (expand rs s x k Q) k := by unfold expand; rw [List.range_succ, List.foldl_append]; rfl
    have ek : (List.range (k + 1)).map keyB = (List.range k).map keyB ++ [keyB k] := by rw [List.range_succ, List.map_append]; rfl
    rw [e, ek]
    generalize expand rs s x k Q = Q2 at *
    have hs : (feedO rs 1000 x.p [keyB k]).isSome = true := by
      unfold allSome at hall
      rw [List.all_eq_true] at hall
      exact hall k (List.mem_range.2 (by omega))
    obtain ⟨⟨o, q⟩, hf⟩ := Option.isSome_iff_exists.1 hs
    have hst := feedO_sound hf
    have hlt : ∀ d ∈ (List.range k).map keyB, d < keyB k := fun d hd => by
      rw [List.mem_map] at hd
      obtain ⟨i, hi, rfl⟩ := hd
      exact keyB_lt (List.mem_range.1 hi) (by omega)
    unfold tryKey
    rw [hf]
    dsimp only
    split
    · rename_i hp
      have hp' := List.isPrefixOf_iff_prefix.1 hp
      split
      · rename_i ha
        rw [List.any_eq_true] at ha
        obtain ⟨y, hy, ha⟩ := ha
        rw [decide_eq_true_eq] at ha
        exact ⟨h1.old hok h2 hlt hst hy ha.1 ha.2, h2, h3⟩
      · rename_i ha
        have hl := (List.getElem?_eq_some_iff.1 h2).1
        refine ⟨h1.new hok h2 (keyB_is (by omega)).2 hlt hst hp' (fun y hy h => ha (List.any_eq_true.2 ⟨y, hy, by rw [decide_eq_true_eq]; exact h⟩)), by rw [List.getElem?_append_left hl]; exact h2, fun j hj => ?_⟩
        rw [List.getElem?_append_left (by omega)]
        exact h3 j hj
    · rename_i hp
      exact ⟨h1.skip hok h2 hst (fun h => hp (List.isPrefixOf_iff_prefix.2 h)), h2, h3⟩
theorem bfs_sound (hok : okL rs = true) : ∀ (f i : Nat) (Q : List Nd) (r : Option By), Inv rs s Q i [] → i ≤ Q.length → (∀ j x, j < i → Q[j]? = some x → ¬ (x.n = s.length ∧ x.p = [])) → bfs rs s f i Q = some r → Least rs s (r.getD []) r.isSome
  | 0, _, _, _, _, _, _, h => by cases h
  | f + 1, i, Q, r, hI, hi, hno, h => by
    unfold bfs at h
    split at h
    · rename_i hx
      cases h
      have : i = Q.length := by rw [List.getElem?_eq_none_iff] at hx; omega
      subst this
      exact hI.none hok (fun j x hj => hno j x (List.getElem?_eq_some_iff.1 hj).1 hj)
    · rename_i x hx
      split at h
      · rename_i he
        cases h
        exact hI.found hok hx he.1 he.2
      · rename_i he
        split at h
        · rename_i hall
          obtain ⟨h1, h2, h3⟩ := expand_inv (s := s) hok hall 94 (Nat.le_refl _) hI hx
          have h4 := h1.next hok h2 (fun c hc hn o q _ => by
            obtain ⟨k, hk, rfl⟩ := keyB_of hc
            exact absurd (List.mem_map.2 ⟨k, List.mem_range.2 hk, rfl⟩) hn)
          refine bfs_sound hok f (i + 1) _ r h4 (List.getElem?_eq_some_iff.1 h2).1 (fun j y hj hy => ?_) h
          rw [h3 j (by omega)] at hy
          by_cases e : j = i
          · subst e; rw [hx] at hy; cases hy; exact he
          · exact hno j y (by omega) hy
        · cases h
theorem bfs_least (hok : okL rs = true) {f : Nat} {r : Option By} (h : bfs rs s f 0 [nd0] = some r) : Least rs s (r.getD []) r.isSome :=
  bfs_sound hok f 0 [nd0] r (inv_start rs s) (Nat.zero_le _) (fun j x hj => by omega) h

/-! ### the second table of examples -/
def smallR : List Rule := [⟨ba [97], ba [227, 129, 130], ba []⟩, ⟨ba [110], ba [227, 130, 147], ba []⟩, ⟨ba [110, 97], ba [227, 129, 170], ba []⟩, ⟨ba [110, 110], ba [227, 130, 147], ba []⟩, ⟨ba [120, 121], ba [], ba [97]⟩]
theorem small_ok : okL smallR = true := by decide +kernel
theorem small_check : checkL smallR = 0 := by decide +kernel
theorem small_na : Least smallR [227, 129, 170] [110, 97] true := bfs_least (f := 30) (r := some [110, 97]) small_ok (by decide +kernel)
theorem small_run1 : Feeds smallR [] [110, 110, 97] [227, 130, 147, 227, 129, 130] [] := feedO_sound (f := 100) (by decide +kernel)
theorem small_run2 : Feeds smallR [] [120, 121, 97] [227, 129, 130, 227, 129, 130] [] := feedO_sound (f := 100) (by decide +kernel)
theorem small_flush : Flushes smallR [110] [227, 130, 147] := flushO_sound (f := 100) (by decide +kernel)

end Go.Proofs.Ytlmbbpppfghcbaa.Aut

set_option linter.unusedVariables false
set_option linter.unusedSimpArgs false
set_option maxRecDepth 100000
namespace Go.Proofs.Ytlmbbpppfghcbaa.Aut
open Go Go.RowKit Go.Proofs.Ytlmbbpppfghcbaa.Kit Go.Proofs.Ytlmbbpppfghcbaa.Utf Go.Proofs.Ytlmbbpppfghcbaa.Rom

theorem small_short : ∀ r ∈ smallR, Short r := by
  intro r hr
  have h := ok_of small_ok hr
  have h1 := okR_next h
  have h2 := okR_out h
  exact ⟨by omega, by omega, by omega⟩
theorem new_small (v : Value) (w : World) (hR : RowR w v smallR) : Calls Try.prog 18 #[v] w fun e w' => ∃ a, e = .returned (.tuple #[.pointer (some ⟨a, 0, none⟩), .int .i64 0]) ∧ AutoAt w'.heap.size w' a smallR ∧ Below w.heap.size w w' := by
  refine (new_any v smallR w hR small_short).mono ?_
  rintro e w' ⟨hb, ⟨h, _⟩ | ⟨_, a, rfl, hA, _⟩⟩
  · exact absurd small_check h
  · exact ⟨a, rfl, hA, hb⟩
theorem run_small {ks o q : By} (hf : Feeds smallR [] ks o q) (hk : AllK ks) (hl : ks.length ≤ 1000) (B a : Nat) (w : World) (hA : AutoAt B w a smallR) (hB : B ≤ w.heap.size) :
    Calls Try.prog 20 #[.pointer (some ⟨a, 0, none⟩), .string (ba ks)] w fun e w' => e = .returned (.tuple #[.string (ba o), .string (ba q)]) ∧ Below w.heap.size w w' := by
  have h := run_any small_ok B a (ba ks) w hA hB (by rw [ba_size]; omega)
  rw [bs_ba, keysOf_id hk, hf.fd] at h
  exact h
theorem type_small {s k : By} {ok : Bool} (hL : Least smallR s k ok) (hc : 0 ≤ count s ∧ count s ≤ 64) (hl : s.length ≤ 1000) (B a : Nat) (w : World) (hA : AutoAt B w a smallR) (hB : B ≤ w.heap.size) (hm : MaxL w) (hG : 0 < w.heap.size) :
    Calls Try.prog 30 #[.pointer (some ⟨a, 0, none⟩), .string (ba s)] w fun e w' => e = .returned (.tuple #[.string (ba k), .bool ok]) ∧ Below w.heap.size w w' := by
  refine (type_any small_ok (by decide) B a (ba s) w hA hB hm hG (by rw [ba_size]; unfold maxLen; omega)).mono ?_
  rintro e w' ⟨k', ok', rfl, hT, _, hb⟩
  rw [bs_ba] at hT
  obtain ⟨rfl, rfl⟩ := hT.det (.inr ⟨hc, hL⟩)
  exact ⟨rfl, hb⟩
theorem flush_small {p F : By} (hF : Flushes smallR p F) (hk : AllK p) (hl : p.length ≤ 1000) (B a : Nat) (w : World) (hA : AutoAt B w a smallR) (hB : B ≤ w.heap.size) :
    Calls Try.prog 56 #[.pointer (some ⟨a, 0, none⟩), .string (ba p)] w fun e w' => e = .returned (.string (ba F)) ∧ Below w.heap.size w w' := by
  refine (flush_any small_ok B a (ba p) w hA hB (by rw [ba_size]; omega)).mono ?_
  rintro e w' ⟨F', rfl, hF', hb⟩
  rw [bs_ba, keysOf_id hk] at hF'
  rw [hF'.det hF]
  exact ⟨rfl, hb⟩
theorem allK_dec {l : By} (h : l.all isKb = true) : AllK l := by rw [List.all_eq_true] at h; exact h

end Go.Proofs.Ytlmbbpppfghcbaa.Aut
