/-
  Rows of rules and sets of keys in the model's worlds; of no function.
-/
import Derived.Test.YtmbccolkgephgaaRomMath
import Derived.Test.YtmbccolkgephgaaRows
import Derived.Test.YtmbccolkgephgaaKit3
import Derived.Maps.OwnSet
import Derived.Maps.AppendAt
import Derived.Maps.Range
import Derived.StringKeys
set_option linter.unusedVariables false
set_option linter.unusedSimpArgs false
namespace Go.Proofs.Ytmbccolkgephgaa.Rom
open Go Go.RowKit Go.Proofs.Ytmbccolkgephgaa.Kit Go.Proofs.Ytmbccolkgephgaa.Utf Go.Maps Go.ChangeMaps Go.WideMaps

/-! ### rules as cells -/
def rcells (r : Rule) : List Value := [.string r.k, .string r.o, .string r.n]
def rc (rs : List Rule) : List Value := rs.flatMap rcells
def ragg (r : Rule) : Value := .agg #[.string r.k, .string r.o, .string r.n]
theorem rc_nil : rc [] = [] := rfl
theorem rc_cons (r : Rule) (rs : List Rule) : rc (r :: rs) = .string r.k :: .string r.o :: .string r.n :: rc rs := rfl
theorem rc_append (a b : List Rule) : rc (a ++ b) = rc a ++ rc b := by simp [rc]
theorem rc_len (rs : List Rule) : (rc rs).length = rs.length * 3 := by
  induction rs with
  | nil => rfl
  | cons r rs ih => rw [rc_cons]; simp [ih]; omega
theorem rc_oneCell (rs : List Rule) : ∀ u ∈ rc rs, u.oneCell' = true := by
  induction rs with
  | nil => intro u hu; cases hu
  | cons r rs ih =>
    intro u hu
    rw [rc_cons] at hu
    rcases List.mem_cons.1 hu with rfl | hu
    · rfl
    rcases List.mem_cons.1 hu with rfl | hu
    · rfl
    rcases List.mem_cons.1 hu with rfl | hu
    · rfl
    exact ih u hu
/-- Rule i of a list. -/
def ri (rs : List Rule) (i : Nat) : Rule := rs.getD i default
theorem ri_mem {rs : List Rule} {i : Nat} (h : i < rs.length) : ri rs i ∈ rs := by
  unfold ri; rw [List.getD_eq_getElem?_getD, List.getElem?_eq_getElem h]; exact List.getElem_mem h
theorem ri_get {rs : List Rule} {i : Nat} (h : i < rs.length) : rs[i]? = some (ri rs i) := by
  unfold ri; rw [List.getD_eq_getElem?_getD, List.getElem?_eq_getElem h]; rfl
theorem take_succ_ri (rs : List Rule) (i : Nat) (h : i < rs.length) : rs.take (i + 1) = rs.take i ++ [ri rs i] := by
  rw [List.take_add_one, ri_get h]; rfl
theorem ri_take {rs : List Rule} {k i : Nat} (h : i < k) : ri (rs.take k) i = ri rs i := by
  unfold ri; rw [List.getD_eq_getElem?_getD, List.getD_eq_getElem?_getD, List.getElem?_take, if_pos h]
theorem ri_drop {rs : List Rule} {k i : Nat} : ri (rs.drop k) i = ri rs (k + i) := by
  unfold ri; rw [List.getD_eq_getElem?_getD, List.getD_eq_getElem?_getD, List.getElem?_drop]
theorem rc_at (rs : List Rule) : ∀ i, i < rs.length → (rc rs)[i * 3]? = some (.string (ri rs i).k) ∧ (rc rs)[i * 3 + 1]? = some (.string (ri rs i).o) ∧ (rc rs)[i * 3 + 2]? = some (.string (ri rs i).n) := by
  induction rs with
  | nil => intro i h; simp at h
  | cons r rs ih =>
    intro i h
    cases i with
    | zero => exact ⟨rfl, rfl, rfl⟩
    | succ i =>
      have := ih i (by simpa using h)
      rw [rc_cons, show (i + 1) * 3 = i * 3 + 1 + 1 + 1 by omega]
      exact this

/-- The slice v reads as the rules rs. -/
def RowR (w : World) (v : Value) (rs : List Rule) : Prop :=
  ∃ a len cap, v = .slice a len cap ∧ len = rs.length ∧ len ≤ cap ∧ cap ≤ maxLen ∧
    ((a = none ∧ len = 0 ∧ cap = 0) ∨ (∃ x, a = some x ∧ len = 0) ∨ ∃ b off, a = some ⟨b, off, none⟩ ∧ b < w.heap.size ∧
      ∀ i, i < rs.length → w.cell? ⟨b, off + i * 3, none⟩ = some (.string (ri rs i).k) ∧ w.cell? ⟨b, off + i * 3 + 1, none⟩ = some (.string (ri rs i).o) ∧ w.cell? ⟨b, off + i * 3 + 2, none⟩ = some (.string (ri rs i).n))

theorem RowR.later {w w' : World} {v : Value} {rs : List Rule} (h : RowR w v rs) {B : Nat} (hb : Below B w w') (hB : w.heap.size ≤ B) : RowR w' v rs := by
  obtain ⟨a, len, cap, rfl, hl, hc, hm, h⟩ := h
  refine ⟨a, len, cap, rfl, hl, hc, hm, ?_⟩
  rcases h with h | h | ⟨b, off, rfl, hlt, hx⟩
  · exact .inl h
  · exact .inr (.inl h)
  · refine .inr (.inr ⟨b, off, rfl, Nat.lt_of_lt_of_le hlt hb.size, fun i hi => ?_⟩)
    obtain ⟨h1, h2, h3⟩ := hx i hi
    exact ⟨by rw [hb.cell (p := ⟨b, _, none⟩) (by show b < B; omega)]; exact h1, by rw [hb.cell (p := ⟨b, _, none⟩) (by show b < B; omega)]; exact h2, by rw [hb.cell (p := ⟨b, _, none⟩) (by show b < B; omega)]; exact h3⟩

/-- A row of rules that the call owns. -/
theorem row_of_own {w : World} {base : Nat} {e : TypeId} {v : Value} {n : Nat} {rs : List Rule} (h : w.ownsRow base e 3 v n (rc rs)) : RowR w v rs ∧ n = rs.length := by
  have hn : n = rs.length := by have := h.1; rw [rc_len] at this; omega
  refine ⟨?_, hn⟩
  rcases h.2 with ⟨rfl, h0⟩ | ⟨g, cap, cur, rfl, hb, hg, hnc, hcm, hcs, htake⟩
  · exact ⟨none, 0, 0, rfl, by omega, Nat.le_refl _, by simp [maxLen], .inl ⟨rfl, rfl, rfl⟩⟩
  · have key : ∀ j x, (rc rs)[j]? = some x → w.cell? ⟨g, j, none⟩ = some x := fun j x hx => by
      rw [cell_of_row w g j cur e (0, 0) hg]
      rw [← htake, List.getElem?_take] at hx
      split at hx
      · simpa using hx
      · cases hx
    refine ⟨_, n, cap, rfl, hn, hnc, hcm, .inr (.inr ⟨g, 0, rfl, (Array.getElem?_eq_some_iff.1 hg).1, fun i hi => ?_⟩)⟩
    obtain ⟨h1, h2, h3⟩ := rc_at rs i hi
    simp only [Nat.zero_add]
    exact ⟨key _ _ h1, key _ _ h2, key _ _ h3⟩

theorem RowR.len {w : World} {a : Option Addr} {n cap : Nat} {rs : List Rule} (h : RowR w (.slice a n cap) rs) : n = rs.length ∧ n ≤ cap ∧ cap ≤ maxLen := by
  obtain ⟨a, len, cap, e, h1, h2, h3, _⟩ := h
  cases e
  exact ⟨h1, h2, h3⟩
theorem RowR.nil (w : World) : RowR w (.slice none 0 0) [] := ⟨none, 0, 0, rfl, rfl, Nat.le_refl _, Nat.zero_le _, .inl ⟨rfl, rfl, rfl⟩⟩
/-- Where there is a rule, there is a block. -/
theorem RowR.at {w : World} {a : Option Addr} {n cap : Nat} {rs : List Rule} (h : RowR w (.slice a n cap) rs) (h0 : 0 < rs.length) :
    ∃ b off, a = some ⟨b, off, none⟩ ∧ b < w.heap.size ∧ ∀ i, i < rs.length → w.cell? ⟨b, off + i * 3, none⟩ = some (.string (ri rs i).k) ∧ w.cell? ⟨b, off + i * 3 + 1, none⟩ = some (.string (ri rs i).o) ∧ w.cell? ⟨b, off + i * 3 + 2, none⟩ = some (.string (ri rs i).n) := by
  obtain ⟨a, len, cap, e, h1, h2, h3, h4⟩ := h
  cases e
  rcases h4 with ⟨rfl, hl, _⟩ | ⟨x, rfl, hl⟩ | h4
  · omega
  · omega
  · exact h4

/-- The beginning of a slice, x[:k], as the walk spells it. -/
theorem RowR.take {w : World} {a : Option Addr} {n cap k : Nat} {rs : List Rule} (h : RowR w (.slice a n cap) rs) (hk : k ≤ n) : RowR w (.slice a k cap) (rs.take k) := by
  obtain ⟨a, len, cap, e, h1, h2, h3, h4⟩ := h
  cases e
  refine ⟨a, k, cap, rfl, by simp; omega, by omega, h3, ?_⟩
  rcases h4 with ⟨rfl, hl, hc⟩ | ⟨x, rfl, hl⟩ | ⟨b, off, rfl, hlt, hx⟩
  · exact .inl ⟨rfl, by omega, hc⟩
  · exact .inr (.inl ⟨x, rfl, by omega⟩)
  · refine .inr (.inr ⟨b, off, rfl, hlt, fun i hi => ?_⟩)
    rw [List.length_take] at hi
    rw [ri_take (by omega)]
    exact hx i (by omega)

/-- The rest of a slice, x[k:], where k is not the capacity, and where it is. -/
theorem RowR.drop {w : World} {a : Option Addr} {n cap k : Nat} {rs : List Rule} (h : RowR w (.slice a n cap) rs) (hk : k ≤ n) : RowR w (.slice (a.map (fun x => x.add (k * 3))) (n - k) (cap - k)) (rs.drop k) := by
  obtain ⟨a, len, cap, e, h1, h2, h3, h4⟩ := h
  cases e
  refine ⟨_, _, _, rfl, by simp; omega, by omega, by omega, ?_⟩
  rcases h4 with ⟨rfl, hl, hc⟩ | ⟨x, rfl, hl⟩ | ⟨b, off, rfl, hlt, hx⟩
  · exact .inl ⟨rfl, by omega, by omega⟩
  · exact .inr (.inl ⟨_, rfl, by omega⟩)
  · refine .inr (.inr ⟨b, off + k * 3, by simp [Addr.add_lit], hlt, fun i hi => ?_⟩)
    rw [List.length_drop] at hi
    rw [ri_drop]
    have := hx (k + i) (by omega)
    rw [show off + k * 3 + i * 3 = off + (k + i) * 3 by omega]
    exact this
theorem RowR.drop_end {w : World} {a : Option Addr} {n cap k : Nat} {rs : List Rule} (h : RowR w (.slice a n cap) rs) (hk : k ≤ n) (hc : cap ≤ k) : RowR w (.slice a (n - k) 0) (rs.drop k) := by
  obtain ⟨a, len, cap, e, h1, h2, h3, h4⟩ := h
  cases e
  have e1 : rs.drop k = [] := List.drop_of_length_le (by omega)
  refine ⟨_, _, _, rfl, by simp; omega, by omega, by omega, ?_⟩
  rcases h4 with ⟨rfl, hl, hc⟩ | ⟨x, rfl, hl⟩ | ⟨b, off, rfl, hlt, hx⟩
  · exact .inl ⟨rfl, by omega, rfl⟩
  · exact .inr (.inl ⟨_, rfl, by omega⟩)
  · exact .inr (.inr ⟨b, off, rfl, hlt, fun i hi => by rw [e1] at hi; simp at hi⟩)

/-- A block of one rule that the call has just laid. -/
theorem news_rule {w : World} {g : Nat} {r : Rule} {e : TypeId} (h : w.heap[g]? = some (.cells #[.string r.k, .string r.o, .string r.n] e (0, 0))) : ∀ j u, (rc [r])[j]? = some u → w.cell? (Addr.add ⟨g, 0, none⟩ j) = some u := by
  intro j u hu
  rw [Addr.add_lit, cell_of_row w g _ _ e (0, 0) h]
  rw [Nat.zero_add, ← Array.getElem?_toList]
  exact hu

/-! ### sets of keys -/
theorem law_str : Keyed Try.prog 9 := string_keyed Try.underlying9
theorem zeroBool (w : World) : (zeroValue 4).run Try.prog w = .ok (.bool false) w := by kernel_rfl
theorem plainElem_bool_inv {P : Program} {e : TypeId} (he : P.underlying e = some .bool) {v : Value} {z : DataW Unit × List MemPlace} (h : plainElem P e v = some z) : ∃ x, v = .bool x ∧ z = (.lit (.bool x), []) := by
  unfold plainElem at h
  rw [he] at h
  cases v <;> simp at h
  exact ⟨_, rfl, h.symm⟩

def kl (k : ByteArray) : Lit := .string k.data.toList
theorem kl_inj {a b : ByteArray} (h : kl a = kl b) : a = b := by
  unfold kl at h
  injection h with h
  exact ba_ext h

/-- Block b is a map that holds just the keys ks, each with true. -/
def OwnSet (w : World) (b : Nat) (ks : List ByteArray) : Prop :=
  ks.Nodup ∧ (∀ k ∈ ks, k.size ≤ maxLen) ∧ ∃ D : DataW Unit, w.ownsMap Try.prog 9 (plainElem Try.prog 4) b ks.length D ∧ Maps.size D = ks.length ∧ ∀ k : ByteArray, D.atKey (kl k) (.lit (.bool false)) = .lit (.bool (!newK ks k)) ∧ Maps.has D (kl k) = !newK ks k

theorem OwnSet.made (w : World) : OwnSet (w.alloc (.map #[] 0)) w.heap.size [] := by
  refine ⟨List.nodup_nil, by simp, .map [], World.ownsMap_made _ _ _ _, rfl, fun k => ⟨?_, rfl⟩⟩
  simp [newK, DataW.atKey]

theorem OwnSet.kept {w w' : World} {b : Nat} {ks : List ByteArray} {row : Option Nat} (h : OwnSet w b ks) (hg : w.grownBy w' row) (hne : some b ≠ row) : OwnSet w' b ks := by
  obtain ⟨h1, h2, D, hD, h3, h4⟩ := h
  exact ⟨h1, h2, D, hD.kept hg hne, h3, h4⟩
theorem OwnSet.alloc {w : World} {b : Nat} {ks : List ByteArray} (h : OwnSet w b ks) (o : Obj) : OwnSet (w.alloc o) b ks := h.kept (World.grownBy_alloc w o none) (by simp)
theorem grown_of_below {w w' : World} (h : Below w.heap.size w w') (row : Option Nat) : w.grownBy w' row := ⟨h.os, h.tape, h.output, h.size, fun i hi _ => h.block i hi⟩
theorem OwnSet.later {w w' : World} {b : Nat} {ks : List ByteArray} (h : OwnSet w b ks) (hb : Below w.heap.size w w') : OwnSet w' b ks := h.kept (grown_of_below hb none) (by simp)
theorem OwnSet.lt {w : World} {b : Nat} {ks : List ByteArray} (h : OwnSet w b ks) : b < w.heap.size := by
  obtain ⟨h1, h2, D, hD, h3, h4⟩ := h
  exact hD.lt

theorem OwnSet.lookup {w : World} {b : Nat} {ks : List ByteArray} (h : OwnSet w b ks) (k : ByteArray) (hk : k.size ≤ maxLen) :
    (Instr.lookup 53 (.map (some b)) (.string k) false).run Try.prog w = .ok (.bool (!newK ks k)) w := by
  obtain ⟨h1, h2, D, hD, h3, h4⟩ := h
  obtain ⟨v, ps, hrun, hv⟩ := hD.lookup law_str Try.underlying53 (zeroBool w) (plainElem_bool Try.underlying4 false) (keyOf_string_mk Try.underlying9 hk)
  obtain ⟨x, rfl, hx⟩ := plainElem_bool_inv Try.underlying4 hv
  have e := (h4 k).1
  unfold kl at e
  rw [e] at hx
  simp only [Prod.mk.injEq, DataW.lit.injEq, Lit.bool.injEq] at hx
  rw [hrun, hx.1]

theorem OwnSet.len {w : World} {b : Nat} {ks : List ByteArray} (h : OwnSet w b ks) (ty : TypeId) :
    (Builtin.len_ #[53] ty #[.map (some b)]).run Try.prog w = .ok (.int .i64 (ks.length : Nat)) w := by
  obtain ⟨h1, h2, D, hD, h3, h4⟩ := h
  rw [hD.len Try.underlying53 ty, h3]

theorem newK_snoc (ks : List ByteArray) (k x : ByteArray) : newK (ks ++ [k]) x = (newK ks x && decide (k ≠ x)) := by simp [newK]
/-- What a store of a new key leaves. -/
theorem OwnSet.put {w' : World} {b : Nat} {ks : List ByteArray} {k : ByteArray} {D : DataW Unit} (hD : w'.ownsMap Try.prog 9 (plainElem Try.prog 4) b (ks.length + 1) (D.put (kl k) (.lit (.bool true))))
    (hT : Tidy D) (h1 : ks.Nodup) (h2 : ∀ k ∈ ks, k.size ≤ maxLen) (h3 : Maps.size D = ks.length) (h4 : ∀ k : ByteArray, D.atKey (kl k) (.lit (.bool false)) = .lit (.bool (!newK ks k)) ∧ Maps.has D (kl k) = !newK ks k) (hn : newK ks k = true) (hk : k.size ≤ maxLen) : OwnSet w' b (ks ++ [k]) := by
  refine ⟨?_, ?_, D.put (kl k) (.lit (.bool true)), by simpa using hD, ?_, fun x => ?_⟩
  · rw [List.nodup_append]
    refine ⟨h1, by simp, fun a ha c hc => ?_⟩
    rw [List.mem_singleton] at hc
    subst hc
    intro e; subst e
    exact newK_iff.1 hn ha
  · intro x hx
    rcases List.mem_append.1 hx with h | h
    · exact h2 x h
    · rw [List.mem_singleton] at h; subst h; exact hk
  · rw [size_put hT, (h4 k).2, hn, h3]; simp
  · rw [newK_snoc]
    by_cases e : k = x
    · subst e
      rw [atKey_put_same hT.isMap (show WideAt.IsKeyLit (kl k) from trivial), has_put_same hT.isMap (show WideAt.IsKeyLit (kl k) from trivial)]
      simp
    · have e2 : kl k ≠ kl x := fun h => e (kl_inj h)
      rw [atKey_put_other (fun h => e2 h.symm), has_put_other (fun h => e2 h.symm), (h4 x).1, (h4 x).2]
      simp [e]

end Go.Proofs.Ytmbccolkgephgaa.Rom
