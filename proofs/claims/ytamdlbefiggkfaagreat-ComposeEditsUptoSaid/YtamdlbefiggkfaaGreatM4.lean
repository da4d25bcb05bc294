/-
  Joined texts: RomK, Clone, RomC, RomD, RomF, RomP.
-/
import Derived.Test.YtamdlbefiggkfaaGreatM1
import Derived.Test.YtamdlbefiggkfaaGreatRows
import Derived.Test.YtamdlbefiggkfaaGreatM3
import Derived.Maps.OwnSet
import Derived.Maps.AppendAt
import Derived.Maps.Range
import Derived.StringKeys
import Derived.Lib.UnsafeStr
import Derived.Lib.BufferWrite
import Derived.Laws.MakeOwn
import Derived.Deep.RegionHeld3
import Derived.Deep.DrawnRows
import Derived.Laws.ResultCell
import Derived.Lib.SplitLaws
set_option linter.unusedVariables false
set_option linter.unusedSimpArgs false
namespace Go.Proofs.YtamdlbefiggkfaaGreat.Rom
open Go Go.RowKit Go.Proofs.YtamdlbefiggkfaaGreat.Kit Go.Proofs.YtamdlbefiggkfaaGreat.Utf Go.Maps Go.ChangeMaps Go.WideMaps

/-! ### rules as cells -/
def rcells (r : Rule) : List Value := [.string r.k, .string r.o, .string r.n]
def rc (rs : List Rule) : List Value := rs.flatMap rcells
def ragg (r : Rule) : Value := .agg #[.string r.k, .string r.o, .string r.n]
theorem rc_nil : rc [] = [] := rfl
theorem rc_cons (r : Rule) (rs : List Rule) : rc (r :: rs) = .string r.k :: .string r.o :: .string r.n :: rc rs := rfl
theorem rc_append (a b : List Rule) : rc (a ++ b) = rc a ++ rc b := by simp [rc]
theorem rc_len (rs : List Rule) : (rc rs).length = rs.length * 3 := by
  induction rs with
  | nil => rfl
  | cons r rs ih => rw [rc_cons]; simp [ih]; omega
theorem rc_oneCell (rs : List Rule) : ∀ u ∈ rc rs, u.oneCell' = true := by
  induction rs with
  | nil => intro u hu; cases hu
  | cons r rs ih =>
    intro u hu
    rw [rc_cons] at hu
    rcases List.mem_cons.1 hu with rfl | hu
    · rfl
    rcases List.mem_cons.1 hu with rfl | hu
    · rfl
    rcases List.mem_cons.1 hu with rfl | hu
    · rfl
    exact ih u hu
/-- Rule i of a list. -/
def ri (rs : List Rule) (i : Nat) : Rule := rs.getD i default
theorem ri_mem {rs : List Rule} {i : Nat} (h : i < rs.length) : ri rs i ∈ rs := by
  unfold ri; rw [List.getD_eq_getElem?_getD, List.getElem?_eq_getElem h]; exact List.getElem_mem h
theorem ri_get {rs : List Rule} {i : Nat} (h : i < rs.length) : rs[i]? = some (ri rs i) := by
  unfold ri; rw [List.getD_eq_getElem?_getD, List.getElem?_eq_getElem h]; rfl
theorem take_succ_ri (rs : List Rule) (i : Nat) (h : i < rs.length) : rs.take (i + 1) = rs.take i ++ [ri rs i] := by
  rw [List.take_add_one, ri_get h]; rfl
theorem ri_take {rs : List Rule} {k i : Nat} (h : i < k) : ri (rs.take k) i = ri rs i := by
  unfold ri; rw [List.getD_eq_getElem?_getD, List.getD_eq_getElem?_getD, List.getElem?_take, if_pos h]
theorem ri_drop {rs : List Rule} {k i : Nat} : ri (rs.drop k) i = ri rs (k + i) := by
  unfold ri; rw [List.getD_eq_getElem?_getD, List.getD_eq_getElem?_getD, List.getElem?_drop]
theorem rc_at (rs : List Rule) : ∀ i, i < rs.length → (rc rs)[i * 3]? = some (.string (ri rs i).k) ∧ (rc rs)[i * 3 + 1]? = some (.string (ri rs i).o) ∧ (rc rs)[i * 3 + 2]? = some (.string (ri rs i).n) := by
  induction rs with
  | nil => intro i h; simp at h
  | cons r rs ih =>
    intro i h
    cases i with
    | zero => exact ⟨rfl, rfl, rfl⟩
    | succ i =>
      have := ih i (by simpa using h)
      rw [rc_cons, show (i + 1) * 3 = i * 3 + 1 + 1 + 1 by omega]
      exact this

/-- The slice v reads as the rules rs. -/
def RowR (w : World) (v : Value) (rs : List Rule) : Prop :=
  ∃ a len cap, v = .slice a len cap ∧ len = rs.length ∧ len ≤ cap ∧ cap ≤ maxLen ∧
    ((a = none ∧ len = 0 ∧ cap = 0) ∨ (∃ x, a = some x ∧ len = 0) ∨ ∃ b off, a = some ⟨b, off, none⟩ ∧ b < w.heap.size ∧
      ∀ i, i < rs.length → w.cell? ⟨b, off + i * 3, none⟩ = some (.string (ri rs i).k) ∧ w.cell? ⟨b, off + i * 3 + 1, none⟩ = some (.string (ri rs i).o) ∧ w.cell? ⟨b, off + i * 3 + 2, none⟩ = some (.string (ri rs i).n))

theorem RowR.later {w w' : World} {v : Value} {rs : List Rule} (h : RowR w v rs) {B : Nat} (hb : Below B w w') (hB : w.heap.size ≤ B) : RowR w' v rs := by
  obtain ⟨a, len, cap, rfl, hl, hc, hm, h⟩ := h
  refine ⟨a, len, cap, rfl, hl, hc, hm, ?_⟩
  rcases h with h | h | ⟨b, off, rfl, hlt, hx⟩
  · exact .inl h
  · exact .inr (.inl h)
  · refine .inr (.inr ⟨b, off, rfl, Nat.lt_of_lt_of_le hlt hb.size, fun i hi => ?_⟩)
    obtain ⟨h1, h2, h3⟩ := hx i hi
    exact ⟨by rw [hb.cell (p := ⟨b, _, none⟩) (by show b < B; omega)]; exact h1, by rw [hb.cell (p := ⟨b, _, none⟩) (by show b < B; omega)]; exact h2, by rw [hb.cell (p := ⟨b, _, none⟩) (by show b < B; omega)]; exact h3⟩

/-- A row of rules that the call owns. -/
theorem row_of_own {w : World} {base : Nat} {e : TypeId} {v : Value} {n : Nat} {rs : List Rule} (h : w.ownsRow base e 3 v n (rc rs)) : RowR w v rs ∧ n = rs.length := by
  have hn : n = rs.length := by have := h.1; rw [rc_len] at this; omega
  refine ⟨?_, hn⟩
  rcases h.2 with ⟨rfl, h0⟩ | ⟨g, cap, cur, rfl, hb, hg, hnc, hcm, hcs, htake⟩
  · exact ⟨none, 0, 0, rfl, by omega, Nat.le_refl _, by simp [maxLen], .inl ⟨rfl, rfl, rfl⟩⟩
  · have key : ∀ j x, (rc rs)[j]? = some x → w.cell? ⟨g, j, none⟩ = some x := fun j x hx => by
      rw [cell_of_row w g j cur e (0, 0) hg]
      rw [← htake, List.getElem?_take] at hx
      split at hx
      · simpa using hx
      · cases hx
    refine ⟨_, n, cap, rfl, hn, hnc, hcm, .inr (.inr ⟨g, 0, rfl, (Array.getElem?_eq_some_iff.1 hg).1, fun i hi => ?_⟩)⟩
    obtain ⟨h1, h2, h3⟩ := rc_at rs i hi
    simp only [Nat.zero_add]
    exact ⟨key _ _ h1, key _ _ h2, key _ _ h3⟩

theorem RowR.len {w : World} {a : Option Addr} {n cap : Nat} {rs : List Rule} (h : RowR w (.slice a n cap) rs) : n = rs.length ∧ n ≤ cap ∧ cap ≤ maxLen := by
  obtain ⟨a, len, cap, e, h1, h2, h3, _⟩ := h
  cases e
  exact ⟨h1, h2, h3⟩
theorem RowR.nil (w : World) : RowR w (.slice none 0 0) [] := ⟨none, 0, 0, rfl, rfl, Nat.le_refl _, Nat.zero_le _, .inl ⟨rfl, rfl, rfl⟩⟩
/-- Where there is a rule, there is a block. -/
theorem RowR.at {w : World} {a : Option Addr} {n cap : Nat} {rs : List Rule} (h : RowR w (.slice a n cap) rs) (h0 : 0 < rs.length) :
    ∃ b off, a = some ⟨b, off, none⟩ ∧ b < w.heap.size ∧ ∀ i, i < rs.length → w.cell? ⟨b, off + i * 3, none⟩ = some (.string (ri rs i).k) ∧ w.cell? ⟨b, off + i * 3 + 1, none⟩ = some (.string (ri rs i).o) ∧ w.cell? ⟨b, off + i * 3 + 2, none⟩ = some (.string (ri rs i).n) := by
  obtain ⟨a, len, cap, e, h1, h2, h3, h4⟩ := h
  cases e
  rcases h4 with ⟨rfl, hl, _⟩ | ⟨x, rfl, hl⟩ | h4
  · omega
  · omega
  · exact h4

/-- The beginning of a slice, x[:k], as the walk spells it. -/
theorem RowR.take {w : World} {a : Option Addr} {n cap k : Nat} {rs : List Rule} (h : RowR w (.slice a n cap) rs) (hk : k ≤ n) : RowR w (.slice a k cap) (rs.take k) := by
  obtain ⟨a, len, cap, e, h1, h2, h3, h4⟩ := h
  cases e
  refine ⟨a, k, cap, rfl, by simp; omega, by omega, h3, ?_⟩
  rcases h4 with ⟨rfl, hl, hc⟩ | ⟨x, rfl, hl⟩ | ⟨b, off, rfl, hlt, hx⟩
  · exact .inl ⟨rfl, by omega, hc⟩
  · exact .inr (.inl ⟨x, rfl, by omega⟩)
  · refine .inr (.inr ⟨b, off, rfl, hlt, fun i hi => ?_⟩)
    rw [List.length_take] at hi
    rw [ri_take (by omega)]
    exact hx i (by omega)

/-- The rest of a slice, x[k:], where k is not the capacity, and where it is. -/
theorem RowR.drop {w : World} {a : Option Addr} {n cap k : Nat} {rs : List Rule} (h : RowR w (.slice a n cap) rs) (hk : k ≤ n) : RowR w (.slice (a.map (fun x => x.add (k * 3))) (n - k) (cap - k)) (rs.drop k) := by
  obtain ⟨a, len, cap, e, h1, h2, h3, h4⟩ := h
  cases e
  refine ⟨_, _, _, rfl, by simp; omega, by omega, by omega, ?_⟩
  rcases h4 with ⟨rfl, hl, hc⟩ | ⟨x, rfl, hl⟩ | ⟨b, off, rfl, hlt, hx⟩
  · exact .inl ⟨rfl, by omega, by omega⟩
  · exact .inr (.inl ⟨_, rfl, by omega⟩)
  · refine .inr (.inr ⟨b, off + k * 3, by simp [Addr.add_lit], hlt, fun i hi => ?_⟩)
    rw [List.length_drop] at hi
    rw [ri_drop]
    have := hx (k + i) (by omega)
    rw [show off + k * 3 + i * 3 = off + (k + i) * 3 by omega]
    exact this
theorem RowR.drop_end {w : World} {a : Option Addr} {n cap k : Nat} {rs : List Rule} (h : RowR w (.slice a n cap) rs) (hk : k ≤ n) (hc : cap ≤ k) : RowR w (.slice a (n - k) 0) (rs.drop k) := by
  obtain ⟨a, len, cap, e, h1, h2, h3, h4⟩ := h
  cases e
  have e1 : rs.drop k = [] := List.drop_of_length_le (by omega)
  refine ⟨_, _, _, rfl, by simp; omega, by omega, by omega, ?_⟩
  rcases h4 with ⟨rfl, hl, hc⟩ | ⟨x, rfl, hl⟩ | ⟨b, off, rfl, hlt, hx⟩
  · exact .inl ⟨rfl, by omega, rfl⟩
  · exact .inr (.inl ⟨_, rfl, by omega⟩)
  · exact .inr (.inr ⟨b, off, rfl, hlt, fun i hi => by rw [e1] at hi; simp at hi⟩)

/-- A block of one rule that the call has just laid. -/
theorem news_rule {w : World} {g : Nat} {r : Rule} {e : TypeId} (h : w.heap[g]? = some (.cells #[.string r.k, .string r.o, .string r.n] e (0, 0))) : ∀ j u, (rc [r])[j]? = some u → w.cell? (Addr.add ⟨g, 0, none⟩ j) = some u := by
  intro j u hu
  rw [Addr.add_lit, cell_of_row w g _ _ e (0, 0) h]
  rw [Nat.zero_add, ← Array.getElem?_toList]
  exact hu

/-! ### sets of keys -/
theorem law_str : Keyed Tryz.prog 9 := string_keyed Tryz.underlying9
theorem zeroBool (w : World) : (zeroValue 4).run Tryz.prog w = .ok (.bool false) w := by kernel_rfl
theorem plainElem_bool_inv {P : Program} {e : TypeId} (he : P.underlying e = some .bool) {v : Value} {z : DataW Unit × List MemPlace} (h : plainElem P e v = some z) : ∃ x, v = .bool x ∧ z = (.lit (.bool x), []) := by
  unfold plainElem at h
  rw [he] at h
  cases v <;> simp at h
  exact ⟨_, rfl, h.symm⟩

def kl (k : ByteArray) : Lit := .string k.data.toList
theorem kl_inj {a b : ByteArray} (h : kl a = kl b) : a = b := by
  unfold kl at h
  injection h with h
  exact ba_ext h

/-- Block b is a map that holds just the keys ks, each with true. -/
def OwnSet (w : World) (b : Nat) (ks : List ByteArray) : Prop :=
  ks.Nodup ∧ (∀ k ∈ ks, k.size ≤ maxLen) ∧ ∃ D : DataW Unit, w.ownsMap Tryz.prog 9 (plainElem Tryz.prog 4) b ks.length D ∧ Maps.size D = ks.length ∧ ∀ k : ByteArray, D.atKey (kl k) (.lit (.bool false)) = .lit (.bool (!newK ks k)) ∧ Maps.has D (kl k) = !newK ks k

theorem OwnSet.made (w : World) : OwnSet (w.alloc (.map #[] 0)) w.heap.size [] := by
  refine ⟨List.nodup_nil, by simp, .map [], World.ownsMap_made _ _ _ _, rfl, fun k => ⟨?_, rfl⟩⟩
  simp [newK, DataW.atKey]

theorem OwnSet.kept {w w' : World} {b : Nat} {ks : List ByteArray} {row : Option Nat} (h : OwnSet w b ks) (hg : w.grownBy w' row) (hne : some b ≠ row) : OwnSet w' b ks := by
  obtain ⟨h1, h2, D, hD, h3, h4⟩ := h
  exact ⟨h1, h2, D, hD.kept hg hne, h3, h4⟩
theorem OwnSet.alloc {w : World} {b : Nat} {ks : List ByteArray} (h : OwnSet w b ks) (o : Obj) : OwnSet (w.alloc o) b ks := h.kept (World.grownBy_alloc w o none) (by simp)
theorem grown_of_below {w w' : World} (h : Below w.heap.size w w') (row : Option Nat) : w.grownBy w' row := ⟨h.os, h.tape, h.output, h.size, fun i hi _ => h.block i hi⟩
theorem OwnSet.later {w w' : World} {b : Nat} {ks : List ByteArray} (h : OwnSet w b ks) (hb : Below w.heap.size w w') : OwnSet w' b ks := h.kept (grown_of_below hb none) (by simp)
theorem OwnSet.lt {w : World} {b : Nat} {ks : List ByteArray} (h : OwnSet w b ks) : b < w.heap.size := by
  obtain ⟨h1, h2, D, hD, h3, h4⟩ := h
  exact hD.lt

theorem OwnSet.lookup {w : World} {b : Nat} {ks : List ByteArray} (h : OwnSet w b ks) (k : ByteArray) (hk : k.size ≤ maxLen) :
    (Instr.lookup 60 (.map (some b)) (.string k) false).run Tryz.prog w = .ok (.bool (!newK ks k)) w := by
  obtain ⟨h1, h2, D, hD, h3, h4⟩ := h
  obtain ⟨v, ps, hrun, hv⟩ := hD.lookup law_str Tryz.underlying60 (zeroBool w) (plainElem_bool Tryz.underlying4 false) (keyOf_string_mk Tryz.underlying9 hk)
  obtain ⟨x, rfl, hx⟩ := plainElem_bool_inv Tryz.underlying4 hv
  have e := (h4 k).1
  unfold kl at e
  rw [e] at hx
  simp only [Prod.mk.injEq, DataW.lit.injEq, Lit.bool.injEq] at hx
  rw [hrun, hx.1]

theorem OwnSet.len {w : World} {b : Nat} {ks : List ByteArray} (h : OwnSet w b ks) (ty : TypeId) :
    (Builtin.len_ #[60] ty #[.map (some b)]).run Tryz.prog w = .ok (.int .i64 (ks.length : Nat)) w := by
  obtain ⟨h1, h2, D, hD, h3, h4⟩ := h
  rw [hD.len Tryz.underlying60 ty, h3]

theorem newK_snoc (ks : List ByteArray) (k x : ByteArray) : newK (ks ++ [k]) x = (newK ks x && decide (k ≠ x)) := by simp [newK]
/-- What a store of a new key leaves. -/
theorem OwnSet.put {w' : World} {b : Nat} {ks : List ByteArray} {k : ByteArray} {D : DataW Unit} (hD : w'.ownsMap Tryz.prog 9 (plainElem Tryz.prog 4) b (ks.length + 1) (D.put (kl k) (.lit (.bool true))))
    (hT : Tidy D) (h1 : ks.Nodup) (h2 : ∀ k ∈ ks, k.size ≤ maxLen) (h3 : Maps.size D = ks.length) (h4 : ∀ k : ByteArray, D.atKey (kl k) (.lit (.bool false)) = .lit (.bool (!newK ks k)) ∧ Maps.has D (kl k) = !newK ks k) (hn : newK ks k = true) (hk : k.size ≤ maxLen) : OwnSet w' b (ks ++ [k]) := by
  refine ⟨?_, ?_, D.put (kl k) (.lit (.bool true)), by simpa using hD, ?_, fun x => ?_⟩
  · rw [List.nodup_append]
    refine ⟨h1, by simp, fun a ha c hc => ?_⟩
    rw [List.mem_singleton] at hc
    subst hc
    intro e; subst e
    exact newK_iff.1 hn ha
  · intro x hx
    rcases List.mem_append.1 hx with h | h
    · exact h2 x h
    · rw [List.mem_singleton] at h; subst h; exact hk
  · rw [size_put hT, (h4 k).2, hn, h3]; simp
  · rw [newK_snoc]
    by_cases e : k = x
    · subst e
      rw [atKey_put_same hT.isMap (show WideAt.IsKeyLit (kl k) from trivial), has_put_same hT.isMap (show WideAt.IsKeyLit (kl k) from trivial)]
      simp
    · have e2 : kl k ≠ kl x := fun h => e (kl_inj h)
      rw [atKey_put_other (fun h => e2 h.symm), has_put_other (fun h => e2 h.symm), (h4 x).1, (h4 x).2]
      simp [e]

end Go.Proofs.YtamdlbefiggkfaaGreat.Rom

set_option linter.unusedVariables false
set_option linter.unusedSimpArgs false
set_option maxRecDepth 100000
namespace Go.Proofs.YtamdlbefiggkfaaGreat.Clone
open Go Go.RowKit Go.Proofs.YtamdlbefiggkfaaGreat.Kit

theorem info_u8 : (Tryz.prog.info? 5).map (fun i => (i.zero, i.size, i.bytes)) = some (some (.int .u8 0), 1, 1) := by kernel_rfl

theorem own_clone (s : ByteArray) (w : World) (hs : s.size ≤ 281474976710656) :
    Calls Tryz.prog 58 #[.string s] w fun e w' => e = .returned (.string s) ∧ Below w.heap.size w w' := by
  by_cases h0 : s.size = 0
  · have e0 : s = ⟨#[]⟩ := ByteArray.ext (Array.eq_empty_of_size_eq_zero h0)
    subst e0
    go_enter Tryz.func58, Tryz.ntmps58
    go_wp2
    go_ret
    exact ⟨rfl, Below.refl _ _⟩
  · obtain ⟨i0, hi, hz0, hz1, hz2⟩ := info_parts info_u8
    have hsz : s.data.toList.length = s.size := by rw [Array.length_toList]; rfl
    have hne : s.data.toList ≠ [] := fun e => by rw [e] at hsz; exact h0 hsz.symm
    obtain ⟨M, hM⟩ : ∃ M, madeCells (Value.int .u8 0).cells (((s.size : Nat) : Int).toNat * i0.size) = M := ⟨_, rfl⟩
    have hMs : M.size = s.size := by rw [← hM, size_madeCells, hz1]; simp
    have make : ∀ W : World, (Instr.makeSlice 74 (.int .i64 (s.size : Int)) (.int .i64 (s.size : Int))).run Tryz.prog W = .ok (.slice (some ⟨W.heap.size, 0, none⟩) s.size s.size) (W.alloc (.cells M 5)) := fun W => by
      have h := run_make (P := Tryz.prog) W 74 5 i0 (.int .u8 0) Tryz.underlying74 hi hz0 .i64 .i64 (s.size : Int) (s.size : Int) (by omega) (by omega) (by rw [hz2]; omega) (by omega)
      rw [hM] at h
      simpa using h
    clear hM
    obtain ⟨W1, hW1⟩ : ∃ W1, w.alloc (.cells M 5) = W1 := ⟨_, rfl⟩
    have hrow : W1.heap[w.heap.size]? = some (.cells M 5 (0, 0)) := by rw [← hW1]; exact heap_alloc_new w _
    have copied := Lib.run_copy_row_string (P := Tryz.prog) W1 74 9 3 5 w.heap.size 0 s.size s.size s M 5 Tryz.underlying74 (by rw [hi]; simp [hz1]) hrow (Nat.le_refl _) (by omega)
    obtain ⟨Y, hY⟩ : ∃ Y, (M.toList.take 0 ++ Lib.byteCells s.data.toList ++ M.toList.drop (0 + s.size)).toArray = Y := ⟨_, rfl⟩
    rw [hY] at copied
    have hYl : Y.toList = Lib.byteCells s.data.toList := by
      rw [← hY, List.toList_toArray, List.drop_of_length_le (by rw [Array.length_toList]; omega)]; simp
    have hYs : Y.size = s.size := by rw [← Array.length_toList, hYl, Lib.byteCells_length, hsz]
    clear hY
    have hb1 : Below w.heap.size w W1 := by rw [← hW1]; exact (Below.refl _ w).alloc (Nat.le_refl _) _
    obtain ⟨W2, hW2⟩ : ∃ W2, W1.setRow w.heap.size Y = W2 := ⟨_, rfl⟩
    have hrow2 : W2.heap[w.heap.size]? = some (.cells Y 5 (0, 0)) := by rw [← hW2]; exact setRow_heap _ _ M _ _ (0, 0) hrow
    have hb2 : Below w.heap.size W1 W2 := by rw [← hW2]; exact ⟨rfl, rfl, rfl, by simp, fun k hk => setRow_other _ _ _ _ (by omega)⟩
    have texted := Lib.run_unsafeString_row (P := Tryz.prog) W2 129 3 9 5 Tryz.underlying129 (by simp [Program.cellsOf, hi, hz1]) w.heap.size Y.size (by unfold World.shape?; rw [hrow2]) s.data.toList hne (by omega) (by omega)
      (fun j x hx => Lib.cells_of_row hrow2 Y.size j _ (by rw [List.take_of_length_le (by rw [Array.length_toList]; exact Nat.le_refl _), hYl]; simp [Lib.byteCells, hx]))
    rw [hsz] at texted
    subst hW1 hW2
    go_enter Tryz.func58, Tryz.ntmps58
    go_wp2
    go_ret
    exact ⟨rfl, Lib.below_freeze (hb1.trans hb2) (p := ⟨w.heap.size, 0, none⟩) (Nat.le_refl _) _⟩

theorem clone_any (s : ByteArray) (w : World) (hs : s.size ≤ 281474976710656) :
    Calls Tryz.prog 26 #[.string s] w fun e w' => e = .returned (.string s) ∧ Below w.heap.size w w' := by
  go_enter Tryz.func26, Tryz.ntmps26
  go_wp2_with (go_at_call 58; refine (own_clone _ _ hs).mono ?_; rintro e w' ⟨rfl, hb⟩)
  go_ret
  exact ⟨rfl, hb⟩

end Go.Proofs.YtamdlbefiggkfaaGreat.Clone

set_option linter.unusedVariables false
set_option linter.unusedSimpArgs false
set_option maxRecDepth 100000
namespace Go.Proofs.YtamdlbefiggkfaaGreat.Rom
open Go Go.RowKit Go.Proofs.YtamdlbefiggkfaaGreat.Kit Go.Proofs.YtamdlbefiggkfaaGreat.Utf

/-- A rule of strings that are short enough for any machine. -/
def Short (r : Rule) : Prop := r.k.size ≤ 1048576 ∧ r.o.size ≤ 1048576 ∧ r.n.size ≤ 1048576

theorem nonempty_str (s : ByteArray) : (!s.toList.isEmpty) = decide (s.size ≠ 0) := by
  rw [Lib.toList_data, ← bs_len]
  show (!(bs s).isEmpty) = _
  generalize bs s = l
  cases l <;> simp
theorem empty_str (s : ByteArray) : s.toList.isEmpty = decide (s.size = 0) := by
  rw [Lib.toList_data, ← bs_len]
  show (bs s).isEmpty = _
  generalize bs s = l
  cases l <;> simp
theorem cat_ne (a b : ByteArray) : (!(a ++ b).toList.isEmpty) = decide (a.size ≠ 0 ∨ b.size ≠ 0) := by
  rw [nonempty_str, ByteArray.size_append]
  congr 1; exact propext ⟨fun h => by omega, fun h => by omega⟩
theorem str_beq (a b : ByteArray) : (a.toList == b.toList) = decide (a = b) := by
  rw [Lib.toList_data, Lib.toList_data, Bool.eq_iff_iff]
  simp only [beq_iff_eq, decide_eq_true_eq]
  exact ⟨fun h => ba_ext h, fun h => by rw [h]⟩

theorem isAllowed_any (r : Rule) (w : World) (hs : Short r) :
    Calls Tryz.prog 77 #[ragg r] w fun e w' => e = .returned (.bool (okR r)) ∧ Below w.heap.size w w' := by
  obtain ⟨k, o, n⟩ := r
  obtain ⟨s1, s2, s3⟩ := hs
  simp only at s1 s2 s3
  have HA := fun w => areKeys_any k 1 4 w (by omega) (by omega) (by omega) (by omega) (by omega)
  have HB := fun w => areKeys_any n 0 ((k.size : Int) - 1) w (by omega) (by omega) (by omega) (by omega) (by omega)
  have HC := fun w => areKana_any o w (by omega)
  have e : okR ⟨k, o, n⟩ = ((decide ((1 : Int) ≤ k.size ∧ (k.size : Int) ≤ 4) && keysOK (bs k)) && (decide ((0 : Int) ≤ n.size ∧ (n.size : Int) ≤ (k.size : Int) - 1) && keysOK (bs n)) && kanaOK (bs o) && (!(o ++ n).toList.isEmpty)) := by
    rw [cat_ne]
    unfold okR
    have e1 : decide ((1 : Int) ≤ k.size ∧ (k.size : Int) ≤ 4) = decide (1 ≤ k.size ∧ k.size ≤ 4) := by congr 1; exact propext ⟨fun h => by omega, fun h => by omega⟩
    have e2 : decide ((0 : Int) ≤ n.size ∧ (n.size : Int) ≤ (k.size : Int) - 1) = decide (n.size < k.size) := by congr 1; exact propext ⟨fun h => by omega, fun h => by omega⟩
    simp only [e1, e2]
    simp only [Bool.and_assoc]
  rw [e]
  clear e
  generalize (decide ((1 : Int) ≤ k.size ∧ (k.size : Int) ≤ 4) && keysOK (bs k)) = A at HA ⊢
  generalize (decide ((0 : Int) ≤ n.size ∧ (n.size : Int) ≤ (k.size : Int) - 1) && keysOK (bs n)) = B at HB ⊢
  generalize kanaOK (bs o) = C at HC ⊢
  have HA := Lib.hid HA
  have HB := Lib.hid HB
  have HC := Lib.hid HC
  unfold ragg
  simp only
  cases A
  · go_enter Tryz.func77, Tryz.ntmps77
    go_wp2_with (go_at_call 101; (with_reducible refine (HA.out _).mono ?_); rintro e w1 ⟨rfl, hw1⟩; obtain rfl := hw1.symm)
    go_ret
    exact ⟨rfl, (Below.refl _ _).alloc (Nat.le_refl _) _⟩
  cases B
  · go_enter Tryz.func77, Tryz.ntmps77
    go_wp2_with (go_at_call 101; first | ((with_reducible refine (HA.out _).mono ?_); rintro e w1 ⟨rfl, hw1⟩; obtain rfl := hw1.symm) | ((with_reducible refine (HB.out _).mono ?_); rintro e w1 ⟨rfl, hw1⟩; obtain rfl := hw1.symm))
    go_ret
    exact ⟨rfl, (Below.refl _ _).alloc (Nat.le_refl _) _⟩
  cases C
  · go_enter Tryz.func77, Tryz.ntmps77
    go_wp2_with (first
      | (go_at_call 101; first | ((with_reducible refine (HA.out _).mono ?_); rintro e w1 ⟨rfl, hw1⟩; obtain rfl := hw1.symm) | ((with_reducible refine (HB.out _).mono ?_); rintro e w1 ⟨rfl, hw1⟩; obtain rfl := hw1.symm))
      | (go_at_call 102; (with_reducible refine (HC.out _).mono ?_); rintro e w2 ⟨rfl, hb2⟩))
    go_ret
    exact ⟨rfl, ((Below.refl _ _).alloc (Nat.le_refl _) _).trans (hb2.mono (by simp))⟩
  · go_enter Tryz.func77, Tryz.ntmps77
    go_wp2_with (first
      | (go_at_call 101; first | ((with_reducible refine (HA.out _).mono ?_); rintro e w1 ⟨rfl, hw1⟩; obtain rfl := hw1.symm) | ((with_reducible refine (HB.out _).mono ?_); rintro e w1 ⟨rfl, hw1⟩; obtain rfl := hw1.symm))
      | (go_at_call 102; (with_reducible refine (HC.out _).mono ?_); rintro e w2 ⟨rfl, hb2⟩; have hc1 := hb2.cell (p := ⟨w.heap.size, 1, none⟩) (by simp); have hc2 := hb2.cell (p := ⟨w.heap.size, 2, none⟩) (by simp)))
    go_ret
    exact ⟨rfl, ((Below.refl _ _).alloc (Nat.le_refl _) _).trans (hb2.mono (by simp))⟩

/-- A rule in a variable, loaded. -/
theorem load_rule {w : World} {g o : Nat} {r : Rule} (h0 : w.cell? ⟨g, o, none⟩ = some (.string r.k)) (h1 : w.cell? ⟨g, o + 1, none⟩ = some (.string r.o)) (h2 : w.cell? ⟨g, o + 2, none⟩ = some (.string r.n)) :
    (loadVar 64 ⟨g, o, none⟩).run Tryz.prog w = .ok (ragg r) w := by
  unfold ragg
  go_simp
theorem load_rrule {w : World} {g o : Nat} {r : Rule} (h0 : w.cell? ⟨g, o, none⟩ = some (.string r.k)) (h1 : w.cell? ⟨g, o + 1, none⟩ = some (.string r.o)) (h2 : w.cell? ⟨g, o + 2, none⟩ = some (.string r.n)) :
    (loadVar 90 ⟨g, o, none⟩).run Tryz.prog w = .ok (ragg r) w := by
  unfold ragg
  go_simp
theorem results_cell1 {fn : Func} {p : Tmp} {ty : TypeId} (h : fn.results = #[.cell p ty]) (tmps : Array Value) (P : Program) (w : World) :
    (results fn tmps).run P w = ((asAddr (tmps.getD p undef)).run P w).andThen fun a w₁ => (loadVar ty a).run P w₁ := by
  simp only [results, h]
  simp [Sem.run_bind, Result.andThen]

/-- Three cells written one after the other, read. -/
theorem three_set {w : World} {g : Nat} {x y z : Value} (h0 : (w.cell? ⟨g, 0, none⟩).isSome = true) (h1 : (w.cell? ⟨g, 1, none⟩).isSome = true) (h2 : (w.cell? ⟨g, 2, none⟩).isSome = true) :
    (((w.setCell ⟨g, 0, none⟩ x).setCell ⟨g, 1, none⟩ y).setCell ⟨g, 2, none⟩ z).cell? ⟨g, 0, none⟩ = some x ∧ (((w.setCell ⟨g, 0, none⟩ x).setCell ⟨g, 1, none⟩ y).setCell ⟨g, 2, none⟩ z).cell? ⟨g, 1, none⟩ = some y ∧ (((w.setCell ⟨g, 0, none⟩ x).setCell ⟨g, 1, none⟩ y).setCell ⟨g, 2, none⟩ z).cell? ⟨g, 2, none⟩ = some z := by
  have n01 : (⟨g, 0, none⟩ : Addr) ≠ ⟨g, 1, none⟩ := by simp
  have n02 : (⟨g, 0, none⟩ : Addr) ≠ ⟨g, 2, none⟩ := by simp
  have n12 : (⟨g, 1, none⟩ : Addr) ≠ ⟨g, 2, none⟩ := by simp
  have e1 := World.cell?_setCell_same' w _ x h0
  have e2 : ((w.setCell ⟨g, 0, none⟩ x).cell? ⟨g, 1, none⟩).isSome = true := by rw [World.cell?_setCell_other _ _ _ _ n01]; exact h1
  have e3 := World.cell?_setCell_same' _ _ y e2
  have e4 : (((w.setCell ⟨g, 0, none⟩ x).setCell ⟨g, 1, none⟩ y).cell? ⟨g, 2, none⟩).isSome = true := by rw [World.cell?_setCell_other _ _ _ _ n12, World.cell?_setCell_other _ _ _ _ n02]; exact h2
  have e5 := World.cell?_setCell_same' _ _ z e4
  exact ⟨by rw [World.cell?_setCell_other _ _ _ _ (Ne.symm n02), World.cell?_setCell_other _ _ _ _ (Ne.symm n01)]; exact e1, by rw [World.cell?_setCell_other _ _ _ _ (Ne.symm n12)]; exact e3, e5⟩

/-- What a cell holds, if there is one. -/
def cellOr (w : World) (a : Addr) : Value := (w.cell? a).getD undef
theorem cellOr_of {w : World} {a : Addr} (h : (w.cell? a).isSome = true) : w.cell? a = some (cellOr w a) := by
  unfold cellOr
  cases e : w.cell? a
  · rw [e] at h; cases h
  · rfl
theorem cellOr_later {w w' : World} {a : Addr} {B : Nat} (h : w.cell? a = some (cellOr w a)) (hb : Below B w w') (hB : a.block < B) : w'.cell? a = some (cellOr w' a) := by
  apply cellOr_of
  rw [hb.cell hB, h]; rfl

theorem isSome_of {w : World} {a : Addr} (h : w.cell? a = some (cellOr w a)) : (w.cell? a).isSome = true := by rw [h]; rfl
theorem isSome_set {w : World} {p a : Addr} {v : Value} (h : (w.cell? a).isSome = true) : ((w.setCell p v).cell? a).isSome = true := by
  cases e : w.cell? a with
  | none => rw [e] at h; cases h
  | some x =>
    obtain ⟨v', hv⟩ := RowKit.cell?_setCell_some (p := p) (x := v) e
    rw [hv]; rfl

theorem fresh_any (r : Rule) (w : World) (hs : Short r) :
    Calls Tryz.prog 51 #[ragg r] w fun e w' => e = .returned (ragg r) ∧ Below w.heap.size w w' := by
  obtain ⟨k, o, n⟩ := r
  obtain ⟨s1, s2, s3⟩ := hs
  simp only at s1 s2 s3
  unfold ragg
  simp only
  have HC : ∀ (s : ByteArray) (w : World), s.size ≤ 1048576 → Calls Tryz.prog 26 #[.string s] w fun e w' => e = .returned (.string s) ∧ Below w.heap.size w w' := fun s w h => Clone.clone_any s w (by omega)
  have HC := Lib.hid HC
  have fact : ∀ o1 o2, o1 = Obj.cells #[.string k, .string o, .string n] 64 → o2 = Obj.cells #[.string { data := #[] }, .string { data := #[] }, .string { data := #[] }] 64 → ((w.alloc o1).alloc o2).cell? ⟨w.heap.size, 0, none⟩ = some (.string k) ∧ ((w.alloc o1).alloc o2).cell? ⟨w.heap.size, 1, none⟩ = some (.string o) ∧ ((w.alloc o1).alloc o2).cell? ⟨w.heap.size, 2, none⟩ = some (.string n) ∧ (∀ j, j < 3 → ((w.alloc o1).alloc o2).cell? ⟨w.heap.size + 1, j, none⟩ = some (.string { data := #[] }) ∧ ((w.alloc o1).alloc o2).frozen? ⟨w.heap.size + 1, j, none⟩ = false) ∧ Below w.heap.size w ((w.alloc o1).alloc o2) ∧ w.heap.size + 2 ≤ ((w.alloc o1).alloc o2).heap.size := by
    rintro o1 o2 rfl rfl
    have e := heap_alloc_new (w.alloc (Obj.cells #[.string k, .string o, .string n] 64)) (Obj.cells #[.string { data := #[] }, .string { data := #[] }, .string { data := #[] }] 64)
    have e : ((w.alloc (Obj.cells #[.string k, .string o, .string n] 64)).alloc (Obj.cells #[.string { data := #[] }, .string { data := #[] }, .string { data := #[] }] 64)).heap[w.heap.size + 1]? = some (Obj.cells #[.string { data := #[] }, .string { data := #[] }, .string { data := #[] }] 64) := by simpa using e
    refine ⟨by simp, by simp, by simp, fun j hj => ?_, ((Below.refl _ _).alloc (Nat.le_refl _) _).alloc (by simp) _, by simp⟩
    have h3 : j = 0 ∨ j = 1 ∨ j = 2 := by omega
    refine ⟨?_, ?_⟩
    · rw [cell_of_row _ _ j _ _ _ e]
      rcases h3 with rfl | rfl | rfl <;> rfl
    · unfold World.frozen?; rw [e]; rfl
  have FACT := Lib.hid fact
  clear fact
  go_enter Tryz.func51, Tryz.ntmps51
  go_wp2
  obtain ⟨f1, f2, f3, f4, f5, f6⟩ := FACT.out _ _ rfl rfl
  have g0 := f4 0 (by omega)
  have g1 := f4 1 (by omega)
  have g2 := f4 2 (by omega)
  clear f4
  obtain ⟨W, hW⟩ : ∃ W, (w.alloc (Obj.cells #[.string k, .string o, .string n] 64)).alloc (Obj.cells #[.string { data := #[] }, .string { data := #[] }, .string { data := #[] }] 64) = W := ⟨_, rfl⟩
  rw [hW] at f1 f2 f3 g0 g1 g2 f5 f6 ⊢
  clear hW
  obtain ⟨g0, y0⟩ := g0
  obtain ⟨g1, y1⟩ := g1
  obtain ⟨g2, y2⟩ := g2
  go_region_held3 (fun w' => w'.cell? ⟨w.heap.size, 0, none⟩ = some (.string k) ∧ w'.cell? ⟨w.heap.size, 1, none⟩ = some (.string o) ∧ w'.cell? ⟨w.heap.size, 2, none⟩ = some (.string n) ∧ w'.cell? ⟨w.heap.size + 1, 0, none⟩ = some (cellOr w' ⟨w.heap.size + 1, 0, none⟩) ∧ w'.cell? ⟨w.heap.size + 1, 1, none⟩ = some (cellOr w' ⟨w.heap.size + 1, 1, none⟩) ∧ w'.cell? ⟨w.heap.size + 1, 2, none⟩ = some (cellOr w' ⟨w.heap.size + 1, 2, none⟩) ∧ w'.frozen? ⟨w.heap.size + 1, 0, none⟩ = false ∧ w'.frozen? ⟨w.heap.size + 1, 1, none⟩ = false ∧ w'.frozen? ⟨w.heap.size + 1, 2, none⟩ = false ∧ Below w.heap.size w w' ∧ w.heap.size + 2 ≤ w'.heap.size)
    (first
      | exact ⟨f1, f2, f3, cellOr_of (by rw [World.cell?_drew]; rw [g0]; rfl), cellOr_of (by rw [World.cell?_drew]; rw [g1]; rfl), cellOr_of (by rw [World.cell?_drew]; rw [g2]; rfl), y0, y1, y2, f5.drew, f6⟩
      | (go_split_ands
         refine ⟨?_, ?_, ?_, ?_, ?_, ?_, ?_, ?_, ?_, ?_, ?_⟩
         · (rw [hb.cell (by simp; omega)]; assumption)
         · (rw [hb.cell (by simp; omega)]; assumption)
         · (rw [hb.cell (by simp; omega)]; assumption)
         · exact cellOr_later (by assumption) hb (by simp; omega)
         · exact cellOr_later (by assumption) hb (by simp; omega)
         · exact cellOr_later (by assumption) hb (by simp; omega)
         · (rw [hb.frozen (by simp; omega)]; assumption)
         · (rw [hb.frozen (by simp; omega)]; assumption)
         · (rw [hb.frozen (by simp; omega)]; assumption)
         · exact Below.trans (by assumption) (hb.mono (by omega))
         · exact Nat.le_trans (by assumption) hb.size)
      | (go_split_ands
         refine ⟨?_, ?_, ?_, ?_, ?_, ?_, ?_, ?_, ?_, ?_, ?_⟩
         · simp [*, World.cell?_setCell_far]
         · simp [*, World.cell?_setCell_far]
         · simp [*, World.cell?_setCell_far]
         · exact cellOr_of (isSome_set (isSome_set (isSome_set (isSome_of (by assumption)))))
         · exact cellOr_of (isSome_set (isSome_set (isSome_set (isSome_of (by assumption)))))
         · exact cellOr_of (isSome_set (isSome_set (isSome_set (isSome_of (by assumption)))))
         · simp [*]
         · simp [*]
         · simp [*]
         · exact Below.setCell (Below.setCell (Below.setCell (by assumption) (by simp) _) (by simp) _) (by simp) _
         · simp [*]))
    ((go_at_call 26; (with_reducible refine (HC.out _ _ (by assumption)).mono ?_); rintro e w' ⟨rfl, hb⟩))
  all_goals go_wp2
  all_goals (try simp only [Exit.inBlock, Exit.then])
  all_goals
    rename_i wa ha wb hbb hH
    clear hH
    have cW : Below W.heap.size W w' := ((Below.refl _ _).drew.trans (ha.mono (Nat.le_refl _))).trans ((hbb.mono ha.size).trans (hb.mono (Nat.le_trans ha.size hbb.size)))
    have cw : Below w.heap.size w w' := f5.trans (cW.mono f5.size)
    refine bodyPost_ret (v := .agg #[.string k, .string o, .string n]) ?_ rfl ⟨rfl, Below.setCell (Below.setCell (Below.setCell cw (by show _ ≤ w.heap.size + 1; omega) _) (by show _ ≤ w.heap.size + 1; omega) _) (by show _ ≤ w.heap.size + 1; omega) _⟩
    rw [results_cell1 rfl]
    show ((loadVar 64 ⟨w.heap.size + 1, 0, none⟩).run Tryz.prog _) = _
    obtain ⟨q0, q1, q2⟩ := three_set (w := w') (g := w.heap.size + 1) (x := .string k) (y := .string o) (z := .string n) (by rw [cW.cell (by show w.heap.size + 1 < _; omega), g0]; rfl) (by rw [cW.cell (by show w.heap.size + 1 < _; omega), g1]; rfl) (by rw [cW.cell (by show w.heap.size + 1 < _; omega), g2]; rfl)
    exact load_rule (r := ⟨k, o, n⟩) q0 q1 q2

/-- What accept answers. -/
def accB (ks : List ByteArray) (r : Rule) : Bool := okR r && newK ks r.k && decide (ks.length ≠ 500)
theorem accept_no (b : Nat) (ks : List ByteArray) (r : Rule) (w : World) (hs : Short r) (hset : OwnSet w b ks) (hno : accB ks r = false) :
    Calls Tryz.prog 57 #[.map (some b), ragg r] w fun e w' => e = .returned (.bool false) ∧ OwnSet w' b ks ∧ w.grownBy w' (some b) := by
  have HA := fun w => isAllowed_any r w hs
  have hb := hset.lt
  have hkm : r.k.size ≤ maxLen := by unfold maxLen; have := hs.1; omega
  have hset1 : ∀ o, OwnSet (w.alloc o) b ks := fun o => hset.alloc o
  have hlk := Lib.hid (fun (W : World) (h : OwnSet W b ks) => h.lookup r.k hkm)
  unfold accB at hno
  unfold ragg at HA ⊢
  cases hA : okR r
  · rw [hA] at HA
    have HA := Lib.hid HA
    clear hno hA
    go_enter Tryz.func57, Tryz.ntmps57
    go_wp2_with (go_at_call 77; (with_reducible refine (HA.out _).mono ?_); rintro e w2 ⟨rfl, hb2⟩)
    go_ret
    refine ⟨rfl, (hset1 _).later hb2, (World.grownBy_alloc w _ _).trans (grown_of_below hb2 _)⟩
  rw [hA] at HA hno
  have HA := Lib.hid HA
  obtain ⟨L, hL⟩ : ∃ L : Int, ((ks.length : Nat) : Int) = L := ⟨_, rfl⟩
  have HL := Lib.hid hL
  cases hN : newK ks r.k
  · have HN := Lib.hid hN
    clear hno hA hN hL
    go_enter Tryz.func57, Tryz.ntmps57
    go_wp2_with (go_at_call 77; (with_reducible refine (HA.out _).mono ?_); rintro e w2 ⟨rfl, hb2⟩; have hs2 := (hset1 _).later hb2; have hc0 := hb2.cell (p := ⟨w.heap.size, 0, none⟩) (by simp); have hq := hlk.out _ hs2; rw [HN.out] at hq; simp only [Bool.not_false, Bool.not_true] at hq; have hln := fun ty => hs2.len ty; rw [HL.out] at hln)
    go_ret
    exact ⟨rfl, hs2, (World.grownBy_alloc w _ _).trans (grown_of_below hb2 _)⟩
  · have HN := Lib.hid hN
    rw [hN] at hno
    have h5 : (L == 500) = true := by simp at hno; simp; omega
    clear hno hA hN hL
    go_enter Tryz.func57, Tryz.ntmps57
    go_wp2_with (go_at_call 77; (with_reducible refine (HA.out _).mono ?_); rintro e w2 ⟨rfl, hb2⟩; have hs2 := (hset1 _).later hb2; have hc0 := hb2.cell (p := ⟨w.heap.size, 0, none⟩) (by simp); have hq := hlk.out _ hs2; rw [HN.out] at hq; simp only [Bool.not_false, Bool.not_true] at hq; have hln := fun ty => hs2.len ty; rw [HL.out] at hln)
    go_ret
    exact ⟨rfl, hs2, (World.grownBy_alloc w _ _).trans (grown_of_below hb2 _)⟩

theorem accept_yes (b : Nat) (ks : List ByteArray) (r : Rule) (w : World) (hs : Short r) (hset : OwnSet w b ks) (hl : ks.length ≤ 1000000) (hyes : accB ks r = true) :
    Calls Tryz.prog 57 #[.map (some b), ragg r] w fun e w' => e = .returned (.bool true) ∧ OwnSet w' b (ks ++ [r.k]) ∧ w.grownBy w' (some b) := by
  have HA := fun w => isAllowed_any r w hs
  have hb := hset.lt
  have hkm : r.k.size ≤ maxLen := by unfold maxLen; have := hs.1; omega
  have hset1 : ∀ o, OwnSet (w.alloc o) b ks := fun o => hset.alloc o
  have hlk := Lib.hid (fun (W : World) (h : OwnSet W b ks) => h.lookup r.k hkm)
  unfold accB at hyes
  simp only [Bool.and_eq_true, decide_eq_true_eq] at hyes
  obtain ⟨⟨hA, hN⟩, h5⟩ := hyes
  rw [hA] at HA
  unfold ragg at HA ⊢
  have HA := Lib.hid HA
  have HN := Lib.hid hN
  obtain ⟨L, hL⟩ : ∃ L : Int, ((ks.length : Nat) : Int) = L := ⟨_, rfl⟩
  have HL := Lib.hid hL
  have h5b : (L == 500) = false := by simp; omega
  have HP : ∀ W : World, OwnSet W b ks → ∃ D : DataW Unit, W.ownsMap Tryz.prog 9 (plainElem Tryz.prog 4) b ks.length D ∧ Hid (∀ W', W'.ownsMap Tryz.prog 9 (plainElem Tryz.prog 4) b (ks.length + 1) (D.put (kl r.k) (.lit (.bool true))) → OwnSet W' b (ks ++ [r.k])) := fun W h => by
    obtain ⟨h1, h2, D, hD, h3, h4⟩ := h
    exact ⟨D, hD, Lib.hid fun W' hD' => OwnSet.put hD' (hD.tidy law_str) h1 h2 h3 h4 hN hkm⟩
  have HP := Lib.hid HP
  clear h5 hA hN hL
  go_enter Tryz.func57, Tryz.ntmps57
  go_wp2_with (first
    | (go_at_call 77; (with_reducible refine (HA.out _).mono ?_); rintro e w2 ⟨rfl, hb2⟩; have hs2 := (hset1 _).later hb2; have hc0 := hb2.cell (p := ⟨w.heap.size, 0, none⟩) (by simp); have hq := hlk.out _ hs2; rw [HN.out] at hq; simp only [Bool.not_false, Bool.not_true] at hq; have hln := fun ty => hs2.len ty; rw [HL.out] at hln; obtain ⟨D, hD, hput⟩ := HP.out _ hs2)
    | (at_mapUpdate; refine wpList_mapUpdate_own _ rfl _ _ _ 60 rfl 9 4 law_str Tryz.underlying60 _ b ks.length D rfl hD (by unfold maxLen; omega) _ _ (kl r.k) rfl rfl (Go.WideMaps.keyOf_string_mk Tryz.underlying9 hkm) _ [] (plainElem_bool Tryz.underlying4 true) ?_; intro w3 hown3 hg3))
  go_ret
  exact ⟨rfl, hput.out _ hown3, ((World.grownBy_alloc w _ _).trans (grown_of_below hb2 _)).trans hg3⟩

end Go.Proofs.YtamdlbefiggkfaaGreat.Rom

set_option linter.unusedVariables false
set_option linter.unusedSimpArgs false
set_option maxRecDepth 100000
namespace Go.Proofs.YtamdlbefiggkfaaGreat.Rom
open Go Go.RowKit Go.Proofs.YtamdlbefiggkfaaGreat.Kit Go.Proofs.YtamdlbefiggkfaaGreat.Utf

theorem OwnSet.setCell {w : World} {b : Nat} {ks : List ByteArray} (h : OwnSet w b ks) {a : Addr} (ha : b ≠ a.block) (u : Value) : OwnSet (w.setCell a u) b ks := by
  obtain ⟨h1, h2, D, hD, h3, h4⟩ := h
  exact ⟨h1, h2, D, hD.setCell ha u, h3, h4⟩

theorem check_any (v : Value) (rs : List Rule) (w : World) (hR : RowR w v rs) (hs : ∀ r ∈ rs, Short r) :
    Calls Tryz.prog 25 #[v] w fun e w' => e = .returned (.int .i64 (checkL rs)) ∧ Below w.heap.size w w' := by
  obtain ⟨a, len, cap, rfl, hlen, hcap, hmax, _⟩ := id hR
  subst hlen
  unfold checkL
  by_cases h500 : rs.length > 500
  · rw [if_pos h500]
    go_enter Tryz.func25, Tryz.ntmps25
    go_wp2
    go_ret
    exact ⟨rfl, Below.refl _ _⟩
  rw [if_neg h500]
  have hmm := @run_makeMap Tryz.prog
  have HR := Lib.hid hR
  have HS := Lib.hid hs
  clear hs hR
  obtain ⟨E, hE⟩ : ∃ E : Int, (if okL rs = true then 0 else 50) = E := ⟨_, rfl⟩
  rw [hE]
  have HP := Lib.hid (show okL rs = false → (50 : Int) = E from fun h => by rw [← hE, h]; rfl)
  have HP2 := Lib.hid (show okL rs = true → (0 : Int) = E from fun h => by rw [← hE, h]; rfl)
  clear hE
  go_enter Tryz.func25, Tryz.ntmps25
  go_wp2
  clear hmm
  go_loopw [12] (fun i wr => ∃ k : Nat, i = .int .i64 k ∧ k ≤ rs.length ∧ Hid (okL (rs.take k) = true) ∧ OwnSet wr w.heap.size ((rs.take k).map Rule.k) ∧ Below w.heap.size w wr) (fun i _ => rs.length - (intOf i).toNat)
  case atStart => exact ⟨0, rfl, Nat.zero_le _, Lib.hid rfl, OwnSet.made w, (Below.refl _ _).alloc (Nat.le_refl _) _⟩
  case round =>
    obtain ⟨k, rfl, hk, hok, hset, hbw⟩ := hrel
    by_cases hkl : k < rs.length
    · obtain ⟨b, off, rfl, hb, hx⟩ := (HR.out.later hbw (Nat.le_refl _)).at (by omega)
      obtain ⟨x0, x1, x2⟩ := hx k hkl
      have hsr := Lib.hid (HS.out _ (ri_mem hkl))
      have hsn := okL_snoc (rs.take k) (ri rs k)
      rw [← take_succ_ri rs k hkl, hok.out, Bool.true_and] at hsn
      have hacc : accB ((rs.take k).map Rule.k) (ri rs k) = okL (rs.take (k + 1)) := by
        rw [hsn]; unfold accB
        have : ((rs.take k).map Rule.k).length = k := by rw [List.length_map, List.length_take]; omega
        rw [this, decide_eq_true (by omega), Bool.and_true]
      have hlk : ((rs.take k).map Rule.k).length ≤ 1000000 := by rw [List.length_map, List.length_take]; omega
      have hnx : (rs.take (k + 1)).map Rule.k = (rs.take k).map Rule.k ++ [(ri rs k).k] := by rw [take_succ_ri rs k hkl, List.map_append]; rfl
      have HNX := Lib.hid hnx
      have hwb : w.heap.size < wr.heap.size := hset.lt
      clear hx hnx hsn
      generalize ri rs k = r at *
      generalize (rs.take k).map Rule.k = ks at *
      have k0 : (0 : Int) ≤ k := by omega
      have k1 : (k : Int) < rs.length := by omega
      have hs1 : ∀ o, OwnSet (wr.alloc o) w.heap.size ks := fun o => hset.alloc o
      have HS1 := Lib.hid hs1
      cases hq : okL (rs.take (k + 1))
      · rw [hq] at hacc
        have HACC := Lib.hid hacc
        have HB := Lib.hid (okL_bad hq)
        clear hq hacc hs1
        go_wp2_with (go_at_call 57; (refine (accept_no w.heap.size ks r _ hsr.out (HS1.out _) HACC.out).mono ?_); rintro e w2 ⟨rfl, hs2, hg2⟩)
        go_ret
        exact ⟨ret_int (HP.out HB.out), (hbw.alloc hbw.size _).grown hg2 (by simp; omega) (fun j hj => by cases hj; exact Nat.le_refl _)⟩
      · rw [hq] at hacc
        have HACC := Lib.hid hacc
        have HQ := Lib.hid hq
        clear hq hacc hs1
        go_wp2_with (go_at_call 57; (refine (accept_yes w.heap.size ks r _ hsr.out (HS1.out _) hlk HACC.out).mono ?_); rintro e w2 ⟨rfl, hs2, hg2⟩)
        go_roundw
        case rel => exact ⟨k + 1, by go_num, by omega, HQ, by rw [HNX.out]; exact hs2, (hbw.alloc hbw.size _).grown hg2 (by simp; omega) (fun j hj => by cases hj; exact Nat.le_refl _)⟩
        case measure => simp [intOf]; omega
    · have e1 := Lib.hid (show okL rs = true by have := hok.out; rwa [List.take_of_length_le (by omega)] at this)
      clear hok
      go_wp2
      go_ret
      exact ⟨ret_int (HP2.out e1.out), hbw⟩

end Go.Proofs.YtamdlbefiggkfaaGreat.Rom

set_option linter.unusedVariables false
set_option linter.unusedSimpArgs false
set_option maxRecDepth 100000
namespace Go.Proofs.YtamdlbefiggkfaaGreat.Rom
open Go Go.RowKit Go.Proofs.YtamdlbefiggkfaaGreat.Kit Go.Proofs.YtamdlbefiggkfaaGreat.Utf

def noRule : Rule := ⟨⟨#[]⟩, ⟨#[]⟩, ⟨#[]⟩⟩
/-- The first rule with these keys, and whether there is one. -/
def findL (rs : List Rule) (x : ByteArray) : Rule × Bool :=
  match rs with
  | [] => (noRule, false)
  | r :: rs => if r.k = x then (r, true) else findL rs x
theorem findL_append (a b : List Rule) (x : ByteArray) (h : (findL a x).2 = false) : findL (a ++ b) x = findL b x := by
  induction a with
  | nil => rfl
  | cons r a ih =>
    unfold findL at h
    show (if r.k = x then (r, true) else findL (a ++ b) x) = _
    split at h
    · cases h
    · rename_i hr; rw [if_neg hr]; exact ih h
theorem findL_none (rs : List Rule) (x : ByteArray) (h : (findL rs x).2 = false) : findL rs x = (noRule, false) := by
  have := findL_append rs [] x h
  rw [List.append_nil] at this
  rw [this]; rfl
theorem findL_hit {rs : List Rule} {x : ByteArray} {k : Nat} (hk : k < rs.length) (h : (findL (rs.take k) x).2 = false) (e : (ri rs k).k = x) : findL rs x = (ri rs k, true) := by
  have h2 : rs = rs.take k ++ (ri rs k :: rs.drop (k + 1)) := by
    conv => lhs; rw [← List.take_append_drop (k + 1) rs]
    rw [take_succ_ri rs k hk]; simp
  conv => lhs; rw [h2]
  rw [findL_append _ _ _ h]
  unfold findL
  rw [if_pos e]
theorem findL_miss {rs : List Rule} {x : ByteArray} {k : Nat} (hk : k < rs.length) (h : (findL (rs.take k) x).2 = false) (e : (ri rs k).k ≠ x) : (findL (rs.take (k + 1)) x).2 = false := by
  rw [take_succ_ri rs k hk, findL_append _ _ _ h]
  unfold findL
  rw [if_neg e]
  rfl
theorem findL_iff (rs : List Rule) (x : ByteArray) : (findL rs x).2 = !newK (rs.map Rule.k) x := by
  induction rs with
  | nil => rfl
  | cons r rs ih =>
    unfold findL
    by_cases h : r.k = x
    · rw [if_pos h]; simp [newK, h]
    · rw [if_neg h, ih]; simp [newK, h]

/-- Has some rule longer keys that begin so? -/
def longR (r : Rule) (x : ByteArray) : Bool := decide (x.size < r.k.size) && (bs x).isPrefixOf (bs r.k)
def longL (rs : List Rule) (x : ByteArray) : Bool := rs.any fun r => longR r x
theorem longL_succ {rs : List Rule} {x : ByteArray} {k : Nat} (hk : k < rs.length) : longL (rs.take (k + 1)) x = (longL (rs.take k) x || longR (ri rs k) x) := by
  unfold longL; rw [take_succ_ri rs k hk, List.any_append]; simp
theorem longL_hit {rs : List Rule} {x : ByteArray} {k : Nat} (h : longL (rs.take k) x = true) : longL rs x = true := by
  unfold longL at *
  rw [List.any_eq_true] at *
  obtain ⟨r, hr, h⟩ := h
  exact ⟨r, List.mem_of_mem_take hr, h⟩

set_option maxHeartbeats 1000000 in
theorem rfind_any (v : Value) (rs : List Rule) (x : ByteArray) (w : World) (hR : RowR w v rs) :
    Calls Tryz.prog 105 #[v, .string x] w fun e w' => e = .returned (.tuple #[ragg (findL rs x).1, .bool (findL rs x).2]) ∧ Below w.heap.size w w' := by
  obtain ⟨a, len, cap, rfl, hlen, hcap, hmax, _⟩ := id hR
  subst hlen
  have hmx : rs.length ≤ maxLen := by omega
  unfold maxLen at hmx
  have HR := Lib.hid hR
  clear hR hmax
  go_enter Tryz.func105, Tryz.ntmps105
  go_wp2
  have e0 := heap_alloc_new w (Obj.cells #[.string { data := #[] }, .string { data := #[] }, .string { data := #[] }] 90)
  obtain ⟨W, hW⟩ : ∃ W, w.alloc (Obj.cells #[.string { data := #[] }, .string { data := #[] }, .string { data := #[] }] 90) = W := ⟨_, rfl⟩
  have hb0 : Below w.heap.size w W := by rw [← hW]; exact (Below.refl _ _).alloc (Nat.le_refl _) _
  have hsz : W.heap.size = w.heap.size + 1 := by rw [← hW]; simp
  rw [hW] at e0 ⊢
  have z0 : W.cell? ⟨w.heap.size, 0, none⟩ = some (.string { data := #[] }) := by rw [cell_of_row W _ 0 _ _ _ e0]; rfl
  have z1 : W.cell? ⟨w.heap.size, 1, none⟩ = some (.string { data := #[] }) := by rw [cell_of_row W _ 1 _ _ _ e0]; rfl
  have z2 : W.cell? ⟨w.heap.size, 2, none⟩ = some (.string { data := #[] }) := by rw [cell_of_row W _ 2 _ _ _ e0]; rfl
  have y0 : ∀ j, W.frozen? ⟨w.heap.size, j, none⟩ = false := fun j => by unfold World.frozen?; rw [show W.heap[(⟨w.heap.size, j, none⟩ : Addr).block]? = _ from e0]; simp
  have HR2 := Lib.hid (HR.out.later hb0 (Nat.le_refl _))
  clear hW e0
  go_loopw [6] (fun i wr => ∃ k : Nat, i = .int .i64 k ∧ k ≤ rs.length ∧ Hid ((findL (rs.take k) x).2 = false) ∧ wr = W) (fun i _ => rs.length - (intOf i).toNat)
  case atStart => exact ⟨0, rfl, Nat.zero_le _, Lib.hid rfl, rfl⟩
  case round =>
    obtain ⟨k, rfl, hk, hno, rfl⟩ := hrel
    by_cases hkl : k < rs.length
    · obtain ⟨b, off, rfl, hb, hx⟩ := HR2.out.at (by omega)
      obtain ⟨x0, x1, x2⟩ := hx k hkl
      have k0 : (0 : Int) ≤ k := by omega
      have k1 : (k : Int) < rs.length := by omega
      by_cases hq : (ri rs k).k = x
      · have HF := Lib.hid (findL_hit hkl hno.out hq)
        have hq2 : ((ri rs k).k.toList == x.toList) = true := by rw [str_beq, decide_eq_true hq]
        generalize ri rs k = r at *
        clear hq hx
        go_wp2
        (try simp only [Exit.inBlock, Exit.then])
        rw [HF.out]
        refine bodyPost_ret (v := .tuple #[ragg r, .bool true]) ?_ rfl ⟨rfl, Below.setCell (Below.setCell (Below.setCell hb0 (by simp) _) (by simp) _) (by simp) _⟩
        rw [results_cell_tmp rfl]
        obtain ⟨q0, q1, q2⟩ := three_set (w := wr) (g := w.heap.size) (x := .string r.k) (y := .string r.o) (z := .string r.n) (by rw [z0]; rfl) (by rw [z1]; rfl) (by rw [z2]; rfl)
        show ((loadVar 90 ⟨w.heap.size, 0, none⟩).run Tryz.prog _).andThen _ = _
        rw [load_rrule q0 q1 q2]
        rfl
      · have HF := Lib.hid (findL_miss hkl hno.out hq)
        have hq2 : ((ri rs k).k.toList == x.toList) = false := by rw [str_beq, decide_eq_false hq]
        generalize ri rs k = r at *
        clear hq hx
        go_wp2
        go_roundw
        case rel => exact ⟨k + 1, by go_num, by omega, HF, trivial⟩
        case measure => simp [intOf]; omega
    · have HF := Lib.hid (findL_none rs x (by have := hno.out; rwa [List.take_of_length_le (by omega)] at this))
      go_wp2
      (try simp only [Exit.inBlock, Exit.then])
      rw [HF.out]
      refine bodyPost_ret (v := .tuple #[ragg noRule, .bool false]) ?_ rfl ⟨rfl, Below.setCell (Below.setCell (Below.setCell hb0 (by simp) _) (by simp) _) (by simp) _⟩
      rw [results_cell_tmp rfl]
      obtain ⟨q0, q1, q2⟩ := three_set (w := wr) (g := w.heap.size) (x := .string { data := #[] }) (y := .string { data := #[] }) (z := .string { data := #[] }) (by rw [z0]; rfl) (by rw [z1]; rfl) (by rw [z2]; rfl)
      show ((loadVar 90 ⟨w.heap.size, 0, none⟩).run Tryz.prog _).andThen _ = _
      rw [load_rrule (r := noRule) q0 q1 q2]
      rfl

end Go.Proofs.YtamdlbefiggkfaaGreat.Rom

set_option linter.unusedVariables false
set_option linter.unusedSimpArgs false
namespace Go.Proofs.YtamdlbefiggkfaaGreat.Rom
open Go Go.RowKit Go.Proofs.YtamdlbefiggkfaaGreat.Kit Go.Proofs.YtamdlbefiggkfaaGreat.Utf

/-- The pieces of a list between the bytes c. -/
def pc (c : UInt8) : List UInt8 → List (List UInt8)
  | [] => [[]]
  | b :: l => if b = c then [] :: pc c l else match pc c l with
    | [] => [[b]]
    | p :: ps => (b :: p) :: ps
theorem pc_cons (c b : UInt8) (l : List UInt8) : pc c (b :: l) = if b = c then [] :: pc c l else match pc c l with
    | [] => [[b]]
    | p :: ps => (b :: p) :: ps := rfl
theorem pc_ne (c : UInt8) (l : List UInt8) : pc c l ≠ [] := by
  cases l with
  | nil => simp [pc]
  | cons b l => rw [pc_cons]; split; simp; split <;> simp
theorem pc_none {c : UInt8} {l : List UInt8} (h : c ∉ l) : pc c l = [l] := by
  induction l with
  | nil => rfl
  | cons b l ih =>
    rw [pc_cons, if_neg (fun e => h (by rw [e]; exact List.mem_cons_self)), ih (fun hm => h (List.mem_cons_of_mem _ hm))]
theorem pc_cut {c : UInt8} {p r : List UInt8} (h : c ∉ p) : pc c (p ++ c :: r) = p :: pc c r := by
  induction p with
  | nil => show pc c (c :: r) = _; rw [pc_cons, if_pos rfl]
  | cons b p ih =>
    show pc c (b :: (p ++ c :: r)) = _
    rw [pc_cons, if_neg (fun e => h (by rw [e]; exact List.mem_cons_self)), ih (fun hm => h (List.mem_cons_of_mem _ hm))]
/-- A list has the byte, or not: and where first. -/
theorem cut_cases (c : UInt8) (l : List UInt8) : c ∉ l ∨ ∃ p r, l = p ++ c :: r ∧ c ∉ p := by
  induction l with
  | nil => left; simp
  | cons b l ih =>
    by_cases h : b = c
    · right; exact ⟨[], l, by rw [h]; rfl, by simp⟩
    · rcases ih with h2 | ⟨p, r, rfl, h2⟩
      · left; intro hm; rcases List.mem_cons.1 hm with e | e
        · exact h e.symm
        · exact h2 e
      · right; exact ⟨b :: p, r, rfl, fun hm => by rcases List.mem_cons.1 hm with e | e
                                                   · exact h e.symm
                                                   · exact h2 e⟩
theorem pc_free {c : UInt8} {l : List UInt8} : ∀ p ∈ pc c l, c ∉ p := by
  obtain ⟨n, hn⟩ : ∃ n, l.length = n := ⟨_, rfl⟩
  induction n using Nat.strongRecOn generalizing l with
  | ind n ih =>
    intro p hp
    rcases cut_cases c l with h | ⟨q, r, rfl, h⟩
    · rw [pc_none h, List.mem_singleton] at hp; rw [hp]; exact h
    · rw [pc_cut h] at hp
      rcases List.mem_cons.1 hp with rfl | hp
      · exact h
      · exact ih r.length (by rw [← hn]; simp; omega) rfl p hp
/-- Pieces with the byte between them. -/
def jn (c : UInt8) : List (List UInt8) → List UInt8
  | [] => []
  | [p] => p
  | p :: ps => p ++ c :: jn c ps
theorem jn_cons (c : UInt8) (p : List UInt8) {ps : List (List UInt8)} (h : ps ≠ []) : jn c (p :: ps) = p ++ c :: jn c ps := by
  cases ps with
  | nil => exact absurd rfl h
  | cons _ _ => rfl
theorem pc_jn {c : UInt8} {ps : List (List UInt8)} (h : ps ≠ []) (hf : ∀ p ∈ ps, c ∉ p) : pc c (jn c ps) = ps := by
  induction ps with
  | nil => exact absurd rfl h
  | cons p ps ih =>
    cases ps with
    | nil => exact pc_none (hf p (by simp))
    | cons q qs =>
      rw [jn_cons c p (by simp), pc_cut (hf p (by simp)), ih (by simp) (fun x hx => hf x (List.mem_cons_of_mem _ hx))]
theorem jn_pc (c : UInt8) (l : List UInt8) : jn c (pc c l) = l := by
  obtain ⟨n, hn⟩ : ∃ n, l.length = n := ⟨_, rfl⟩
  induction n using Nat.strongRecOn generalizing l with
  | ind n ih =>
    rcases cut_cases c l with h | ⟨q, r, rfl, h⟩
    · rw [pc_none h]; rfl
    · rw [pc_cut h, jn_cons c q (pc_ne c r), ih r.length (by rw [← hn]; simp; omega) r rfl]

/-! ### the library's splitting and cutting at one byte -/
theorem index_no {c : UInt8} {l : List UInt8} (h : c ∉ l) : Lib.index l [c] = -1 := by
  rw [Lib.index_one]
  induction l with
  | nil => rfl
  | cons b l ih =>
    unfold Lib.indexByte
    have hb : (b == c) = false := by simp; intro e; exact h (by rw [e]; exact List.mem_cons_self)
    rw [hb, ih (fun hm => h (List.mem_cons_of_mem _ hm))]
    rfl
theorem index_at {c : UInt8} {p r : List UInt8} (h : c ∉ p) : Lib.index (p ++ c :: r) [c] = p.length := by
  rw [Lib.index_one]
  induction p with
  | nil => show Lib.indexByte (c :: r) c = _; unfold Lib.indexByte; simp
  | cons b p ih =>
    show Lib.indexByte (b :: (p ++ c :: r)) c = _
    unfold Lib.indexByte
    have hb : (b == c) = false := by simp; intro e; exact h (by rw [e]; exact List.mem_cons_self)
    rw [hb, ih (fun hm => h (List.mem_cons_of_mem _ hm))]
    have : (((p.length : Int)) == -1) = false := by simp <;> omega
    rw [this]
    simp

theorem splitK_pc (c : UInt8) : ∀ (k : Nat) (l : List UInt8), l.count c = k → Lib.splitK [c] 0 k l = pc c l := by
  intro k
  induction k with
  | zero =>
    intro l h
    rw [pc_none (List.count_eq_zero.1 h)]; rfl
  | succ k ih =>
    intro l h
    rcases cut_cases c l with h2 | ⟨p, r, rfl, h2⟩
    · rw [List.count_eq_zero.2 h2] at h; omega
    · unfold Lib.splitK
      rw [index_at h2, if_neg (by simp <;> omega), pc_cut h2]
      have e1 : ((p.length : Int)).toNat = p.length := by omega
      rw [e1]
      congr 1
      · simp
      · rw [show (p ++ c :: r).drop (p.length + [c].length) = r by simp]
        apply ih
        rw [List.count_append, List.count_eq_zero.2 h2, List.count_cons_self] at h
        omega

def ba (l : List UInt8) : ByteArray := ⟨l.toArray⟩
theorem bs_ba (l : List UInt8) : bs (ba l) = l := by simp [ba, bs]
theorem ba_bs (s : ByteArray) : ba (bs s) = s := ba_ext (by simp [ba])
theorem ba_size (l : List UInt8) : (ba l).size = l.length := by rw [← bs_len, bs_ba]
theorem splitB_pc (c : UInt8) (s : ByteArray) : Lib.splitB ⟨#[c]⟩ 0 (Lib.countB s ⟨#[c]⟩) s = (pc c (bs s)).map ba := by
  have h := Lib.splitB_data ⟨#[c]⟩ 0 (Lib.countB s ⟨#[c]⟩) s
  have e : Lib.countB s ⟨#[c]⟩ = (bs s).count c := Lib.count_one c (bs s)
  rw [e] at h ⊢
  rw [show (({ data := #[c] } : ByteArray)).data.toList = [c] from rfl, splitK_pc c _ _ rfl] at h
  rw [← h, List.map_map]
  conv => lhs; rw [← List.map_id (Lib.splitB _ _ _ _)]
  apply List.map_congr_left
  intro a _
  exact (ba_bs a).symm
theorem cut_no {c : UInt8} {l : List UInt8} (h : c ∉ l) : Lib.cut l [c] = (l, [], false) := by
  unfold Lib.cut; rw [index_no h, if_neg (by omega)]
theorem cut_at {c : UInt8} {p r : List UInt8} (h : c ∉ p) : Lib.cut (p ++ c :: r) [c] = (p, r, true) := by
  unfold Lib.cut
  rw [index_at h, if_pos (by omega)]
  have e1 : ((p.length : Int)).toNat = p.length := by omega
  rw [e1]
  simp

/-! ### what a line says -/
def ruleOf (line : List UInt8) : Option Rule :=
  match pc 9 line with
  | [a, b] => some ⟨ba a, ba b, ba []⟩
  | [a, b, n] => if n = [] then none else some ⟨ba a, ba b, ba n⟩
  | _ => none
def skips (line : List UInt8) : Bool := match line with | [] => true | b :: _ => decide (b = 35)
def stepP (acc : List Rule) (line : List UInt8) : Option (List Rule) :=
  if skips line then some acc else match ruleOf line with
    | some r => if okR r && newK (acc.map Rule.k) r.k && decide (acc.length < 500) then some (acc ++ [r]) else none
    | none => none
/-- The rules, the line, the error. -/
def foldP : List Rule → Nat → List (List UInt8) → List Rule × Nat × Int
  | acc, _, [] => (acc, 0, 0)
  | acc, i, l :: ls => match stepP acc l with
    | some acc' => foldP acc' (i + 1) ls
    | none => ([], i + 1, 50)
def parseL (s : ByteArray) : List Rule × Nat × Int := if s.size > 1048576 then ([], 0, 2) else foldP [] 0 (pc 10 (bs s))

/-- What the program takes a line for. -/
def lineR (line : List UInt8) : Rule × Bool :=
  let a := Lib.cut line [9]
  let b := Lib.cut a.2.1 [9]
  (⟨ba a.1, ba b.1, ba b.2.1⟩, a.2.2 && (b.2.2 == decide (b.2.1 ≠ [])))
theorem tab_no_key : isKeyZ ((9 : UInt8).toNat : Int) = false := by decide
theorem keys_no_tab {l : List UInt8} (h : (9 : UInt8) ∈ l) : keysOK l = false := by
  cases e : keysOK l
  · rfl
  · unfold keysOK at e
    have := List.all_eq_true.1 e 9 h
    rw [tab_no_key] at this; cases this
theorem lineR_is (acc : List Rule) (line : List UInt8) (h : skips line = false) (hl : acc.length ≤ 500) :
    stepP acc line = if (lineR line).2 && accB (acc.map Rule.k) (lineR line).1 then some (acc ++ [(lineR line).1]) else none := by
  unfold stepP
  rw [h, if_neg (by simp)]
  have hacc : ∀ r, (okR r && newK (acc.map Rule.k) r.k && decide (acc.length < 500)) = accB (acc.map Rule.k) r := fun r => by
    unfold accB
    rw [List.length_map]
    congr 1
    apply decide_eq_decide.2; omega
  unfold ruleOf lineR
  rcases cut_cases 9 line with h1 | ⟨p, rest, rfl, h1⟩
  · rw [pc_none h1, cut_no h1]; simp
  · rw [pc_cut h1, cut_at h1]
    simp only
    rcases cut_cases 9 rest with h2 | ⟨q, n, rfl, h2⟩
    · rw [pc_none h2, cut_no h2]
      simp only [hacc]
      simp
    · rw [pc_cut h2, cut_at h2]
      simp only
      rcases cut_cases 9 n with h3 | ⟨n1, n2, rfl, h3⟩
      · rw [pc_none h3]
        simp only
        by_cases hn : n = []
        · simp [hn]
        · simp only [if_neg hn, hacc]
          simp [hn]
      · rw [pc_cut h3]
        have e : okR ⟨ba p, ba q, ba (n1 ++ 9 :: n2)⟩ = false := by
          unfold okR
          simp only [bs_ba]
          rw [keys_no_tab (l := n1 ++ 9 :: n2) (by simp)]
          simp
        have e2 : accB (acc.map Rule.k) ⟨ba p, ba q, ba (n1 ++ 9 :: n2)⟩ = false := by unfold accB; rw [e]; rfl
        rw [e2]
        have : ∃ x y, pc 9 n2 = x :: y := by
          cases hx : pc 9 n2 with
          | nil => exact absurd hx (pc_ne _ _)
          | cons x y => exact ⟨x, y, rfl⟩
        obtain ⟨x, y, hxy⟩ := this
        rw [hxy]
        simp

end Go.Proofs.YtamdlbefiggkfaaGreat.Rom
