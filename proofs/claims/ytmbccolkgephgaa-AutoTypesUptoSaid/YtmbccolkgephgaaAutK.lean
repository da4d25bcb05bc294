/-
  States as keys of a map; arrivals.
-/
import Derived.Test.YtmbccolkgephgaaAutT
import Derived.DeepKeys4
set_option linter.unusedVariables false
set_option linter.unusedSimpArgs false
set_option maxRecDepth 100000
namespace Go.Proofs.Ytmbccolkgephgaa.Aut
open Go Go.RowKit Go.Proofs.Ytmbccolkgephgaa.Kit Go.Proofs.Ytmbccolkgephgaa.Utf Go.Proofs.Ytmbccolkgephgaa.Rom Go.Maps Go.ChangeMaps Go.WideMaps

/-- A state: how much is written, and what is pending. -/
def eSt (x : Nat × ByteArray) : Value := .agg #[.int .i64 x.1, .string x.2]
theorem eSt_inj : ∀ x y, eSt x = eSt y → x = y := by
  rintro ⟨a, b⟩ ⟨c, d⟩ h
  unfold eSt at h
  injection h with h
  have h1 := congrArg Array.toList h
  simp only [List.cons.injEq, Value.int.injEq, Value.string.injEq, and_true, true_and] at h1
  obtain ⟨h1, h2⟩ := h1
  subst h2
  have : a = c := by omega
  subst this; rfl
theorem law_st : Keyed Try.prog 71 := Keyed.of_law (deep_law_laid (m := 2) (by kernel_rfl) (by omega) (by rw [show Try.prog.types.size = _ from rfl]; decide) (by kernel_rfl) (by kernel_rfl))
theorem key_st {n : Nat} {s : ByteArray} (hn : n ≤ 1000000000) (hs : s.size ≤ maxLen) : ∃ l, keyOf Try.prog 71 (eSt (n, s)) = some l := by
  have hsz : ∃ m, Try.prog.types.size = m + 1 := by
    have h0 : (Try.prog.types.size == 0) = false := by kernel_rfl
    have h1 : Try.prog.types.size ≠ 0 := by intro e; rw [e] at h0; cases h0
    exact ⟨Try.prog.types.size - 1, by omega⟩
  obtain ⟨m, hm⟩ := hsz
  have c1 : Try.prog.cellsOf 71 = 2 := by kernel_rfl
  have c2 : Try.prog.cellsOf 3 = 1 := by kernel_rfl
  have c3 : Try.prog.cellsOf 9 = 1 := by kernel_rfl
  have hkt : Try.prog.keyType 71 = true := by kernel_rfl
  have hwf : (Lit.int .i64 (n : Int)).wf = true := WalkArith.wf_i64 (by omega)
  unfold keyOf
  rw [Try.underlying71]
  dsimp only
  rw [if_pos (by simp [hkt, eSt, Value.formed, Try.underlying71, c1]), hm]
  unfold Program.keyLits
  simp only [Try.underlying71, Value.cells, eSt]
  rw [if_pos (by rw [c1]; exact ⟨rfl, by simp⟩)]
  simp [c2, c3, Program.keyLits, Try.underlying3, Try.underlying9, hwf, hs]

/-- An arrival: the state before, and the key. -/
def eAr (n : Nat) (p : ByteArray) (c : Int) : Value := .agg #[.int .i64 n, .string p, .int .u8 c]
theorem zeroAr (w : World) : (zeroValue 73).run Try.prog w = .ok (eAr 0 ⟨#[]⟩ 0) w := by kernel_rfl
/-- How a state was reached. -/
def arr (Q : List Nd) (x : Nat × ByteArray) : Option Value :=
  (Q.find? fun y => decide (y.n = x.1 ∧ y.p = bs x.2)).map fun y => eAr y.bn (ba y.bp) y.c.toNat

theorem arr_none {Q : List Nd} {n : Nat} {q : By} (h : ∀ y ∈ Q, ¬ (y.n = n ∧ y.p = q)) : arr Q (n, ba q) = none := by
  unfold arr
  rw [Option.map_eq_none_iff, List.find?_eq_none]
  intro y hy
  simp only [bs_ba]
  simpa using h y hy
theorem arr_some {Q : List Nd} {n : Nat} {q : By} (h : ∃ y ∈ Q, y.n = n ∧ y.p = q) : (arr Q (n, ba q)).isSome = true := by
  obtain ⟨y, hy, h1, h2⟩ := h
  unfold arr
  rw [Option.isSome_map, List.find?_isSome]
  exact ⟨y, hy, by simp only [bs_ba]; simpa using ⟨h1, h2⟩⟩
/-- .. of a state of the list. -/
theorem arr_at {rs : List Rule} {s : By} {Q : List Nd} {i : Nat} {cs : By} (h : Inv rs s Q i cs) {x : Nd} (hx : x ∈ Q) : arr Q (x.n, ba x.p) = some (eAr x.bn (ba x.bp) x.c.toNat) := by
  have h1 : (Q.find? fun y => decide (y.n = x.n ∧ y.p = bs (ba x.p))).isSome = true := by
    rw [List.find?_isSome]; exact ⟨x, hx, by simp [bs_ba]⟩
  obtain ⟨y, hy⟩ := Option.isSome_iff_exists.1 h1
  have h2 := List.find?_some hy
  have h3 := List.mem_of_find?_eq_some hy
  simp only [decide_eq_true_eq, bs_ba] at h2
  obtain ⟨j, hj⟩ := mem_at hx
  obtain ⟨k, hk⟩ := mem_at h3
  have e := h.same hk hj h2.1 h2.2
  subst e
  rw [hj] at hk; cases hk
  unfold arr
  rw [hy]
  rfl
theorem arr_new {Q : List Nd} {z : Nd} (hnew : ∀ y ∈ Q, ¬ (y.n = z.n ∧ y.p = z.p)) : upd (arr Q) (z.n, ba z.p) (eAr z.bn (ba z.bp) z.c.toNat) = arr (Q ++ [z]) := by
  funext x
  unfold upd arr
  rw [List.find?_append]
  by_cases e : x = (z.n, ba z.p)
  · subst e
    rw [if_pos rfl]
    have : (Q.find? fun y => decide (y.n = (z.n, ba z.p).1 ∧ y.p = bs (z.n, ba z.p).2)) = none := by
      rw [List.find?_eq_none]
      intro y hy
      simp only [bs_ba]
      simpa using hnew y hy
    rw [this]
    simp [bs_ba]
  · rw [if_neg e]
    have : ([z].find? fun y => decide (y.n = x.1 ∧ y.p = bs x.2)) = none := by
      rw [List.find?_eq_none]
      intro y hy
      rw [List.mem_singleton] at hy; subst hy
      simp only [decide_eq_true_eq]
      rintro ⟨h1, h2⟩
      exact e (Prod.ext h1.symm (by show x.2 = ba y.p; rw [h2, ba_bs]))
    rw [this, Option.or_none]

end Go.Proofs.Ytmbccolkgephgaa.Aut
