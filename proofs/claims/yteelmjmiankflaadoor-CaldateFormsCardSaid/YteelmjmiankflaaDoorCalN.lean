/-
  Decimal digits of a number, and the forms of a day as characters; of no program.
-/
import Derived.Test.YteelmjmiankflaaDoorCalF
import Derived.Lib.ItoaNum
import Derived.Lib.Repeat
set_option linter.unusedVariables false
set_option linter.unusedSimpArgs false
namespace Go.Proofs.YteelmjmiankflaaDoor.Cal
open Go Go.RowKit Go.Proofs.YteelmjmiankflaaDoor.Kit Go.Proofs.YteelmjmiankflaaDoor.Utf
open Go.Proofs.YteelmjmiankflaaDoor.Num

/-- The decimal digits of a number, the greatest place first. -/
def digs (u : Nat) : List Nat := if h : u < 10 then [u] else digs (u / 10) ++ [u % 10]
termination_by u
decreasing_by omega
theorem digs_small {u : Nat} (h : u < 10) : digs u = [u] := by rw [digs, dif_pos h]
theorem digs_step {u : Nat} (h : ¬ u < 10) : digs u = digs (u / 10) ++ [u % 10] := by rw [digs, dif_neg h]

theorem digs_le (u : Nat) : ∀ d ∈ digs u, d ≤ 9 := by
  induction u using Nat.strongRecOn with
  | _ u ih =>
    by_cases h : u < 10
    · rw [digs_small h]; intro d hd; rw [List.mem_singleton.1 hd]; omega
    · rw [digs_step h]
      intro d hd
      rcases List.mem_append.1 hd with hd | hd
      · exact ih (u / 10) (by omega) d hd
      · rw [List.mem_singleton.1 hd]; omega
theorem digs_ne (u : Nat) : digs u ≠ [] := by
  by_cases h : u < 10
  · rw [digs_small h]; simp
  · rw [digs_step h]; simp
theorem digs_len : ∀ (k u : Nat), 1 ≤ k → u < 10 ^ k → (digs u).length ≤ k
  | 0, _, h, _ => by omega
  | k + 1, u, _, hu => by
    by_cases h : u < 10
    · rw [digs_small h]; simp
    · rw [digs_step h, List.length_append, List.length_singleton]
      have hk : 1 ≤ k := by
        rcases Nat.eq_zero_or_pos k with e | e
        · subst e; omega
        · exact e
      have := digs_len k (u / 10) hk (by rw [Nat.div_lt_iff_lt_mul (by decide)]; rw [Nat.pow_succ] at hu; exact hu)
      omega
theorem digs_len4 {u : Nat} (h : u ≤ 9999) : (digs u).length ≤ 4 := digs_len 4 u (by decide) (by omega)
theorem digs_len_pos (u : Nat) : 1 ≤ (digs u).length := by have := digs_ne u; cases hh : digs u with | nil => exact absurd hh this | cons a l => simp
theorem digs_head (u : Nat) : (digs u).head? = some 0 → u = 0 := by
  induction u using Nat.strongRecOn with
  | _ u ih =>
    by_cases h : u < 10
    · rw [digs_small h]; intro e; simpa using e
    · rw [digs_step h, show (digs (u / 10) ++ [u % 10]).head? = (digs (u / 10)).head? by cases hh : digs (u / 10) with | nil => exact absurd hh (digs_ne _) | cons a l => rfl]
      intro e
      have := ih (u / 10) (by omega) e
      omega
theorem digs_DS {u : Nat} (h : u ≤ 9999) : DS (digs u) := by
  refine ⟨digs_len_pos u, by have := digs_len4 h; omega, digs_le u, fun e => ?_⟩
  rw [digs_head u e]; exact digs_small (by decide)
theorem digs_bytes (u : Nat) : (digs u).map (fun d => UInt8.ofNat (48 + d)) = Lib.decDigits u := by
  induction u using Nat.strongRecOn with
  | _ u ih =>
    by_cases h : u < 10
    · rw [digs_small h, Lib.decDigits, dif_pos h]; rfl
    · rw [digs_step h, Lib.decDigits, dif_neg h, List.map_append, ih (u / 10) (by omega)]; rfl
theorem dg_digs (u : Nat) : dg (digs u) = ⟨(Lib.decDigits u).toArray⟩ := by unfold dg; rw [digs_bytes]

/-- The number that digits are. -/
def valD (ds : List Nat) : Nat := ds.foldl (fun a d => 10 * a + d) 0
theorem valD_snoc (ds : List Nat) (d : Nat) : valD (ds ++ [d]) = 10 * valD ds + d := by unfold valD; rw [List.foldl_append]; rfl
theorem valD_digs (u : Nat) : valD (digs u) = u := by
  induction u using Nat.strongRecOn with
  | _ u ih =>
    by_cases h : u < 10
    · rw [digs_small h]; show 10 * 0 + u = u; omega
    · rw [digs_step h, valD_snoc, ih (u / 10) (by omega)]; omega
theorem digs_inj {a b : Nat} (h : digs a = digs b) : a = b := by rw [← valD_digs a, ← valD_digs b, h]

/-- At least k digits. -/
def pad (k u : Nat) : List Nat := List.replicate (k - (digs u).length) 0 ++ digs u
theorem pad_le (k u : Nat) : ∀ d ∈ pad k u, d ≤ 9 := by
  intro d hd
  rcases List.mem_append.1 hd with hd | hd
  · rw [(List.mem_replicate.1 hd).2]; omega
  · exact digs_le u d hd
theorem pad_one (u : Nat) : pad 1 u = digs u := by
  unfold pad
  rw [show 1 - (digs u).length = 0 by have := digs_len_pos u; omega]; rfl
theorem pad_len {k u : Nat} (h : u ≤ 9999) (hk : k ≤ 4) : (pad k u).length ≤ 4 := by
  unfold pad
  have := digs_len4 h
  rw [List.length_append, List.length_replicate]; omega
theorem valD_zeros (n : Nat) (ds : List Nat) : valD (List.replicate n 0 ++ ds) = valD ds := by
  unfold valD
  rw [List.foldl_append]
  congr 1
  induction n with
  | zero => rfl
  | succ n ih => rw [List.replicate_succ]; exact ih
theorem valD_pad (k u : Nat) : valD (pad k u) = u := by unfold pad; rw [valD_zeros, valD_digs]

theorem asc_len (ds : List Nat) (h : ∀ d ∈ ds, d ≤ 9) : (encs (ascC ds)).length = ds.length := by
  rw [← tx_size, ← dg_tx ds h, dg_size]
theorem repeat_zero (c : Nat) : (⟨(Lib.repeatL [48] c).toArray⟩ : ByteArray) = dg (List.replicate c 0) := by
  unfold dg
  congr 2
  induction c with
  | zero => rfl
  | succ c ih => rw [List.replicate_succ]; show 48 :: Lib.repeatL [48] c = _; rw [ih]; rfl

/-- A field as decimal writes it; as kanji writes it; the first year of an era. -/
def decC (n k : Nat) (u : List Int) : List Int := ascC (pad k n) ++ u
def kanC (n k : Nat) (u : List Int) : List Int := kanjiC (digs n) ++ u
def eraC (f : Nat → Nat → List Int → List Int) (n k : Nat) (u : List Int) : List Int := if n = 1 ∧ u = [24180] then [20803, 24180] else f n k u

end Go.Proofs.YteelmjmiankflaaDoor.Cal
