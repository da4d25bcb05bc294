/-
  Contract of numeral.readUnits.
-/
import Derived.Test.YteelmjmiankflaaDoorNumH
import Derived.Lib.TrimByte
set_option linter.unusedVariables false
set_option linter.unusedSimpArgs false
namespace Go.Proofs.YteelmjmiankflaaDoor.Num
open Go Go.RowKit Go.Proofs.YteelmjmiankflaaDoor.Kit Go.Proofs.YteelmjmiankflaaDoor.Utf

theorem run_snoc {s0 s s' : St} {pre : List Int} {c : Int} (h : run s0 pre = some s) (hs : step s c = some s') : run s0 (pre ++ [c]) = some s' := by
  rw [run_append, h]; simp only []; rw [run_one]; exact hs
theorem run_none {s0 s : St} {pre : List Int} {c : Int} (t : List Int) (h : run s0 pre = some s) (hs : step s c = none) : run s0 (pre ++ c :: t) = none := by
  rw [run_append, h]; simp only []; rw [run_cons, hs]

/-- All digits are digits. -/
def Bnd (s : St) : Prop := (∀ i, s.1 i ≤ 9) ∧ (∀ i, s.2.1 i ≤ 9) ∧ s.2.2 ≤ 9
theorem bnd_end {s : St} (h : Bnd s) (p : Nat) : Bnd (endG s p) := by
  refine ⟨fun i => ?_, fun _ => Nat.zero_le _, Nat.zero_le _⟩
  simp only [endG]
  split
  · split
    · exact h.2.2
    · exact h.2.1 _
  · exact h.1 _
theorem bnd_step {s s' : St} {c : Int} (h : Bnd s) (hs : step s c = some s') : Bnd s' := by
  unfold step at hs
  cases hd : dgt c with
  | some d =>
    rw [hd] at hs
    obtain rfl := Option.some.inj hs
    exact ⟨h.1, h.2.1, dgt_le hd⟩
  | none =>
    rw [hd] at hs
    simp only at hs
    cases hu : unt c with
    | some u =>
      rw [hu] at hs
      obtain rfl := Option.some.inj hs
      refine ⟨h.1, fun i => ?_, Nat.zero_le _⟩
      simp only
      split
      · have := h.2.2; omega
      · exact h.2.1 i
    | none =>
      rw [hu] at hs
      simp only at hs
      cases hg : grp c with
      | some p => rw [hg] at hs; obtain rfl := Option.some.inj hs; exact bnd_end h p
      | none => rw [hg] at hs; cases hs

theorem grpA_set (f : Nat → Nat) (u v : Nat) (hu : u < 4) : (grpA f).setIfInBounds u (.int .i64 v) = grpA (fun i => if i = u then v else f i) := by
  have : u = 0 ∨ u = 1 ∨ u = 2 ∨ u = 3 := by omega
  rcases this with rfl | rfl | rfl | rfl <;> rfl
theorem grpA_get (f : Nat → Nat) (u : Nat) (hu : u < 4) : (grpA f)[u]? = some (.int .i64 (f u)) := by
  have : u = 0 ∨ u = 1 ∨ u = 2 ∨ u = 3 := by omega
  rcases this with rfl | rfl | rfl | rfl <;> rfl
theorem numA_get (f : Nat → Nat) (k : Nat) (hk : k < 20) : (numA f)[k]? = some (.int .i64 (f k)) := by
  have : ∀ k, k < 20 → (numA f)[k]? = some (.int .i64 (f k)) := by
    intro k hk
    match k, hk with
    | 0, _ => rfl
    | 1, _ => rfl
    | 2, _ => rfl
    | 3, _ => rfl
    | 4, _ => rfl
    | 5, _ => rfl
    | 6, _ => rfl
    | 7, _ => rfl
    | 8, _ => rfl
    | 9, _ => rfl
    | 10, _ => rfl
    | 11, _ => rfl
    | 12, _ => rfl
    | 13, _ => rfl
    | 14, _ => rfl
    | 15, _ => rfl
    | 16, _ => rfl
    | 17, _ => rfl
    | 18, _ => rfl
    | 19, _ => rfl
    | k + 20, hk => omega
  exact this k hk

theorem dg_cons (d : Nat) (l : List Nat) (h : d ≤ 9) : tx [48 + (d : Int)] ++ dg l = dg (d :: l) := by
  apply ba_ext
  show (tx [48 + (d : Int)] ++ dg l).data.toList = bs (dg (d :: l))
  rw [bs_dg, ByteArray.data_append, Array.toList_append]
  show bs (tx [48 + (d : Int)]) ++ bs (dg l) = _
  rw [bs_tx, bs_dg, encs_cons, dg_enc d h]; rfl
theorem trim_dg (l : List Nat) (h : ∀ d ∈ l, d ≤ 9) : (⟨(Lib.trimLeftB (dg l).data.toList 48).toArray⟩ : ByteArray) = dg (strip l) := by
  apply ba_ext
  show Lib.trimLeftB (bs (dg l)) 48 = bs (dg (strip l))
  rw [bs_dg, bs_dg]
  unfold Lib.trimLeftB strip
  induction l with
  | nil => rfl
  | cons d l ih =>
    have hd := h d (by simp)
    rw [List.map_cons, List.dropWhile_cons, List.dropWhile_cons]
    by_cases e : d = 0
    · subst e
      rw [if_pos (by rfl), if_pos (by rfl)]
      exact ih (fun x hx => h x (by simp [hx]))
    · have e1 : (UInt8.ofNat (48 + d) == 48) = false := by
        rw [beq_eq_false_iff_ne]
        intro e2
        have := congrArg UInt8.toNat e2
        rw [toNat_ofNat _ (by omega)] at this
        have h48 : (48 : UInt8).toNat = 48 := rfl
        omega
      rw [if_neg (by rw [e1]; simp), if_neg (by simpa using e)]; rfl
theorem big_rev (f : Nat → Nat) : ((List.range 20).map f).reverse = big f := rfl
theorem tx_48 : tx [48] = { data := #[48] } := by decide

end Go.Proofs.YteelmjmiankflaaDoor.Num
