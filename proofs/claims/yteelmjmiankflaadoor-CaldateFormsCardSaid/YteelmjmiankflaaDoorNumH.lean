/-
  Contract of numeral.readEach; what it and readUnits return.
-/
import Derived.Test.YteelmjmiankflaaDoorNumG
set_option linter.unusedVariables false
set_option linter.unusedSimpArgs false
namespace Go.Proofs.YteelmjmiankflaaDoor.Num
open Go Go.RowKit Go.Proofs.YteelmjmiankflaaDoor.Kit Go.Proofs.YteelmjmiankflaaDoor.Utf

/-- What a reading of characters makes of a string. -/
def rdOut (f : List Int → Option (List Nat)) (s : ByteArray) : ByteArray :=
  match chars (bs s) with
  | none => { data := #[] }
  | some cs => match f cs with
    | none => { data := #[] }
    | some ds => dg ds
theorem rdOut_bad {f : List Int → Option (List Nat)} {s : ByteArray} (h : ∀ cs, chars (bs s) = some cs → f cs = none) : rdOut f s = { data := #[] } := by
  unfold rdOut
  cases hc : chars (bs s) with
  | none => rfl
  | some cs => simp only [h cs hc]
theorem rdOut_good {f : List Int → Option (List Nat)} {s : ByteArray} {cs : List Int} {ds : List Nat} (h : chars (bs s) = some cs) (hf : f cs = some ds) : rdOut f s = dg ds := by
  unfold rdOut
  rw [h]
  simp only [hf]

theorem readE_snoc {pre : List Int} {ds : List Nat} {c : Int} {d : Nat} (h : readE pre = some ds) (hd : dgt c = some d) : readE (pre ++ [c]) = some (ds ++ [d]) := by
  induction pre generalizing ds with
  | nil =>
    obtain rfl : [] = ds := Option.some.inj h
    simp [readE, hd]
  | cons a pre ih =>
    simp only [List.cons_append, readE] at h ⊢
    cases ha : dgt a with
    | none => rw [ha] at h; cases h
    | some x =>
      rw [ha] at h
      simp only at h ⊢
      cases hp : readE pre with
      | none => rw [hp] at h; cases h
      | some y =>
        rw [hp] at h
        obtain rfl : x :: y = ds := Option.some.inj h
        rw [ih hp]; rfl
theorem readE_none {pre : List Int} {c : Int} (t : List Int) (hd : dgt c = none) : readE (pre ++ c :: t) = none := by
  induction pre with
  | nil => simp [readE, hd]
  | cons a pre ih =>
    simp only [List.cons_append, readE]
    cases dgt a with
    | none => rfl
    | some x => simp only [ih]; rfl
theorem readE_len {pre : List Int} {ds : List Nat} (h : readE pre = some ds) : ds.length = pre.length := by
  induction pre generalizing ds with
  | nil => obtain rfl : [] = ds := Option.some.inj h; rfl
  | cons a pre ih =>
    simp only [readE] at h
    cases ha : dgt a with
    | none => rw [ha] at h; cases h
    | some x =>
      rw [ha] at h
      simp only at h
      cases hp : readE pre with
      | none => rw [hp] at h; cases h
      | some y =>
        rw [hp] at h
        obtain rfl : x :: y = ds := Option.some.inj h
        simp [ih hp]
theorem dgt_le {c : Int} {d : Nat} (h : dgt c = some d) : d ≤ 9 := by
  unfold dgt at h
  rw [List.find?_range_eq_some] at h
  have : d < 10 := by simpa using h.2.1
  omega
theorem unt_lt {c : Int} {d : Nat} (h : unt c = some d) : d < 4 := by
  unfold unt at h
  rw [List.find?_range_eq_some] at h
  simpa using h.2.1
theorem grp_lt {c : Int} {d : Nat} (h : grp c = some d) : d < 5 := by
  unfold grp at h
  rw [List.find?_range_eq_some] at h
  simpa using h.2.1

theorem bad_mark : validRune 65533 = true ∧ dgt 65533 = none ∧ unt 65533 = none ∧ grp 65533 = none := by decide

theorem rest_of {s : ByteArray} {pre : List Int} {pos : Nat} {c : Int} {n : Nat} (hc : chars (bs s) = (chars ((bs s).drop pos)).map (pre ++ ·)) (hd : dec1 ((bs s).drop pos) = some (c, n)) {cs : List Int} (h : chars (bs s) = some cs) : ∃ t, cs = pre ++ c :: t := by
  rw [hc, chars_step hd] at h
  cases hr : chars (((bs s).drop pos).drop n) with
  | none => rw [hr] at h; cases h
  | some t =>
    rw [hr] at h
    exact ⟨t, (Option.some.inj h).symm⟩

theorem dg_snoc (ds : List Nat) (d : Nat) (h : d ≤ 9) : Lib.byteCells (bs (dg ds)) ++ Lib.strCells (tx [48 + (d : Int)]) = Lib.byteCells (bs (dg (ds ++ [d]))) := by
  rw [tx_cells, encs_cons, dg_enc d h, ← byteCells_append, bs_dg, bs_dg, List.map_append]; rfl
theorem digit_size (d : Nat) (h : d ≤ 9) : (tx [48 + (d : Int)]).size = 1 := by rw [tx_size, encs_cons, dg_enc d h]; rfl

end Go.Proofs.YteelmjmiankflaaDoor.Num
