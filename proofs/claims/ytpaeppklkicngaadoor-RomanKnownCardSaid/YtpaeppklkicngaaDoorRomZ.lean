/-
  How long the text of allowed rules may be; Parse of a text whose reading is known.
-/
import Derived.Test.YtpaeppklkicngaaDoorRomX
import Derived.Test.YtpaeppklkicngaaDoorRomY
set_option linter.unusedVariables false
set_option linter.unusedSimpArgs false
set_option maxRecDepth 100000
namespace Go.Proofs.YtpaeppklkicngaaDoor.Rom
open Go Go.RowKit Go.Proofs.YtpaeppklkicngaaDoor.Kit Go.Proofs.YtpaeppklkicngaaDoor.Utf

theorem kana_len {l : List UInt8} (h : kanaOK l = true) : l.length ≤ 16 := by
  unfold kanaOK at h
  cases hc : chars l with
  | none => rw [hc] at h; cases h
  | some cs =>
    rw [hc] at h
    simp only [Bool.and_eq_true, decide_eq_true_eq] at h
    obtain ⟨hv, e⟩ := chars_some hc
    rw [e]
    have key : ∀ cs : List Int, (∀ c ∈ cs, validRune c = true) → (encs cs).length ≤ cs.length * 4 := by
      intro cs
      induction cs with
      | nil => intro _; simp [encs]
      | cons c cs ih =>
        intro hv
        have h1 := ih (fun x hx => hv x (List.mem_cons_of_mem _ hx))
        have h2 : (enc c).length ≤ 4 := by
          rcases enc_forms c (hv c (by simp)) with ⟨_, e⟩ | ⟨_, _, e⟩ | ⟨_, _, e⟩ | ⟨_, _, e⟩ <;> rw [e] <;> simp
        have e2 : encs (c :: cs) = enc c ++ encs cs := by unfold encs; rfl
        rw [e2, List.length_append]
        simp only [List.length_cons]
        omega
    have := key cs hv
    omega
theorem ok_print_len {rs : List Rule} (h : checkL rs = 0) : (ba (printB rs)).size ≤ 1048576 := by
  have h1 : ∀ rs : List Rule, (∀ r ∈ rs, okR r = true) → (printB rs).length ≤ rs.length * 40 := by
    intro rs
    induction rs with
    | nil => intro _; simp [printB]
    | cons r rs ih =>
      intro hr
      have h2 := ih (fun x hx => hr x (List.mem_cons_of_mem _ hx))
      obtain ⟨q1, _, q3, _, q5, _⟩ := okR_parts (hr r (by simp))
      have q6 := kana_len q5
      show ((lineT r ++ [10]) ++ printB rs).length ≤ _
      have h3 : (lineT r).length ≤ 30 := by
        unfold lineT
        split <;> simp only [List.length_append, List.length_cons, List.length_nil, bs_len] at * <;> omega
      simp only [List.length_append, List.length_cons, List.length_nil]
      omega
  unfold checkL at h
  split at h
  · cases h
  · rename_i hl
    split at h
    · rename_i hok
      have hall : ∀ r ∈ rs, okR r = true := by
        unfold okL at hok
        simp only [Bool.and_eq_true, List.all_eq_true] at hok
        exact hok.1
      have := h1 rs hall
      rw [ba_size]
      omega
    · cases h

/-- Parse of a text whose reading is known. -/
theorem parse_is (s : ByteArray) (rs : List Rule) (ln : Nat) (er : Int) (h : parseL s = (rs, ln, er)) (hs : s.size ≤ 140737488351232) (W : World) :
    Calls Tryd.prog 11 #[.string s] W fun e w' => ∃ a cap, e = .returned (.tuple #[.slice a rs.length cap, .int .i64 (ln : Nat), .int .i64 er]) ∧ RowR w' (.slice a rs.length cap) rs ∧ Below W.heap.size W w' ∧ (∀ r ∈ rs, Short r) ∧ rs.length ≤ 500 := by
  have := parse_any s W hs
  rw [h] at this
  refine this.mono ?_
  rintro e w' ⟨v, rfl, hown, hb, hsh, hl⟩
  have hR := (row_of_own hown).1
  obtain ⟨a, len, cap, rfl, hlen, _⟩ := id hR
  subst hlen
  exact ⟨a, cap, rfl, hR, hb, hsh, hl⟩
theorem parse_printed {rs : List Rule} (h : checkL rs = 0) (W : World) :
    Calls Tryd.prog 11 #[.string (ba (printB rs))] W fun e w' => ∃ a cap, e = .returned (.tuple #[.slice a rs.length cap, .int .i64 0, .int .i64 0]) ∧ RowR w' (.slice a rs.length cap) rs ∧ Below W.heap.size W w' ∧ (∀ r ∈ rs, Short r) ∧ rs.length ≤ 500 := by
  have hl := ok_print_len h
  exact parse_is _ rs 0 0 (parse_print h hl) (by omega) W
theorem taken_is (v : Value) (rs : List Rule) (W : World) (hR : RowR W v rs) (hn : rs.length ≤ 1000000) :
    Calls Tryd.prog 27 #[v] W fun e w' => ∃ v', e = .returned v' ∧ RowR w' v' rs ∧ Below W.heap.size W w' :=
  (taken_any v rs W hR hn).mono fun e w' ⟨v', he, hown, hb⟩ => ⟨v', he, (row_of_own hown).1, hb⟩

end Go.Proofs.YtpaeppklkicngaaDoor.Rom
