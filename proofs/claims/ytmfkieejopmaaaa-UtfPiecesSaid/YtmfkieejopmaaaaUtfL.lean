/-
  The chapter's examples: the function works of the statements returns true.
-/
import Derived.Test.YtmfkieejopmaaaaUtfK
import Derived.Test.YtmfkieejopmaaaaUtfV
import Derived.Test.YtmfkieejopmaaaaUtfCut
import Derived.Test.YtmfkieejopmaaaaUtfSame
import Derived.Test.YtmfkieejopmaaaaUtfRCut
set_option linter.unusedVariables false
set_option linter.unusedSimpArgs false
namespace Go.Proofs.Ytmfkieejopmaaaa.Utf
open Go Go.RowKit Go.Proofs.Ytmfkieejopmaaaa.Kit

abbrev exS : ByteArray := { data := #[227, 129, 130, 33] }
theorem ex_chars : chars (bs exS) = some [12354, 33] := by decide
theorem ex_bad1 : chars [192, 128] = none := by decide
theorem ex_bad2 : chars [227, 129] = none := by decide
theorem ex_text : textB [12354, 55296, -1, 33] = exS := ba_ext ((textB_bytes _).trans (by decide))
theorem ex_text2 : textB [33] = { data := #[33] } := ba_ext ((textB_bytes _).trans (by decide))

theorem ex_runes (w : World) : Calls Try.prog 11 #[.string exS] w fun e w' => ∃ a cap, e = .returned (.tuple #[.slice a 2 cap, .bool true]) ∧ w'.ownsRow w.heap.size 21 1 (.slice a 2 cap) 2 (ints [12354, 33]) ∧ 2 ≤ cap ∧ Below w.heap.size w w' :=
  runes_slice exS w (by decide) [12354, 33] ex_chars
theorem ex_cut (w : World) : Calls Try.prog 20 #[.string exS, .int .i64 1, .int .i64 2] w fun e w' => e = .returned (.tuple #[.string { data := #[33] }, .bool true]) ∧ Below w.heap.size w w' := by
  have h := cut_in exS 1 2 w (by decide) [12354, 33] ex_chars (by decide) (by decide)
  have e : (([12354, 33] : List Int).take 2).drop 1 = [33] := rfl
  rw [e, ex_text2] at h
  exact h
theorem ex_count (w : World) : Calls Try.prog 15 #[.string exS] w fun e w' => e = .returned (.int .i64 2) ∧ Below w.heap.size w w' := by
  have h := count_any exS w (by decide)
  rw [count_some ex_chars] at h
  exact h
theorem ex_count2 (w : World) : Calls Try.prog 15 #[.string { data := #[227, 129] }] w fun e w' => e = .returned (.int .i64 (-1)) ∧ Below w.heap.size w w' := by
  have h := count_any { data := #[227, 129] } w (by decide)
  rw [count_none ex_bad2] at h
  exact h
theorem ex_valid (w : World) : Calls Try.prog 14 #[.string { data := #[192, 128] }] w fun e w' => e = .returned (.bool false) ∧ Below w.heap.size w w' := by
  have h := valid_any { data := #[192, 128] } w (by decide)
  rw [ex_bad1] at h
  exact h
theorem ex_texts (v : Value) (w : World) (hv : Reads w v (ints [12354, 55296, -1, 33])) : Calls Try.prog 18 #[v] w fun e w' => e = .returned (.string exS) ∧ Below w.heap.size w w' := by
  have h := text_any [12354, 55296, -1, 33] v w (by decide) hv
  rw [ex_text] at h
  exact h
theorem ex_same (va vb : Value) (w : World) (xs : List Int) (ha : Reads w va (ints xs)) (hb : Reads w vb (ints xs)) :
    Calls Try.prog 13 #[va, vb] w fun e w' => e = .returned (.bool true) ∧ Below w.heap.size w w' := by
  refine (same_any xs xs va vb w ha hb).mono ?_
  rintro e w' ⟨rfl, n, rfl⟩
  exact ⟨ret_bool (same_self xs), below_drewN (Below.refl _ _) n⟩

set_option maxRecDepth 100000 in
theorem works_any (w : World) : Calls Try.prog 17 #[] w fun e w' => e = .returned (.bool true) ∧ Below w.heap.size w w' := by
  go_enter Try.func17, Try.ntmps17
  go_wp2_with (first
    | (go_at_call 11; refine (ex_runes _).mono ?_; rintro e w1 ⟨a, cap, rfl, hown1, hcap, hb1⟩)
    | (go_at_call 20; refine (ex_cut _).mono ?_; rintro e w2 ⟨rfl, hb2⟩)
    | (go_at_call 15; (with_reducible refine (ex_count _).mono ?_); rintro e w3 ⟨rfl, hb3⟩)
    | (go_at_call 13; refine (ex_same _ _ _ [12354, 33] (own_reads ((own_later (own_later hown1 hb2) hb3).alloc _)) (reads_lit w3 _ _ _ 2 rfl rfl (by decide))).mono ?_; rintro e w4 ⟨rfl, hb4⟩)
    | (go_at_call 18; refine (ex_texts _ _ (reads_lit w4 _ _ _ 4 rfl rfl (by decide))).mono ?_; rintro e w5 ⟨rfl, hb5⟩)
    | (go_at_call 14; (with_reducible refine (ex_valid _).mono ?_); rintro e w6 ⟨rfl, hb6⟩)
    | (go_at_call 15; (with_reducible refine (ex_count2 _).mono ?_); rintro e w7 ⟨rfl, hb7⟩))
  go_ret
  refine ⟨rfl, ?_⟩
  have s1 := hb1.size
  have s2 := hb2.size
  have s3 := hb3.size
  have s4 := hb4.size
  have s5 := hb5.size
  have s6 := hb6.size
  simp only [World.size_alloc] at s4 s5
  have c3 := (hb1.trans (hb2.mono s1)).trans (hb3.mono (by omega))
  have c4 := (c3.alloc (by omega) (.cells #[.int .i32 12354, .int .i32 33] 21)).trans (hb4.mono (by simp; omega))
  have c5 := (c4.alloc (by omega) (.cells #[.int .i32 12354, .int .i32 55296, .int .i32 (-1), .int .i32 33] 21)).trans (hb5.mono (by simp; omega))
  exact (c5.trans (hb6.mono (by omega))).trans (hb7.mono (by omega))

end Go.Proofs.Ytmfkieejopmaaaa.Utf
