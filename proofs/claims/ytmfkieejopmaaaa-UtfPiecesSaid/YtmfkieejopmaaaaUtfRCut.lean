/-
  Contract of the reference's Cut.
-/
import Derived.Test.YtmfkieejopmaaaaUtfK
set_option linter.unusedVariables false
set_option linter.unusedSimpArgs false
namespace Go.Proofs.Ytmfkieejopmaaaa.Utf
open Go Go.RowKit Go.Proofs.Ytmfkieejopmaaaa.Kit

theorem rcut_invalid (s : ByteArray) (i j : Int) (w : World) (hs : s.size ≤ 274877906944) (hc : chars (bs s) = none) :
    Calls Try.prog 21 #[.string s, .int .i64 i, .int .i64 j] w fun e w' => e = .returned (.tuple #[.string { data := #[] }, .bool false]) ∧ Below w.heap.size w w' := by
  go_enter Try.func21, Try.ntmps21
  go_wp2_with (go_at_call 12; refine (rrunes_bad _ _ (by omega) hc).mono ?_; rintro e w' ⟨rfl, hb⟩)
  go_ret2
  exact ⟨rfl, hb⟩

theorem rcut_out (s : ByteArray) (i j : Int) (w : World) (hs : s.size ≤ 274877906944) (cs : List Int) (hc : chars (bs s) = some cs) (hij : ¬ (0 ≤ i ∧ i ≤ j ∧ j ≤ cs.length)) :
    Calls Try.prog 21 #[.string s, .int .i64 i, .int .i64 j] w fun e w' => e = .returned (.tuple #[.string { data := #[] }, .bool false]) ∧ Below w.heap.size w w' := by
  have H := Lib.hid hc; clear hc
  by_cases h0 : i < 0 <;> by_cases h1 : j < i <;> by_cases h2 : (cs.length : Int) < j <;> first | (exfalso; omega) | skip
  all_goals
    clear hij
    go_enter Try.func21, Try.ntmps21
    go_wp2_with (go_at_call 12; refine (rrunes_good _ _ (by omega) cs H.out).mono ?_; rintro e w' ⟨a, cap, rfl, hown, hcap, hb⟩)
    go_ret2
    exact ⟨rfl, hb⟩

theorem rcut_in (s : ByteArray) (i j : Nat) (w : World) (hs : s.size ≤ 274877906944) (cs : List Int) (hc : chars (bs s) = some cs) (hij : i ≤ j) (hj : j ≤ cs.length) :
    Calls Try.prog 21 #[.string s, .int .i64 i, .int .i64 j] w fun e w' => e = .returned (.tuple #[.string (textB ((cs.take j).drop i)), .bool true]) ∧ Below w.heap.size w w' := by
  have H := Lib.hid hc; clear hc
  have h0 : ¬ (i : Int) < 0 := by omega
  have h1 : ¬ (j : Int) < i := by omega
  have h2 : ¬ (cs.length : Int) < j := by omega
  go_enter Try.func21, Try.ntmps21
  have hlen : ((cs.take j).drop i).length ≤ 274877906944 := by
    have := chars_le H.out; rw [bs_len] at this; simp; omega
  have HL := Lib.hid hlen; clear hlen
  go_wp2_with (go_at_call 12; refine (rrunes_good _ _ (by omega) cs H.out).mono ?_; rintro e w1 ⟨a, cap, rfl, hown, hcap, hb⟩)
  all_goals
    have hr := own_reads hown
    have hr1 : Reads w1 (.slice (a.map (fun x => x.add i)) (j - i) (cap - i)) (ints ((cs.take j).drop i)) := by
      have := reads_cut hr hij hj; simpa [List.map_drop, List.map_take] using this
    have hr2 : cap ≤ i → Reads w1 (.slice a (j - i) 0) (ints ((cs.take j).drop i)) := fun h => by
      have := reads_cut_end hr hij hj h; simpa [List.map_drop, List.map_take] using this
    refine (rtext_any ((cs.take j).drop i) _ _ HL.out (by first | exact hr1 | exact hr2 (by omega))).mono ?_
    rintro e w2 ⟨rfl, hb2⟩
    have hb3 := hb.trans (hb2.mono hb.size)
    clear hr hr1 hr2 hown hb hb2
    go_wp2
    go_ret2
    exact ⟨rfl, hb3⟩

end Go.Proofs.Ytmfkieejopmaaaa.Utf
