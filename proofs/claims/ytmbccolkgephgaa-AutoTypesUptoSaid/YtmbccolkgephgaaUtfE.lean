/-
  utf.Runes of a valid string, its result taken apart.
-/
import Derived.Test.YtmbccolkgephgaaUtfD
set_option linter.unusedVariables false
set_option linter.unusedSimpArgs false
set_option maxRecDepth 100000
namespace Go.Proofs.Ytmbccolkgephgaa.Utf
open Go Go.RowKit Go.Proofs.Ytmbccolkgephgaa.Kit

/-- utf.Runes of a valid string, its result taken apart. -/
theorem runes_some (s : ByteArray) (w : World) (hs : s.size ≤ 274877906944) (cs : List Int) (hc : chars (bs s) = some cs) :
    Calls Try.prog 72 #[.string s] w fun e w' => ∃ g cap, e = .returned (.tuple #[.slice (some ⟨g, 0, none⟩) cs.length cap, .bool true]) ∧ w'.ownsRow w.heap.size 21 1 (.slice (some ⟨g, 0, none⟩) cs.length cap) cs.length (ints cs) ∧ cs.length ≤ cap ∧ Below w.heap.size w w' := by
  refine (runes_good s w (by omega) cs hc).mono ?_
  rintro e w' ⟨v, rfl, hown, hnn, hb⟩
  rcases hown.2 with ⟨rfl, h0⟩ | ⟨g, cap, cur, rfl, hbg, hg, hnc, hrest⟩
  · exact absurd rfl hnn
  · exact ⟨g, cap, rfl, hown, hnc, hb⟩

theorem runes_slice (s : ByteArray) (w : World) (hs : s.size ≤ 274877906944) (cs : List Int) (hc : chars (bs s) = some cs) :
    Calls Try.prog 72 #[.string s] w fun e w' => ∃ a cap, e = .returned (.tuple #[.slice a cs.length cap, .bool true]) ∧ w'.ownsRow w.heap.size 21 1 (.slice a cs.length cap) cs.length (ints cs) ∧ cs.length ≤ cap ∧ Below w.heap.size w w' := by
  refine (runes_some s w hs cs hc).mono ?_
  rintro e w' ⟨g, cap, rfl, hown, hlc, hb⟩
  exact ⟨_, cap, rfl, hown, hlc, hb⟩

end Go.Proofs.Ytmbccolkgephgaa.Utf
