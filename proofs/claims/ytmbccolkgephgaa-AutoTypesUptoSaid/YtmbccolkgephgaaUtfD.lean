/-
  Contract of utf.Text: the codes of those numbers that are characters.
-/
import Derived.Test.YtmbccolkgephgaaUtfC
set_option linter.unusedVariables false
set_option linter.unusedSimpArgs false
set_option maxRecDepth 100000
namespace Go.Proofs.Ytmbccolkgephgaa.Utf
open Go Go.RowKit Go.Proofs.Ytmbccolkgephgaa.Kit

theorem foldl_bytes (ns : List Int) : ∀ r : ByteArray, (ns.foldl (fun r n => r ++ Utf8.encode n) r).data.toList = r.data.toList ++ encs ns := by
  induction ns with
  | nil => intro r; simp [encs]
  | cons n ns ih =>
    intro r
    rw [List.foldl_cons, ih, encs_cons, ← List.append_assoc, ByteArray.data_append, Array.toList_append]; rfl
theorem runesBytes_bytes (ns : List Int) : (runesBytes ns).data.toList = encs ns := by
  unfold runesBytes; rw [foldl_bytes]; simp

/-- The string of the characters among some numbers. -/
def textB (l : List Int) : ByteArray := runesBytes (l.filter validRune)
theorem textB_bytes (l : List Int) : bs (textB l) = encs (l.filter validRune) := runesBytes_bytes _
theorem conv_own {w : World} {base : Nat} {v : Value} {n : Nat} {cs : List Int} (h : w.ownsRow base 21 1 v n (ints cs)) :
    (convert 67 9 v).run Try.prog w = .ok (.string (runesBytes cs)) w := by
  have hn := own_lt h
  rw [List.length_map] at hn
  rcases h.2 with ⟨rfl, h0⟩ | ⟨g, cap, cur, rfl, hb, hg, hnc, hcm, hcs, htake⟩
  · have : cs = [] := List.eq_nil_of_length_eq_zero (by omega)
    subst this
    exact run_convert_runes_nil w _ _ _ 0 0 Try.underlying67 Try.underlying21 Try.underlying9
  · have := run_convert_runes (P := Try.prog) w 67 9 21 ⟨g, 0, none⟩ n cap cs (by omega) Try.underlying67 Try.underlying21 Try.underlying9 (fun j hj => by
      have := h.cells (g := g) rfl j (.int .i32 (cs.getD j 0)) (by rw [List.getElem?_map, List.getElem?_eq_getElem hj]; simp [List.getElem?_eq_getElem hj])
      exact this)
    rw [this, List.take_of_length_le (by omega)]

theorem filter_take (l : List Int) (k : Nat) (h : k < l.length) : (l.take (k + 1)).filter validRune = (l.take k).filter validRune ++ (if validRune l[k] then [l[k]] else []) := by
  rw [List.take_succ_eq_append_getElem h, List.filter_append]
  congr 1
  by_cases hv : validRune l[k] <;> simp [hv]

theorem filter_le (l : List Int) (k : Nat) : ((l.take k).filter validRune).length ≤ k := by
  have h1 := List.length_filter_le validRune (l.take k)
  have h2 := List.length_take_le k l
  omega

end Go.Proofs.Ytmbccolkgephgaa.Utf
