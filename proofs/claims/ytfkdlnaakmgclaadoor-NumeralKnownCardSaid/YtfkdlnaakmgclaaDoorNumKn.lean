/-
  The laws' all at strings of which the results are known.
-/
import Derived.Test.YtfkdlnaakmgclaaDoorNumZ
set_option linter.unusedVariables false
set_option linter.unusedSimpArgs false
namespace Go.Proofs.YtfkdlnaakmgclaaDoor.Num
open Go Go.RowKit Go.Proofs.YtfkdlnaakmgclaaDoor.Kit Go.Proofs.YtfkdlnaakmgclaaDoor.Utf

theorem all_at (d k p f c : ByteArray) (b : Bool) (hs : d.size ≤ maxLen) (h1 : wOut kanjiC d = k) (h2 : wOut posC d = p) (h3 : wOut formC d = f) (h4 : wOut commaC d = c) (h5 : isDec d = b) (hk : (k.toList == ([] : List UInt8)) = !b) (w : World) (hL : Laid w) :
    Calls Tryd.prog 28 #[.string d, .string k, .string p, .string f, .string c] w fun e w' => e = .returned (.bool true) ∧ Below w.heap.size w w' := by
  have H1 := Lib.hid (writer_at kanji_any d k b hs h1 h5)
  have H2 := Lib.hid (writer_at pos_any d p b hs h2 h5)
  have H3 := Lib.hid (writer_at formal_any d f b hs h3 h5)
  have H4 := Lib.hid (writer_at commas_any d c b hs h4 h5)
  have e1 := same_toList k
  have e2 := same_toList p
  have e3 := same_toList f
  have e4 := same_toList c
  clear h1 h2 h3 h4 h5 hs
  have hB : Below w.heap.size w w := Below.refl _ _
  cases b
  all_goals
    go_enter Tryd.func28, Tryd.ntmps28
    go_wp2_with (first
      | (go_at_call 12; refine (H1.out _ (hL.next hB)).mono ?_; rintro e w1 ⟨rfl, hb⟩; have hB := hB.trans (hb.mono hB.size); clear hb)
      | (go_at_call 14; refine (H2.out _ (hL.next hB)).mono ?_; rintro e w1 ⟨rfl, hb⟩; have hB := hB.trans (hb.mono hB.size); clear hb)
      | (go_at_call 16; refine (H3.out _ (hL.next hB)).mono ?_; rintro e w1 ⟨rfl, hb⟩; have hB := hB.trans (hb.mono hB.size); clear hb)
      | (go_at_call 18; refine (H4.out _ (hL.next hB)).mono ?_; rintro e w1 ⟨rfl, hb⟩; have hB := hB.trans (hb.mono hB.size); clear hb))
    go_ret
    exact ⟨rfl, hB⟩

end Go.Proofs.YtfkdlnaakmgclaaDoor.Num
