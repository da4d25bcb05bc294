/-
  The writers and Parse at given strings; contract of the laws' works.
-/
import Derived.Test.YtfkdlnaakmgclaaDoorNumJ
set_option linter.unusedVariables false
set_option linter.unusedSimpArgs false
namespace Go.Proofs.YtfkdlnaakmgclaaDoor.Num
open Go Go.RowKit Go.Proofs.YtfkdlnaakmgclaaDoor.Kit Go.Proofs.YtfkdlnaakmgclaaDoor.Utf

/-- A writer at a string of which the result is known. -/
theorem writer_at {F : FuncId} {f : List Nat → List Int} (hF : Writer F f) (s o : ByteArray) (b : Bool) (hs : s.size ≤ maxLen) (h1 : wOut f s = o) (h2 : isDec s = b) (w : World) (hL : Laid w) :
    Calls Tryd.prog F #[.string s] w fun e w' => e = .returned (.tuple #[.string o, .bool b]) ∧ Below w.heap.size w w' := by
  have := hF s w hs hL
  rw [h1, h2] at this
  exact this

theorem parse_is (s d : ByteArray) (hs : s.size ≤ 140737488355000) (h : WrS s d) (w : World) (hL : Laid w) :
    Calls Tryd.prog 21 #[.string s] w fun e w' => e = .returned (.tuple #[.string d, .bool true]) ∧ Below w.heap.size w w' := by
  refine (parse_any s w hs hL).mono ?_
  rintro e w' ⟨h1, hb⟩
  refine ⟨?_, hb⟩
  rcases h1 with ⟨d', h2, h3⟩ | ⟨h2, h3⟩
  · rw [h3, h2.unique h]
  · exact absurd h (h2 d)
theorem parse_not (s : ByteArray) (hs : s.size ≤ 140737488355000) (h0 : missB (rdOut readE s) s) (h1 : missB (rdOut readU s) s) (w : World) (hL : Laid w) :
    Calls Tryd.prog 21 #[.string s] w fun e w' => e = .returned (.tuple #[.string { data := #[] }, .bool false]) ∧ Below w.heap.size w w' := by
  refine (parse_any s w hs hL).mono ?_
  rintro e w' ⟨h2, hb⟩
  refine ⟨?_, hb⟩
  rcases h2 with ⟨d', h2, h3⟩ | ⟨h2, h3⟩
  · rcases h2.read with h | h
    · subst h; exact absurd h2 (miss_no h0)
    · subst h; exact absurd h2 (miss_no h1)
  · exact h3

theorem works_any (w : World) (hL : Laid w) :
    Calls Tryd.prog 20 #[] w fun e w' => e = .returned (.bool true) ∧ Below w.heap.size w w' := by
  have h1 := Lib.hid (writer_at kanji_any { data := #[49, 50, 48, 51, 48] } { data := #[228, 184, 128, 228, 184, 135, 228, 186, 140, 229, 141, 131, 228, 184, 137, 229, 141, 129] } true (by decide) (by kernel_rfl) (by kernel_rfl))
  have h2 := Lib.hid (writer_at pos_any { data := #[49, 50, 48, 51, 48] } { data := #[228, 184, 128, 228, 186, 140, 227, 128, 135, 228, 184, 137, 227, 128, 135] } true (by decide) (by kernel_rfl) (by kernel_rfl))
  have h3 := Lib.hid (writer_at formal_any { data := #[49, 50, 48, 51, 48] } { data := #[229, 163, 177, 228, 184, 135, 229, 188, 144, 229, 141, 131, 229, 143, 130, 230, 139, 190] } true (by decide) (by kernel_rfl) (by kernel_rfl))
  have h4 := Lib.hid (writer_at commas_any { data := #[49, 50, 48, 51, 48] } { data := #[49, 50, 44, 48, 51, 48] } true (by decide) (by kernel_rfl) (by kernel_rfl))
  have h5 := Lib.hid (parse_is { data := #[229, 141, 131, 228, 184, 128] } { data := #[49, 48, 48, 49] } (by decide) ⟨by kernel_rfl, .inl (by kernel_rfl)⟩)
  have hB : Below w.heap.size w w := Below.refl _ _
  go_enter Tryd.func20, Tryd.ntmps20
  go_wp2_with (first
    | (go_at_call 12; refine (h1.out _ (hL.next hB)).mono ?_; rintro e w1 ⟨rfl, hb⟩; have hB := hB.trans (hb.mono hB.size); clear hb)
    | (go_at_call 14; refine (h2.out _ (hL.next hB)).mono ?_; rintro e w1 ⟨rfl, hb⟩; have hB := hB.trans (hb.mono hB.size); clear hb)
    | (go_at_call 16; refine (h3.out _ (hL.next hB)).mono ?_; rintro e w1 ⟨rfl, hb⟩; have hB := hB.trans (hb.mono hB.size); clear hb)
    | (go_at_call 18; refine (h4.out _ (hL.next hB)).mono ?_; rintro e w1 ⟨rfl, hb⟩; have hB := hB.trans (hb.mono hB.size); clear hb)
    | (go_at_call 21; refine (h5.out _ (hL.next hB)).mono ?_; rintro e w1 ⟨rfl, hb⟩; have hB := hB.trans (hb.mono hB.size); clear hb))
  go_ret
  exact ⟨rfl, hB⟩

end Go.Proofs.YtfkdlnaakmgclaaDoor.Num
