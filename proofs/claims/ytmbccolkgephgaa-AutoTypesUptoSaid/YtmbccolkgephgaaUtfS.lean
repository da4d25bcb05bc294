/-
  A string's bytes and characters, of no program: what a range over it meets.
-/
import Derived.Test.YtmbccolkgephgaaUtfMath
import Derived.Test.YtmbccolkgephgaaKit
set_option linter.unusedVariables false
set_option linter.unusedSimpArgs false
namespace Go.Proofs.Ytmbccolkgephgaa.Utf
open Go Go.RowKit Go.Proofs.Ytmbccolkgephgaa.Kit

/-- The bytes of a string. -/
abbrev bs (s : ByteArray) : List UInt8 := s.data.toList
theorem bs_len (s : ByteArray) : (bs s).length = s.size := by rw [Array.length_toList]; rfl
theorem drop_ne {s : ByteArray} {pos : Nat} (hp : pos < s.size) : (bs s).drop pos ≠ [] := by
  intro e; have := congrArg List.length e; rw [List.length_drop, bs_len] at this; simp at this; omega
theorem dec_bad {s : ByteArray} {pos : Nat} (hp : pos < s.size) (h : dec1 ((bs s).drop pos) = none) : Utf8.decode s pos = (65533, 1) := by
  rw [decode_eq s pos (by omega)]
  unfold dec1 at h
  rw [if_neg (drop_ne hp)] at h
  split at h
  · assumption
  · cases h
theorem dec_good {s : ByteArray} {pos : Nat} {c : Int} {n : Nat} (hp : pos < s.size) (h : dec1 ((bs s).drop pos) = some (c, n)) : Utf8.decode s pos = (c.toNat, n) := by
  rw [decode_eq s pos (by omega)]
  obtain ⟨hv, hn, hl⟩ := dec1_some h
  rw [hl, decL_enc c hv, hn]

theorem map_nil (o : Option (List Int)) : o = o.map ([] ++ ·) := by cases o <;> rfl
theorem runes_len {s : ByteArray} {pre : List Int} {pos : Nat} {c : Int} {n : Nat} (hc : chars (bs s) = (chars ((bs s).drop pos)).map (pre ++ ·)) (hd : dec1 ((bs s).drop pos) = some (c, n)) :
    chars (bs s) = (chars ((bs s).drop (pos + n))).map ((pre ++ [c]) ++ ·) := by
  rw [hc, chars_step hd, List.drop_drop]
  cases chars ((bs s).drop (pos + n)) <;> simp

end Go.Proofs.Ytmbccolkgephgaa.Utf
