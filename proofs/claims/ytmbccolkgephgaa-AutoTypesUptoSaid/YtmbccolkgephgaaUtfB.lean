/-
  Contracts of utf.Count and utf.Valid.
-/
import Derived.Test.YtmbccolkgephgaaUtfA
import Derived.Test.YtmbccolkgephgaaUtfS
set_option linter.unusedVariables false
set_option linter.unusedSimpArgs false
namespace Go.Proofs.Ytmbccolkgephgaa.Utf
open Go Go.RowKit Go.Proofs.Ytmbccolkgephgaa.Kit

/-- The number of characters, or -1. -/
def count (l : List UInt8) : Int := match chars l with | none => -1 | some cs => cs.length

theorem enc_mark : enc 65533 = [239, 191, 189] := by decide
theorem mark_toList : ({ data := #[239, 191, 189] } : ByteArray).toList = [239, 191, 189] := by rw [ByteArray.toList_eq]
theorem mark_size : ({ data := #[239, 191, 189] } : ByteArray).size = 3 := rfl
theorem take_extract (s : ByteArray) (pos k : Nat) : ((s.extract pos s.size).extract 0 k).toList = ((bs s).drop pos).take k := by
  rw [ByteArray.toList_eq, Lib.extract_data, Lib.extract_data]
  rw [List.drop_zero, Nat.sub_zero, List.take_of_length_le (l := (bs s).drop pos) (by rw [List.length_drop, bs_len]; omega)]
theorem begins_bad {s : ByteArray} {pos : Nat} (hp : pos < s.size) (h : dec1 ((bs s).drop pos) = none) : begins (s.extract pos s.size) { data := #[239, 191, 189] } = false := by
  rw [Bool.eq_false_iff]
  intro hb
  unfold begins at hb
  simp only [Bool.and_eq_true, decide_eq_true_eq, beq_iff_eq] at hb
  obtain ⟨h1, h2⟩ := hb
  have e1 := take_extract s pos 3
  have h3 : ((bs s).drop pos).take 3 = [239, 191, 189] := by rw [← e1, ← mark_toList]; exact h2
  have h4 : (bs s).drop pos = enc 65533 ++ ((bs s).drop pos).drop 3 := by rw [enc_mark, ← h3, List.take_append_drop]
  rw [h4, dec1_enc 65533 (by decide)] at h
  cases h
theorem begins_good {s : ByteArray} {pos : Nat} {n : Nat} (hp : pos < s.size) (h : dec1 ((bs s).drop pos) = some (65533, n)) : begins (s.extract pos s.size) { data := #[239, 191, 189] } = true := by
  obtain ⟨hv, hn, hl⟩ := dec1_some h
  have e1 := take_extract s pos 3
  have h3 : ((bs s).drop pos).take 3 = [239, 191, 189] := by rw [hl, enc_mark]; rfl
  have h5 : 3 ≤ ((bs s).drop pos).length := by rw [hl, enc_mark]; simp
  rw [List.length_drop, bs_len] at h5
  unfold begins
  simp only [Bool.and_eq_true, decide_eq_true_eq, beq_iff_eq]
  refine ⟨?_, ?_⟩
  · rw [mark_size, ByteArray.size_extract]; omega
  · rw [mark_toList, mark_size, ← h3]; exact e1

set_option maxRecDepth 100000 in
theorem count_any (s : ByteArray) (w : World) (hs : s.size ≤ maxLen) :
    Calls Try.prog 41 #[.string s] w fun e w' => e = .returned (.int .i64 (count (bs s))) ∧ Below w.heap.size w w' := by
  unfold maxLen at hs
  go_enter Try.func41, Try.ntmps41
  go_wp2
  go_loopw [3] (fun n w' => ∃ (pos : Nat) (pre : List Int), w' = w.iter s pos ∧ n = .int .i64 pre.length ∧ pos ≤ s.size ∧ pre.length ≤ pos ∧ chars (bs s) = (chars ((bs s).drop pos)).map (pre ++ ·)) (fun _ w' => s.size - w'.iterPos w.heap.size)
  case atStart => exact ⟨0, [], rfl, rfl, by omega, Nat.le_refl _, by rw [List.drop_zero]; exact map_nil _⟩
  case round =>
    obtain ⟨pos, pre, rfl, rfl, hps, hpl, hc⟩ := hrel
    by_cases hp : pos < s.size
    · cases hd : dec1 ((bs s).drop pos) with
      | none =>
        have hcn : count (bs s) = -1 := by unfold count; rw [hc, chars_bad (drop_ne hp) hd]; rfl
        have hnx : ∀ ty, (Instr.next (.pointer (some ⟨w.heap.size, 0, none⟩)) true ty).run Try.prog (w.iter s pos) = .ok (.tuple #[.bool true, .int .i64 pos, .int .i32 65533]) (w.iter s (pos + 1)) := fun ty => by
          have := run_next_any (P := Try.prog) w s pos ty hp; rw [dec_bad hp hd] at this; exact this
        have HB := begins_bad hp hd
        have HC := Lib.hid hcn; clear hcn
        clear hc hd
        go_wp2_with (go_at_call 57; refine (beginsWith_any _ _ _).mono ?_; rintro e w' ⟨rfl, rfl⟩)
        go_ret
        exact ⟨by rw [HC.out]; rfl, (Below.refl _ _).alloc (Nat.le_refl _) _⟩
      | some p =>
        obtain ⟨c, n⟩ := p
        have hdp := dec1_pos hd
        rw [List.length_drop, bs_len] at hdp
        have hv := (dec1_some hd).1
        have hvv := (valid_iff c).1 hv
        have hnx : ∀ ty, (Instr.next (.pointer (some ⟨w.heap.size, 0, none⟩)) true ty).run Try.prog (w.iter s pos) = .ok (.tuple #[.bool true, .int .i64 pos, .int .i32 c]) (w.iter s (pos + n)) := fun ty => by
          have := run_next_any (P := Try.prog) w s pos ty hp; rw [dec_good hp hd] at this; simp only [Int.toNat_of_nonneg (show 0 ≤ c by omega)] at this; exact this
        have hc2 := Lib.hid (runes_len hc hd)
        by_cases h5 : c = 65533
        · subst h5
          have HB := begins_good hp hd
          clear hd hc hv
          go_wp2_with (go_at_call 57; refine (beginsWith_any _ _ _).mono ?_; rintro e w' ⟨rfl, rfl⟩)
          go_roundw
          case rel => exact ⟨pos + n, pre ++ [65533], rfl, by simp, by omega, by simp; omega, hc2.out⟩
          case measure => simp; omega
        · have h5b : (c == 65533) = false := by simpa using h5
          clear hd hc hv
          go_wp2
          go_roundw
          case rel => exact ⟨pos + n, pre ++ [c], rfl, by simp, by omega, by simp; omega, hc2.out⟩
          case measure => simp; omega
    · have hnx : ∀ ty, (Instr.next (.pointer (some ⟨w.heap.size, 0, none⟩)) true ty).run Try.prog (w.iter s pos) = _ := fun ty => run_next_end w s pos ty hp
      have hcn : count (bs s) = (pre.length : Int) := by
        unfold count
        rw [hc, List.drop_of_length_le (by rw [bs_len]; omega), chars_nil]; simp
      have HC := Lib.hid hcn; clear hcn hc
      go_wp2
      go_ret
      exact ⟨by rw [HC.out]; rfl, (Below.refl _ _).alloc (Nat.le_refl _) _⟩

end Go.Proofs.Ytmbccolkgephgaa.Utf
