/-
  Contracts of the reference's Runes and Count.
-/
import Derived.Test.YtmbccolkgephgaaUtfG
set_option linter.unusedVariables false
set_option linter.unusedSimpArgs false
set_option maxRecDepth 100000
namespace Go.Proofs.Ytmbccolkgephgaa.Utf
open Go Go.RowKit Go.Proofs.Ytmbccolkgephgaa.Kit

theorem next_is (s : ByteArray) (at0 : Nat) (w : World) (hs : s.size ≤ 1099511627776) (hp : at0 < s.size) (c : Int) (n : Nat) (h : nx ((bs s).drop at0) = (c, n)) :
    Calls Try.prog 56 #[.string s, .int .i64 at0] w fun e w' => e = .returned (.tuple #[.int .i32 c, .int .i64 n]) ∧ Below w.heap.size w w' := by
  have := next_any s at0 w hs hp
  rw [h] at this
  exact this

/-- What the reference's Runes returns, whatever the string. -/
def RunesPost (s : ByteArray) (w : World) (e : Ending) (w' : World) : Prop :=
  (chars (bs s) = none → e = .returned (.tuple #[.slice none 0 0, .bool false])) ∧
  (∀ cs, chars (bs s) = some cs → ∃ v, e = .returned (.tuple #[v, .bool true]) ∧ w'.ownsRow w.heap.size 21 1 v cs.length (ints cs)) ∧ Below w.heap.size w w'

theorem rrunes_any (s : ByteArray) (w : World) (hs : s.size ≤ 1099511627776) :
    Calls Try.prog 40 #[.string s] w (RunesPost s w) := by
  obtain ⟨i0, hi, hz0, hz1, hz2⟩ := info_parts info_i32
  go_enter Try.func40, Try.ntmps40
  go_wp2
  go_loopw [4, 5] (fun out a wr => ∃ (pos : Nat) (pre : List Int), a = .int .i64 pos ∧ wr.ownsRow w.heap.size 21 1 out pre.length (ints pre) ∧ Below w.heap.size w wr ∧ pos ≤ s.size ∧ pre.length ≤ pos ∧ chars (bs s) = (chars ((bs s).drop pos)).map (pre ++ ·)) (fun _ a _ => s.size - (intOf a).toNat)
  case atStart => exact ⟨0, [], rfl, World.ownsRow_nil _ _ _ _, Below.refl _ _, by omega, Nat.le_refl _, by rw [List.drop_zero]; exact map_nil _⟩
  case round =>
    obtain ⟨pos, pre, rfl, hown, hb, hps, hpl, hc⟩ := hrel
    by_cases hp : pos < s.size
    · cases hd : dec1 ((bs s).drop pos) with
      | none =>
        have hpost : ∀ w', Below w.heap.size w w' → RunesPost s w (.returned (.tuple #[.slice none 0 0, .bool false])) w' := fun w' h => by
          refine ⟨fun _ => rfl, fun cs h2 => ?_, h⟩
          rw [hc, chars_bad (drop_ne hp) hd] at h2; cases h2
        have hnx := Lib.hid (nx_none hd)
        have HP := Lib.hid hpost
        clear hpost hc hd
        go_wp2_with (go_at_call 56; refine (next_is _ _ _ hs hp _ _ hnx.out).mono ?_; rintro e w' ⟨rfl, hb2⟩)
        go_ret2
        exact HP.out _ (hb.trans (hb2.mono hb.size))
      | some p =>
        obtain ⟨c, n⟩ := p
        have hdp := dec1_pos hd
        rw [List.length_drop, bs_len] at hdp
        have hnx := Lib.hid (nx_some hd)
        have hc2 := Lib.hid (runes_len hc hd)
        have hn0 : ((n : Int) == 0) = false := by simp; omega
        clear hd hc
        go_wp2_with (first
          | (go_at_call 56; refine (next_is _ _ _ hs hp _ _ hnx.out).mono ?_; rintro e w4 ⟨rfl, hb2⟩; have hown4 := own_later hown hb2; have hb4 := hb.trans (hb2.mono hb.size); clear hown hb hb2)
          | (at_builtin; refine wpList_append_own _ rfl _ _ _ rfl w.heap.size 21 i0 (.int .i32 0) 1 4 Try.underlying67 hi hz0 hz1 hz2 rfl (by decide) _ pre.length (ints pre) rfl (hown4.alloc _) ⟨w4.heap.size, 0, none⟩ 1 1 [.int .i32 c] rfl rfl (cell_one_new _ _ _) ?c2 ?c3 ?c4 ?c5 ?_))
        case c2 => simp [Value.oneCell']
        case c3 => unfold maxLen; omega
        case c4 => omega
        case c5 => have := hb4.size; simp; omega
        intro v' w5 hown5 hg5 _
        have hb5 := below_own (hb4.alloc hb4.size _) (hown4.alloc _) (Nat.le_refl _) (by have := hb4.size; simp; omega) hg5
        have hown6 : w5.ownsRow w.heap.size 21 1 v' (pre ++ [c]).length (ints (pre ++ [c])) := by simpa using hown5
        clear hown5 hg5 hb4 hown4
        go_wp2
        go_roundw
        case rel => exact ⟨pos + n, pre ++ [c], by go_num, hown6, hb5, by omega, by simp; omega, hc2.out⟩
        case measure => simp [intOf]; omega
    · have hpost : ∀ v w', w'.ownsRow w.heap.size 21 1 v pre.length (ints pre) → Below w.heap.size w w' → RunesPost s w (.returned (.tuple #[v, .bool true])) w' := fun v w' h1 h2 => by
        rw [List.drop_of_length_le (by rw [bs_len]; omega), chars_nil] at hc
        simp only [Option.map_some, List.append_nil] at hc
        refine ⟨fun h => (by rw [hc] at h; cases h), fun cs h => ?_, h2⟩
        rw [hc] at h
        obtain rfl := Option.some.inj h
        exact ⟨v, rfl, h1⟩
      have HP := Lib.hid hpost
      clear hpost hc
      go_wp2
      go_ret2
      exact HP.out _ _ hown hb

theorem rrunes_good (s : ByteArray) (w : World) (hs : s.size ≤ 1099511627776) (cs : List Int) (hc : chars (bs s) = some cs) :
    Calls Try.prog 40 #[.string s] w fun e w' => ∃ a cap, e = .returned (.tuple #[.slice a cs.length cap, .bool true]) ∧ w'.ownsRow w.heap.size 21 1 (.slice a cs.length cap) cs.length (ints cs) ∧ cs.length ≤ cap ∧ Below w.heap.size w w' := by
  refine (rrunes_any s w hs).mono ?_
  rintro e w' ⟨_, h, hb⟩
  obtain ⟨v, rfl, hown⟩ := h cs hc
  obtain ⟨a, len, cap, rfl, hl, hlc, hcm, _⟩ := own_reads hown
  rw [List.length_map] at hl
  subst hl
  exact ⟨a, cap, rfl, hown, hlc, hb⟩

theorem rrunes_bad (s : ByteArray) (w : World) (hs : s.size ≤ 1099511627776) (hc : chars (bs s) = none) :
    Calls Try.prog 40 #[.string s] w fun e w' => e = .returned (.tuple #[.slice none 0 0, .bool false]) ∧ Below w.heap.size w w' := by
  refine (rrunes_any s w hs).mono ?_
  rintro e w' ⟨h, _, hb⟩
  exact ⟨h hc, hb⟩

theorem rcount_any (s : ByteArray) (w : World) (hs : s.size ≤ 1099511627776) :
    Calls Try.prog 25 #[.string s] w fun e w' => e = .returned (.int .i64 (count (bs s))) ∧ Below w.heap.size w w' := by
  cases hc : chars (bs s) with
  | none =>
    have hcn := Lib.hid (count_none hc)
    go_enter Try.func25, Try.ntmps25
    go_wp2_with (go_at_call 40; refine (rrunes_bad _ _ hs hc).mono ?_; clear hc; rintro e w' ⟨rfl, hb⟩)
    go_ret
    exact ⟨ret_int hcn.out.symm, hb⟩
  | some cs =>
    have hcn := Lib.hid (count_some hc)
    have HC := Lib.hid hc; clear hc
    go_enter Try.func25, Try.ntmps25
    go_wp2_with (go_at_call 40; refine (rrunes_good _ _ hs cs HC.out).mono ?_; rintro e w' ⟨a, cap, rfl, hown, hcap, hb⟩)
    go_ret
    exact ⟨ret_int hcn.out.symm, hb⟩

end Go.Proofs.Ytmbccolkgephgaa.Utf
