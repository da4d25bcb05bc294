/-
  Contract of utf.Runes: the characters of a string, in new memory.
-/
import Derived.Test.YtmbccolkgephgaaUtfB
set_option linter.unusedVariables false
set_option linter.unusedSimpArgs false
set_option maxRecDepth 100000
namespace Go.Proofs.Ytmbccolkgephgaa.Utf
open Go Go.RowKit Go.Proofs.Ytmbccolkgephgaa.Kit

theorem info_i32 : (Try.prog.info? 21).map (fun i => (i.zero, i.size, i.bytes)) = some (some (.int .i32 0), 1, 4) := by kernel_rfl

abbrev ints (cs : List Int) : List Value := cs.map (Value.int .i32)

theorem chars_le {l : List UInt8} {cs : List Int} (h : chars l = some cs) : cs.length ≤ l.length := by
  obtain ⟨h1, h2⟩ := chars_some h
  rw [h2]; exact encs_length_ge h1

theorem count_some {l : List UInt8} {cs : List Int} (h : chars l = some cs) : count l = cs.length := by unfold count; rw [h]
theorem count_none {l : List UInt8} (h : chars l = none) : count l = -1 := by unfold count; rw [h]

theorem runes_bad (s : ByteArray) (w : World) (hs : s.size ≤ 1099511627776) (hc : chars (bs s) = none) :
    Calls Try.prog 72 #[.string s] w fun e w' => e = .returned (.tuple #[.slice none 0 0, .bool false]) ∧ Below w.heap.size w w' := by
  have hcn := count_none hc
  go_enter Try.func72, Try.ntmps72
  go_wp2_with (go_at_call 41; refine (count_any _ _ (by unfold maxLen; omega)).mono ?_; rw [hcn]; rintro e w' ⟨rfl, hb⟩)
  go_ret2
  exact ⟨rfl, hb⟩

theorem runes_good (s : ByteArray) (w : World) (hs : s.size ≤ 1099511627776) (cs : List Int) (hc : chars (bs s) = some cs) :
    Calls Try.prog 72 #[.string s] w fun e w' => ∃ v, e = .returned (.tuple #[v, .bool true]) ∧ w'.ownsRow w.heap.size 21 1 v cs.length (ints cs) ∧ v ≠ .slice none 0 0 ∧ Below w.heap.size w w' := by
  have hcn := count_some hc
  have hle := chars_le hc
  rw [bs_len] at hle
  have hc0 := Lib.hid hc; clear hc
  obtain ⟨i0, hi, hz0, hz1, hz2⟩ := info_parts info_i32
  go_enter Try.func72, Try.ntmps72
  go_wp2_with (first
    | (go_at_call 41; refine (count_any _ _ (by unfold maxLen; omega)).mono ?_; rw [hcn]; rintro e w1 ⟨rfl, hb1⟩)
    | (at_make; refine wpList_make_own _ rfl _ _ _ rfl w.heap.size 21 i0 (.int .i32 0) 1 Try.underlying67 hi hz0 hz1 _ _ _ cs.length rfl rfl rfl (by rw [hz2]; omega) (by unfold maxLen; omega) hb1.size ?_; intro w2 hown2 hg2))
  have hb2 := hb1.grown hg2 hb1.size (fun k hk => by cases hk)
  obtain ⟨K, hK⟩ : ∃ K, w2.heap.size = K := ⟨_, rfl⟩
  have hKw : w.heap.size ≤ K := by rw [← hK]; exact hb2.size
  have hit0 : (w2.iter s 0).heap[K]? = some (.stringIter s 0) := by rw [← hK]; exact World.iter_heap w2 s 0
  have hown3 : (w2.iter s 0).ownsRow w.heap.size 21 1 (.slice (some ⟨w1.heap.size, 0, none⟩) 0 cs.length) 0 [] := hown2.alloc _
  have hb3 : Below w.heap.size w (w2.iter s 0) := hb2.alloc hb2.size _
  rw [hK]
  obtain ⟨W, hW⟩ : ∃ W, w2.iter s 0 = W := ⟨_, rfl⟩
  rw [hW] at hit0 hown3 hb3 ⊢
  clear hW hK hown2 hg2 hb1 hb2
  go_loopw [5] (fun l wr => ∃ (pos : Nat) (pre : List Int), wr.ownsRow w.heap.size 21 1 l pre.length (ints pre) ∧ Hid (l ≠ .slice none 0 0) ∧ wr.heap[K]? = some (.stringIter s pos) ∧ Below w.heap.size w wr ∧ pos ≤ s.size ∧ pre.length ≤ pos ∧ chars (bs s) = (chars ((bs s).drop pos)).map (pre ++ ·)) (fun _ wr => s.size - wr.iterPos K)
  case atStart => exact ⟨0, [], hown3, Lib.hid (by simp), hit0, hb3, by omega, Nat.le_refl _, by rw [List.drop_zero]; exact map_nil _⟩
  case round =>
    obtain ⟨pos, pre, hown, hnn, hit, hb, hps, hpl, hc⟩ := hrel
    have hm := iterPos_of hit
    by_cases hp : pos < s.size
    · cases hd : dec1 ((bs s).drop pos) with
      | none => exfalso; rw [hc, chars_bad (drop_ne hp) hd] at hc0; cases hc0.out
      | some p =>
        obtain ⟨c, n⟩ := p
        have hdp := dec1_pos hd
        rw [List.length_drop, bs_len] at hdp
        have hvv := (valid_iff c).1 (dec1_some hd).1
        have hnx : ∀ ty, (Instr.next (.pointer (some ⟨K, 0, none⟩)) true ty).run Try.prog wr = .ok (.tuple #[.bool true, .int .i64 pos, .int .i32 c]) (wr.iterAt K s (pos + n)) := fun ty => by
          have := Lib.run_next_any_at (P := Try.prog) wr K s pos ty hit hp; rw [dec_good hp hd] at this; simp only [Int.toNat_of_nonneg (show 0 ≤ c by omega)] at this; exact this
        have hown4 := own_iterAt hown hit (pos + n)
        have hit4 := Lib.iterAt_heap wr K s pos (pos + n) hit
        have hb4 := Lib.below_iterAt hb (k := K) hKw s (pos + n)
        have hc2 := Lib.hid (runes_len hc hd)
        obtain ⟨W4, hW4⟩ : ∃ W4, wr.iterAt K s (pos + n) = W4 := ⟨_, rfl⟩
        rw [hW4] at hown4 hit4 hb4
        simp only [hW4] at hnx
        clear hd hc hown hit hb hW4
        go_wp2_with (at_builtin; refine wpList_append_own _ rfl _ _ _ rfl w.heap.size 21 i0 (.int .i32 0) 1 4 Try.underlying67 hi hz0 hz1 hz2 rfl (by decide) _ pre.length (ints pre) rfl (hown4.alloc _) ⟨W4.heap.size, 0, none⟩ 1 1 [.int .i32 c] rfl rfl (cell_one_new _ _ _) ?c2 ?c3 ?c4 ?c5 ?_)
        case c2 => simp [Value.oneCell']
        case c3 => unfold maxLen; omega
        case c4 => omega
        case c5 => have := hb4.size; simp; omega
        intro v' w5 hown5 hg5 hiff
        have hnn5 : Hid (v' ≠ .slice none 0 0) := by first | exact hiff | exact fun h => hnn.out (hiff.1 h).1
        clear hiff
        have hit5 := iter_grown (hown4.alloc _) (iter_alloc hit4 _) hg5
        have hb5 := below_own (hb4.alloc hb4.size _) (hown4.alloc _) (Nat.le_refl _) (by have := hb4.size; simp; omega) hg5
        have hown6 : w5.ownsRow w.heap.size 21 1 v' (pre ++ [c]).length (ints (pre ++ [c])) := by simpa using hown5
        clear hown5 hg5 hit4 hb4 hown4 hnx
        go_wp2
        go_roundw
        case rel => exact ⟨pos + n, pre ++ [c], hown6, hnn5, hit5, hb5, by omega, by simp; omega, hc2.out⟩
        case measure => rw [iterPos_of hit5, hm]; omega
    · have hnx : ∀ ty, (Instr.next (.pointer (some ⟨K, 0, none⟩)) true ty).run Try.prog wr = _ := fun ty => Lib.run_next_end_at (P := Try.prog) wr K s pos ty hit hp
      have hpre : pre = cs := by
        have h0 := hc0.out
        rw [hc, List.drop_of_length_le (by rw [bs_len]; omega), chars_nil] at h0
        simpa using h0
      subst hpre
      clear hc hm
      go_wp2
      go_ret2
      exact ⟨_, rfl, hown, hnn.out, hb⟩

end Go.Proofs.Ytmbccolkgephgaa.Utf
