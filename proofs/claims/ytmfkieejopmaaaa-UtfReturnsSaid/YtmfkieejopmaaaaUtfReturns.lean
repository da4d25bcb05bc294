/-
  UtfReturns returns true for every string and every list of numbers: characters that are written are read again, and the other way round, and both lists are new. Conditions: none.
-/
import Derived.Test.YtmfkieejopmaaaaUtfL
import Derived.Test.YtmfkieejopmaaaaKit2
import Derived.OpenShut
import Derived.ShutString
import Derived.ChangeOld
set_option linter.unusedVariables false
set_option linter.unusedSimpArgs false
namespace Go.Proofs.Ytmfkieejopmaaaa.utfReturns
open Go Go.RowKit Go.ChangeShapes Go.WideShapes Go.ChangeAt Go.Proofs.Ytmfkieejopmaaaa Go.Proofs.Ytmfkieejopmaaaa.Kit
open Go.ChangeMaps (open_string shut_string)
open Go.Proofs.Ytmfkieejopmaaaa.Utf

theorem valid_is (s : ByteArray) (b : Bool) (w : World) (hs : s.size ≤ 3000) (h : (chars (bs s)).isSome = b) : Calls Try.prog 14 #[.string s] w fun e w' => e = .returned (.bool b) ∧ Below w.heap.size w w' := by
  have := valid_any s w (by unfold maxLen; omega)
  rw [h] at this
  exact this

theorem text_runes (l : List Int) (hl : l.length ≤ 1000) (w : World) : Calls Try.prog 11 #[.string (textB l)] w fun e w' => ∃ a cap, e = .returned (.tuple #[.slice a (l.filter validRune).length cap, .bool true]) ∧ w'.ownsRow w.heap.size 21 1 (.slice a (l.filter validRune).length cap) (l.filter validRune).length (ints (l.filter validRune)) ∧ (l.filter validRune).length ≤ cap ∧ Below w.heap.size w w' := by
  have hv : ∀ c ∈ l.filter validRune, validRune c = true := fun c h => (List.mem_filter.1 h).2
  refine runes_slice (textB l) w ?_ _ (by rw [textB_bytes]; exact chars_encs hv)
  have h1 := encs_length_le hv
  have h2 := List.length_filter_le validRune l
  rw [← textB_bytes, bs_len] at h1
  omega

theorem text_back {s : ByteArray} {cs : List Int} (hc : chars (bs s) = some cs) : textB cs = s := by
  obtain ⟨h1, h2⟩ := chars_some hc
  apply ba_ext
  refine (textB_bytes cs).trans ?_
  rw [List.filter_eq_self.2 h1]
  exact h2.symm

set_option maxHeartbeats 1000000 in
theorem walk_none (s : ByteArray) (l : List Int) (a1 : Option Addr) (len1 cap1 : Nat) (w : World) (hs : s.size ≤ 3000) (hl : l.length ≤ 1000) (hlen : len1 = l.length)
    (r0 : Reads w (.slice a1 len1 cap1) (ints l)) (hc : chars (bs s) = none) :
    Calls Try.prog 6 #[.string s, .slice a1 len1 cap1] w fun e w' => e = .returned (.bool true) ∧ Below w.heap.size w w' := by
  subst hlen
  obtain ⟨i0, hi, hz0, hz1, hz2⟩ := info_parts info_i32
  have RT := Lib.hid (fun w => text_runes l hl w)
  have R1 := Lib.hid (fun w => runes_bad s w (by omega) hc)
  have V1 := Lib.hid (fun w => valid_is s false w hs (by rw [hc]; rfl))
  have hr : (a1 = none ∧ l.length = 0 ∧ cap1 = 0) ∨ (∃ x, a1 = some x ∧ l.length = 0) ∨ ∃ b off, a1 = some ⟨b, off, none⟩ ∧ b < w.heap.size ∧ ∀ i x, (ints l)[i]? = some x → w.cell? ⟨b, off + i, none⟩ = some x := by
    obtain ⟨a, n, c, e, h1, h2, h3, h4⟩ := r0
    cases e; exact h4
  clear hc
  go_enter Try.func6, Try.ntmps6
  go_wp2_with (first
    | (go_at_call 11; (with_reducible refine (R1.out _).mono ?_); rintro e w1 ⟨rfl, hb1⟩)
    | (go_at_call 14; (with_reducible refine (V1.out _).mono ?_); rintro e W ⟨rfl, hb2⟩))
  refine wp_loop_rounds 1 ?_
  rw [rounds_succ]
  go_wp2
  have hB := hb1.trans (hb2.mono hb1.size)
  clear hb1 hb2
  go_loopw [8, 9] (fun want i wr => ∃ k : Nat, k ≤ l.length ∧ i = .int .i64 k ∧ wr.ownsRow w.heap.size 21 1 want ((l.take k).filter validRune).length (ints ((l.take k).filter validRune)) ∧ Below w.heap.size w wr) (fun _ i _ => l.length - (intOf i).toNat)
  case atStart => exact ⟨0, Nat.zero_le _, rfl, by simpa using World.ownsRow_nil W _ _ _, hB⟩
  case round =>
    obtain ⟨k, hk, rfl, hown, hb⟩ := hrel
    by_cases hlt : k < l.length
    · rcases hr with ⟨_, h0, _⟩ | ⟨_, _, h0⟩ | ⟨b, off, rfl, hbl, hcell⟩
      · omega
      · omega
      have hc1 : wr.cell? ⟨b, off + k, none⟩ = some (.int .i32 l[k]) := by
        rw [hb.cell (p := ⟨b, off + k, none⟩) hbl]
        exact hcell k _ (by rw [List.getElem?_map, List.getElem?_eq_getElem hlt]; rfl)
      have hft := Lib.hid (filter_take l k hlt)
      have hfl := filter_le l k
      obtain ⟨c, hc⟩ : ∃ c, l[k] = c := ⟨_, rfl⟩
      rw [hc] at hc1 hft
      clear hcell hc r0
      by_cases g0 : 0 ≤ c <;> by_cases g1 : c < 55296 <;> by_cases g2 : 57343 < c <;> by_cases g3 : c ≤ 1114111 <;> first | (exfalso; omega) | skip
      all_goals
        first
        | (have hvc : validRune c = true := (valid_iff c).2 (by omega)
           rw [hvc] at hft
           clear hvc
           go_wp2_with (at_builtin; refine wpList_append_own _ rfl _ _ _ rfl w.heap.size 21 i0 (.int .i32 0) 1 4 Try.underlying22 hi hz0 hz1 hz2 rfl (by decide) _ _ (ints ((l.take k).filter validRune)) rfl (hown.alloc _) ⟨wr.heap.size, 0, none⟩ 1 1 [.int .i32 c] rfl rfl (cell_one_new _ _ _) ?c2 ?c3 ?c4 ?c5 ?_)
           case c2 => simp [Value.oneCell']
           case c3 => unfold maxLen; omega
           case c4 => omega
           case c5 => have := hb.size; simp; omega
           intro v' w5 hown5 hg5 _
           have hb5 := below_own (hb.alloc hb.size _) (hown.alloc _) (Nat.le_refl _) (by have := hb.size; simp; omega) hg5
           have hown6 : w5.ownsRow w.heap.size 21 1 v' ((l.take (k + 1)).filter validRune).length (ints ((l.take (k + 1)).filter validRune)) := by rw [hft.out]; simpa using hown5
           clear hown5 hg5 hown hb hc1
           go_wp2
           go_roundw
           case rel => exact ⟨k + 1, by omega, by go_num, hown6, hb5⟩
           case measure => simp [intOf]; omega)
        | (have hvc : validRune c = false := by
             rw [Bool.eq_false_iff]; intro e; have := (valid_iff c).1 e; omega
           rw [hvc] at hft
           clear hvc
           go_wp2
           go_roundw
           case rel => exact ⟨k + 1, by omega, by go_num, by rw [hft.out]; simpa using hown, hb⟩
           case measure => simp [intOf]; omega)
    · have e1 : l.take k = l := List.take_of_length_le (by omega)
      rw [e1] at hown
      have hr1 := r0.later hb
      clear r0 hr e1
      go_wp2_with (first
        | (go_at_call 18; refine (text_any l _ _ (by omega) hr1).mono ?_; rintro e w6 ⟨rfl, hb6⟩)
        | (go_at_call 11; (with_reducible refine (RT.out _).mono ?_); rintro e w7 ⟨g7, cap7, rfl, hown7, hcap7, hb7⟩)
        | (go_at_call 13; refine (ex_same _ _ _ (l.filter validRune) (own_reads hown7) (own_reads (own_later (own_later hown hb6) hb7))).mono ?_; rintro e w8 ⟨rfl, hb8⟩)
        | (go_at_call 17; refine (works_any _).mono ?_; rintro e w9 ⟨rfl, hb9⟩))
      go_ret
      have s5 := hb.size
      have s6 := hb6.size
      have s7 := hb7.size
      have s8 := hb8.size
      exact ⟨rfl, (((hb.trans (hb6.mono s5)).trans (hb7.mono (by omega))).trans (hb8.mono (by omega))).trans (hb9.mono (by omega))⟩

set_option maxHeartbeats 1000000 in
theorem walk_some (s : ByteArray) (l : List Int) (a1 : Option Addr) (len1 cap1 : Nat) (w : World) (hs : s.size ≤ 3000) (hl : l.length ≤ 1000) (hlen : len1 = l.length)
    (r0 : Reads w (.slice a1 len1 cap1) (ints l)) (cs : List Int) (hc : chars (bs s) = some cs) :
    Calls Try.prog 6 #[.string s, .slice a1 len1 cap1] w fun e w' => e = .returned (.bool true) ∧ Below w.heap.size w w' := by
  subst hlen
  obtain ⟨i0, hi, hz0, hz1, hz2⟩ := info_parts info_i32
  have RT := Lib.hid (fun w => text_runes l hl w)
  have hcl := chars_le hc
  rw [bs_len] at hcl
  have R1 := Lib.hid (fun w => runes_some s w (by omega) cs hc)
  have V1 := Lib.hid (fun w => valid_is s true w hs (by rw [hc]; rfl))
  have T1 := Lib.hid (fun v w (h : Reads w v (ints cs)) => text_any cs v w (by omega) h)
  rw [text_back hc] at T1
  have hr : (a1 = none ∧ l.length = 0 ∧ cap1 = 0) ∨ (∃ x, a1 = some x ∧ l.length = 0) ∨ ∃ b off, a1 = some ⟨b, off, none⟩ ∧ b < w.heap.size ∧ ∀ i x, (ints l)[i]? = some x → w.cell? ⟨b, off + i, none⟩ = some x := by
    obtain ⟨a, n, c, e, h1, h2, h3, h4⟩ := r0
    cases e; exact h4
  clear hc
  go_enter Try.func6, Try.ntmps6
  go_wp2_with (first
    | (go_at_call 11; (with_reducible refine (R1.out _).mono ?_); rintro e w1 ⟨g1, cap1, rfl, hown1, hcap1, hb1⟩)
    | (go_at_call 18; refine (T1.out _ _ (own_reads hown1)).mono ?_; rintro e w2 ⟨rfl, hb2⟩)
    | (go_at_call 14; (with_reducible refine (V1.out _).mono ?_); rintro e w3 ⟨rfl, hb3⟩))
  have hown3 := own_later (own_later hown1 hb2) hb3
  have hB0 := (hb1.trans (hb2.mono hb1.size)).trans (hb3.mono (Nat.le_trans hb1.size hb2.size))
  clear hown1 hb1 hb2 hb3
  go_loopw [7] (fun i wr => ∃ (k : Nat) (xs : List Value), k ≤ cs.length ∧ i = .int .i64 k ∧ wr.ownsRow w.heap.size 21 1 (.slice (some ⟨g1, 0, none⟩) cs.length cap1) cs.length xs ∧ Below w.heap.size w wr) (fun i _ => cs.length - (intOf i).toNat)
  case atStart => exact ⟨0, _, Nat.zero_le _, rfl, hown3, hB0⟩
  case round =>
    obtain ⟨k, xs, hk, rfl, hown, hb⟩ := hrel
    by_cases hlt : k < cs.length
    · have hxl := own_lt hown
      have hkx : k < xs.length := by omega
      have hcl1 : wr.cell? ⟨g1, k, none⟩ = some xs[k] := by rw [hown.cellAt k (by omega), List.getElem?_eq_getElem hkx]
      obtain ⟨x0, hx0⟩ : ∃ x0, xs[k] = x0 := ⟨_, rfl⟩
      rw [hx0] at hcl1
      have hfr := hown.frozenAt k
      have hst := hown.stored k (.int .i32 (-1))
      have hgb := hown.lt g1 rfl
      clear hx0
      go_wp2
      go_roundw
      case rel => exact ⟨k + 1, _, by omega, by go_num, hst.1, hb.setCell (p := ⟨g1, k, none⟩) hgb.1 _⟩
      case measure => simp [intOf]; omega
    · obtain ⟨W, rfl⟩ : ∃ W : World, W = wr := ⟨_, rfl⟩
      have hB := hb
      clear hown3 hB0 hb hown
      go_wp2
      go_loopw [8, 9] (fun want i wr => ∃ k : Nat, k ≤ l.length ∧ i = .int .i64 k ∧ wr.ownsRow w.heap.size 21 1 want ((l.take k).filter validRune).length (ints ((l.take k).filter validRune)) ∧ Below w.heap.size w wr) (fun _ i _ => l.length - (intOf i).toNat)
      case atStart => exact ⟨0, Nat.zero_le _, rfl, by simpa using World.ownsRow_nil W _ _ _, hB⟩
      case round =>
        obtain ⟨k, hk, rfl, hown, hb⟩ := hrel
        by_cases hlt : k < l.length
        · rcases hr with ⟨_, h0, _⟩ | ⟨_, _, h0⟩ | ⟨b, off, rfl, hbl, hcell⟩
          · omega
          · omega
          have hc1 : wr.cell? ⟨b, off + k, none⟩ = some (.int .i32 l[k]) := by
            rw [hb.cell (p := ⟨b, off + k, none⟩) hbl]
            exact hcell k _ (by rw [List.getElem?_map, List.getElem?_eq_getElem hlt]; rfl)
          have hft := Lib.hid (filter_take l k hlt)
          have hfl := filter_le l k
          obtain ⟨c, hc⟩ : ∃ c, l[k] = c := ⟨_, rfl⟩
          rw [hc] at hc1 hft
          clear hcell hc r0
          by_cases g0 : 0 ≤ c <;> by_cases g1 : c < 55296 <;> by_cases g2 : 57343 < c <;> by_cases g3 : c ≤ 1114111 <;> first | (exfalso; omega) | skip
          all_goals
            first
            | (have hvc : validRune c = true := (valid_iff c).2 (by omega)
               rw [hvc] at hft
               clear hvc
               go_wp2_with (at_builtin; refine wpList_append_own _ rfl _ _ _ rfl w.heap.size 21 i0 (.int .i32 0) 1 4 Try.underlying22 hi hz0 hz1 hz2 rfl (by decide) _ _ (ints ((l.take k).filter validRune)) rfl (hown.alloc _) ⟨wr.heap.size, 0, none⟩ 1 1 [.int .i32 c] rfl rfl (cell_one_new _ _ _) ?c2 ?c3 ?c4 ?c5 ?_)
               case c2 => simp [Value.oneCell']
               case c3 => unfold maxLen; omega
               case c4 => omega
               case c5 => have := hb.size; simp; omega
               intro v' w5 hown5 hg5 _
               have hb5 := below_own (hb.alloc hb.size _) (hown.alloc _) (Nat.le_refl _) (by have := hb.size; simp; omega) hg5
               have hown6 : w5.ownsRow w.heap.size 21 1 v' ((l.take (k + 1)).filter validRune).length (ints ((l.take (k + 1)).filter validRune)) := by rw [hft.out]; simpa using hown5
               clear hown5 hg5 hown hb hc1
               go_wp2
               go_roundw
               case rel => exact ⟨k + 1, by omega, by go_num, hown6, hb5⟩
               case measure => simp [intOf]; omega)
            | (have hvc : validRune c = false := by
                 rw [Bool.eq_false_iff]; intro e; have := (valid_iff c).1 e; omega
               rw [hvc] at hft
               clear hvc
               go_wp2
               go_roundw
               case rel => exact ⟨k + 1, by omega, by go_num, by rw [hft.out]; simpa using hown, hb⟩
               case measure => simp [intOf]; omega)
        · have e1 : l.take k = l := List.take_of_length_le (by omega)
          rw [e1] at hown
          have hr1 := r0.later hb
          clear r0 hr e1
          go_wp2_with (first
            | (go_at_call 18; refine (text_any l _ _ (by omega) hr1).mono ?_; rintro e w6 ⟨rfl, hb6⟩)
            | (go_at_call 11; (with_reducible refine (RT.out _).mono ?_); rintro e w7 ⟨g7, cap7, rfl, hown7, hcap7, hb7⟩)
            | (go_at_call 13; refine (ex_same _ _ _ (l.filter validRune) (own_reads hown7) (own_reads (own_later (own_later hown hb6) hb7))).mono ?_; rintro e w8 ⟨rfl, hb8⟩)
            | (go_at_call 17; refine (works_any _).mono ?_; rintro e w9 ⟨rfl, hb9⟩))
          go_ret
          have s5 := hb.size
          have s6 := hb6.size
          have s7 := hb7.size
          have s8 := hb8.size
          exact ⟨rfl, (((hb.trans (hb6.mono s5)).trans (hb7.mono (by omega))).trans (hb8.mono (by omega))).trans (hb9.mono (by omega))⟩

theorem walk (s : ByteArray) (a1 : Option Addr) (len1 cap1 : Nat) (z1 : List Int) (w : World) (w0 : s.size ≤ maxLen) (w1 : IsRow .i32 w a1 len1 cap1 z1) :
    Calls Try.prog 6 #[.string s, .slice a1 len1 cap1] w fun e w' => e = .returned (.bool true) ∧ Below w.heap.size w w' := by
  obtain ⟨hl1, hl2, hl3⟩ := w1.len
  unfold maxLen at hl2 w0
  by_cases hs : s.size ≤ 3000
  · by_cases ht : len1 ≤ 1000
    · cases hc : chars (bs s) with
      | none => exact walk_none s (z1.take len1) a1 len1 cap1 w hs (by simp; omega) (by simp; omega) w1.reads hc
      | some cs => exact walk_some s (z1.take len1) a1 len1 cap1 w hs (by simp; omega) (by simp; omega) w1.reads cs hc
    · clear w1
      go_enter Try.func6, Try.ntmps6
      go_wp2
      go_ret
      exact ⟨rfl, Below.refl _ _⟩
  · clear w1
    go_enter Try.func6, Try.ntmps6
    go_wp2
    go_ret
    exact ⟨rfl, Below.refl _ _⟩
theorem own : ownKnob Try.prog.godebug = none := by kernel_rfl
theorem laidOut : laidOutB Try.prog = true := by kernel_rfl

set_option maxRecDepth 100000 in
theorem lifted (os : Os) (started : os.Started) (H : Type) (enc : TypeId × Value → H) :
    ReturnsInHanded {} Try.checked os 6 .any (Rows.utfReturnsSpec.pre6 enc Try.prog Try.f6 Rows.utfReturnsRow.domain false) (Rows.utfReturnsSpec.post enc Try.prog Try.f6 false true false false) := by
  refine returnsInHanded_of_change (C := Try.checked) own started (by kernel_rfl) Try.func6
    (ChangeSpec.witness6 (enc := enc) (C := Try.checked) false ⟨#[], #[.string ByteArray.empty, .slice none 0 0], []⟩ 8 (by kernel_rfl) (by kernel_rfl) (by kernel_rfl) (by kernel_rfl)) ?_
  intro W base args ds gs before hval0 hW hcnd _
  have hval : ∀ (j : Nat) t v, Try.f6.params[j]? = some t → args[j]? = some v → Value.okWide Try.prog W .any base t v := hval0
  have hW' := hW
  obtain ⟨p, q, hA0, hV, rfl, hfz, hnd⟩ := hW
  have hA : DataW.TrodAll enc Try.prog W 0 (fun _ => true) true Try.f6.params.toList args.toList ds p := hA0
  rw [Try.params6] at hA hval
  obtain ⟨v0, vs0, d0, ds0, p0, q0, hargs, rfl, rfl, h0, r0⟩ := trodAll_cons hA
  obtain ⟨v1, vs1, d1, ds1, p1, q1, rfl, rfl, rfl, h1, r1⟩ := trodAll_cons r0
  obtain ⟨rfl, rfl, rfl⟩ := trodAll_nil r1
  obtain rfl : args = #[v0, v1] := by cases args; simp_all
  obtain ⟨rfl, rfl⟩ := trodVars_none hV
  obtain ⟨a0, rfl, rfl, rfl, w0⟩ := open_string Try.underlying9 (hval 0 9 v0 rfl rfl) h0
  obtain ⟨a1, len1, cap1, rfl⟩ := okWide_slice Try.underlying22 (hval 1 22 v1 rfl rfl)
  have k1 := h1
  have lt1 : ∀ x ∈ p1, x.block < W.heap.size := by obtain ⟨m, hm⟩ := k1; exact DataW.trod_lt m _ _ _ hm
  obtain ⟨z1, w1⟩ : ∃ zs, IsRow .i32 W a1 len1 cap1 zs := by
    obtain ⟨fuel, hf⟩ := h1
    rcases open_ints Try.underlying22 Try.underlying21 (by kernel_rfl) hf with ⟨hcs, _⟩ | ⟨x, l, c, zs, hcs, _, hl, hm, hz, _, hcell, hwz⟩
    · simp [Value.cells] at hcs
      obtain ⟨rfl, rfl, rfl⟩ := hcs
      exact ⟨[], .inl ⟨rfl, rfl, rfl, rfl⟩⟩
    · simp [Value.cells] at hcs
      obtain ⟨rfl, rfl, rfl⟩ := hcs
      exact ⟨zs, .inr ⟨_, rfl, hl, hm, by simpa using hz, hcell, hwz⟩⟩
  clear hA0 hval0
  refine (walk a0 a1 len1 cap1 z1 W w0 w1).mono fun e W' ⟨he, bel⟩ => ?_
  subst he
  exact ⟨_, rfl, _, _, _, [], _, [], hW', trodAll_mk1 (shut_bool Try.underlying4 _), (trodAll_cons_mk (shut_string Try.underlying9 w0) (trodAll_cons_mk (Below.trod laidOut (by kernel_rfl) (of_decide_eq_true (by kernel_rfl)) k1 bel lt1) trodAll_mk0)), rfl, bel.frame _, fun h => by cases h⟩

theorem over : Rows.utfReturnsRow.holds Try.pinned (OpenSpec.ofChange Rows.utfReturnsSpec) :=
  OpenClaim.holds_of_wide 6 Try.f6 rfl rfl rfl rfl rfl rfl rfl ⟨rfl, rfl, rfl, rfl, rfl⟩ rfl rfl rfl rfl rfl (by kernel_rfl) Try.func6 (by kernel_rfl)
    (of_decide_eq_true (by kernel_rfl)) (by unfold Func.isWrapper; first | (rw [if_pos (by decide +kernel)]; kernel_rfl) | (rw [if_neg (by decide +kernel)]; exact ⟨rfl, rfl⟩))
    (fun os started H enc _ => lifted os started H enc)

theorem proved : Rows.UtfReturnsSaid := over
end Go.Proofs.Ytmfkieejopmaaaa.utfReturns
