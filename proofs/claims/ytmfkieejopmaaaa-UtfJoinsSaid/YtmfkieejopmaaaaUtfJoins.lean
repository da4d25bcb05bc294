/-
  UtfJoins returns true for all pairs of strings: the characters of two strings, one after the other, are those of both. Conditions: none.
-/
import Derived.Test.YtmfkieejopmaaaaUtfL
import Derived.Test.YtmfkieejopmaaaaKit2
import Derived.OpenShut
import Derived.ShutString
import Derived.ChangeOld
set_option linter.unusedVariables false
set_option linter.unusedSimpArgs false
namespace Go.Proofs.Ytmfkieejopmaaaa.utfJoins
open Go Go.RowKit Go.ChangeShapes Go.WideShapes Go.ChangeAt Go.Proofs.Ytmfkieejopmaaaa Go.Proofs.Ytmfkieejopmaaaa.Kit
open Go.ChangeMaps (open_string shut_string)
open Go.Proofs.Ytmfkieejopmaaaa.Utf

theorem valid_is (s : ByteArray) (b : Bool) (w : World) (hs : s.size ≤ 3000) (h : (chars (bs s)).isSome = b) : Calls Try.prog 14 #[.string s] w fun e w' => e = .returned (.bool b) ∧ Below w.heap.size w w' := by
  have := valid_any s w (by unfold maxLen; omega)
  rw [h] at this
  exact this
theorem count_is (s : ByteArray) (n : Int) (w : World) (hs : s.size ≤ 3000) (h : count (bs s) = n) : Calls Try.prog 15 #[.string s] w fun e w' => e = .returned (.int .i64 n) ∧ Below w.heap.size w w' := by
  have := count_any s w (by unfold maxLen; omega)
  rw [h] at this
  exact this

/-- utf.Runes, whatever the string: what its two results are. -/
theorem runes_either (s : ByteArray) (w : World) (hs : s.size ≤ 3000) : Calls Try.prog 11 #[.string s] w fun e w' => ∃ v, e = .returned (.tuple #[v, .bool (chars (bs s)).isSome]) ∧ Below w.heap.size w w' := by
  cases hc : chars (bs s) with
  | none => exact (runes_bad s w (by omega) hc).mono fun e w' h => ⟨_, h.1, h.2⟩
  | some cs => exact (runes_good s w (by omega) cs hc).mono fun e w' h => by obtain ⟨v, h1, h2, h3, h4⟩ := h; exact ⟨v, h1, h4⟩

theorem walk_not (s t : ByteArray) (w : World) (hs : s.size ≤ 1500) (ht : t.size ≤ 1500) (x y : Bool) (hx : (chars (bs s)).isSome = x) (hy : (chars (bs t)).isSome = y) (hxy : x = false ∨ y = false) :
    Calls Try.prog 7 #[.string s, .string t] w fun e w' => e = .returned (.bool true) ∧ Below w.heap.size w w' := by
  have R1 := Lib.hid (fun w => runes_either s w (by omega))
  have R2 := Lib.hid (fun w => runes_either t w (by omega))
  rw [hx] at R1
  rw [hy] at R2
  have V1 := Lib.hid (fun w => valid_is s x w (by omega) hx)
  have V2 := Lib.hid (fun w => valid_is t y w (by omega) hy)
  clear hx hy
  cases x <;> cases y <;> first | (exfalso; simp at hxy; done) | skip
  all_goals
    clear hxy
    go_enter Try.func7, Try.ntmps7
    have hB : Below w.heap.size w w := Below.refl _ _
    go_wp2_with (first
      | (go_at_call 11; (with_reducible refine (R1.out _).mono ?_); rintro e w1 ⟨v, rfl, hb⟩; have hB := hB.trans (hb.mono hB.size); clear hb)
      | (go_at_call 11; (with_reducible refine (R2.out _).mono ?_); rintro e w1 ⟨v, rfl, hb⟩; have hB := hB.trans (hb.mono hB.size); clear hb)
      | (go_at_call 14; (with_reducible refine (V1.out _).mono ?_); rintro e w1 ⟨rfl, hb⟩; have hB := hB.trans (hb.mono hB.size); clear hb)
      | (go_at_call 14; (with_reducible refine (V2.out _).mono ?_); rintro e w1 ⟨rfl, hb⟩; have hB := hB.trans (hb.mono hB.size); clear hb)
      | (go_at_call 17; refine (works_any _).mono ?_; rintro e w1 ⟨rfl, hb⟩; have hB := hB.trans (hb.mono hB.size); clear hb))
    go_ret
    exact ⟨rfl, hB⟩

theorem joined {s t : ByteArray} {cs ds : List Int} (hc : chars (bs s) = some cs) (hd : chars (bs t) = some ds) : chars (bs (s ++ t)) = some (cs ++ ds) := by
  obtain ⟨h1, h2⟩ := chars_some hc
  have e : bs (s ++ t) = bs s ++ bs t := by unfold bs; rw [ByteArray.data_append, Array.toList_append]
  rw [e, h2, chars_encs_append h1, hd]; rfl

set_option maxHeartbeats 800000 in
theorem walk_both (s t : ByteArray) (w : World) (hs : s.size ≤ 1500) (ht : t.size ≤ 1500) (cs ds : List Int) (hc : chars (bs s) = some cs) (hd : chars (bs t) = some ds) :
    Calls Try.prog 7 #[.string s, .string t] w fun e w' => e = .returned (.bool true) ∧ Below w.heap.size w w' := by
  have hj := joined hc hd
  have hel : (cs ++ ds).length = cs.length + ds.length := List.length_append
  have hmap : ints cs ++ ints ds = ints (cs ++ ds) := List.map_append.symm
  obtain ⟨es, hes⟩ : ∃ es, cs ++ ds = es := ⟨_, rfl⟩
  rw [hes] at hj hel hmap
  clear hes
  have hsz : (s ++ t).size ≤ 3000 := by rw [ByteArray.size_append]; omega
  have hlc := chars_le hc
  have hld := chars_le hd
  rw [bs_len] at hlc hld
  have R1 := Lib.hid (fun w => runes_some s w (by omega) cs hc)
  have R2 := Lib.hid (fun w => runes_some t w (by omega) ds hd)
  have R3 := Lib.hid (fun w => runes_some (s ++ t) w (by omega) es hj)
  have C1 := Lib.hid (fun w => count_is s cs.length w (by omega) (count_some hc))
  have C2 := Lib.hid (fun w => count_is t ds.length w (by omega) (count_some hd))
  have C3 := Lib.hid (fun w => count_is (s ++ t) (cs.length + ds.length : Int) w (by omega) (by rw [count_some hj]; omega))
  obtain ⟨i0, hi, hz0, hz1, hz2⟩ := info_parts info_i32
  have HE := Lib.hid hel; clear hel
  have HM := Lib.hid hmap; clear hmap
  clear hj hc hd
  go_enter Try.func7, Try.ntmps7
  go_wp2_with (first
    | (go_at_call 11; (with_reducible refine (R1.out _).mono ?_); rintro e w1 ⟨g1, cap1, rfl, hown1, hcap1, hb1⟩)
    | (go_at_call 11; (with_reducible refine (R2.out _).mono ?_); rintro e w2 ⟨g2, cap2, rfl, hown2, hcap2, hb2⟩)
    | (go_at_call 11; (with_reducible refine (R3.out _).mono ?_); rintro e w3 ⟨g3, cap3, rfl, hown3, hcap3, hb3⟩)
    | (at_builtin; refine wpList_append_own_g _ rfl _ _ _ rfl w.heap.size 21 i0 (.int .i32 0) 1 4 Try.underlying22 hi hz0 hz1 hz2 rfl (by decide) _ cs.length (ints cs) rfl (own_later (own_later hown1 hb2) hb3) ⟨g2, 0, none⟩ ds.length cap2 (ints ds) rfl ?c1 ((own_later hown2 hb3).cells (g := g2) rfl) (ints_oneCell _ _) ?c3 ?c4 ?c5 ?_))
  case c1 => simp
  case c3 => unfold maxLen; omega
  case c4 => omega
  case c5 =>
    have s1 := hb1.size
    have s2 := hb2.size
    have s3 := hb3.size
    omega
  intro v' w5 hown5 hg5 _
  have s1 := hb1.size
  have s2 := hb2.size
  have s3 := hb3.size
  have hb13 := (hb1.trans (hb2.mono s1)).trans (hb3.mono (by omega))
  have hb5 := below_own hb13 (own_later (own_later hown1 hb2) hb3) (Nat.le_refl _) (by omega) hg5
  have hr4 : Reads w5 v' (ints es) := by
    have := own_reads hown5
    rwa [HM.out] at this
  have hr3 : Reads w5 (.slice (some ⟨g3, 0, none⟩) es.length cap3) (ints es) := by
    have l1 := hown1.lt g1 rfl
    have l3 := hown3.lt g3 rfl
    exact own_reads (hown3.kept hg5 (.inr (by simp [Value.ownBlock]; omega)))
  clear hown1 hown2 hown3 hown5 hg5
  go_wp2_with (first
    | (go_at_call 13; refine (ex_same _ _ _ es hr3 hr4).mono ?_; rintro e w6 ⟨rfl, hb6⟩)
    | (go_at_call 15; (with_reducible refine (C3.out _).mono ?_); rintro e w7 ⟨rfl, hb7⟩)
    | (go_at_call 15; (with_reducible refine (C1.out _).mono ?_); rintro e w8 ⟨rfl, hb8⟩)
    | (go_at_call 15; (with_reducible refine (C2.out _).mono ?_); rintro e w9 ⟨rfl, hb9⟩)
    | (go_at_call 17; refine (works_any _).mono ?_; rintro e w10 ⟨rfl, hb10⟩))
  go_ret
  have s5 := hb5.size
  have s6 := hb6.size
  have s7 := hb7.size
  have s8 := hb8.size
  have s9 := hb9.size
  exact ⟨rfl, ((((hb5.trans (hb6.mono s5)).trans (hb7.mono (by omega))).trans (hb8.mono (by omega))).trans (hb9.mono (by omega))).trans (hb10.mono (by omega))⟩

theorem walk (s t : ByteArray) (w : World) (w0 : s.size ≤ maxLen) (w1 : t.size ≤ maxLen) :
    Calls Try.prog 7 #[.string s, .string t] w fun e w' => e = .returned (.bool true) ∧ Below w.heap.size w w' := by
  unfold maxLen at w0 w1
  by_cases hs : s.size ≤ 1500
  · by_cases ht : t.size ≤ 1500
    · cases hc : chars (bs s) with
      | none => exact walk_not s t w hs ht false _ (by rw [hc]; rfl) rfl (.inl rfl)
      | some cs =>
        cases hd : chars (bs t) with
        | none => exact walk_not s t w hs ht _ false rfl (by rw [hd]; rfl) (.inr rfl)
        | some ds => exact walk_both s t w hs ht cs ds hc hd
    · go_enter Try.func7, Try.ntmps7
      go_wp2
      go_ret
      exact ⟨rfl, Below.refl _ _⟩
  · go_enter Try.func7, Try.ntmps7
    go_wp2
    go_ret
    exact ⟨rfl, Below.refl _ _⟩
theorem own : ownKnob Try.prog.godebug = none := by kernel_rfl
theorem laidOut : laidOutB Try.prog = true := by kernel_rfl

set_option maxRecDepth 100000 in
theorem lifted (os : Os) (started : os.Started) (H : Type) (enc : TypeId × Value → H) :
    ReturnsInHanded {} Try.checked os 7 .any (Rows.utfJoinsSpec.pre6 enc Try.prog Try.f7 Rows.utfJoinsRow.domain false) (Rows.utfJoinsSpec.post enc Try.prog Try.f7 false true false false) := by
  refine returnsInHanded_of_change (C := Try.checked) own started (by kernel_rfl) Try.func7
    (ChangeSpec.witness6 (enc := enc) (C := Try.checked) false ⟨#[], #[.string ByteArray.empty, .string ByteArray.empty], []⟩ 8 (by kernel_rfl) (by kernel_rfl) (by kernel_rfl) (by kernel_rfl)) ?_
  intro W base args ds gs before hval0 hW hcnd _
  have hval : ∀ (j : Nat) t v, Try.f7.params[j]? = some t → args[j]? = some v → Value.okWide Try.prog W .any base t v := hval0
  have hW' := hW
  obtain ⟨p, q, hA0, hV, rfl, hfz, hnd⟩ := hW
  have hA : DataW.TrodAll enc Try.prog W 0 (fun _ => true) true Try.f7.params.toList args.toList ds p := hA0
  rw [Try.params7] at hA hval
  obtain ⟨v0, vs0, d0, ds0, p0, q0, hargs, rfl, rfl, h0, r0⟩ := trodAll_cons hA
  obtain ⟨v1, vs1, d1, ds1, p1, q1, rfl, rfl, rfl, h1, r1⟩ := trodAll_cons r0
  obtain ⟨rfl, rfl, rfl⟩ := trodAll_nil r1
  obtain rfl : args = #[v0, v1] := by cases args; simp_all
  obtain ⟨rfl, rfl⟩ := trodVars_none hV
  obtain ⟨a0, rfl, rfl, rfl, w0⟩ := open_string Try.underlying9 (hval 0 9 v0 rfl rfl) h0
  obtain ⟨a1, rfl, rfl, rfl, w1⟩ := open_string Try.underlying9 (hval 1 9 v1 rfl rfl) h1
  clear hA0 hval0
  refine (walk a0 a1 W w0 w1).mono fun e W' ⟨he, bel⟩ => ?_
  subst he
  exact ⟨_, rfl, _, _, _, [], _, [], hW', trodAll_mk1 (shut_bool Try.underlying4 _), (trodAll_cons_mk (shut_string Try.underlying9 w0) (trodAll_cons_mk (shut_string Try.underlying9 w1) trodAll_mk0)), rfl, bel.frame _, fun h => by cases h⟩

theorem over : Rows.utfJoinsRow.holds Try.pinned (OpenSpec.ofChange Rows.utfJoinsSpec) :=
  OpenClaim.holds_of_wide 7 Try.f7 rfl rfl rfl rfl rfl rfl rfl ⟨rfl, rfl, rfl, rfl, rfl⟩ rfl rfl rfl rfl rfl (by kernel_rfl) Try.func7 (by kernel_rfl)
    (of_decide_eq_true (by kernel_rfl)) (by unfold Func.isWrapper; first | (rw [if_pos (by decide +kernel)]; kernel_rfl) | (rw [if_neg (by decide +kernel)]; exact ⟨rfl, rfl⟩))
    (fun os started H enc _ => lifted os started H enc)

theorem proved : Rows.UtfJoinsSaid := over
end Go.Proofs.Ytmfkieejopmaaaa.utfJoins
