/-
  UtfPieces returns true for every string and all numbers: a string that is cut at two indices consists of the three pieces. Conditions: none.
-/
import Derived.Test.YtmfkieejopmaaaaUtfL
import Derived.Test.YtmfkieejopmaaaaKit2
import Derived.OpenShut
import Derived.ShutString
import Derived.ChangeOld
set_option linter.unusedVariables false
set_option linter.unusedSimpArgs false
namespace Go.Proofs.Ytmfkieejopmaaaa.utfPieces
open Go Go.RowKit Go.ChangeShapes Go.WideShapes Go.ChangeAt Go.Proofs.Ytmfkieejopmaaaa Go.Proofs.Ytmfkieejopmaaaa.Kit
open Go.ChangeMaps (open_string shut_string)
open Go.Proofs.Ytmfkieejopmaaaa.Utf

theorem walk_out (s : ByteArray) (i k : Int) (w : World) (w0 : s.size ≤ maxLen) (h : 3000 < s.size ∨ chars (bs s) = none) :
    Calls Try.prog 8 #[.string s, .int .i64 i, .int .i64 k] w fun e w' => e = .returned (.bool true) ∧ Below w.heap.size w w' := by
  by_cases hs : s.size ≤ 3000
  · have hc : chars (bs s) = none := by rcases h with h | h; · omega
                                        exact h
    have hcn := count_none hc
    clear h hc
    go_enter Try.func8, Try.ntmps8
    go_wp2_with (first
      | (go_at_call 15; refine (count_any _ _ w0).mono ?_; rw [hcn]; rintro e w1 ⟨rfl, hb1⟩)
      | (go_at_call 17; refine (works_any _).mono ?_; rintro e w2 ⟨rfl, hb2⟩))
    go_ret
    exact ⟨rfl, hb1.trans (hb2.mono hb1.size)⟩
  · clear h
    unfold maxLen at w0
    obtain ⟨n, hn⟩ : ∃ n, count (bs s) = n := ⟨_, rfl⟩
    go_enter Try.func8, Try.ntmps8
    go_wp2_with (first
      | (go_at_call 15; refine (count_any _ _ (by unfold maxLen; omega)).mono ?_; rw [hn]; rintro e w1 ⟨rfl, hb1⟩)
      | (go_at_call 17; refine (works_any _).mono ?_; rintro e w2 ⟨rfl, hb2⟩))
    go_ret
    exact ⟨rfl, hb1.trans (hb2.mono hb1.size)⟩

theorem count_is (s : ByteArray) (n : Int) (w : World) (hs : s.size ≤ 3000) (h : count (bs s) = n) : Calls Try.prog 15 #[.string s] w fun e w' => e = .returned (.int .i64 n) ∧ Below w.heap.size w w' := by
  have := count_any s w (by unfold maxLen; omega)
  rw [h] at this
  exact this

theorem idx (i : Int) (n : Nat) (hn : n ≤ 3000) : ∃ I : Nat, I ≤ n ∧ wrap64 ((IntKind.u64.wrap i).tmod (↑n + 1)) = (I : Int) := by
  have h0 : 0 ≤ IntKind.u64.wrap i := by rw [IntKind.wrap_u64]; omega
  have h1 : (IntKind.u64.wrap i).tmod (↑n + 1) = IntKind.u64.wrap i % (↑n + 1) := Int.tmod_eq_emod_of_nonneg h0
  have h2 := Int.emod_nonneg (IntKind.u64.wrap i) (show (n : Int) + 1 ≠ 0 by omega)
  have h3 := Int.emod_lt_of_pos (IntKind.u64.wrap i) (show 0 < (n : Int) + 1 by omega)
  refine ⟨(IntKind.u64.wrap i % (↑n + 1)).toNat, by omega, ?_⟩
  rw [h1, IntWalk.wrap64_in _ ⟨by omega, by omega⟩]
  omega

theorem textB_valid {cs : List Int} (h : ∀ c ∈ cs, validRune c = true) : bs (textB cs) = encs cs := by
  rw [textB_bytes]
  congr 1
  exact List.filter_eq_self.2 h

theorem textB_count {cs : List Int} (h : ∀ c ∈ cs, validRune c = true) : count (bs (textB cs)) = cs.length := by
  rw [textB_valid h]; exact count_some (chars_encs h)

theorem pieces {s : ByteArray} {cs : List Int} (hc : chars (bs s) = some cs) (a b n : Nat) (hab : a ≤ b) (hb : b ≤ n) (hn : cs.length = n) :
    textB ((cs.take a).drop 0) ++ textB ((cs.take b).drop a) ++ textB ((cs.take n).drop b) = s ∧
    count (bs (textB ((cs.take a).drop 0))) = a ∧ count (bs (textB ((cs.take b).drop a))) = (b : Int) - a := by
  obtain ⟨hv, he⟩ := chars_some hc
  have v : ∀ l : List Int, (∀ c ∈ l, c ∈ cs) → ∀ c ∈ l, validRune c = true := fun l h c hc => hv c (h c hc)
  have v1 := v ((cs.take a).drop 0) (fun c h => List.mem_of_mem_take (List.mem_of_mem_drop h))
  have v2 := v ((cs.take b).drop a) (fun c h => List.mem_of_mem_take (List.mem_of_mem_drop h))
  have v3 := v ((cs.take n).drop b) (fun c h => List.mem_of_mem_take (List.mem_of_mem_drop h))
  refine ⟨?_, ?_, ?_⟩
  · apply ba_ext
    rw [ByteArray.data_append, ByteArray.data_append, Array.toList_append, Array.toList_append]
    have e1 := textB_valid v1
    have e2 := textB_valid v2
    have e3 := textB_valid v3
    unfold bs at e1 e2 e3 he
    rw [e1, e2, e3, he, ← encs_append, ← encs_append]
    congr 1
    rw [List.drop_zero, List.take_of_length_le (show cs.length ≤ n by omega)]
    have h1 : cs.take a = (cs.take b).take a := by rw [List.take_take, Nat.min_eq_left hab]
    rw [h1, List.take_append_drop, List.take_append_drop]
  · rw [textB_count v1]; simp; omega
  · rw [textB_count v2]; simp; omega

/-- From the three cuts on. -/
theorem three (s : ByteArray) (w : World) (hs : s.size ≤ 3000) (cs : List Int) (hc : chars (bs s) = some cs) (n a b : Nat) (hn : cs.length = n) (hab : a ≤ b) (hb : b ≤ n) :
    ∃ x y z : ByteArray, x.size ≤ 3000 ∧ y.size ≤ 3000 ∧ z.size ≤ 3000 ∧ x ++ y ++ z = s ∧
    (∀ w, Calls Try.prog 20 #[.string s, .int .i64 0, .int .i64 a] w fun e w' => e = .returned (.tuple #[.string x, .bool true]) ∧ Below w.heap.size w w') ∧
    (∀ w, Calls Try.prog 20 #[.string s, .int .i64 a, .int .i64 b] w fun e w' => e = .returned (.tuple #[.string y, .bool true]) ∧ Below w.heap.size w w') ∧
    (∀ w, Calls Try.prog 20 #[.string s, .int .i64 b, .int .i64 n] w fun e w' => e = .returned (.tuple #[.string z, .bool true]) ∧ Below w.heap.size w w') ∧
    (∀ w, Calls Try.prog 15 #[.string x] w fun e w' => e = .returned (.int .i64 a) ∧ Below w.heap.size w w') ∧
    (∀ w, Calls Try.prog 15 #[.string y] w fun e w' => e = .returned (.int .i64 ((b : Int) - a)) ∧ Below w.heap.size w w') := by
  obtain ⟨h1, h2, h3⟩ := pieces hc a b n hab hb hn
  have hsz := congrArg ByteArray.size h1
  rw [ByteArray.size_append, ByteArray.size_append] at hsz
  refine ⟨_, _, _, by omega, by omega, by omega, h1, fun w => ?_, fun w => ?_, fun w => ?_, fun w => ?_, fun w => ?_⟩
  · exact cut_in s 0 a w (by omega) cs hc (by omega) (by omega)
  · exact cut_in s a b w (by omega) cs hc (by omega) (by omega)
  · exact cut_in s b n w (by omega) cs hc (by omega) (by omega)
  · exact count_is _ _ w (by omega) h2
  · exact count_is _ _ w (by omega) h3

set_option maxHeartbeats 800000 in
theorem walk_at (s : ByteArray) (i k : Int) (w : World) (hs : s.size ≤ 3000) (cs : List Int) (hc : chars (bs s) = some cs) :
    Calls Try.prog 8 #[.string s, .int .i64 i, .int .i64 k] w fun e w' => e = .returned (.bool true) ∧ Below w.heap.size w w' := by
  have hle := chars_le hc
  rw [bs_len] at hle
  have C0 := Lib.hid (fun w => count_is s cs.length w hs (count_some hc))
  obtain ⟨n, hn⟩ : ∃ n, cs.length = n := ⟨_, rfl⟩
  rw [hn] at C0 hle
  obtain ⟨I, hI, eI⟩ := idx i n (by omega)
  obtain ⟨J, hJ, eJ⟩ := idx k n (by omega)
  by_cases hIJ : I ≤ J
  · obtain ⟨x, y, z, hx, hy, hz, hxyz, C1, C2, C3, C4, C5⟩ := three s w hs cs hc n I J hn hIJ hJ
    have H1 := Lib.hid C1; have H2 := Lib.hid C2; have H3 := Lib.hid C3; have H4 := Lib.hid C4; have H5 := Lib.hid C5
    clear C1 C2 C3 C4 C5 hc hn
    go_enter Try.func8, Try.ntmps8
    have hB : Below w.heap.size w w := Below.refl _ _
    go_wp2_with (first
      | (go_at_call 15; (with_reducible refine (C0.out _).mono ?_); rintro e w1 ⟨rfl, hb⟩; have hB := hB.trans (hb.mono hB.size); clear hb)
      | (go_at_call 20; (with_reducible refine (H1.out _).mono ?_); rintro e w1 ⟨rfl, hb⟩; have hB := hB.trans (hb.mono hB.size); clear hb)
      | (go_at_call 20; (with_reducible refine (H2.out _).mono ?_); rintro e w1 ⟨rfl, hb⟩; have hB := hB.trans (hb.mono hB.size); clear hb)
      | (go_at_call 20; (with_reducible refine (H3.out _).mono ?_); rintro e w1 ⟨rfl, hb⟩; have hB := hB.trans (hb.mono hB.size); clear hb)
      | (go_at_call 15; (with_reducible refine (H4.out _).mono ?_); rintro e w1 ⟨rfl, hb⟩; have hB := hB.trans (hb.mono hB.size); clear hb)
      | (go_at_call 15; (with_reducible refine (H5.out _).mono ?_); rintro e w1 ⟨rfl, hb⟩; have hB := hB.trans (hb.mono hB.size); clear hb)
      | (go_at_call 17; refine (works_any _).mono ?_; rintro e w1 ⟨rfl, hb⟩; have hB := hB.trans (hb.mono hB.size); clear hb))
    go_ret
    exact ⟨rfl, hB⟩
  · obtain ⟨x, y, z, hx, hy, hz, hxyz, C1, C2, C3, C4, C5⟩ := three s w hs cs hc n J I hn (by omega) hI
    have H1 := Lib.hid C1; have H2 := Lib.hid C2; have H3 := Lib.hid C3; have H4 := Lib.hid C4; have H5 := Lib.hid C5
    clear C1 C2 C3 C4 C5 hc hn
    go_enter Try.func8, Try.ntmps8
    have hB : Below w.heap.size w w := Below.refl _ _
    go_wp2_with (first
      | (go_at_call 15; (with_reducible refine (C0.out _).mono ?_); rintro e w1 ⟨rfl, hb⟩; have hB := hB.trans (hb.mono hB.size); clear hb)
      | (go_at_call 20; (with_reducible refine (H1.out _).mono ?_); rintro e w1 ⟨rfl, hb⟩; have hB := hB.trans (hb.mono hB.size); clear hb)
      | (go_at_call 20; (with_reducible refine (H2.out _).mono ?_); rintro e w1 ⟨rfl, hb⟩; have hB := hB.trans (hb.mono hB.size); clear hb)
      | (go_at_call 20; (with_reducible refine (H3.out _).mono ?_); rintro e w1 ⟨rfl, hb⟩; have hB := hB.trans (hb.mono hB.size); clear hb)
      | (go_at_call 15; (with_reducible refine (H4.out _).mono ?_); rintro e w1 ⟨rfl, hb⟩; have hB := hB.trans (hb.mono hB.size); clear hb)
      | (go_at_call 15; (with_reducible refine (H5.out _).mono ?_); rintro e w1 ⟨rfl, hb⟩; have hB := hB.trans (hb.mono hB.size); clear hb)
      | (go_at_call 17; refine (works_any _).mono ?_; rintro e w1 ⟨rfl, hb⟩; have hB := hB.trans (hb.mono hB.size); clear hb))
    go_ret
    exact ⟨rfl, hB⟩

theorem walk (s : ByteArray) (i k : Int) (w : World) (w0 : s.size ≤ maxLen) (w1 : (Lit.int .i64 i).wf = true) (w2 : (Lit.int .i64 k).wf = true) :
    Calls Try.prog 8 #[.string s, .int .i64 i, .int .i64 k] w fun e w' => e = .returned (.bool true) ∧ Below w.heap.size w w' := by
  by_cases hs : s.size ≤ 3000
  · cases hc : chars (bs s) with
    | none => exact walk_out s i k w w0 (.inr hc)
    | some cs => exact walk_at s i k w hs cs hc
  · exact walk_out s i k w w0 (.inl (by omega))
theorem own : ownKnob Try.prog.godebug = none := by kernel_rfl
theorem laidOut : laidOutB Try.prog = true := by kernel_rfl

set_option maxRecDepth 100000 in
theorem lifted (os : Os) (started : os.Started) (H : Type) (enc : TypeId × Value → H) :
    ReturnsInHanded {} Try.checked os 8 .any (Rows.utfPiecesSpec.pre6 enc Try.prog Try.f8 Rows.utfPiecesRow.domain false) (Rows.utfPiecesSpec.post enc Try.prog Try.f8 false true false false) := by
  refine returnsInHanded_of_change (C := Try.checked) own started (by kernel_rfl) Try.func8
    (ChangeSpec.witness6 (enc := enc) (C := Try.checked) false ⟨#[], #[.string ByteArray.empty, .int .i64 0, .int .i64 0], []⟩ 8 (by kernel_rfl) (by kernel_rfl) (by kernel_rfl) (by kernel_rfl)) ?_
  intro W base args ds gs before hval0 hW hcnd _
  have hval : ∀ (j : Nat) t v, Try.f8.params[j]? = some t → args[j]? = some v → Value.okWide Try.prog W .any base t v := hval0
  have hW' := hW
  obtain ⟨p, q, hA0, hV, rfl, hfz, hnd⟩ := hW
  have hA : DataW.TrodAll enc Try.prog W 0 (fun _ => true) true Try.f8.params.toList args.toList ds p := hA0
  rw [Try.params8] at hA hval
  obtain ⟨v0, vs0, d0, ds0, p0, q0, hargs, rfl, rfl, h0, r0⟩ := trodAll_cons hA
  obtain ⟨v1, vs1, d1, ds1, p1, q1, rfl, rfl, rfl, h1, r1⟩ := trodAll_cons r0
  obtain ⟨v2, vs2, d2, ds2, p2, q2, rfl, rfl, rfl, h2, r2⟩ := trodAll_cons r1
  obtain ⟨rfl, rfl, rfl⟩ := trodAll_nil r2
  obtain rfl : args = #[v0, v1, v2] := by cases args; simp_all
  obtain ⟨rfl, rfl⟩ := trodVars_none hV
  obtain ⟨a0, rfl, rfl, rfl, w0⟩ := open_string Try.underlying9 (hval 0 9 v0 rfl rfl) h0
  obtain ⟨a1, rfl, rfl, rfl, w1⟩ := open_int Try.underlying3 (hval 1 3 v1 rfl rfl) h1
  obtain ⟨a2, rfl, rfl, rfl, w2⟩ := open_int Try.underlying3 (hval 2 3 v2 rfl rfl) h2
  clear hA0 hval0
  refine (walk a0 a1 a2 W w0 w1 w2).mono fun e W' ⟨he, bel⟩ => ?_
  subst he
  exact ⟨_, rfl, _, _, _, [], _, [], hW', trodAll_mk1 (shut_bool Try.underlying4 _), (trodAll_cons_mk (shut_string Try.underlying9 w0) (trodAll_cons_mk (shut_int Try.underlying3 w1) (trodAll_cons_mk (shut_int Try.underlying3 w2) trodAll_mk0))), rfl, bel.frame _, fun h => by cases h⟩

theorem over : Rows.utfPiecesRow.holds Try.pinned (OpenSpec.ofChange Rows.utfPiecesSpec) :=
  OpenClaim.holds_of_wide 8 Try.f8 rfl rfl rfl rfl rfl rfl rfl ⟨rfl, rfl, rfl, rfl, rfl⟩ rfl rfl rfl rfl rfl (by kernel_rfl) Try.func8 (by kernel_rfl)
    (of_decide_eq_true (by kernel_rfl)) (by unfold Func.isWrapper; first | (rw [if_pos (by decide +kernel)]; kernel_rfl) | (rw [if_neg (by decide +kernel)]; exact ⟨rfl, rfl⟩))
    (fun os started H enc _ => lifted os started H enc)

theorem proved : Rows.UtfPiecesSaid := over
end Go.Proofs.Ytmfkieejopmaaaa.utfPieces
