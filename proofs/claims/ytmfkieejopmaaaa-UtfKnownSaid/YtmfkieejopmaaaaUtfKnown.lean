/-
  UtfKnown returns true: the chapter's examples. Conditions: none.
-/
import Derived.Test.YtmfkieejopmaaaaUtfL
import Derived.OpenShut
import Derived.ShutString
import Derived.ChangeOld
set_option linter.unusedVariables false
set_option linter.unusedSimpArgs false
namespace Go.Proofs.Ytmfkieejopmaaaa.utfKnown
open Go Go.RowKit Go.ChangeShapes Go.WideShapes Go.ChangeAt Go.Proofs.Ytmfkieejopmaaaa Go.Proofs.Ytmfkieejopmaaaa.Kit
open Go.ChangeMaps (open_string shut_string)
open Go.Proofs.Ytmfkieejopmaaaa.Utf

theorem chars_empty : chars (bs { data := #[] }) = some [] := rfl
theorem cut_0 (w : World) : Calls Try.prog 20 #[.string { data := #[] }, .int .i64 0, .int .i64 0] w fun e w' => e = .returned (.tuple #[.string { data := #[] }, .bool true]) ∧ Below w.heap.size w w' := by
  have h := cut_in { data := #[] } 0 0 w (by decide) [] chars_empty (by decide) (by decide)
  have e : textB ((([] : List Int).take 0).drop 0) = { data := #[] } := rfl
  rw [e] at h
  exact h
theorem cut_1 (w : World) : Calls Try.prog 20 #[.string { data := #[] }, .int .i64 0, .int .i64 1] w fun e w' => e = .returned (.tuple #[.string { data := #[] }, .bool false]) ∧ Below w.heap.size w w' :=
  cut_out { data := #[] } 0 1 w (by decide) [] chars_empty (by decide)
theorem cut_2 (w : World) : Calls Try.prog 20 #[.string { data := #[128] }, .int .i64 0, .int .i64 0] w fun e w' => e = .returned (.tuple #[.string { data := #[] }, .bool false]) ∧ Below w.heap.size w w' :=
  cut_invalid { data := #[128] } 0 0 w (by decide) (by decide)
theorem cut_3 (w : World) : Calls Try.prog 20 #[.string exS, .int .i64 2, .int .i64 3] w fun e w' => e = .returned (.tuple #[.string { data := #[] }, .bool false]) ∧ Below w.heap.size w w' :=
  cut_out exS 2 3 w (by decide) [12354, 33] ex_chars (by decide)
theorem valid_is (s : ByteArray) (b : Bool) (w : World) (hs : s.size ≤ 3000) (h : (chars (bs s)).isSome = b) : Calls Try.prog 14 #[.string s] w fun e w' => e = .returned (.bool b) ∧ Below w.heap.size w w' := by
  have := valid_any s w (by unfold maxLen; omega)
  rw [h] at this
  exact this
theorem count_k (w : World) : Calls Try.prog 15 #[.string { data := #[97, 204, 129] }] w fun e w' => e = .returned (.int .i64 2) ∧ Below w.heap.size w w' := by
  have h := count_any { data := #[97, 204, 129] } w (by decide)
  rw [count_some (cs := [97, 769]) (by decide)] at h
  exact h

set_option maxRecDepth 100000 in
set_option maxHeartbeats 800000 in
theorem walk (w : World) :
    Calls Try.prog 10 #[] w fun e w' => e = .returned (.bool true) ∧ Below w.heap.size w w' := by
  go_enter Try.func10, Try.ntmps10
  have hB : Below w.heap.size w w := Below.refl _ _
  go_wp2_with (first
    | (go_at_call 20; (with_reducible refine (cut_0 _).mono ?_); rintro e w1 ⟨rfl, hb⟩; have hB := hB.trans (hb.mono hB.size); clear hb)
    | (go_at_call 20; (with_reducible refine (cut_1 _).mono ?_); rintro e w1 ⟨rfl, hb⟩; have hB := hB.trans (hb.mono hB.size); clear hb)
    | (go_at_call 20; (with_reducible refine (cut_2 _).mono ?_); rintro e w1 ⟨rfl, hb⟩; have hB := hB.trans (hb.mono hB.size); clear hb)
    | (go_at_call 20; (with_reducible refine (cut_3 _).mono ?_); rintro e w1 ⟨rfl, hb⟩; have hB := hB.trans (hb.mono hB.size); clear hb)
    | (go_at_call 14; (first | refine (valid_is _ true _ (by decide) (by decide)).mono ?_ | refine (valid_is _ false _ (by decide) (by decide)).mono ?_); rintro e w1 ⟨rfl, hb⟩; have hB := hB.trans (hb.mono hB.size); clear hb)
    | (go_at_call 15; (with_reducible refine (count_k _).mono ?_); rintro e w1 ⟨rfl, hb⟩; have hB := hB.trans (hb.mono hB.size); clear hb)
    | (go_at_call 17; refine (works_any _).mono ?_; rintro e w1 ⟨rfl, hb⟩; have hB := hB.trans (hb.mono hB.size); clear hb))
  go_ret
  exact ⟨rfl, hB⟩
theorem own : ownKnob Try.prog.godebug = none := by kernel_rfl
theorem laidOut : laidOutB Try.prog = true := by kernel_rfl

set_option maxRecDepth 100000 in
theorem lifted (os : Os) (started : os.Started) (H : Type) (enc : TypeId × Value → H) :
    ReturnsInHanded {} Try.checked os 10 .any (Rows.utfKnownSpec.pre6 enc Try.prog Try.f10 Rows.utfKnownRow.domain false) (Rows.utfKnownSpec.post enc Try.prog Try.f10 false true false false) := by
  refine returnsInHanded_of_change (C := Try.checked) own started (by kernel_rfl) Try.func10
    (ChangeSpec.witness6 (enc := enc) (C := Try.checked) false ⟨#[], #[], []⟩ 8 (by kernel_rfl) (by kernel_rfl) (by kernel_rfl) (by kernel_rfl)) ?_
  intro W base args ds gs before hval0 hW hcnd _
  have hval : ∀ (j : Nat) t v, Try.f10.params[j]? = some t → args[j]? = some v → Value.okWide Try.prog W .any base t v := hval0
  have hW' := hW
  obtain ⟨p, q, hA0, hV, rfl, hfz, hnd⟩ := hW
  have hA : DataW.TrodAll enc Try.prog W 0 (fun _ => true) true Try.f10.params.toList args.toList ds p := hA0
  rw [Try.params10] at hA hval
  obtain ⟨rfl, rfl, rfl⟩ := trodAll_none hA
  obtain ⟨rfl, rfl⟩ := trodVars_none hV
  clear hA0 hval0
  refine (walk W).mono fun e W' ⟨he, bel⟩ => ?_
  subst he
  exact ⟨_, rfl, _, _, _, [], _, [], hW', trodAll_mk1 (shut_bool Try.underlying4 _), trodAll_mk0, rfl, bel.frame _, fun h => by cases h⟩

theorem over : Rows.utfKnownRow.holds Try.pinned (OpenSpec.ofChange Rows.utfKnownSpec) :=
  OpenClaim.holds_of_wide 10 Try.f10 rfl rfl rfl rfl rfl rfl rfl ⟨rfl, rfl, rfl, rfl, rfl⟩ rfl rfl rfl rfl rfl (by kernel_rfl) Try.func10 (by kernel_rfl)
    (of_decide_eq_true (by kernel_rfl)) (by unfold Func.isWrapper; first | (rw [if_pos (by decide +kernel)]; kernel_rfl) | (rw [if_neg (by decide +kernel)]; exact ⟨rfl, rfl⟩))
    (fun os started H enc _ => lifted os started H enc)

theorem proved : Rows.UtfKnownSaid := over
end Go.Proofs.Ytmfkieejopmaaaa.utfKnown
