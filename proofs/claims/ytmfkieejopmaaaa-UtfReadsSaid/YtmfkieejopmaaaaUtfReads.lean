/-
  UtfReads returns true for every string: utf.Runes, utf.Valid and utf.Count agree with the reference. Conditions: none.
-/
import Derived.Test.YtmfkieejopmaaaaUtfL
import Derived.OpenShut
import Derived.ShutString
import Derived.ChangeOld
set_option linter.unusedVariables false
set_option linter.unusedSimpArgs false
namespace Go.Proofs.Ytmfkieejopmaaaa.utfReads
open Go Go.RowKit Go.ChangeShapes Go.WideShapes Go.ChangeAt Go.Proofs.Ytmfkieejopmaaaa Go.Proofs.Ytmfkieejopmaaaa.Kit
open Go.ChangeMaps (open_string shut_string)
open Go.Proofs.Ytmfkieejopmaaaa.Utf

theorem walk_valid (s : ByteArray) (w : World) (hs : s.size ≤ 3000) (cs : List Int) (hc : chars (bs s) = some cs) :
    Calls Try.prog 3 #[.string s] w fun e w' => e = .returned (.bool true) ∧ Below w.heap.size w w' := by
  have hv : (chars (bs s)).isSome = true := by rw [hc]; rfl
  have H := Lib.hid hc; clear hc
  have HV := Lib.hid hv; clear hv
  go_enter Try.func3, Try.ntmps3
  go_wp2_with (first
    | (go_at_call 11; refine (runes_slice _ _ (by omega) cs H.out).mono ?_; rintro e w1 ⟨a, cap, rfl, hown1, hcap, hb1⟩)
    | (go_at_call 12; refine (rrunes_good _ _ (by omega) cs H.out).mono ?_; rintro e w2 ⟨a2, cap2, rfl, hown2, hcap2, hb2⟩)
    | (go_at_call 13; refine (ex_same _ _ _ cs (own_reads (own_later hown1 hb2)) (own_reads hown2)).mono ?_; rintro e w3 ⟨rfl, hb3⟩)
    | (go_at_call 14; refine (valid_any _ _ (by unfold maxLen; omega)).mono ?_; rw [HV.out]; rintro e w4 ⟨rfl, hb4⟩)
    | (go_at_call 15; refine (count_any _ _ (by unfold maxLen; omega)).mono ?_; rintro e w5 ⟨rfl, hb5⟩)
    | (go_at_call 16; refine (rcount_any _ _ (by omega)).mono ?_; rintro e w6 ⟨rfl, hb6⟩)
    | (go_at_call 17; refine (works_any _).mono ?_; rintro e w7 ⟨rfl, hb7⟩))
  go_ret
  have s1 := hb1.size
  have s2 := hb2.size
  have s3 := hb3.size
  have s4 := hb4.size
  have s5 := hb5.size
  have s6 := hb6.size
  exact ⟨rfl, (((((hb1.trans (hb2.mono s1)).trans (hb3.mono (by omega))).trans (hb4.mono (by omega))).trans (hb5.mono (by omega))).trans (hb6.mono (by omega))).trans (hb7.mono (by omega))⟩

theorem walk_invalid (s : ByteArray) (w : World) (hs : s.size ≤ 3000) (hc : chars (bs s) = none) :
    Calls Try.prog 3 #[.string s] w fun e w' => e = .returned (.bool true) ∧ Below w.heap.size w w' := by
  have hv : (chars (bs s)).isSome = false := by rw [hc]; rfl
  have H := Lib.hid hc; clear hc
  have HV := Lib.hid hv; clear hv
  go_enter Try.func3, Try.ntmps3
  go_wp2_with (first
    | (go_at_call 11; refine (runes_bad _ _ (by omega) H.out).mono ?_; rintro e w1 ⟨rfl, hb1⟩)
    | (go_at_call 12; refine (rrunes_bad _ _ (by omega) H.out).mono ?_; rintro e w2 ⟨rfl, hb2⟩)
    | (go_at_call 13; refine (ex_same _ _ _ [] (own_reads (World.ownsRow_nil _ 0 21 1)) (own_reads (World.ownsRow_nil _ 0 21 1))).mono ?_; rintro e w3 ⟨rfl, hb3⟩)
    | (go_at_call 14; refine (valid_any _ _ (by unfold maxLen; omega)).mono ?_; rw [HV.out]; rintro e w4 ⟨rfl, hb4⟩)
    | (go_at_call 15; refine (count_any _ _ (by unfold maxLen; omega)).mono ?_; rintro e w5 ⟨rfl, hb5⟩)
    | (go_at_call 16; refine (rcount_any _ _ (by omega)).mono ?_; rintro e w6 ⟨rfl, hb6⟩)
    | (go_at_call 17; refine (works_any _).mono ?_; rintro e w7 ⟨rfl, hb7⟩))
  go_ret
  have s1 := hb1.size
  have s2 := hb2.size
  have s3 := hb3.size
  have s4 := hb4.size
  have s5 := hb5.size
  have s6 := hb6.size
  exact ⟨rfl, (((((hb1.trans (hb2.mono s1)).trans (hb3.mono (by omega))).trans (hb4.mono (by omega))).trans (hb5.mono (by omega))).trans (hb6.mono (by omega))).trans (hb7.mono (by omega))⟩

theorem walk (s : ByteArray) (w : World) (w0 : s.size ≤ maxLen) :
    Calls Try.prog 3 #[.string s] w fun e w' => e = .returned (.bool true) ∧ Below w.heap.size w w' := by
  by_cases hs : s.size ≤ 3000
  · cases hc : chars (bs s) with
    | none => exact walk_invalid s w hs hc
    | some cs => exact walk_valid s w hs cs hc
  · unfold maxLen at w0
    go_enter Try.func3, Try.ntmps3
    go_wp2
    go_ret
    exact ⟨rfl, Below.refl _ _⟩
theorem own : ownKnob Try.prog.godebug = none := by kernel_rfl
theorem laidOut : laidOutB Try.prog = true := by kernel_rfl

set_option maxRecDepth 100000 in
theorem lifted (os : Os) (started : os.Started) (H : Type) (enc : TypeId × Value → H) :
    ReturnsInHanded {} Try.checked os 3 .any (Rows.utfReadsSpec.pre6 enc Try.prog Try.f3 Rows.utfReadsRow.domain false) (Rows.utfReadsSpec.post enc Try.prog Try.f3 false true false false) := by
  refine returnsInHanded_of_change (C := Try.checked) own started (by kernel_rfl) Try.func3
    (ChangeSpec.witness6 (enc := enc) (C := Try.checked) false ⟨#[], #[.string ByteArray.empty], []⟩ 8 (by kernel_rfl) (by kernel_rfl) (by kernel_rfl) (by kernel_rfl)) ?_
  intro W base args ds gs before hval0 hW hcnd _
  have hval : ∀ (j : Nat) t v, Try.f3.params[j]? = some t → args[j]? = some v → Value.okWide Try.prog W .any base t v := hval0
  have hW' := hW
  obtain ⟨p, q, hA0, hV, rfl, hfz, hnd⟩ := hW
  have hA : DataW.TrodAll enc Try.prog W 0 (fun _ => true) true Try.f3.params.toList args.toList ds p := hA0
  rw [Try.params3] at hA hval
  obtain ⟨v0, vs0, d0, ds0, p0, q0, hargs, rfl, rfl, h0, r0⟩ := trodAll_cons hA
  obtain ⟨rfl, rfl, rfl⟩ := trodAll_nil r0
  obtain rfl : args = #[v0] := by cases args; simp_all
  obtain ⟨rfl, rfl⟩ := trodVars_none hV
  obtain ⟨a0, rfl, rfl, rfl, w0⟩ := open_string Try.underlying9 (hval 0 9 v0 rfl rfl) h0
  clear hA0 hval0
  refine (walk a0 W w0).mono fun e W' ⟨he, bel⟩ => ?_
  subst he
  exact ⟨_, rfl, _, _, _, [], _, [], hW', trodAll_mk1 (shut_bool Try.underlying4 _), (trodAll_cons_mk (shut_string Try.underlying9 w0) trodAll_mk0), rfl, bel.frame _, fun h => by cases h⟩

theorem over : Rows.utfReadsRow.holds Try.pinned (OpenSpec.ofChange Rows.utfReadsSpec) :=
  OpenClaim.holds_of_wide 3 Try.f3 rfl rfl rfl rfl rfl rfl rfl ⟨rfl, rfl, rfl, rfl, rfl⟩ rfl rfl rfl rfl rfl (by kernel_rfl) Try.func3 (by kernel_rfl)
    (of_decide_eq_true (by kernel_rfl)) (by unfold Func.isWrapper; first | (rw [if_pos (by decide +kernel)]; kernel_rfl) | (rw [if_neg (by decide +kernel)]; exact ⟨rfl, rfl⟩))
    (fun os started H enc _ => lifted os started H enc)

theorem proved : Rows.UtfReadsSaid := over
end Go.Proofs.Ytmfkieejopmaaaa.utfReads
