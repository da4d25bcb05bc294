/-
  BitvecSelects returns true for every list of bits and every number: Select is what the document says. Conditions: none.
-/
import Derived.Test.YtlmhkhjjpfmkcaaBvK
import Derived.Test.YtlmhkhjjpfmkcaaBvFr
import Derived.OpenShut
import Derived.ShutString
import Derived.ChangeOld
import Derived.HandedShaped
import Derived.LaidMore
import Derived.Lay
import Derived.SizedLaws
import Derived.Deep.DeepHandedRow
import Derived.Test.YtlmhkhjjpfmkcaaBvFr
set_option linter.unusedVariables false
set_option linter.unusedSimpArgs false
set_option maxRecDepth 100000
namespace Go.Proofs.Ytlmhkhjjpfmkcaa.bitvecSelects
open Go Go.RowKit Go.ChangeShapes Go.WideShapes Go.ChangeAt Go.Proofs.Ytlmhkhjjpfmkcaa Go.Proofs.Ytlmhkhjjpfmkcaa.Kit Go.Proofs.Ytlmhkhjjpfmkcaa.Bv
open Go.ChangeMaps (open_string shut_string)
set_option maxHeartbeats 4000000 in
theorem walk (a0 : Option Addr) (len0 cap0 : Nat) (z0 : List Bool) (a1 : Int) (w : World) (w0 : Reads w (.slice a0 len0 cap0) (bls z0)) (n0 : z0.length = len0) (w1 : (Lit.int .i64 a1).wf = true) :
    Calls Try.prog 5 #[.slice a0 len0 cap0, .int .i64 a1] w fun e w' => e = .returned (.bool true) ∧ Below w.heap.size w w' := by
  have hlen := w0.len.2
  unfold maxLen at hlen
  subst n0
  by_cases hl : z0.length ≤ 3000
  · have HN := Lib.hid (new_ok z0 a0 cap0 w (by omega) w0)
    have HWK := Lib.hid works_any
    have H0 := Lib.hid w0
    have hlz : (z0.length : Int) ≤ 3000 := by omega
    obtain ⟨r1, hr1⟩ : ∃ r, sel z0 true a1 = r := ⟨_, rfl⟩
    obtain ⟨r2, hr2⟩ : ∃ r, sel z0 false a1 = r := ⟨_, rfl⟩
    have HR1 := Lib.hid hr1
    have HR2 := Lib.hid hr2
    have e1 : (r1 == r1) = true := beq_self_eq_true _
    have e2 : (r2 == r2) = true := beq_self_eq_true _
    clear hr1 hr2
    go_enter Try.func5, Try.ntmps5
    go_wp2_with (go_at_call 12; (with_reducible refine HN.out.mono ?_); rintro e w1 ⟨p, rfl, hv, hb1⟩)
    have HA := Lib.hid (select_any hv (Nat.le_refl _) (by omega) true a1)
    rw [HR1.out] at HA
    have HV := Lib.hid hv
    clear hv
    go_wp2_with (first
      | (go_at_call 21; (with_reducible refine HA.out.mono ?_); rintro e w2 ⟨rfl, hb2⟩; clear HA; have hs2 := hb2.size; have hb3 := hb1.trans (hb2.mono hb1.size); have HC := Lib.hid (rsel_any z0 a0 cap0 w2 (H0.out.later hb3) (by omega) true a1); rw [HR1.out] at HC; have HB := Lib.hid (select_any (HV.out.below hb2 (Nat.le_refl _)) hs2 (by omega) false a1); rw [HR2.out] at HB; clear hb2)
      | (go_at_call 22; (with_reducible refine HC.out.mono ?_); rintro e w3 ⟨rfl, rfl⟩; clear HC)
      | (go_at_call 21; (with_reducible refine HB.out.mono ?_); rintro e w4 ⟨rfl, hb4⟩; clear HB; have hb5 := hb3.trans (hb4.mono hb3.size); have HD := Lib.hid (rsel_any z0 a0 cap0 w4 (H0.out.later hb5) (by omega) false a1); rw [HR2.out] at HD; clear hb4)
      | (go_at_call 22; (with_reducible refine HD.out.mono ?_); rintro e w5 ⟨rfl, rfl⟩; clear HD)
      | (go_at_call 18; (with_reducible refine (HWK.out _).mono ?_); rintro e w6 ⟨rfl, hb6⟩))
    go_ret
    exact ⟨rfl, hb5.trans (hb6.mono hb5.size)⟩
  · have hlz : (3000 : Int) < (z0.length : Int) := by omega
    clear hl w0
    go_enter Try.func5, Try.ntmps5
    go_wp2
    go_ret
    exact ⟨rfl, Below.refl _ _⟩
theorem own : ownKnob Try.prog.godebug = none := by kernel_rfl
theorem laidOut : laidOutB Try.prog = true := by kernel_rfl

set_option maxRecDepth 100000 in
theorem lifted (os : Os) (started : os.Started) (H : Type) (enc : TypeId × Value → H) :
    ReturnsInHanded {} Try.checked os 5 .any (Rows.bitvecSelectsSpec.pre6 enc Try.prog Try.f5 Rows.bitvecSelectsRow.domain false) (Rows.bitvecSelectsSpec.post enc Try.prog Try.f5 false true false false) := by
  refine returnsInHanded_of_change_shaped (C := Try.checked) own started (by kernel_rfl) Try.func5
    (ChangeSpec.witness6 (enc := enc) (C := Try.checked) false ⟨#[], #[.slice none 0 0, .int .i64 0], []⟩ 8 (by kernel_rfl) (by kernel_rfl) (by kernel_rfl) (by kernel_rfl)) ?_
  intro W base args ds gs before hval0 hW hcnd hsz0 hsh _
  have hval : ∀ (j : Nat) t v, Try.f5.params[j]? = some t → args[j]? = some v → Value.okWide Try.prog W .any base t v := hval0
  have hW' := hW
  obtain ⟨p, q, hA0, hV, rfl, hfz, hnd⟩ := hW
  have hA : DataW.TrodAll enc Try.prog W 0 (fun _ => true) true Try.f5.params.toList args.toList ds p := hA0
  rw [Try.params5] at hA hval
  obtain ⟨v0, vs0, d0, ds0, p0, q0, hargs, rfl, rfl, h0, r0⟩ := trodAll_cons hA
  obtain ⟨v1, vs1, d1, ds1, p1, q1, rfl, rfl, rfl, h1, r1⟩ := trodAll_cons r0
  obtain ⟨rfl, rfl, rfl⟩ := trodAll_nil r1
  obtain rfl : args = #[v0, v1] := by cases args; simp_all
  obtain ⟨rfl, rfl⟩ := trodVars_none hV
  obtain ⟨a0, len0, cap0, rfl⟩ := okWide_slice Try.underlying22 (hval 0 22 v0 rfl rfl)
  have k0 := h0
  have lt0 : ∀ x ∈ p0, x.block < W.heap.size := by obtain ⟨m, hm⟩ := k0; exact DataW.trod_lt m _ _ _ hm
  obtain ⟨z0, w0, n0⟩ : ∃ z, Reads W (.slice a0 len0 cap0) (bls z) ∧ z.length = len0 := by
    obtain ⟨fuel, hf⟩ := h0
    exact bools_open hf
  obtain ⟨a1, rfl, rfl, rfl, w1⟩ := open_int Try.underlying3 (hval 1 3 v1 rfl rfl) h1
  clear hA0 hval0
  refine (walk a0 len0 cap0 z0 a1 W w0 n0 w1).mono fun e W' ⟨he, bel⟩ => ?_
  subst he
  exact ⟨_, rfl, _, _, _, [], _, [], hW', trodAll_mk1 (shut_bool Try.underlying4 _), (trodAll_cons_mk (Below.trod laidOut (by kernel_rfl) (of_decide_eq_true (by kernel_rfl)) k0 bel lt0) (trodAll_cons_mk (shut_int Try.underlying3 w1) trodAll_mk0)), rfl, bel.frame _, fun h => by cases h⟩

theorem over : Rows.bitvecSelectsRow.holds Try.pinned (OpenSpec.ofChange Rows.bitvecSelectsSpec) :=
  OpenClaim.holds_of_wide 5 Try.f5 rfl rfl rfl rfl rfl rfl rfl ⟨rfl, rfl, rfl, rfl, rfl⟩ rfl rfl rfl rfl rfl (by kernel_rfl) Try.func5 (by kernel_rfl)
    (of_decide_eq_true (by kernel_rfl)) (by unfold Func.isWrapper; first | (rw [if_pos (by decide +kernel)]; kernel_rfl) | (rw [if_neg (by decide +kernel)]; exact ⟨rfl, rfl⟩))
    (fun os started H enc _ => lifted os started H enc)

theorem proved : Rows.BitvecSelectsSaid := over
end Go.Proofs.Ytlmhkhjjpfmkcaa.bitvecSelects
