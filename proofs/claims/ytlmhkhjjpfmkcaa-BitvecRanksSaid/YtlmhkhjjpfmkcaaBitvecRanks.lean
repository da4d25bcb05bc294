/-
  BitvecRanks returns true for every list of bits and every place: Rank is what the document says. Conditions: none.
-/
import Derived.Test.YtlmhkhjjpfmkcaaBvK
import Derived.Test.YtlmhkhjjpfmkcaaBvFr
import Derived.OpenShut
import Derived.ShutString
import Derived.ChangeOld
import Derived.HandedShaped
import Derived.LaidMore
import Derived.Lay
import Derived.SizedLaws
import Derived.Deep.DeepHandedRow
import Derived.Test.YtlmhkhjjpfmkcaaBvFr
set_option linter.unusedVariables false
set_option linter.unusedSimpArgs false
set_option maxRecDepth 100000
namespace Go.Proofs.Ytlmhkhjjpfmkcaa.bitvecRanks
open Go Go.RowKit Go.ChangeShapes Go.WideShapes Go.ChangeAt Go.Proofs.Ytlmhkhjjpfmkcaa Go.Proofs.Ytlmhkhjjpfmkcaa.Kit Go.Proofs.Ytlmhkhjjpfmkcaa.Bv
open Go.ChangeMaps (open_string shut_string)
set_option maxHeartbeats 4000000 in
theorem walk (a0 : Option Addr) (len0 cap0 : Nat) (z0 : List Bool) (a1 : Int) (w : World) (w0 : Reads w (.slice a0 len0 cap0) (bls z0)) (n0 : z0.length = len0) (w1 : (Lit.int .i64 a1).wf = true) :
    Calls Try.prog 4 #[.slice a0 len0 cap0, .int .i64 a1] w fun e w' => e = .returned (.bool true) ∧ Below w.heap.size w w' := by
  have hlen := w0.len.2
  unfold maxLen at hlen
  subst n0
  by_cases hl : z0.length ≤ 3000
  · have HN := Lib.hid (new_ok z0 a0 cap0 w (by omega) w0)
    have HWK := Lib.hid works_any
    have H0 := Lib.hid w0
    have hlz : (z0.length : Int) ≤ 3000 := by omega
    obtain ⟨r1, hr1⟩ : ∃ r, rank z0 true a1 = r := ⟨_, rfl⟩
    obtain ⟨r2, hr2⟩ : ∃ r, rank z0 false a1 = r := ⟨_, rfl⟩
    have HR1 := Lib.hid hr1
    have HR2 := Lib.hid hr2
    have e1 : ((r1 : Int) == (r1 : Int)) = true := beq_self_eq_true _
    have e2 : ((r2 : Int) == (r2 : Int)) = true := beq_self_eq_true _
    clear hr1 hr2
    go_enter Try.func4, Try.ntmps4
    go_wp2_with (go_at_call 12; (with_reducible refine HN.out.mono ?_); rintro e w1 ⟨p, rfl, hv, hb1⟩)
    have HA := Lib.hid (rank_any hv (by omega) true a1)
    have HB := Lib.hid (rank_any hv (by omega) false a1)
    have HC := Lib.hid (rrank_any z0 a0 cap0 w1 (H0.out.later hb1) (by omega) true a1)
    have HD := Lib.hid (rrank_any z0 a0 cap0 w1 (H0.out.later hb1) (by omega) false a1)
    rw [HR1.out] at HA HC
    rw [HR2.out] at HB HD
    clear hv
    go_wp2_with (first
      | (go_at_call 19; (with_reducible refine HA.out.mono ?_); rintro e w2 ⟨rfl, rfl⟩; clear HA)
      | (go_at_call 20; (with_reducible refine HC.out.mono ?_); rintro e w2 ⟨rfl, rfl⟩; clear HC)
      | (go_at_call 19; (with_reducible refine HB.out.mono ?_); rintro e w2 ⟨rfl, rfl⟩; clear HB)
      | (go_at_call 20; (with_reducible refine HD.out.mono ?_); rintro e w2 ⟨rfl, rfl⟩; clear HD)
      | (go_at_call 18; (with_reducible refine (HWK.out _).mono ?_); rintro e w2 ⟨rfl, hb2⟩))
    go_ret
    exact ⟨rfl, hb1.trans (hb2.mono hb1.size)⟩
  · have hlz : (3000 : Int) < (z0.length : Int) := by omega
    clear hl w0
    go_enter Try.func4, Try.ntmps4
    go_wp2
    go_ret
    exact ⟨rfl, Below.refl _ _⟩
theorem own : ownKnob Try.prog.godebug = none := by kernel_rfl
theorem laidOut : laidOutB Try.prog = true := by kernel_rfl

set_option maxRecDepth 100000 in
theorem lifted (os : Os) (started : os.Started) (H : Type) (enc : TypeId × Value → H) :
    ReturnsInHanded {} Try.checked os 4 .any (Rows.bitvecRanksSpec.pre6 enc Try.prog Try.f4 Rows.bitvecRanksRow.domain false) (Rows.bitvecRanksSpec.post enc Try.prog Try.f4 false true false false) := by
  refine returnsInHanded_of_change_shaped (C := Try.checked) own started (by kernel_rfl) Try.func4
    (ChangeSpec.witness6 (enc := enc) (C := Try.checked) false ⟨#[], #[.slice none 0 0, .int .i64 0], []⟩ 8 (by kernel_rfl) (by kernel_rfl) (by kernel_rfl) (by kernel_rfl)) ?_
  intro W base args ds gs before hval0 hW hcnd hsz0 hsh _
  have hval : ∀ (j : Nat) t v, Try.f4.params[j]? = some t → args[j]? = some v → Value.okWide Try.prog W .any base t v := hval0
  have hW' := hW
  obtain ⟨p, q, hA0, hV, rfl, hfz, hnd⟩ := hW
  have hA : DataW.TrodAll enc Try.prog W 0 (fun _ => true) true Try.f4.params.toList args.toList ds p := hA0
  rw [Try.params4] at hA hval
  obtain ⟨v0, vs0, d0, ds0, p0, q0, hargs, rfl, rfl, h0, r0⟩ := trodAll_cons hA
  obtain ⟨v1, vs1, d1, ds1, p1, q1, rfl, rfl, rfl, h1, r1⟩ := trodAll_cons r0
  obtain ⟨rfl, rfl, rfl⟩ := trodAll_nil r1
  obtain rfl : args = #[v0, v1] := by cases args; simp_all
  obtain ⟨rfl, rfl⟩ := trodVars_none hV
  obtain ⟨a0, len0, cap0, rfl⟩ := okWide_slice Try.underlying22 (hval 0 22 v0 rfl rfl)
  have k0 := h0
  have lt0 : ∀ x ∈ p0, x.block < W.heap.size := by obtain ⟨m, hm⟩ := k0; exact DataW.trod_lt m _ _ _ hm
  obtain ⟨z0, w0, n0⟩ : ∃ z, Reads W (.slice a0 len0 cap0) (bls z) ∧ z.length = len0 := by
    obtain ⟨fuel, hf⟩ := h0
    exact bools_open hf
  obtain ⟨a1, rfl, rfl, rfl, w1⟩ := open_int Try.underlying3 (hval 1 3 v1 rfl rfl) h1
  clear hA0 hval0
  refine (walk a0 len0 cap0 z0 a1 W w0 n0 w1).mono fun e W' ⟨he, bel⟩ => ?_
  subst he
  exact ⟨_, rfl, _, _, _, [], _, [], hW', trodAll_mk1 (shut_bool Try.underlying4 _), (trodAll_cons_mk (Below.trod laidOut (by kernel_rfl) (of_decide_eq_true (by kernel_rfl)) k0 bel lt0) (trodAll_cons_mk (shut_int Try.underlying3 w1) trodAll_mk0)), rfl, bel.frame _, fun h => by cases h⟩

theorem over : Rows.bitvecRanksRow.holds Try.pinned (OpenSpec.ofChange Rows.bitvecRanksSpec) :=
  OpenClaim.holds_of_wide 4 Try.f4 rfl rfl rfl rfl rfl rfl rfl ⟨rfl, rfl, rfl, rfl, rfl⟩ rfl rfl rfl rfl rfl (by kernel_rfl) Try.func4 (by kernel_rfl)
    (of_decide_eq_true (by kernel_rfl)) (by unfold Func.isWrapper; first | (rw [if_pos (by decide +kernel)]; kernel_rfl) | (rw [if_neg (by decide +kernel)]; exact ⟨rfl, rfl⟩))
    (fun os started H enc _ => lifted os started H enc)

theorem proved : Rows.BitvecRanksSaid := over
end Go.Proofs.Ytlmhkhjjpfmkcaa.bitvecRanks
