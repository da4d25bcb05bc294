/-
  RomanPrints: which rules are allowed, and the text of those that are, agree with the reference; the rules stay unchanged. Conditions: none.
-/
import Derived.Test.YtpaeppklkicngaaDoorRomW
import Derived.Test.YtpaeppklkicngaaDoorRomX
import Derived.Test.YtpaeppklkicngaaDoorRomFr
import Derived.OpenShut
import Derived.ShutString
import Derived.ChangeOld
import Derived.LaidMore
import Derived.Lay
import Derived.SevenTiedAt
import Derived.SizedLaws
import Derived.Test.YtpaeppklkicngaaDoorCards
import Derived.Test.YtpaeppklkicngaaDoorTie
set_option linter.unusedVariables false
set_option linter.unusedSimpArgs false
namespace Go.Proofs.YtpaeppklkicngaaDoor.romanPrints
open Go Go.RowKit Go.ChangeShapes Go.WideShapes Go.ChangeAt Go.Proofs.YtpaeppklkicngaaDoor Go.Proofs.YtpaeppklkicngaaDoor.Kit
open Go.ChangeMaps (open_string shut_string)
open Go.Proofs.YtpaeppklkicngaaDoor.Utf Go.Proofs.YtpaeppklkicngaaDoor.Rom
set_option maxRecDepth 100000

set_option maxHeartbeats 4000000 in
theorem walk (a0 : Option Addr) (len0 cap0 : Nat) (z0 : List Rule) (w : World) (w0 : RowR w (.slice a0 len0 cap0) z0) :
    Calls Tryd.prog 4 #[.slice a0 len0 cap0] w fun e w' => e = .returned (.bool true) ∧ Below w.heap.size w w' := by
  have HFEW := Lib.hid (few_ok (.slice a0 len0 cap0) z0 w w0)
  have HR := Lib.hid w0
  clear w0
  have HG := Lib.hid (fun W h hR => given_ok (.slice a0 len0 cap0) z0 W h hR)
  have HP := fun v W hR hs => print_any v z0 W hR hs
  have HRP := fun v W hR hs => rprint_any v z0 W hR hs
  have HC := fun v W hR hs => check_any v z0 W hR hs
  have HRC := fun v W hR hs => rcheck_any v z0 W hR hs
  have HS := fun v1 v2 W hA hB hn => same_any v1 v2 z0 z0 W hA hB hn
  have HW := Lib.hid works_any
  obtain ⟨p1, hp1⟩ : ∃ p1, (printL z0).1 = p1 := ⟨_, rfl⟩
  obtain ⟨p2, hp2⟩ : ∃ p2, (printL z0).2 = p2 := ⟨_, rfl⟩
  obtain ⟨E, hE⟩ : ∃ E, checkL z0 = E := ⟨_, rfl⟩
  rw [hp1, hp2] at HP HRP
  rw [hE] at HC HRC
  rw [decide_eq_true rfl] at HS
  have HP := Lib.hid HP
  have HRP := Lib.hid HRP
  have HC := Lib.hid HC
  have HRC := Lib.hid HRC
  have HS := Lib.hid HS
  clear hp1 hp2 hE
  go_enter Tryd.func4, Tryd.ntmps4
  go_wp2_with (first
    | (go_at_call 15; (refine HFEW.out.mono ?_); rintro e w1 ⟨x, rfl, hx, hw1⟩; obtain rfl := hw1.symm; cases x)
    | (go_at_call 16; (refine (HG.out _ hx HR.out).mono ?_); rintro e w2 ⟨v, rfl, hR2, hb2⟩)
    | (go_at_call 17; (refine (HP.out _ _ hR2 hx.short).mono ?_); rintro e w3 ⟨rfl, hb3⟩; have hR3 := hR2.later hb3 (Nat.le_refl _); have hb3' := hb2.trans (hb3.mono hb2.size))
    | (go_at_call 18; (refine (HRP.out _ _ (HR.out.later hb3' (Nat.le_refl _)) hx.short).mono ?_); rintro e w4 ⟨rfl, hb4⟩; have hR4 := hR3.later hb4 (Nat.le_refl _); have hb4' := hb3'.trans (hb4.mono hb3'.size))
    | (go_at_call 19; (refine (HC.out _ _ hR4 hx.short).mono ?_); rintro e w5 ⟨rfl, hb5⟩; have hR5 := hR4.later hb5 (Nat.le_refl _); have hb5' := hb4'.trans (hb5.mono hb4'.size))
    | (go_at_call 20; (refine (HRC.out _ _ (HR.out.later hb5' (Nat.le_refl _)) hx.short).mono ?_); rintro e w6 ⟨rfl, hb6⟩; have hR6 := hR5.later hb6 (Nat.le_refl _); have hb6' := hb5'.trans (hb6.mono hb5'.size))
    | (go_at_call 13; (refine (HS.out _ _ _ hR6 (HR.out.later hb6' (Nat.le_refl _)) (by have := hx.len; omega)).mono ?_); rintro e w8 ⟨rfl, hb8⟩; have hb8' := hb6'.trans (hb8.mono hb6'.size))
    | (go_at_call 14; (refine (HW.out _).mono ?_); rintro e w9 ⟨rfl, hb9⟩))
  all_goals go_ret
  all_goals first
    | exact ⟨rfl, hb8'.trans (hb9.mono hb8'.size)⟩
    | exact ⟨rfl, Below.refl _ _⟩
theorem own : ownKnob Tryd.prog.godebug = none := by kernel_rfl
theorem laidOut : laidOutB Tryd.prog = true := by kernel_rfl

set_option maxRecDepth 100000 in
theorem lifted (os : Os) (started : os.Started) (H : Type) (enc : TypeId × Value → H) :
    ReturnsInHanded {} Tryd.checked os 4 .any (fun w args => (Rows.romanPrintsSpec.pre enc Tryd.prog Tryd.f4 Rows.romanPrintsRow.domain false w args ∧ laidMetH Tryd.prog Rows.romanPrintsRow.laid w) ∧ sizedMet enc Tryd.prog Tryd.f4 (OpenSpec.ofChange Rows.romanPrintsSpec) false w args)
      (Rows.romanPrintsSpec.post enc Tryd.prog Tryd.f4 false true false false) := by
  refine returnsInHanded_of_change_and (C := Tryd.checked) (X := fun w _ => laidMetH Tryd.prog Rows.romanPrintsRow.laid w) (fun _ _ _ hh h => h.of_heap hh) own started (by kernel_rfl) Tryd.func4
    (ChangeSpec.witness_shaped (enc := enc) (C := Tryd.checked) (os := os) (X := fun w _ => laidMetH Tryd.prog Rows.romanPrintsRow.laid w) false (World.laidAll Tryd.prog os Rows.romanPrintsRow.laid) #[.slice none 0 0] 8 (World.laidAll_os _ _ _)
      (World.shaped_of_ZipB (by kernel_rfl) (by kernel_rfl)) (by kernel_rfl) (by kernel_rfl) (by kernel_rfl)
      (by rw [MakeChecks.laidMetH_plain _ _ _ (by kernel_rfl)]; exact laidMet_laidAll _ (by kernel_rfl) (by kernel_rfl))) ?_
  intro W base args ds gs before hval0 hW hcnd hsz0 hL _
  have hval : ∀ (j : Nat) t v, Tryd.f4.params[j]? = some t → args[j]? = some v → Value.okWide Tryd.prog W .any base t v := hval0
  have hW' := hW
  obtain ⟨p, q, hA0, hV, rfl, hfz, hnd⟩ := hW
  have hA : DataW.TrodAll enc Tryd.prog W 0 (fun _ => true) true Tryd.f4.params.toList args.toList ds p := hA0
  rw [Tryd.params4] at hA hval
  obtain ⟨v0, vs0, d0, ds0, p0, q0, hargs, rfl, rfl, h0, r0⟩ := trodAll_cons hA
  obtain ⟨rfl, rfl, rfl⟩ := trodAll_nil r0
  obtain rfl : args = #[v0] := by cases args; simp_all
  obtain ⟨rfl, rfl⟩ := trodVars_none hV
  obtain ⟨a0, len0, cap0, rfl⟩ := okWide_slice Tryd.underlying26 (hval 0 26 v0 rfl rfl)
  have k0 := h0
  have lt0 : ∀ x ∈ p0, x.block < W.heap.size := by obtain ⟨m, hm⟩ := k0; exact DataW.trod_lt m _ _ _ hm
  obtain ⟨z0, w0⟩ : ∃ rs, RowR W (.slice a0 len0 cap0) rs := by
    obtain ⟨fuel, hf⟩ := h0
    exact rules_open hf
  skip
  clear hA0 hval0
  refine (walk a0 len0 cap0 z0 W w0).mono fun e W' ⟨he, bel⟩ => ?_
  subst he
  exact ⟨_, rfl, _, _, _, [], _, [], hW', trodAll_mk1 (shut_bool Tryd.underlying4 _), (trodAll_cons_mk (Below.trod laidOut (by kernel_rfl) (of_decide_eq_true (by kernel_rfl)) k0 bel lt0) trodAll_mk0), rfl, bel.frame _, fun h => by cases h⟩

theorem over : Rows.romanPrintsRow.holds Tryd.pinned (OpenSpec.ofChange Rows.romanPrintsSpec) :=
  OpenClaim.holds_of_wide 4 Tryd.f4 rfl rfl rfl rfl rfl rfl rfl ⟨rfl, rfl, rfl, rfl, rfl⟩ rfl rfl rfl rfl rfl (by kernel_rfl) Tryd.func4 (by kernel_rfl)
    (of_decide_eq_true (by kernel_rfl)) (by unfold Func.isWrapper; first | (rw [if_pos (by decide +kernel)]; kernel_rfl) | (rw [if_neg (by decide +kernel)]; exact ⟨rfl, rfl⟩))
    (fun os started H enc _ => lifted os started H enc)

theorem proved : Rows.RomanPrintsCardSaid :=
  Claim7.holds_tied_plain_at .later [] Rows.romanPrintsCard.laidKinds true Rows.romanPrintsCard.stood.harness false over (fun _ h => by cases h) (by kernel_rfl) (fun _ h => by cases h) romanPrints_row_tie rfl ⟨rfl, rfl⟩ (by kernel_rfl) rfl
    (fun f fn hf hfn => by
      obtain rfl : f = 4 := Option.some.inj ((show Tryd.prog.funcNamed "henkan/henkanlaw05.RomanPrints" = some 4 by kernel_rfl).symm.trans hf) |>.symm
      obtain rfl : fn = Tryd.f4 := (Option.some.inj (Tryd.func4.symm.trans hfn)).symm
      exact ⟨by kernel_rfl, fun j t ht => by
        rw [Tryd.params4] at ht
        have hm : t ∈ ([26] : List TypeId) := by simpa using Array.mem_of_getElem? ht
        have hall : (([26] : List TypeId).all fun u => !Tryd.prog.wantsStandIn u) = true := by kernel_rfl
        exact (show Tryd.prog.wantsStandIn t = false by simpa using List.all_eq_true.1 hall t hm)⟩)
    (by kernel_rfl)
end Go.Proofs.YtpaeppklkicngaaDoor.romanPrints
