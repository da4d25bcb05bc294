/-
  CaldateKnown: the examples of the chapter.
-/
import Derived.Test.YteelmjmiankflaaGreatDoorM11
import Derived.Test.YteelmjmiankflaaGreatDoorM13
import Derived.Test.YteelmjmiankflaaGreatDoorM15
import Derived.OpenShut
import Derived.ShutString
import Derived.ChangeOld
import Derived.LaidMore
import Derived.Lay
import Derived.SevenTiedAt
import Derived.SizedLaws
import Derived.Test.YteelmjmiankflaaGreatDoorCards
import Derived.Test.YteelmjmiankflaaGreatDoorTie
import Derived.Test.YteelmjmiankflaaGreatDoorM12
set_option linter.unusedVariables false
set_option linter.unusedSimpArgs false
namespace Go.Proofs.YteelmjmiankflaaGreatDoor.caldateKnown
open Go Go.RowKit Go.ChangeShapes Go.WideShapes Go.ChangeAt Go.Proofs.YteelmjmiankflaaGreatDoor Go.Proofs.YteelmjmiankflaaGreatDoor.Kit
open Go.ChangeMaps (open_string shut_string)
open Go.Proofs.YteelmjmiankflaaGreatDoor.Cal Go.Proofs.YteelmjmiankflaaGreatDoor.Num Go.Proofs.YteelmjmiankflaaGreatDoor.Utf

set_option maxRecDepth 100000 in
set_option maxHeartbeats 4000000 in
theorem walk (w : World) (hL : GLaid w) :
    Calls Tryz.prog 5 #[] w fun e w' => e = .returned (.bool true) ∧ Below w.heap.size w w' := by
  have d0 := Lib.hid (day_lit 1 1 1 1 (by decide) (by kernel_rfl))
  have d1 := Lib.hid (day_lit 2000 2 29 730179 (by decide) (by kernel_rfl))
  have d2 := Lib.hid (day_lit 9999 12 31 3652059 (by decide) (by kernel_rfl))
  have d3 := Lib.hid (day_lit 1868 1 24 681931 (by decide) (by kernel_rfl))
  have d4 := Lib.hid (day_lit 1989 1 7 726109 (by decide) (by kernel_rfl))
  have d5 := Lib.hid (day_lit 2019 5 1 737180 (by decide) (by kernel_rfl))
  have d6 := Lib.hid (fun W hW => day_not 1900 2 29 (by decide) W hW)
  have e0 := Lib.hid (era_lit 739936 2026 11 16 ⟨by decide, by kernel_rfl⟩ { data := #[228, 187, 164, 229, 146, 140] } 8 true (by kernel_rfl) (by kernel_rfl) (by kernel_rfl))
  have e1 := Lib.hid (era_lit 681931 1868 1 24 ⟨by decide, by kernel_rfl⟩ { data := #[] } 0 false (by kernel_rfl) (by kernel_rfl) (by kernel_rfl))
  have e2 := Lib.hid (era_lit 726109 1989 1 7 ⟨by decide, by kernel_rfl⟩ { data := #[230, 152, 173, 229, 146, 140] } 64 true (by kernel_rfl) (by kernel_rfl) (by kernel_rfl))
  have p0 := Lib.hid (parse_yes (by decide) kn_yes)
  have p1 := Lib.hid (parse_no (by decide) kn_no)
  have p2 := Lib.hid (parse_no (by decide) kn_last)
  have f0 := Lib.hid kn_forms
  have s0 := Lib.hid same_lit
  have hB : Below w.heap.size w w := Below.refl _ _
  go_enter Tryz.func5, Tryz.ntmps5
  go_wp2_with (first
    | (go_at_call 10; (first | (with_reducible refine (d0.out _ (hL.next hB).f.era.base).mono ?_) | (with_reducible refine (d1.out _ (hL.next hB).f.era.base).mono ?_) | (with_reducible refine (d2.out _ (hL.next hB).f.era.base).mono ?_) | (with_reducible refine (d3.out _ (hL.next hB).f.era.base).mono ?_) | (with_reducible refine (d4.out _ (hL.next hB).f.era.base).mono ?_) | (with_reducible refine (d5.out _ (hL.next hB).f.era.base).mono ?_) | (with_reducible refine (d6.out _ (hL.next hB).f.era.base).mono ?_)); rintro e w1 ⟨rfl, hb⟩; have hB := hB.trans (hb.mono hB.size); clear hb)
    | (go_at_call 11; (first | (with_reducible refine (e0.out _ (hL.next hB).f.era).mono ?_) | (with_reducible refine (e1.out _ (hL.next hB).f.era).mono ?_) | (with_reducible refine (e2.out _ (hL.next hB).f.era).mono ?_)); rintro e w1 ⟨rfl, hb⟩; have hB := hB.trans (hb.mono hB.size); clear hb)
    | (go_at_call 6; (first | (with_reducible refine (p0.out _ (hL.next hB)).mono ?_) | (with_reducible refine (p1.out _ (hL.next hB)).mono ?_) | (with_reducible refine (p2.out _ (hL.next hB)).mono ?_)); rintro e w1 ⟨rfl, hb⟩; have hB := hB.trans (hb.mono hB.size); clear hb)
    | (go_at_call 9; refine (f0.out _ (hL.next hB).f).mono ?_; rintro e w1 ⟨v, rfl, hr, hb⟩; have hB := hB.trans (hb.mono hB.size); have hz := hb.size; clear hb)
    | (go_at_call 12; refine (s0.out _ _ hr).mono ?_; clear hr hz; rintro e w1 ⟨rfl, hb⟩; have hB := hB.trans (hb.mono hB.size); clear hb)
    | (go_at_call 8; refine (works_at _ (hL.next hB).f.era.base).mono ?_; rintro e w1 ⟨rfl, hb⟩; have hB := hB.trans (hb.mono hB.size); clear hb))
  go_ret
  exact ⟨rfl, hB⟩
theorem own : ownKnob Tryz.prog.godebug = none := by kernel_rfl
theorem laidOut : laidOutB Tryz.prog = true := by kernel_rfl

set_option maxRecDepth 100000 in
theorem lifted (os : Os) (started : os.Started) (H : Type) (enc : TypeId × Value → H) :
    ReturnsInHanded {} Tryz.checked os 5 .any (fun w args => (Rows.caldateKnownSpec.pre enc Tryz.prog Tryz.f5 Rows.caldateKnownRow.domain false w args ∧ laidMetH Tryz.prog Rows.caldateKnownRow.laid w) ∧ sizedMet enc Tryz.prog Tryz.f5 (OpenSpec.ofChange Rows.caldateKnownSpec) false w args)
      (Rows.caldateKnownSpec.post enc Tryz.prog Tryz.f5 false true false false) := by
  refine returnsInHanded_of_change_and (C := Tryz.checked) (X := fun w _ => laidMetH Tryz.prog Rows.caldateKnownRow.laid w) (fun _ _ _ hh h => h.of_heap hh) own started (by kernel_rfl) Tryz.func5
    (ChangeSpec.witness_shaped (enc := enc) (C := Tryz.checked) (os := os) (X := fun w _ => laidMetH Tryz.prog Rows.caldateKnownRow.laid w) false (World.laidAll Tryz.prog os Rows.caldateKnownRow.laid) #[] 8 (World.laidAll_os _ _ _)
      (World.shaped_of_ZipB (by kernel_rfl) (by kernel_rfl)) (by kernel_rfl) (by kernel_rfl) (by kernel_rfl)
      (by rw [MakeChecks.laidMetH_plain _ _ _ (by kernel_rfl)]; exact laidMet_laidAll _ (by kernel_rfl) (by kernel_rfl))) ?_
  intro W base args ds gs before hval0 hW hcnd hsz0 hL _
  have hval : ∀ (j : Nat) t v, Tryz.f5.params[j]? = some t → args[j]? = some v → Value.okWide Tryz.prog W .any base t v := hval0
  have hW' := hW
  obtain ⟨p, q, hA0, hV, rfl, hfz, hnd⟩ := hW
  have hA : DataW.TrodAll enc Tryz.prog W 0 (fun _ => true) true Tryz.f5.params.toList args.toList ds p := hA0
  rw [Tryz.params5] at hA hval
  obtain ⟨rfl, rfl, rfl⟩ := trodAll_none hA
  obtain ⟨rfl, rfl⟩ := trodVars_none hV
  have hLaid := Cal.GLaid.of (b1 := [118, 97, 108, 117, 101, 32, 111, 117, 116, 32, 111, 102, 32, 114, 97, 110, 103, 101]) (b2 := [105, 110, 118, 97, 108, 105, 100, 32, 115, 121, 110, 116, 97, 120]) hL (fun _ => MakeChecks.laidMetH_plain _ _ _ (by kernel_rfl)) (List.mem_of_getElem? (i := 2) (by kernel_rfl)) (List.mem_of_getElem? (i := 6) (by kernel_rfl)) (List.mem_of_getElem? (i := 7) (by kernel_rfl)) (List.mem_of_getElem? (i := 8) (by kernel_rfl)) (List.mem_of_getElem? (i := 9) (by kernel_rfl)) (List.mem_of_getElem? (i := 10) (by kernel_rfl)) (List.mem_of_getElem? (i := 11) (by kernel_rfl)) (List.mem_of_getElem? (i := 12) (by kernel_rfl)) (List.mem_of_getElem? (i := 13) (by kernel_rfl)) (List.mem_of_getElem? (i := 4) (by kernel_rfl)) (List.mem_of_getElem? (i := 5) (by kernel_rfl)) 
  clear hA0 hval0
  refine (walk W hLaid).mono fun e W' ⟨he, bel⟩ => ?_
  subst he
  exact ⟨_, rfl, _, _, _, [], _, [], hW', trodAll_mk1 (shut_bool Tryz.underlying4 _), trodAll_mk0, rfl, bel.frame _, fun h => by cases h⟩

theorem over : Rows.caldateKnownRow.holds Tryz.pinned (OpenSpec.ofChange Rows.caldateKnownSpec) :=
  OpenClaim.holds_of_wide 5 Tryz.f5 rfl rfl rfl rfl rfl rfl rfl ⟨rfl, rfl, rfl, rfl, rfl⟩ rfl rfl rfl rfl rfl (by kernel_rfl) Tryz.func5 (by kernel_rfl)
    (of_decide_eq_true (by kernel_rfl)) (by unfold Func.isWrapper; first | (rw [if_pos (by decide +kernel)]; kernel_rfl) | (rw [if_neg (by decide +kernel)]; exact ⟨rfl, rfl⟩))
    (fun os started H enc _ => lifted os started H enc)

theorem proved : Rows.CaldateKnownCardSaid :=
  Claim7.holds_tied_plain_at .later [] Rows.caldateKnownCard.laidKinds true Rows.caldateKnownCard.stood.harness true over (fun _ h => by cases h) (by kernel_rfl) (fun _ h => by cases h) caldateKnown_row_tie rfl ⟨rfl, rfl⟩ (by kernel_rfl) rfl
    (fun f fn hf hfn => by
      obtain rfl : f = 5 := Option.some.inj ((show Tryz.prog.funcNamed "henkan/henkanlaw04.CaldateKnown" = some 5 by kernel_rfl).symm.trans hf) |>.symm
      obtain rfl : fn = Tryz.f5 := (Option.some.inj (Tryz.func5.symm.trans hfn)).symm
      exact ⟨by kernel_rfl, fun j t ht => by
        rw [Tryz.params5] at ht
        have hm : t ∈ ([] : List TypeId) := by simpa using Array.mem_of_getElem? ht
        have hall : (([] : List TypeId).all fun u => !Tryz.prog.wantsStandIn u) = true := by kernel_rfl
        exact (show Tryz.prog.wantsStandIn t = false by simpa using List.all_eq_true.1 hall t hm)⟩)
    (by kernel_rfl)
end Go.Proofs.YteelmjmiankflaaGreatDoor.caldateKnown
