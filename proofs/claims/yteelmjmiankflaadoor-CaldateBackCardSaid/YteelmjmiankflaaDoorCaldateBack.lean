/-
  CaldateBack: Day and Date are inverse to each other, and the next day's date is the next one, for every input.
-/
import Derived.Test.YteelmjmiankflaaDoorCalH
import Derived.OpenShut
import Derived.ShutString
import Derived.ChangeOld
import Derived.LaidMore
import Derived.Lay
import Derived.SevenTiedAt
import Derived.SizedLaws
import Derived.Test.YteelmjmiankflaaDoorCards
import Derived.Test.YteelmjmiankflaaDoorTie
import Derived.Test.YteelmjmiankflaaDoorCalO
set_option linter.unusedVariables false
set_option linter.unusedSimpArgs false
namespace Go.Proofs.YteelmjmiankflaaDoor.caldateBack
open Go Go.RowKit Go.ChangeShapes Go.WideShapes Go.ChangeAt Go.Proofs.YteelmjmiankflaaDoor Go.Proofs.YteelmjmiankflaaDoor.Kit
open Go.ChangeMaps (open_string shut_string)
open Go.Proofs.YteelmjmiankflaaDoor.Cal


set_option maxRecDepth 100000 in
set_option maxHeartbeats 4000000 in
theorem walk_none (a0 a1 a2 a3 : Int) (h3 : ¬ inR a3) (w : World) (hL : CLaid w) :
    Calls Tryd.prog 6 #[.int .i64 a0, .int .i64 a1, .int .i64 a2, .int .i64 a3] w fun e w' => e = .returned (.bool true) ∧ Below w.heap.size w w' := by
  have hB : Below w.heap.size w w := Below.refl _ _
  have HN := Lib.hid (fun W => date_not a3 h3 W)
  have h3' : decide (1 ≤ a3) = false ∨ decide (1 ≤ a3) = true ∧ decide (a3 ≤ 3652059) = false := by unfold inR at h3; simp; omega
  clear h3
  by_cases hv : Valid a0 a1 a2
  · have H1 := Lib.hid (fun W hW => day_is a0 a1 a2 hv W hW)
    have H2 := Lib.hid (fun W hW => date_is (num a0 a1 a2) a0 a1 a2 ⟨hv, rfl⟩ W hW)
    have hr := hv.range
    have r1 : decide (num a0 a1 a2 < 1) = false := by simp; omega
    have r2 : decide (3652059 < num a0 a1 a2) = false := by simp; omega
    clear hr
    generalize num a0 a1 a2 = n at *
    clear hv
    rcases h3' with h3 | ⟨h3, h4⟩
    all_goals
      go_enter Tryd.func6, Tryd.ntmps6
      go_wp2_with (first
        | (go_at_call 7; (with_reducible refine (H1.out _ (hL.next hB)).mono ?_); rintro e w1 ⟨rfl, hb⟩; have hB := hB.trans (hb.mono hB.size); clear hb)
        | (go_at_call 9; (with_reducible refine (H2.out _ (hL.next hB)).mono ?_); rintro e w1 ⟨rfl, hb⟩; have hB := hB.trans (hb.mono hB.size); clear hb)
        | (go_at_call 9; (with_reducible refine (HN.out _).mono ?_); rintro e w1 ⟨rfl, hb⟩; have hB := hB.trans (hb.mono hB.size); clear hb)
        | (go_at_call 11; (with_reducible refine (works_at _ (hL.next hB)).mono ?_); rintro e w1 ⟨rfl, hb⟩; have hB := hB.trans (hb.mono hB.size); clear hb))
      go_ret
      exact ⟨rfl, hB⟩
  · have H1 := Lib.hid (fun W hW => day_not a0 a1 a2 hv W hW)
    clear hv
    rcases h3' with h3 | ⟨h3, h4⟩
    all_goals
      go_enter Tryd.func6, Tryd.ntmps6
      go_wp2_with (first
        | (go_at_call 7; (with_reducible refine (H1.out _ (hL.next hB)).mono ?_); rintro e w1 ⟨rfl, hb⟩; have hB := hB.trans (hb.mono hB.size); clear hb)
        | (go_at_call 9; (with_reducible refine (HN.out _).mono ?_); rintro e w1 ⟨rfl, hb⟩; have hB := hB.trans (hb.mono hB.size); clear hb)
        | (go_at_call 11; (with_reducible refine (works_at _ (hL.next hB)).mono ?_); rintro e w1 ⟨rfl, hb⟩; have hB := hB.trans (hb.mono hB.size); clear hb))
      go_ret
      exact ⟨rfl, hB⟩

/-- What the second half of the law finds. -/
def Next (day a b c e f g : Int) : Prop := (e = a ∧ f = b ∧ g = c + 1) ∨ (g = 1 ∧ e = a ∧ f = b + 1) ∨ (g = 1 ∧ e = a + 1 ∧ f = 1 ∧ b = 12)

set_option maxRecDepth 100000 in
set_option maxHeartbeats 4000000 in
theorem walk_some (a0 a1 a2 a3 a b c : Int) (hd : IsDate a3 a b c) (w : World) (hL : CLaid w) :
    Calls Tryd.prog 6 #[.int .i64 a0, .int .i64 a1, .int .i64 a2, .int .i64 a3] w fun e w' => e = .returned (.bool true) ∧ Below w.heap.size w w' := by
  have hB : Below w.heap.size w w := Below.refl _ _
  have HN := Lib.hid (fun W hW => date_is a3 a b c hd W hW)
  have HK := Lib.hid (fun W hW => day_is a b c hd.1 W hW)
  rw [← hd.2] at HK
  have h3 := hd.range
  have hnext : a3 < 3652059 → ∃ e f g, IsDate (a3 + 1) e f g ∧ Next a3 a b c e f g := fun hl => by
    rcases next_day hd hl with ⟨_, h⟩ | ⟨_, _, h⟩ | ⟨_, hm, h⟩
    · exact ⟨_, _, _, h, .inl ⟨rfl, rfl, rfl⟩⟩
    · exact ⟨_, _, _, h, .inr (.inl ⟨rfl, rfl, rfl⟩)⟩
    · exact ⟨_, _, _, h, .inr (.inr ⟨rfl, rfl, rfl, hm⟩)⟩
  have hdb := hd.1
  obtain ⟨b1, b2, b3, b4, b5, b6⟩ := hdb
  have b7 := (len_bounds a b).2
  have b8 : c ≤ 31 := by omega
  clear b6 b7
  by_cases hl : a3 < 3652059
  · obtain ⟨e, f, g, hd2, hnx⟩ := hnext hl
    have HM := Lib.hid (fun W hW => date_is (a3 + 1) e f g hd2 W hW)
    have hl2 : (a3 == 3652059) = false := by simp; omega
    have s1 : decide (1 ≤ a3) = true := by simp; omega
    have s2 : decide (a3 ≤ 3652059) = true := by simp; omega
    have s3 : a3 + 1 ≤ 9223372036854775807 := by omega
    have s4 : -9223372036854775808 ≤ a3 + 1 := by omega
    clear hnext hd2 hd h3 hl
    by_cases hv : Valid a0 a1 a2
    · have H1 := Lib.hid (fun W hW => day_is a0 a1 a2 hv W hW)
      have H2 := Lib.hid (fun W hW => date_is (num a0 a1 a2) a0 a1 a2 ⟨hv, rfl⟩ W hW)
      have hr := hv.range
      have r1 : decide (num a0 a1 a2 < 1) = false := by simp; omega
      have r2 : decide (3652059 < num a0 a1 a2) = false := by simp; omega
      clear hr
      generalize num a0 a1 a2 = n at *
      clear hv
      rcases hnx with ⟨rfl, rfl, rfl⟩ | ⟨rfl, rfl, rfl⟩ | ⟨rfl, rfl, rfl, rfl⟩
      all_goals
        go_enter Tryd.func6, Tryd.ntmps6
        go_wp2_with (first
          | (go_at_call 7; (with_reducible refine (H1.out _ (hL.next hB)).mono ?_); rintro e w1 ⟨rfl, hb⟩; have hB := hB.trans (hb.mono hB.size); clear hb)
          | (go_at_call 7; (with_reducible refine (HK.out _ (hL.next hB)).mono ?_); rintro e w1 ⟨rfl, hb⟩; have hB := hB.trans (hb.mono hB.size); clear hb)
          | (go_at_call 9; (with_reducible refine (H2.out _ (hL.next hB)).mono ?_); rintro e w1 ⟨rfl, hb⟩; have hB := hB.trans (hb.mono hB.size); clear hb)
          | (go_at_call 9; (with_reducible refine (HN.out _ (hL.next hB)).mono ?_); rintro e w1 ⟨rfl, hb⟩; have hB := hB.trans (hb.mono hB.size); clear hb)
          | (go_at_call 9; (with_reducible refine (HM.out _ (hL.next hB)).mono ?_); rintro e w1 ⟨rfl, hb⟩; have hB := hB.trans (hb.mono hB.size); clear hb)
          | (go_at_call 11; (with_reducible refine (works_at _ (hL.next hB)).mono ?_); rintro e w1 ⟨rfl, hb⟩; have hB := hB.trans (hb.mono hB.size); clear hb))
        go_ret
        exact ⟨rfl, hB⟩
    · have H1 := Lib.hid (fun W hW => day_not a0 a1 a2 hv W hW)
      clear hv
      rcases hnx with ⟨rfl, rfl, rfl⟩ | ⟨rfl, rfl, rfl⟩ | ⟨rfl, rfl, rfl, rfl⟩
      all_goals
        go_enter Tryd.func6, Tryd.ntmps6
        go_wp2_with (first
          | (go_at_call 7; (with_reducible refine (H1.out _ (hL.next hB)).mono ?_); rintro e w1 ⟨rfl, hb⟩; have hB := hB.trans (hb.mono hB.size); clear hb)
          | (go_at_call 7; (with_reducible refine (HK.out _ (hL.next hB)).mono ?_); rintro e w1 ⟨rfl, hb⟩; have hB := hB.trans (hb.mono hB.size); clear hb)
          | (go_at_call 9; (with_reducible refine (HN.out _ (hL.next hB)).mono ?_); rintro e w1 ⟨rfl, hb⟩; have hB := hB.trans (hb.mono hB.size); clear hb)
          | (go_at_call 9; (with_reducible refine (HM.out _ (hL.next hB)).mono ?_); rintro e w1 ⟨rfl, hb⟩; have hB := hB.trans (hb.mono hB.size); clear hb)
          | (go_at_call 11; (with_reducible refine (works_at _ (hL.next hB)).mono ?_); rintro e w1 ⟨rfl, hb⟩; have hB := hB.trans (hb.mono hB.size); clear hb))
        go_ret
        exact ⟨rfl, hB⟩
  · obtain rfl : a3 = 3652059 := by omega
    clear hnext hd h3 hl
    by_cases hv : Valid a0 a1 a2
    · have H1 := Lib.hid (fun W hW => day_is a0 a1 a2 hv W hW)
      have H2 := Lib.hid (fun W hW => date_is (num a0 a1 a2) a0 a1 a2 ⟨hv, rfl⟩ W hW)
      have hr := hv.range
      have r1 : decide (num a0 a1 a2 < 1) = false := by simp; omega
      have r2 : decide (3652059 < num a0 a1 a2) = false := by simp; omega
      clear hr
      generalize num a0 a1 a2 = n at *
      clear hv
      go_enter Tryd.func6, Tryd.ntmps6
      go_wp2_with (first
        | (go_at_call 7; (with_reducible refine (H1.out _ (hL.next hB)).mono ?_); rintro e w1 ⟨rfl, hb⟩; have hB := hB.trans (hb.mono hB.size); clear hb)
        | (go_at_call 7; (with_reducible refine (HK.out _ (hL.next hB)).mono ?_); rintro e w1 ⟨rfl, hb⟩; have hB := hB.trans (hb.mono hB.size); clear hb)
        | (go_at_call 9; (with_reducible refine (H2.out _ (hL.next hB)).mono ?_); rintro e w1 ⟨rfl, hb⟩; have hB := hB.trans (hb.mono hB.size); clear hb)
        | (go_at_call 9; (with_reducible refine (HN.out _ (hL.next hB)).mono ?_); rintro e w1 ⟨rfl, hb⟩; have hB := hB.trans (hb.mono hB.size); clear hb)
        | (go_at_call 11; (with_reducible refine (works_at _ (hL.next hB)).mono ?_); rintro e w1 ⟨rfl, hb⟩; have hB := hB.trans (hb.mono hB.size); clear hb))
      go_ret
      exact ⟨rfl, hB⟩
    · have H1 := Lib.hid (fun W hW => day_not a0 a1 a2 hv W hW)
      clear hv
      go_enter Tryd.func6, Tryd.ntmps6
      go_wp2_with (first
        | (go_at_call 7; (with_reducible refine (H1.out _ (hL.next hB)).mono ?_); rintro e w1 ⟨rfl, hb⟩; have hB := hB.trans (hb.mono hB.size); clear hb)
        | (go_at_call 7; (with_reducible refine (HK.out _ (hL.next hB)).mono ?_); rintro e w1 ⟨rfl, hb⟩; have hB := hB.trans (hb.mono hB.size); clear hb)
        | (go_at_call 9; (with_reducible refine (HN.out _ (hL.next hB)).mono ?_); rintro e w1 ⟨rfl, hb⟩; have hB := hB.trans (hb.mono hB.size); clear hb)
        | (go_at_call 11; (with_reducible refine (works_at _ (hL.next hB)).mono ?_); rintro e w1 ⟨rfl, hb⟩; have hB := hB.trans (hb.mono hB.size); clear hb))
      go_ret
      exact ⟨rfl, hB⟩

theorem walk (a0 a1 a2 a3 : Int) (w : World) (w0 : (Lit.int .i64 a0).wf = true) (w1 : (Lit.int .i64 a1).wf = true) (w2 : (Lit.int .i64 a2).wf = true) (w3 : (Lit.int .i64 a3).wf = true) (hL : CLaid w) :
    Calls Tryd.prog 6 #[.int .i64 a0, .int .i64 a1, .int .i64 a2, .int .i64 a3] w fun e w' => e = .returned (.bool true) ∧ Below w.heap.size w w' := by
  rcases dates a3 with ⟨h, hd⟩ | ⟨h, _⟩
  · exact walk_some a0 a1 a2 a3 _ _ _ hd w hL
  · exact walk_none a0 a1 a2 a3 h w hL
theorem own : ownKnob Tryd.prog.godebug = none := by kernel_rfl
theorem laidOut : laidOutB Tryd.prog = true := by kernel_rfl

set_option maxRecDepth 100000 in
theorem lifted (os : Os) (started : os.Started) (H : Type) (enc : TypeId × Value → H) :
    ReturnsInHanded {} Tryd.checked os 6 .any (fun w args => (Rows.caldateBackSpec.pre enc Tryd.prog Tryd.f6 Rows.caldateBackRow.domain false w args ∧ laidMetH Tryd.prog Rows.caldateBackRow.laid w) ∧ sizedMet enc Tryd.prog Tryd.f6 (OpenSpec.ofChange Rows.caldateBackSpec) false w args)
      (Rows.caldateBackSpec.post enc Tryd.prog Tryd.f6 false true false false) := by
  refine returnsInHanded_of_change_and (C := Tryd.checked) (X := fun w _ => laidMetH Tryd.prog Rows.caldateBackRow.laid w) (fun _ _ _ hh h => h.of_heap hh) own started (by kernel_rfl) Tryd.func6
    (ChangeSpec.witness_shaped (enc := enc) (C := Tryd.checked) (os := os) (X := fun w _ => laidMetH Tryd.prog Rows.caldateBackRow.laid w) false (World.laidAll Tryd.prog os Rows.caldateBackRow.laid) #[.int .i64 0, .int .i64 0, .int .i64 0, .int .i64 0] 8 (World.laidAll_os _ _ _)
      (World.shaped_of_ZipB (by kernel_rfl) (by kernel_rfl)) (by kernel_rfl) (by kernel_rfl) (by kernel_rfl)
      (by rw [MakeChecks.laidMetH_plain _ _ _ (by kernel_rfl)]; exact laidMet_laidAll _ (by kernel_rfl) (by kernel_rfl))) ?_
  intro W base args ds gs before hval0 hW hcnd hsz0 hL _
  have hval : ∀ (j : Nat) t v, Tryd.f6.params[j]? = some t → args[j]? = some v → Value.okWide Tryd.prog W .any base t v := hval0
  have hW' := hW
  obtain ⟨p, q, hA0, hV, rfl, hfz, hnd⟩ := hW
  have hA : DataW.TrodAll enc Tryd.prog W 0 (fun _ => true) true Tryd.f6.params.toList args.toList ds p := hA0
  rw [Tryd.params6] at hA hval
  obtain ⟨v0, vs0, d0, ds0, p0, q0, hargs, rfl, rfl, h0, r0⟩ := trodAll_cons hA
  obtain ⟨v1, vs1, d1, ds1, p1, q1, rfl, rfl, rfl, h1, r1⟩ := trodAll_cons r0
  obtain ⟨v2, vs2, d2, ds2, p2, q2, rfl, rfl, rfl, h2, r2⟩ := trodAll_cons r1
  obtain ⟨v3, vs3, d3, ds3, p3, q3, rfl, rfl, rfl, h3, r3⟩ := trodAll_cons r2
  obtain ⟨rfl, rfl, rfl⟩ := trodAll_nil r3
  obtain rfl : args = #[v0, v1, v2, v3] := by cases args; simp_all
  obtain ⟨rfl, rfl⟩ := trodVars_none hV
  obtain ⟨a0, rfl, rfl, rfl, w0⟩ := open_int Tryd.underlying3 (hval 0 3 v0 rfl rfl) h0
  obtain ⟨a1, rfl, rfl, rfl, w1⟩ := open_int Tryd.underlying3 (hval 1 3 v1 rfl rfl) h1
  obtain ⟨a2, rfl, rfl, rfl, w2⟩ := open_int Tryd.underlying3 (hval 2 3 v2 rfl rfl) h2
  obtain ⟨a3, rfl, rfl, rfl, w3⟩ := open_int Tryd.underlying3 (hval 3 3 v3 rfl rfl) h3
  have hLaid : Cal.CLaid W := Cal.CLaid.of hL (fun _ => MakeChecks.laidMetH_plain _ _ _ (by kernel_rfl)) (List.mem_of_getElem? (i := 0) (by kernel_rfl)) (List.mem_of_getElem? (i := 1) (by kernel_rfl))
  clear hA0 hval0
  refine (walk a0 a1 a2 a3 W w0 w1 w2 w3 hLaid).mono fun e W' ⟨he, bel⟩ => ?_
  subst he
  exact ⟨_, rfl, _, _, _, [], _, [], hW', trodAll_mk1 (shut_bool Tryd.underlying4 _), (trodAll_cons_mk (shut_int Tryd.underlying3 w0) (trodAll_cons_mk (shut_int Tryd.underlying3 w1) (trodAll_cons_mk (shut_int Tryd.underlying3 w2) (trodAll_cons_mk (shut_int Tryd.underlying3 w3) trodAll_mk0)))), rfl, bel.frame _, fun h => by cases h⟩

theorem over : Rows.caldateBackRow.holds Tryd.pinned (OpenSpec.ofChange Rows.caldateBackSpec) :=
  OpenClaim.holds_of_wide 6 Tryd.f6 rfl rfl rfl rfl rfl rfl rfl ⟨rfl, rfl, rfl, rfl, rfl⟩ rfl rfl rfl rfl rfl (by kernel_rfl) Tryd.func6 (by kernel_rfl)
    (of_decide_eq_true (by kernel_rfl)) (by unfold Func.isWrapper; first | (rw [if_pos (by decide +kernel)]; kernel_rfl) | (rw [if_neg (by decide +kernel)]; exact ⟨rfl, rfl⟩))
    (fun os started H enc _ => lifted os started H enc)

theorem proved : Rows.CaldateBackCardSaid :=
  Claim7.holds_tied_plain_at .later [] Rows.caldateBackCard.laidKinds true Rows.caldateBackCard.stood.harness false over (fun _ h => by cases h) (by kernel_rfl) (fun _ h => by cases h) caldateBack_row_tie rfl ⟨rfl, rfl⟩ (by kernel_rfl) rfl
    (fun f fn hf hfn => by
      obtain rfl : f = 6 := Option.some.inj ((show Tryd.prog.funcNamed "henkan/henkanlaw04.CaldateBack" = some 6 by kernel_rfl).symm.trans hf) |>.symm
      obtain rfl : fn = Tryd.f6 := (Option.some.inj (Tryd.func6.symm.trans hfn)).symm
      exact ⟨by kernel_rfl, fun j t ht => by
        rw [Tryd.params6] at ht
        have hm : t ∈ ([3, 3, 3, 3] : List TypeId) := by simpa using Array.mem_of_getElem? ht
        have hall : (([3, 3, 3, 3] : List TypeId).all fun u => !Tryd.prog.wantsStandIn u) = true := by kernel_rfl
        exact (show Tryd.prog.wantsStandIn t = false by simpa using List.all_eq_true.1 hall t hm)⟩)
    (by kernel_rfl)
end Go.Proofs.YteelmjmiankflaaDoor.caldateBack
