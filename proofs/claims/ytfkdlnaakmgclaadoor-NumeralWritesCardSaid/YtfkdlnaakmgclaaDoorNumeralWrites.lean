/-
  NumeralWrites returns true for every string: Kanji, Positional, Formal and Commas agree with the reference. Conditions: the tables of package numeral as start-up code lays them.
-/
import Derived.Test.YtfkdlnaakmgclaaDoorNumW
import Derived.OpenShut
import Derived.ShutString
import Derived.ChangeOld
import Derived.LaidMore
import Derived.Lay
import Derived.SevenTiedAt
import Derived.SizedLaws
import Derived.Test.YtfkdlnaakmgclaaDoorCards
import Derived.Test.YtfkdlnaakmgclaaDoorTie
import Derived.Test.YtfkdlnaakmgclaaDoorNumO
set_option linter.unusedVariables false
set_option linter.unusedSimpArgs false
namespace Go.Proofs.YtfkdlnaakmgclaaDoor.numeralWrites
open Go Go.RowKit Go.ChangeShapes Go.WideShapes Go.ChangeAt Go.Proofs.YtfkdlnaakmgclaaDoor Go.Proofs.YtfkdlnaakmgclaaDoor.Kit
open Go.ChangeMaps (open_string shut_string)
open Go.Proofs.YtfkdlnaakmgclaaDoor.Num Go.Proofs.YtfkdlnaakmgclaaDoor.Utf

theorem walk (a0 : ByteArray) (w : World) (w0 : a0.size ≤ maxLen) (s0 : a0.size ≤ 140737488351232) (hL : Laid w) :
    Calls Tryd.prog 3 #[.string a0] w fun e w' => e = .returned (.bool true) ∧ Below w.heap.size w w' := by
  have hB : Below w.heap.size w w := Below.refl _ _
  have h1 := Lib.hid (fun w hL => kanji_any a0 w w0 hL)
  have h2 := Lib.hid (fun w hL => rkanji_any a0 w w0 hL)
  have h3 := Lib.hid (fun w hL => pos_any a0 w w0 hL)
  have h4 := Lib.hid (fun w hL => rpos_any a0 w w0 hL)
  have h5 := Lib.hid (fun w hL => formal_any a0 w w0 hL)
  have h6 := Lib.hid (fun w hL => rform_any a0 w w0 hL)
  have h7 := Lib.hid (fun w hL => commas_any a0 w w0 hL)
  have h8 := Lib.hid (fun w hL => rcommas_any a0 w w0 hL)
  have t1 := same_toList (wOut kanjiC a0)
  have t2 := same_toList (wOut posC a0)
  have t3 := same_toList (wOut formC a0)
  have t4 := same_toList (wOut commaC a0)
  clear w0 s0
  obtain ⟨o1, e1⟩ : ∃ o, wOut kanjiC a0 = o := ⟨_, rfl⟩
  obtain ⟨o2, e2⟩ : ∃ o, wOut posC a0 = o := ⟨_, rfl⟩
  obtain ⟨o3, e3⟩ : ∃ o, wOut formC a0 = o := ⟨_, rfl⟩
  obtain ⟨o4, e4⟩ : ∃ o, wOut commaC a0 = o := ⟨_, rfl⟩
  rw [e1] at h1 h2 t1
  rw [e2] at h3 h4 t2
  rw [e3] at h5 h6 t3
  rw [e4] at h7 h8 t4
  obtain ⟨b, eb⟩ : ∃ b, isDec a0 = b := ⟨_, rfl⟩
  rw [eb] at h1 h2 h3 h4 h5 h6 h7 h8
  clear e1 e2 e3 e4 eb
  cases b
  all_goals
    go_enter Tryd.func3, Tryd.ntmps3
    go_wp2_with (first
      | (go_at_call 12; refine (h1.out _ (hL.next hB)).mono ?_; rintro e w1 ⟨rfl, hb⟩; have hB := hB.trans (hb.mono hB.size); clear hb)
      | (go_at_call 13; refine (h2.out _ (hL.next hB)).mono ?_; rintro e w1 ⟨rfl, hb⟩; have hB := hB.trans (hb.mono hB.size); clear hb)
      | (go_at_call 14; refine (h3.out _ (hL.next hB)).mono ?_; rintro e w1 ⟨rfl, hb⟩; have hB := hB.trans (hb.mono hB.size); clear hb)
      | (go_at_call 15; refine (h4.out _ (hL.next hB)).mono ?_; rintro e w1 ⟨rfl, hb⟩; have hB := hB.trans (hb.mono hB.size); clear hb)
      | (go_at_call 16; refine (h5.out _ (hL.next hB)).mono ?_; rintro e w1 ⟨rfl, hb⟩; have hB := hB.trans (hb.mono hB.size); clear hb)
      | (go_at_call 17; refine (h6.out _ (hL.next hB)).mono ?_; rintro e w1 ⟨rfl, hb⟩; have hB := hB.trans (hb.mono hB.size); clear hb)
      | (go_at_call 18; refine (h7.out _ (hL.next hB)).mono ?_; rintro e w1 ⟨rfl, hb⟩; have hB := hB.trans (hb.mono hB.size); clear hb)
      | (go_at_call 19; refine (h8.out _ (hL.next hB)).mono ?_; rintro e w1 ⟨rfl, hb⟩; have hB := hB.trans (hb.mono hB.size); clear hb)
      | (go_at_call 20; refine (works_any _ (hL.next hB)).mono ?_; rintro e w1 ⟨rfl, hb⟩; have hB := hB.trans (hb.mono hB.size); clear hb))
    go_ret
    exact ⟨rfl, hB⟩
theorem own : ownKnob Tryd.prog.godebug = none := by kernel_rfl
theorem laidOut : laidOutB Tryd.prog = true := by kernel_rfl

set_option maxRecDepth 100000 in
theorem lifted (os : Os) (started : os.Started) (H : Type) (enc : TypeId × Value → H) :
    ReturnsInHanded {} Tryd.checked os 3 .any (fun w args => (Rows.numeralWritesSpec.pre enc Tryd.prog Tryd.f3 Rows.numeralWritesRow.domain false w args ∧ laidMetH Tryd.prog Rows.numeralWritesRow.laid w) ∧ sizedMet enc Tryd.prog Tryd.f3 (OpenSpec.ofChange Rows.numeralWritesSpec) false w args)
      (Rows.numeralWritesSpec.post enc Tryd.prog Tryd.f3 false true false false) := by
  refine returnsInHanded_of_change_and (C := Tryd.checked) (X := fun w _ => laidMetH Tryd.prog Rows.numeralWritesRow.laid w) (fun _ _ _ hh h => h.of_heap hh) own started (by kernel_rfl) Tryd.func3
    (ChangeSpec.witness_shaped (enc := enc) (C := Tryd.checked) (os := os) (X := fun w _ => laidMetH Tryd.prog Rows.numeralWritesRow.laid w) false (World.laidAll Tryd.prog os Rows.numeralWritesRow.laid) #[.string ByteArray.empty] 8 (World.laidAll_os _ _ _)
      (World.shaped_of_ZipB (by kernel_rfl) (by kernel_rfl)) (by kernel_rfl) (by kernel_rfl) (by kernel_rfl)
      (by rw [MakeChecks.laidMetH_plain _ _ _ (by kernel_rfl)]; exact laidMet_laidAll _ (by kernel_rfl) (by kernel_rfl))) ?_
  intro W base args ds gs before hval0 hW hcnd hsz0 hL _
  have hval : ∀ (j : Nat) t v, Tryd.f3.params[j]? = some t → args[j]? = some v → Value.okWide Tryd.prog W .any base t v := hval0
  have hW' := hW
  obtain ⟨p, q, hA0, hV, rfl, hfz, hnd⟩ := hW
  have hA : DataW.TrodAll enc Tryd.prog W 0 (fun _ => true) true Tryd.f3.params.toList args.toList ds p := hA0
  rw [Tryd.params3] at hA hval
  obtain ⟨v0, vs0, d0, ds0, p0, q0, hargs, rfl, rfl, h0, r0⟩ := trodAll_cons hA
  obtain ⟨rfl, rfl, rfl⟩ := trodAll_nil r0
  obtain rfl : args = #[v0] := by cases args; simp_all
  obtain ⟨rfl, rfl⟩ := trodVars_none hV
  obtain ⟨a0, rfl, rfl, rfl, w0⟩ := open_string Tryd.underlying9 (hval 0 9 v0 rfl rfl) h0
  have hsz : (DataW.weightsEach Tryd.prog (Tryd.f3.params.toList ++ Rows.numeralWritesSpec.plain.varTypes Tryd.prog) (_ ++ _)).all (· ≤ reachBytes) = true := hsz0
  rw [Tryd.params3] at hsz
  have sz0 := sized_string hsz (j := 0) (t := 9) rfl rfl
  have hLaid : Laid W := Laid.of hL (fun _ => MakeChecks.laidMetH_plain _ _ _ (by kernel_rfl))
    (List.mem_of_getElem? (i := 4) (by kernel_rfl)) (List.mem_of_getElem? (i := 5) (by kernel_rfl)) (List.mem_of_getElem? (i := 6) (by kernel_rfl)) (List.mem_of_getElem? (i := 7) (by kernel_rfl)) (List.mem_of_getElem? (i := 8) (by kernel_rfl))
  clear hA0 hval0
  refine (walk a0 W w0 (by have := sz0; simp only [reachBytes, Array.length_toList] at this; exact this) hLaid).mono fun e W' ⟨he, bel⟩ => ?_
  subst he
  exact ⟨_, rfl, _, _, _, [], _, [], hW', trodAll_mk1 (shut_bool Tryd.underlying4 _), (trodAll_cons_mk (shut_string Tryd.underlying9 w0) trodAll_mk0), rfl, bel.frame _, fun h => by cases h⟩

theorem over : Rows.numeralWritesRow.holds Tryd.pinned (OpenSpec.ofChange Rows.numeralWritesSpec) :=
  OpenClaim.holds_of_wide 3 Tryd.f3 rfl rfl rfl rfl rfl rfl rfl ⟨rfl, rfl, rfl, rfl, rfl⟩ rfl rfl rfl rfl rfl (by kernel_rfl) Tryd.func3 (by kernel_rfl)
    (of_decide_eq_true (by kernel_rfl)) (by unfold Func.isWrapper; first | (rw [if_pos (by decide +kernel)]; kernel_rfl) | (rw [if_neg (by decide +kernel)]; exact ⟨rfl, rfl⟩))
    (fun os started H enc _ => lifted os started H enc)

theorem proved : Rows.NumeralWritesCardSaid :=
  Claim7.holds_tied_plain_at .later [] Rows.numeralWritesCard.laidKinds true Rows.numeralWritesCard.stood.harness false over (fun _ h => by cases h) (by kernel_rfl) (fun _ h => by cases h) numeralWrites_row_tie rfl ⟨rfl, rfl⟩ (by kernel_rfl) rfl
    (fun f fn hf hfn => by
      obtain rfl : f = 3 := Option.some.inj ((show Tryd.prog.funcNamed "henkan/henkanlaw03.NumeralWrites" = some 3 by kernel_rfl).symm.trans hf) |>.symm
      obtain rfl : fn = Tryd.f3 := (Option.some.inj (Tryd.func3.symm.trans hfn)).symm
      exact ⟨by kernel_rfl, fun j t ht => by
        rw [Tryd.params3] at ht
        have hm : t ∈ ([9] : List TypeId) := by simpa using Array.mem_of_getElem? ht
        have hall : (([9] : List TypeId).all fun u => !Tryd.prog.wantsStandIn u) = true := by kernel_rfl
        exact (show Tryd.prog.wantsStandIn t = false by simpa using List.all_eq_true.1 hall t hm)⟩)
    (by kernel_rfl)
end Go.Proofs.YtfkdlnaakmgclaaDoor.numeralWrites
