/-
  CaldateUnique: the forms of a day are distinct, and those with a year are read as the day.
-/
import Derived.Test.YteelmjmiankflaaGreatDoorM11
import Derived.Test.YteelmjmiankflaaGreatDoorM13
import Derived.OpenShut
import Derived.ShutString
import Derived.ChangeOld
import Derived.LaidMore
import Derived.Lay
import Derived.SevenTiedAt
import Derived.SizedLaws
import Derived.Test.YteelmjmiankflaaGreatDoorCards
import Derived.Test.YteelmjmiankflaaGreatDoorTie
import Derived.Test.YteelmjmiankflaaGreatDoorM12
set_option linter.unusedVariables false
set_option linter.unusedSimpArgs false
namespace Go.Proofs.YteelmjmiankflaaGreatDoor.caldateUnique
open Go Go.RowKit Go.ChangeShapes Go.WideShapes Go.ChangeAt Go.Proofs.YteelmjmiankflaaGreatDoor Go.Proofs.YteelmjmiankflaaGreatDoor.Kit
open Go.ChangeMaps (open_string shut_string)
open Go.Proofs.YteelmjmiankflaaGreatDoor.Cal Go.Proofs.YteelmjmiankflaaGreatDoor.Num Go.Proofs.YteelmjmiankflaaGreatDoor.Utf

set_option maxRecDepth 100000 in
theorem in6 (a0 : Int) (L : List (List Int)) (F : Facts a0 L 6 4) (h1 : 1 ≤ a0) (h2 : a0 ≤ 3652059) (w : World) (hL : GLaid w) :
    Calls Tryz.prog 4 #[.int .i64 a0] w fun e w' => e = .returned (.bool true) ∧ Below w.heap.size w w' := by
  have H := Lib.hid F.forms
  have HGET := Lib.hid F.get
  obtain ⟨X, hX⟩ : ∃ X, strs L = X := ⟨_, rfl⟩
  rw [hX] at H HGET
  have HF := Lib.hid F
  have t1 : decide (a0 < 1) = false := by simp; omega
  have t2 : decide (3652059 < a0) = false := by simp; omega
  clear hX F h1 h2
  go_enter Tryz.func4, Tryz.ntmps4
  go_wp2_with (go_at_call 9; (with_reducible refine (H.out _ hL.f).mono ?_); rintro e w1 ⟨v, rfl, ho, hb1⟩; obtain ⟨a, cap, rfl⟩ := own_shape ho)
  obtain ⟨g, ha, _, hgs, _, _⟩ := own_cells ho (by omega)
  subst ha
  clear t1 t2
  go_loopw [4] (fun iv wr => ∃ i : Nat, iv = .int .i64 i ∧ i ≤ 6 ∧ wr.ownsRow w.heap.size 9 1 (.slice (some ⟨g, 0, none⟩) 6 cap) 6 X ∧ Below w.heap.size w wr) (fun iv _ => 6 + 1 - (intOf iv).toNat)
  case atStart => exact ⟨0, rfl, Nat.zero_le _, ho, hb1⟩
  case round =>
    obtain ⟨i, rfl, hi, hr, hb⟩ := hrel
    by_cases hlt : i < 6
    · have i0 : (0 : Int) ≤ i := by omega
      have i1 : (i : Int) < 6 := by omega
      have hci := HGET.out i hlt
      have hsz := HF.out.size i hlt
      have hap := fun k (hk : k < i) => HF.out.apart i k hk hlt
      have hy := HF.out.yes i
      have hn := fun (hq : 4 ≤ i) => HF.out.no i hq hlt
      obtain ⟨c, hc⟩ : ∃ c, tx (L.getD i []) = c := ⟨_, rfl⟩
      rw [hc] at hci hsz hap hy hn
      have HCI := Lib.hid hci
      have HA := Lib.hid hap
      have HY := Lib.hid (fun (hq : i < 4) => parse_yes hsz (hy hq))
      have HN := Lib.hid (fun (hq : 4 ≤ i) => parse_no hsz (hn hq))
      clear hci hap hy hn hc hsz
      go_wp2
      go_loopw [5] (fun kv wr => ∃ k : Nat, kv = .int .i64 k ∧ k ≤ i ∧ wr.ownsRow w.heap.size 9 1 (.slice (some ⟨g, 0, none⟩) 6 cap) 6 X ∧ Below w.heap.size w wr) (fun kv _ => i + 1 - (intOf kv).toNat)
      case atStart => exact ⟨0, rfl, Nat.zero_le _, hr, hb⟩
      case round =>
        obtain ⟨k, rfl, hk, hr2, hb2⟩ := hrel
        have hc1 := (hr2.cellAt i (by omega)).trans HCI.out
        have HR2 := Lib.hid hr2
        by_cases hki : k < i
        · have k0 : (0 : Int) ≤ k := by omega
          have k1 : (k : Int) < 6 := by omega
          have k2 : (k : Int) < i := by omega
          have hc2 := (hr2.cellAt k (by omega)).trans (HGET.out k (by omega))
          have hne := HA.out k hki
          obtain ⟨c', hc'⟩ : ∃ c', tx (L.getD k []) = c' := ⟨_, rfl⟩
          rw [hc'] at hc2 hne
          clear hc' hr2 HY HN
          go_wp2
          go_quiet (fail)
          go_wp2
          go_roundw
          case rel => exact ⟨k + 1, by go_num, by omega, own_later HR2.out (below_drews (Below.refl _ _) _), below_drews hb2 _⟩
          case measure => simp [intOf]; omega
        · obtain rfl : k = i := by omega
          by_cases hq : k < 4
          · have HP := Lib.hid (HY.out hq)
            have q1 : (k : Int) < 4 := by omega
            clear hr2 HY HN
            go_wp2_with (go_at_call 6; (with_reducible refine (HP.out _ (hL.next hb2)).mono ?_); rintro e w2 ⟨rfl, hb3⟩; have hr3 := own_later HR2.out hb3; have hb4 := hb2.trans (hb3.mono hb2.size); clear hb3)
            go_roundw
            case rel => exact ⟨k + 1, by go_num, by omega, hr3, hb4⟩
            case measure => simp [intOf]; omega
          · have HP := Lib.hid (HN.out (by omega))
            have q1 : ¬ (k : Int) < 4 := by omega
            clear hr2 HY HN
            go_wp2_with (go_at_call 6; (with_reducible refine (HP.out _ (hL.next hb2)).mono ?_); rintro e w2 ⟨rfl, hb3⟩; have hr3 := own_later HR2.out hb3; have hb4 := hb2.trans (hb3.mono hb2.size); clear hb3)
            go_roundw
            case rel => exact ⟨k + 1, by go_num, by omega, hr3, hb4⟩
            case measure => simp [intOf]; omega
    · obtain rfl : i = 6 := by omega
      clear hr
      go_wp2_with (go_at_call 8; (with_reducible refine (works_at _ (hL.f.era.base.next hb)).mono ?_); rintro e w1 ⟨rfl, hb5⟩; have hb6 := hb.trans (hb5.mono hb.size); clear hb5)
      go_ret
      exact ⟨rfl, hb6⟩

set_option maxRecDepth 100000 in
theorem in8 (a0 : Int) (L : List (List Int)) (F : Facts a0 L 8 6) (h1 : 1 ≤ a0) (h2 : a0 ≤ 3652059) (w : World) (hL : GLaid w) :
    Calls Tryz.prog 4 #[.int .i64 a0] w fun e w' => e = .returned (.bool true) ∧ Below w.heap.size w w' := by
  have H := Lib.hid F.forms
  have HGET := Lib.hid F.get
  obtain ⟨X, hX⟩ : ∃ X, strs L = X := ⟨_, rfl⟩
  rw [hX] at H HGET
  have HF := Lib.hid F
  have t1 : decide (a0 < 1) = false := by simp; omega
  have t2 : decide (3652059 < a0) = false := by simp; omega
  clear hX F h1 h2
  go_enter Tryz.func4, Tryz.ntmps4
  go_wp2_with (go_at_call 9; (with_reducible refine (H.out _ hL.f).mono ?_); rintro e w1 ⟨v, rfl, ho, hb1⟩; obtain ⟨a, cap, rfl⟩ := own_shape ho)
  obtain ⟨g, ha, _, hgs, _, _⟩ := own_cells ho (by omega)
  subst ha
  clear t1 t2
  go_loopw [4] (fun iv wr => ∃ i : Nat, iv = .int .i64 i ∧ i ≤ 8 ∧ wr.ownsRow w.heap.size 9 1 (.slice (some ⟨g, 0, none⟩) 8 cap) 8 X ∧ Below w.heap.size w wr) (fun iv _ => 8 + 1 - (intOf iv).toNat)
  case atStart => exact ⟨0, rfl, Nat.zero_le _, ho, hb1⟩
  case round =>
    obtain ⟨i, rfl, hi, hr, hb⟩ := hrel
    by_cases hlt : i < 8
    · have i0 : (0 : Int) ≤ i := by omega
      have i1 : (i : Int) < 8 := by omega
      have hci := HGET.out i hlt
      have hsz := HF.out.size i hlt
      have hap := fun k (hk : k < i) => HF.out.apart i k hk hlt
      have hy := HF.out.yes i
      have hn := fun (hq : 6 ≤ i) => HF.out.no i hq hlt
      obtain ⟨c, hc⟩ : ∃ c, tx (L.getD i []) = c := ⟨_, rfl⟩
      rw [hc] at hci hsz hap hy hn
      have HCI := Lib.hid hci
      have HA := Lib.hid hap
      have HY := Lib.hid (fun (hq : i < 6) => parse_yes hsz (hy hq))
      have HN := Lib.hid (fun (hq : 6 ≤ i) => parse_no hsz (hn hq))
      clear hci hap hy hn hc hsz
      go_wp2
      go_loopw [5] (fun kv wr => ∃ k : Nat, kv = .int .i64 k ∧ k ≤ i ∧ wr.ownsRow w.heap.size 9 1 (.slice (some ⟨g, 0, none⟩) 8 cap) 8 X ∧ Below w.heap.size w wr) (fun kv _ => i + 1 - (intOf kv).toNat)
      case atStart => exact ⟨0, rfl, Nat.zero_le _, hr, hb⟩
      case round =>
        obtain ⟨k, rfl, hk, hr2, hb2⟩ := hrel
        have hc1 := (hr2.cellAt i (by omega)).trans HCI.out
        have HR2 := Lib.hid hr2
        by_cases hki : k < i
        · have k0 : (0 : Int) ≤ k := by omega
          have k1 : (k : Int) < 8 := by omega
          have k2 : (k : Int) < i := by omega
          have hc2 := (hr2.cellAt k (by omega)).trans (HGET.out k (by omega))
          have hne := HA.out k hki
          obtain ⟨c', hc'⟩ : ∃ c', tx (L.getD k []) = c' := ⟨_, rfl⟩
          rw [hc'] at hc2 hne
          clear hc' hr2 HY HN
          go_wp2
          go_quiet (fail)
          go_wp2
          go_roundw
          case rel => exact ⟨k + 1, by go_num, by omega, own_later HR2.out (below_drews (Below.refl _ _) _), below_drews hb2 _⟩
          case measure => simp [intOf]; omega
        · obtain rfl : k = i := by omega
          by_cases hq : k < 6
          · have HP := Lib.hid (HY.out hq)
            have q1 : (k : Int) < 6 := by omega
            clear hr2 HY HN
            go_wp2_with (go_at_call 6; (with_reducible refine (HP.out _ (hL.next hb2)).mono ?_); rintro e w2 ⟨rfl, hb3⟩; have hr3 := own_later HR2.out hb3; have hb4 := hb2.trans (hb3.mono hb2.size); clear hb3)
            go_roundw
            case rel => exact ⟨k + 1, by go_num, by omega, hr3, hb4⟩
            case measure => simp [intOf]; omega
          · have HP := Lib.hid (HN.out (by omega))
            have q1 : ¬ (k : Int) < 6 := by omega
            clear hr2 HY HN
            go_wp2_with (go_at_call 6; (with_reducible refine (HP.out _ (hL.next hb2)).mono ?_); rintro e w2 ⟨rfl, hb3⟩; have hr3 := own_later HR2.out hb3; have hb4 := hb2.trans (hb3.mono hb2.size); clear hb3)
            go_roundw
            case rel => exact ⟨k + 1, by go_num, by omega, hr3, hb4⟩
            case measure => simp [intOf]; omega
    · obtain rfl : i = 8 := by omega
      clear hr
      go_wp2_with (go_at_call 8; (with_reducible refine (works_at _ (hL.f.era.base.next hb)).mono ?_); rintro e w1 ⟨rfl, hb5⟩; have hb6 := hb.trans (hb5.mono hb.size); clear hb5)
      go_ret
      exact ⟨rfl, hb6⟩

theorem walk_none (a0 : Int) (h : ¬ inR a0) (w : World) (hL : GLaid w) :
    Calls Tryz.prog 4 #[.int .i64 a0] w fun e w' => e = .returned (.bool true) ∧ Below w.heap.size w w' := by
  have hB : Below w.heap.size w w := Below.refl _ _
  have H1 := Lib.hid (forms_not a0 h w)
  have h3 : decide (a0 < 1) = true ∨ decide (a0 < 1) = false ∧ decide (3652059 < a0) = true := by unfold inR at h; simp; omega
  clear h
  rcases h3 with h3 | ⟨h3, h4⟩
  all_goals
    go_enter Tryz.func4, Tryz.ntmps4
    go_wp2_with (first
      | (go_at_call 9; (with_reducible refine H1.out.mono ?_); rintro e w1 ⟨rfl, hb⟩; have hB := hB.trans (hb.mono hB.size); clear hb)
      | (go_at_call 8; (with_reducible refine (works_at _ (hL.f.era.base.next hB)).mono ?_); rintro e w1 ⟨rfl, hb⟩; have hB := hB.trans (hb.mono hB.size); clear hb))
    go_ret
    exact ⟨rfl, hB⟩

theorem walk (a0 : Int) (w : World) (w0 : (Lit.int .i64 a0).wf = true) (hL : GLaid w) :
    Calls Tryz.prog 4 #[.int .i64 a0] w fun e w' => e = .returned (.bool true) ∧ Below w.heap.size w w' := by
  rcases dates a0 with ⟨h, hd⟩ | ⟨h, _⟩
  · obtain ⟨⟨g1, g2, g3, g4, g5, g6⟩, _⟩ := id hd
    obtain ⟨y, hy⟩ : ∃ y : Nat, dY a0 = y := ⟨(dY a0).toNat, by omega⟩
    obtain ⟨m, hm⟩ : ∃ m : Nat, dM a0 = m := ⟨(dM a0).toNat, by omega⟩
    obtain ⟨d, hdd⟩ : ∃ d : Nat, dD a0 = d := ⟨(dD a0).toNat, by omega⟩
    rw [hy, hm, hdd] at hd
    rcases facts hd with ⟨L, F⟩ | ⟨L, F⟩
    · exact in6 a0 L F h.1 h.2 w hL
    · exact in8 a0 L F h.1 h.2 w hL
  · exact walk_none a0 h w hL
theorem own : ownKnob Tryz.prog.godebug = none := by kernel_rfl
theorem laidOut : laidOutB Tryz.prog = true := by kernel_rfl

set_option maxRecDepth 100000 in
theorem lifted (os : Os) (started : os.Started) (H : Type) (enc : TypeId × Value → H) :
    ReturnsInHanded {} Tryz.checked os 4 .any (fun w args => (Rows.caldateUniqueSpec.pre enc Tryz.prog Tryz.f4 Rows.caldateUniqueRow.domain false w args ∧ laidMetH Tryz.prog Rows.caldateUniqueRow.laid w) ∧ sizedMet enc Tryz.prog Tryz.f4 (OpenSpec.ofChange Rows.caldateUniqueSpec) false w args)
      (Rows.caldateUniqueSpec.post enc Tryz.prog Tryz.f4 false true false false) := by
  refine returnsInHanded_of_change_and (C := Tryz.checked) (X := fun w _ => laidMetH Tryz.prog Rows.caldateUniqueRow.laid w) (fun _ _ _ hh h => h.of_heap hh) own started (by kernel_rfl) Tryz.func4
    (ChangeSpec.witness_shaped (enc := enc) (C := Tryz.checked) (os := os) (X := fun w _ => laidMetH Tryz.prog Rows.caldateUniqueRow.laid w) false (World.laidAll Tryz.prog os Rows.caldateUniqueRow.laid) #[.int .i64 0] 8 (World.laidAll_os _ _ _)
      (World.shaped_of_ZipB (by kernel_rfl) (by kernel_rfl)) (by kernel_rfl) (by kernel_rfl) (by kernel_rfl)
      (by rw [MakeChecks.laidMetH_plain _ _ _ (by kernel_rfl)]; exact laidMet_laidAll _ (by kernel_rfl) (by kernel_rfl))) ?_
  intro W base args ds gs before hval0 hW hcnd hsz0 hL _
  have hval : ∀ (j : Nat) t v, Tryz.f4.params[j]? = some t → args[j]? = some v → Value.okWide Tryz.prog W .any base t v := hval0
  have hW' := hW
  obtain ⟨p, q, hA0, hV, rfl, hfz, hnd⟩ := hW
  have hA : DataW.TrodAll enc Tryz.prog W 0 (fun _ => true) true Tryz.f4.params.toList args.toList ds p := hA0
  rw [Tryz.params4] at hA hval
  obtain ⟨v0, vs0, d0, ds0, p0, q0, hargs, rfl, rfl, h0, r0⟩ := trodAll_cons hA
  obtain ⟨rfl, rfl, rfl⟩ := trodAll_nil r0
  obtain rfl : args = #[v0] := by cases args; simp_all
  obtain ⟨rfl, rfl⟩ := trodVars_none hV
  obtain ⟨a0, rfl, rfl, rfl, w0⟩ := open_int Tryz.underlying3 (hval 0 3 v0 rfl rfl) h0
  have hLaid := Cal.GLaid.of (b1 := [118, 97, 108, 117, 101, 32, 111, 117, 116, 32, 111, 102, 32, 114, 97, 110, 103, 101]) (b2 := [105, 110, 118, 97, 108, 105, 100, 32, 115, 121, 110, 116, 97, 120]) hL (fun _ => MakeChecks.laidMetH_plain _ _ _ (by kernel_rfl)) (List.mem_of_getElem? (i := 2) (by kernel_rfl)) (List.mem_of_getElem? (i := 6) (by kernel_rfl)) (List.mem_of_getElem? (i := 7) (by kernel_rfl)) (List.mem_of_getElem? (i := 8) (by kernel_rfl)) (List.mem_of_getElem? (i := 9) (by kernel_rfl)) (List.mem_of_getElem? (i := 10) (by kernel_rfl)) (List.mem_of_getElem? (i := 11) (by kernel_rfl)) (List.mem_of_getElem? (i := 12) (by kernel_rfl)) (List.mem_of_getElem? (i := 13) (by kernel_rfl)) (List.mem_of_getElem? (i := 4) (by kernel_rfl)) (List.mem_of_getElem? (i := 5) (by kernel_rfl)) 
  clear hA0 hval0
  refine (walk a0 W w0 hLaid).mono fun e W' ⟨he, bel⟩ => ?_
  subst he
  exact ⟨_, rfl, _, _, _, [], _, [], hW', trodAll_mk1 (shut_bool Tryz.underlying4 _), (trodAll_cons_mk (shut_int Tryz.underlying3 w0) trodAll_mk0), rfl, bel.frame _, fun h => by cases h⟩

theorem over : Rows.caldateUniqueRow.holds Tryz.pinned (OpenSpec.ofChange Rows.caldateUniqueSpec) :=
  OpenClaim.holds_of_wide 4 Tryz.f4 rfl rfl rfl rfl rfl rfl rfl ⟨rfl, rfl, rfl, rfl, rfl⟩ rfl rfl rfl rfl rfl (by kernel_rfl) Tryz.func4 (by kernel_rfl)
    (of_decide_eq_true (by kernel_rfl)) (by unfold Func.isWrapper; first | (rw [if_pos (by decide +kernel)]; kernel_rfl) | (rw [if_neg (by decide +kernel)]; exact ⟨rfl, rfl⟩))
    (fun os started H enc _ => lifted os started H enc)

theorem proved : Rows.CaldateUniqueCardSaid :=
  Claim7.holds_tied_plain_at .later [] Rows.caldateUniqueCard.laidKinds true Rows.caldateUniqueCard.stood.harness true over (fun _ h => by cases h) (by kernel_rfl) (fun _ h => by cases h) caldateUnique_row_tie rfl ⟨rfl, rfl⟩ (by kernel_rfl) rfl
    (fun f fn hf hfn => by
      obtain rfl : f = 4 := Option.some.inj ((show Tryz.prog.funcNamed "henkan/henkanlaw04.CaldateUnique" = some 4 by kernel_rfl).symm.trans hf) |>.symm
      obtain rfl : fn = Tryz.f4 := (Option.some.inj (Tryz.func4.symm.trans hfn)).symm
      exact ⟨by kernel_rfl, fun j t ht => by
        rw [Tryz.params4] at ht
        have hm : t ∈ ([3] : List TypeId) := by simpa using Array.mem_of_getElem? ht
        have hall : (([3] : List TypeId).all fun u => !Tryz.prog.wantsStandIn u) = true := by kernel_rfl
        exact (show Tryz.prog.wantsStandIn t = false by simpa using List.all_eq_true.1 hall t hm)⟩)
    (by kernel_rfl)
end Go.Proofs.YteelmjmiankflaaGreatDoor.caldateUnique
