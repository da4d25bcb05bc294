/-
  RomanOrders: whether rules are allowed does not depend on their order, and a part of allowed rules is allowed. Conditions: none.
-/
import Derived.Test.YtpaeppklkicngaaDoorRomW
import Derived.Test.YtpaeppklkicngaaDoorRomO
import Derived.Test.YtpaeppklkicngaaDoorRomFr
import Derived.OpenShut
import Derived.ShutString
import Derived.ChangeOld
import Derived.LaidMore
import Derived.Lay
import Derived.SevenTiedAt
import Derived.SizedLaws
import Derived.Test.YtpaeppklkicngaaDoorCards
import Derived.Test.YtpaeppklkicngaaDoorTie
set_option linter.unusedVariables false
set_option linter.unusedSimpArgs false
namespace Go.Proofs.YtpaeppklkicngaaDoor.romanOrders
open Go Go.RowKit Go.ChangeShapes Go.WideShapes Go.ChangeAt Go.Proofs.YtpaeppklkicngaaDoor Go.Proofs.YtpaeppklkicngaaDoor.Kit
open Go.ChangeMaps (open_string shut_string)
open Go.Proofs.YtpaeppklkicngaaDoor.Utf Go.Proofs.YtpaeppklkicngaaDoor.Rom
set_option maxRecDepth 100000

theorem wf_u8 {n : Int} (h : (Lit.int .u8 n).wf = true) : 0 ≤ n ∧ n ≤ 255 := by
  simp [Lit.wf, IntKind.min, IntKind.max, IntKind.signed, IntKind.bits] at h; omega
theorem own_empty3 (w : World) (e : TypeId) (base B size : Nat) (hB : B = w.heap.size) (hb : base ≤ w.heap.size) : (w.alloc (.cells #[] e)).ownsRow base e size (.slice (some ⟨B, 0, none⟩) 0 0) 0 [] := Go.Proofs.YtpaeppklkicngaaDoor.Kit.own_empty w e base B size hB hb

set_option maxHeartbeats 8000000 in
theorem walk (a0 : Option Addr) (len0 cap0 : Nat) (z0 : List Rule) (a1 : Int) (w : World) (w0 : RowR w (.slice a0 len0 cap0) z0) (w1 : (Lit.int .u8 a1).wf = true) :
    Calls Tryd.prog 9 #[.slice a0 len0 cap0, .int .u8 a1] w fun e w' => e = .returned (.bool true) ∧ Below w.heap.size w w' := by
  have b1 : 0 ≤ a1 ∧ a1 ≤ 255 := wf_u8 w1
  clear w1
  obtain ⟨hl0, hlc, hcm⟩ := w0.len
  subst hl0
  have HFEW := Lib.hid (few_ok (.slice a0 z0.length cap0) z0 w w0)
  by_cases hl200 : z0.length ≤ 200
  rotate_left
  · go_enter Tryd.func9, Tryd.ntmps9
    go_wp2_with (go_at_call 15; (refine HFEW.out.mono ?_); rintro e w1 ⟨x, rfl, hx, hw1⟩; obtain rfl := hw1.symm; cases x)
    all_goals first
      | exact absurd hx.len hl200
      | (go_ret; exact ⟨rfl, Below.refl _ _⟩)
  obtain ⟨k, hk⟩ : ∃ k : Nat, a1.tmod (z0.length + 1) = (k : Int) := ⟨(a1.tmod ((z0.length : Int) + 1)).toNat, by
    rw [Int.tmod_eq_emod_of_nonneg b1.1]
    have := Int.emod_nonneg a1 (show ((z0.length : Int) + 1) ≠ 0 by omega)
    omega⟩
  have hkl : k ≤ z0.length := by
    rw [Int.tmod_eq_emod_of_nonneg b1.1] at hk
    have := Int.emod_lt_of_pos a1 (show (0 : Int) < (z0.length : Int) + 1 by omega)
    omega
  obtain ⟨x1, hs1, hx1⟩ := slice_on w0 hkl
  obtain ⟨x2, hs2, hx2⟩ := slice_upto w0 hkl
  have HR := Lib.hid w0
  have HR1 := Lib.hid hx1
  have HR2 := Lib.hid hx2
  clear w0 hx1 hx2
  have hb := Below.refl w.heap.size w
  have hl1 : ¬ ((z0.length : Int) + 1 = 0) := by omega
  have hl2 : ((z0.length : Int) + 1 == 0) = false := by simpa using hl1
  have hlw : wrap64 ((z0.length : Int) + 1) = (z0.length : Int) + 1 := IntWalk.wrap64_in _ ⟨by omega, by omega⟩
  have HG := Lib.hid (fun W h hR => given_ok (.slice a0 z0.length cap0) z0 W h hR)
  have HGT := Lib.hid (fun v W h hR => given_ok v (z0.drop k ++ z0.take k) W h hR)
  have HG1 := Lib.hid (fun W h hR => given_ok x1 (z0.drop k) W h hR)
  have HG2 := Lib.hid (fun W h hR => given_ok x2 (z0.take k) W h hR)
  have HC := fun v W hR hs => check_any v z0 W hR hs
  have HCT := fun v W hR hs => check_any v (z0.drop k ++ z0.take k) W hR hs
  have HC1 := fun v W hR hs => check_any v (z0.drop k) W hR hs
  have HC2 := fun v W hR hs => check_any v (z0.take k) W hR hs
  have HW := Lib.hid works_any
  rw [check_turned] at HCT
  have hsm : FewOK true z0 → checkL z0 = 0 ∨ checkL z0 = 50 := fun h => check_small h.len
  have hp1 : checkL z0 = 0 → checkL (z0.drop k) = 0 := fun h => check_part h (by simp) okL_drop
  have hp2 : checkL z0 = 0 → checkL (z0.take k) = 0 := fun h => check_part h (by simp; omega) okL_take
  have HFT := Lib.hid (show FewOK true z0 → FewOK true (z0.drop k ++ z0.take k) from fun h => h.sub (by simp; omega) (fun r hr => by
    rcases List.mem_append.1 hr with hr | hr
    · exact List.mem_of_mem_drop hr
    · exact List.mem_of_mem_take hr))
  have HF1 := Lib.hid (show FewOK true z0 → FewOK true (z0.drop k) from fun h => h.sub (by simp) (fun r hr => List.mem_of_mem_drop hr))
  have HF2 := Lib.hid (show FewOK true z0 → FewOK true (z0.take k) from fun h => h.sub (by simp; omega) (fun r hr => List.mem_of_mem_take hr))
  have HLEN := Lib.hid (show (z0.drop k).length = z0.length - k ∧ (z0.take k).length = k from ⟨by simp, by simp; omega⟩)
  obtain ⟨E, hE⟩ : ∃ E, checkL z0 = E := ⟨_, rfl⟩
  rw [hE] at HC HCT hsm hp1 hp2
  clear hE
  replace HC := Lib.hid HC
  replace HCT := Lib.hid HCT
  have HSM := Lib.hid hsm
  have HP1 := Lib.hid hp1
  have HP2 := Lib.hid hp2
  replace HC1 := Lib.hid HC1
  replace HC2 := Lib.hid HC2
  clear hsm hp1 hp2
  go_enter Tryd.func9, Tryd.ntmps9
  go_wp2_with (go_at_call 15; (refine HFEW.out.mono ?_); rintro e w1 ⟨x, rfl, hx, hw1⟩; obtain rfl := hw1.symm; cases x)
  · go_ret
    exact ⟨rfl, hb⟩
  have hbA : ∀ o, Below w.heap.size w ((w.alloc o).drew) := fun o => ((Below.refl _ _).alloc (Nat.le_refl _) _).drew
  have hbB : ∀ o, Below w.heap.size w (w.drew.alloc o) := fun o => (Below.refl w.heap.size w).drew.alloc (Nat.le_refl _) _
  have HBA := Lib.hid hbA
  have HBB := Lib.hid hbB
  clear hbA hbB
  go_region_held3 (fun w' => Below w.heap.size w w')
    (first
      | exact hB2
      | exact hB1
      | exact HBA.out _
      | exact HBB.out _
      | exact (Below.refl w.heap.size w).drew
      | exact hb)
    (first
      | (refine step_append_row _ (by rfl) _ _ (by rfl) w.heap.size (.slice (some ⟨w.heap.size, 0, none⟩) 0 0) 0 [] (by rfl) (by first | exact (own_empty3 w _ _ _ _ rfl (Nat.le_refl _)).drew | exact own_empty3 w.drew _ _ _ _ rfl (Nat.le_refl _)) x1 (z0.drop k) (by rfl) (HR1.out.later (by first | exact HBA.out _ | exact HBB.out _) (Nat.le_refl _)) (by have := HLEN.out.1; omega) (by simp) ?_
         intro v1 w1 hown1 hg1
         have hB1 : Below w.heap.size w w1 := (by first | exact Below.grown (HBA.out _) hg1 (by simp) (fun j hj => by simp [Value.ownBlock] at hj; omega) | exact Below.grown (HBB.out _) hg1 (by simp) (fun j hj => by simp [Value.ownBlock] at hj; omega)))
      | (refine step_append_row _ (by rfl) _ _ (by rfl) w.heap.size v1 _ _ (by rfl) hown1 x2 (z0.take k) (by rfl) (HR2.out.later hB1 (Nat.le_refl _)) (by have := HLEN.out; omega) hB1.size ?_
         intro v2 w2 hown2 hg2
         have hB2 : Below w.heap.size w w2 := below_own hB1 hown1 (Nat.le_refl _) hB1.size hg2))
  all_goals
    rename_i hH
    clear hH hg1 hg2
    have hRT := (row_of_own (rs := z0.drop k ++ z0.take k) (by rw [rc_append]; exact hown2)).1
    have hb := hB2
    clear hown1 hown2 hB1 hB2
    rcases HSM.out hx with rfl | rfl
    · replace HC1 := HC1.out
      replace HC2 := HC2.out
      rw [HP1.out rfl] at HC1
      rw [HP2.out rfl] at HC2
      replace HC1 := Lib.hid HC1
      replace HC2 := Lib.hid HC2
      clear HP1 HP2 HSM
      go_wp2_with (first
        | (go_at_call 16; (with_reducible refine (HG.out _ hx (HR.out.later hb (Nat.le_refl _))).mono ?_); rintro e w3 ⟨g1, rfl, hg1, hb3⟩; have hb := hb.trans (hb3.mono hb.size); have hRT := hRT.later hb3 (Nat.le_refl _); clear HG)
        | (go_at_call 19; (with_reducible refine (HC.out _ _ hg1 hx.short).mono ?_); rintro e w4 ⟨rfl, hb4⟩; have hb := hb.trans (hb4.mono hb.size); have hRT := hRT.later hb4 (Nat.le_refl _); clear HC)
        | (go_at_call 16; (with_reducible refine (HGT.out _ _ (HFT.out hx) hRT).mono ?_); rintro e w5 ⟨g2, rfl, hg2, hb5⟩; have hb := hb.trans (hb5.mono hb.size); clear HGT)
        | (go_at_call 19; (with_reducible refine (HCT.out _ _ hg2 (HFT.out hx).short).mono ?_); rintro e w6 ⟨rfl, hb6⟩; have hb := hb.trans (hb6.mono hb.size); clear HCT)
        | (go_at_call 16; (with_reducible refine (HG2.out _ (HF2.out hx) (HR2.out.later hb (Nat.le_refl _))).mono ?_); rintro e w7 ⟨g3, rfl, hg3, hb7⟩; have hb := hb.trans (hb7.mono hb.size); clear HG2)
        | (go_at_call 19; (with_reducible refine (HC2.out _ _ hg3 (HF2.out hx).short).mono ?_); rintro e w8 ⟨rfl, hb8⟩; have hb := hb.trans (hb8.mono hb.size); clear HC2)
        | (go_at_call 16; (with_reducible refine (HG1.out _ (HF1.out hx) (HR1.out.later hb (Nat.le_refl _))).mono ?_); rintro e w9 ⟨g4, rfl, hg4, hb9⟩; have hb := hb.trans (hb9.mono hb.size); clear HG1)
        | (go_at_call 19; (with_reducible refine (HC1.out _ _ hg4 (HF1.out hx).short).mono ?_); rintro e w10 ⟨rfl, hb10⟩; have hb := hb.trans (hb10.mono hb.size); clear HC1)
        | (go_at_call 14; (with_reducible refine (HW.out _).mono ?_); rintro e w11 ⟨rfl, hb11⟩; have hb := hb.trans (hb11.mono hb.size)))
      all_goals go_ret
      all_goals exact ⟨rfl, hb⟩
    · clear HP1 HP2 HSM HC1 HC2
      go_wp2_with (first
        | (go_at_call 16; (with_reducible refine (HG.out _ hx (HR.out.later hb (Nat.le_refl _))).mono ?_); rintro e w3 ⟨g1, rfl, hg1, hb3⟩; have hb := hb.trans (hb3.mono hb.size); have hRT := hRT.later hb3 (Nat.le_refl _); clear HG)
        | (go_at_call 19; (with_reducible refine (HC.out _ _ hg1 hx.short).mono ?_); rintro e w4 ⟨rfl, hb4⟩; have hb := hb.trans (hb4.mono hb.size); have hRT := hRT.later hb4 (Nat.le_refl _); clear HC)
        | (go_at_call 16; (with_reducible refine (HGT.out _ _ (HFT.out hx) hRT).mono ?_); rintro e w5 ⟨g2, rfl, hg2, hb5⟩; have hb := hb.trans (hb5.mono hb.size); clear HGT)
        | (go_at_call 19; (with_reducible refine (HCT.out _ _ hg2 (HFT.out hx).short).mono ?_); rintro e w6 ⟨rfl, hb6⟩; have hb := hb.trans (hb6.mono hb.size); clear HCT)
        | (go_at_call 16; (with_reducible refine (HG2.out _ (HF2.out hx) (HR2.out.later hb (Nat.le_refl _))).mono ?_); rintro e w7 ⟨g3, rfl, hg3, hb7⟩; have hb := hb.trans (hb7.mono hb.size); clear HG2)
        | (go_at_call 19; (with_reducible refine (HC2.out _ _ hg3 (HF2.out hx).short).mono ?_); rintro e w8 ⟨rfl, hb8⟩; have hb := hb.trans (hb8.mono hb.size); clear HC2)
        | (go_at_call 16; (with_reducible refine (HG1.out _ (HF1.out hx) (HR1.out.later hb (Nat.le_refl _))).mono ?_); rintro e w9 ⟨g4, rfl, hg4, hb9⟩; have hb := hb.trans (hb9.mono hb.size); clear HG1)
        | (go_at_call 19; (with_reducible refine (HC1.out _ _ hg4 (HF1.out hx).short).mono ?_); rintro e w10 ⟨rfl, hb10⟩; have hb := hb.trans (hb10.mono hb.size); clear HC1)
        | (go_at_call 14; (with_reducible refine (HW.out _).mono ?_); rintro e w11 ⟨rfl, hb11⟩; have hb := hb.trans (hb11.mono hb.size)))
      all_goals go_ret
      all_goals exact ⟨rfl, hb⟩
theorem own : ownKnob Tryd.prog.godebug = none := by kernel_rfl
theorem laidOut : laidOutB Tryd.prog = true := by kernel_rfl

set_option maxRecDepth 100000 in
theorem lifted (os : Os) (started : os.Started) (H : Type) (enc : TypeId × Value → H) :
    ReturnsInHanded {} Tryd.checked os 9 .any (fun w args => (Rows.romanOrdersSpec.pre enc Tryd.prog Tryd.f9 Rows.romanOrdersRow.domain false w args ∧ laidMetH Tryd.prog Rows.romanOrdersRow.laid w) ∧ sizedMet enc Tryd.prog Tryd.f9 (OpenSpec.ofChange Rows.romanOrdersSpec) false w args)
      (Rows.romanOrdersSpec.post enc Tryd.prog Tryd.f9 false true false false) := by
  refine returnsInHanded_of_change_and (C := Tryd.checked) (X := fun w _ => laidMetH Tryd.prog Rows.romanOrdersRow.laid w) (fun _ _ _ hh h => h.of_heap hh) own started (by kernel_rfl) Tryd.func9
    (ChangeSpec.witness_shaped (enc := enc) (C := Tryd.checked) (os := os) (X := fun w _ => laidMetH Tryd.prog Rows.romanOrdersRow.laid w) false (World.laidAll Tryd.prog os Rows.romanOrdersRow.laid) #[.slice none 0 0, .int .u8 0] 8 (World.laidAll_os _ _ _)
      (World.shaped_of_ZipB (by kernel_rfl) (by kernel_rfl)) (by kernel_rfl) (by kernel_rfl) (by kernel_rfl)
      (by rw [MakeChecks.laidMetH_plain _ _ _ (by kernel_rfl)]; exact laidMet_laidAll _ (by kernel_rfl) (by kernel_rfl))) ?_
  intro W base args ds gs before hval0 hW hcnd hsz0 hL _
  have hval : ∀ (j : Nat) t v, Tryd.f9.params[j]? = some t → args[j]? = some v → Value.okWide Tryd.prog W .any base t v := hval0
  have hW' := hW
  obtain ⟨p, q, hA0, hV, rfl, hfz, hnd⟩ := hW
  have hA : DataW.TrodAll enc Tryd.prog W 0 (fun _ => true) true Tryd.f9.params.toList args.toList ds p := hA0
  rw [Tryd.params9] at hA hval
  obtain ⟨v0, vs0, d0, ds0, p0, q0, hargs, rfl, rfl, h0, r0⟩ := trodAll_cons hA
  obtain ⟨v1, vs1, d1, ds1, p1, q1, rfl, rfl, rfl, h1, r1⟩ := trodAll_cons r0
  obtain ⟨rfl, rfl, rfl⟩ := trodAll_nil r1
  obtain rfl : args = #[v0, v1] := by cases args; simp_all
  obtain ⟨rfl, rfl⟩ := trodVars_none hV
  obtain ⟨a0, len0, cap0, rfl⟩ := okWide_slice Tryd.underlying26 (hval 0 26 v0 rfl rfl)
  have k0 := h0
  have lt0 : ∀ x ∈ p0, x.block < W.heap.size := by obtain ⟨m, hm⟩ := k0; exact DataW.trod_lt m _ _ _ hm
  obtain ⟨z0, w0⟩ : ∃ rs, RowR W (.slice a0 len0 cap0) rs := by
    obtain ⟨fuel, hf⟩ := h0
    exact rules_open hf
  obtain ⟨a1, rfl, rfl, rfl, w1⟩ := open_int Tryd.underlying5 (hval 1 5 v1 rfl rfl) h1
  skip
  clear hA0 hval0
  refine (walk a0 len0 cap0 z0 a1 W w0 w1).mono fun e W' ⟨he, bel⟩ => ?_
  subst he
  exact ⟨_, rfl, _, _, _, [], _, [], hW', trodAll_mk1 (shut_bool Tryd.underlying4 _), (trodAll_cons_mk (Below.trod laidOut (by kernel_rfl) (of_decide_eq_true (by kernel_rfl)) k0 bel lt0) (trodAll_cons_mk (shut_int Tryd.underlying5 w1) trodAll_mk0)), rfl, bel.frame _, fun h => by cases h⟩

theorem over : Rows.romanOrdersRow.holds Tryd.pinned (OpenSpec.ofChange Rows.romanOrdersSpec) :=
  OpenClaim.holds_of_wide 9 Tryd.f9 rfl rfl rfl rfl rfl rfl rfl ⟨rfl, rfl, rfl, rfl, rfl⟩ rfl rfl rfl rfl rfl (by kernel_rfl) Tryd.func9 (by kernel_rfl)
    (of_decide_eq_true (by kernel_rfl)) (by unfold Func.isWrapper; first | (rw [if_pos (by decide +kernel)]; kernel_rfl) | (rw [if_neg (by decide +kernel)]; exact ⟨rfl, rfl⟩))
    (fun os started H enc _ => lifted os started H enc)

theorem proved : Rows.RomanOrdersCardSaid :=
  Claim7.holds_tied_plain_at .later [] Rows.romanOrdersCard.laidKinds true Rows.romanOrdersCard.stood.harness false over (fun _ h => by cases h) (by kernel_rfl) (fun _ h => by cases h) romanOrders_row_tie rfl ⟨rfl, rfl⟩ (by kernel_rfl) rfl
    (fun f fn hf hfn => by
      obtain rfl : f = 9 := Option.some.inj ((show Tryd.prog.funcNamed "henkan/henkanlaw05.RomanOrders" = some 9 by kernel_rfl).symm.trans hf) |>.symm
      obtain rfl : fn = Tryd.f9 := (Option.some.inj (Tryd.func9.symm.trans hfn)).symm
      exact ⟨by kernel_rfl, fun j t ht => by
        rw [Tryd.params9] at ht
        have hm : t ∈ ([26, 5] : List TypeId) := by simpa using Array.mem_of_getElem? ht
        have hall : (([26, 5] : List TypeId).all fun u => !Tryd.prog.wantsStandIn u) = true := by kernel_rfl
        exact (show Tryd.prog.wantsStandIn t = false by simpa using List.all_eq_true.1 hall t hm)⟩)
    (by kernel_rfl)
end Go.Proofs.YtpaeppklkicngaaDoor.romanOrders
