/-
  RomanFinds: Find and Longer, the program's and the reference's, agree, and the rules stay unchanged. Conditions: none.
-/
import Derived.Test.YtpaeppklkicngaaDoorRomW
import Derived.Test.YtpaeppklkicngaaDoorRomX
import Derived.Test.YtpaeppklkicngaaDoorRomFr
import Derived.OpenShut
import Derived.ShutString
import Derived.ChangeOld
import Derived.LaidMore
import Derived.Lay
import Derived.SevenTiedAt
import Derived.SizedLaws
import Derived.Test.YtpaeppklkicngaaDoorCards
import Derived.Test.YtpaeppklkicngaaDoorTie
set_option linter.unusedVariables false
set_option linter.unusedSimpArgs false
namespace Go.Proofs.YtpaeppklkicngaaDoor.romanFinds
open Go Go.RowKit Go.ChangeShapes Go.WideShapes Go.ChangeAt Go.Proofs.YtpaeppklkicngaaDoor Go.Proofs.YtpaeppklkicngaaDoor.Kit
open Go.ChangeMaps (open_string shut_string)
open Go.Proofs.YtpaeppklkicngaaDoor.Utf Go.Proofs.YtpaeppklkicngaaDoor.Rom
set_option maxRecDepth 100000

set_option maxHeartbeats 4000000 in
theorem walk (a0 : Option Addr) (len0 cap0 : Nat) (z0 : List Rule) (a1 : ByteArray) (w : World) (w0 : RowR w (.slice a0 len0 cap0) z0) (w1 : a1.size ≤ maxLen) (s1 : a1.size ≤ 140737488351232) :
    Calls Tryd.prog 5 #[.slice a0 len0 cap0, .string a1] w fun e w' => e = .returned (.bool true) ∧ Below w.heap.size w w' := by
  have HFEW := Lib.hid (few_ok (.slice a0 len0 cap0) z0 w w0)
  have HR := Lib.hid w0
  clear w0 w1
  by_cases hlen : a1.size ≤ 100
  rotate_left
  · go_enter Tryd.func5, Tryd.ntmps5
    go_wp2_with (go_at_call 15; (refine HFEW.out.mono ?_); rintro e w1 ⟨x, rfl, hx, hw1⟩; obtain rfl := hw1.symm; clear hx; cases x)
    all_goals go_ret
    all_goals exact ⟨rfl, Below.refl _ _⟩
  have HG := Lib.hid (fun W h hR => given_ok (.slice a0 len0 cap0) z0 W h hR)
  have HF := Lib.hid (fun v W hR hs => find_any v z0 a1 W hR hs)
  have HRF := Lib.hid (fun v W hR => rfind_any v z0 a1 W hR)
  have HL := Lib.hid (fun v W hR => longer_any v z0 a1 W hR)
  have HRL := Lib.hid (fun v W hR hs => rlonger_any v z0 a1 W hR (by omega) hs)
  have HS := Lib.hid (fun v1 v2 W hA hB hn => same_any v1 v2 z0 z0 W hA hB hn)
  have HW := Lib.hid works_any
  obtain ⟨L, hL⟩ : ∃ L, longL z0 a1 = L := ⟨_, rfl⟩
  obtain ⟨f1, hf1⟩ : ∃ f1, (findL z0 a1).1 = f1 := ⟨_, rfl⟩
  obtain ⟨f2, hf2⟩ : ∃ f2, (findL z0 a1).2 = f2 := ⟨_, rfl⟩
  rw [hL] at HL HRL
  rw [hf1, hf2] at HF HRF
  rw [decide_eq_true rfl] at HS
  have heq := fun W => eq_rule f1 f1 W
  have hgd := guard_rule
  rw [decide_eq_true rfl] at heq
  clear hL hf1 hf2
  go_enter Tryd.func5, Tryd.ntmps5
  cases f2 <;> cases L
  all_goals
    go_wp2_with (first
      | (go_at_call 15; (refine HFEW.out.mono ?_); rintro e w1 ⟨x, rfl, hx, hw1⟩; obtain rfl := hw1.symm; cases x)
      | (go_at_call 16; (refine (HG.out _ hx HR.out).mono ?_); rintro e w2 ⟨v, rfl, hR2, hb2⟩; have hRR2 := HR.out.later hb2 (Nat.le_refl _))
      | (go_at_call 21; (refine (HF.out _ _ hR2 hx.short).mono ?_); rintro e w3 ⟨rfl, hb3⟩; unfold ragg; have hb3' := hb2.trans (hb3.mono hb2.size); have hR3 := hR2.later (hb3.alloc hb3.size (Obj.cells #[.string f1.k, .string f1.o, .string f1.n] 40)) (Nat.le_refl _))
      | (go_at_call 22; (refine (HRF.out _ _ (HR.out.later (hb3'.alloc hb3'.size _) (Nat.le_refl _))).mono ?_); rintro e w4 ⟨rfl, hb4⟩; unfold ragg
         have hb4' := (hb3'.alloc hb3'.size _).trans (hb4.mono (Nat.le_trans hb3'.size (by simp)))
         have hlt : w3.heap.size < w4.heap.size := (by have := hb4.size; simp at this; omega)
         have d0 : ∀ o, (w4.alloc o).cell? ⟨w3.heap.size, 0, none⟩ = some (.string f1.k) := (fun o => by rw [World.cell?_alloc_old _ _ _ (Nat.ne_of_lt hlt), hb4.cell (by simp)]; simp)
         have d1 : ∀ o, (w4.alloc o).cell? ⟨w3.heap.size, 1, none⟩ = some (.string f1.o) := (fun o => by rw [World.cell?_alloc_old _ _ _ (Nat.ne_of_lt hlt), hb4.cell (by simp)]; simp)
         have d2 : ∀ o, (w4.alloc o).cell? ⟨w3.heap.size, 2, none⟩ = some (.string f1.n) := (fun o => by rw [World.cell?_alloc_old _ _ _ (Nat.ne_of_lt hlt), hb4.cell (by simp)]; simp)
         have hR4 := hR3.later hb4 (Nat.le_refl _)
         have hR5 := hR4.later ((Below.refl _ _).alloc (Nat.le_refl _) (Obj.cells #[.string f1.k, .string f1.o, .string f1.n] 43)) (Nat.le_refl _)
         have hb5' := hb4'.alloc hb4'.size (Obj.cells #[.string f1.k, .string f1.o, .string f1.n] 43))
      | (go_at_call 23; (refine (HL.out _ _ hR5).mono ?_); rintro e w6 ⟨rfl, hb6⟩; have hb6' := hb5'.trans (hb6.mono hb5'.size); have hR6 := hR5.later hb6 (Nat.le_refl _))
      | (go_at_call 24; (refine (HRL.out _ _ (HR.out.later hb6' (Nat.le_refl _)) hx.short).mono ?_); rintro e w7 ⟨rfl, hw7⟩; obtain rfl := hw7.symm)
      | (go_at_call 13; (refine (HS.out _ _ _ hR6 (HR.out.later hb6' (Nat.le_refl _)) (by have := hx.len; omega)).mono ?_); rintro e w8 ⟨rfl, hb8⟩; have hb8' := hb6'.trans (hb8.mono hb6'.size))
      | (go_at_call 14; (refine (HW.out _).mono ?_); rintro e w9 ⟨rfl, hb9⟩))
    all_goals go_ret
    all_goals first
      | exact ⟨rfl, hb8'.trans (hb9.mono hb8'.size)⟩
      | exact ⟨rfl, Below.refl _ _⟩
theorem own : ownKnob Tryd.prog.godebug = none := by kernel_rfl
theorem laidOut : laidOutB Tryd.prog = true := by kernel_rfl

set_option maxRecDepth 100000 in
theorem lifted (os : Os) (started : os.Started) (H : Type) (enc : TypeId × Value → H) :
    ReturnsInHanded {} Tryd.checked os 5 .any (fun w args => (Rows.romanFindsSpec.pre enc Tryd.prog Tryd.f5 Rows.romanFindsRow.domain false w args ∧ laidMetH Tryd.prog Rows.romanFindsRow.laid w) ∧ sizedMet enc Tryd.prog Tryd.f5 (OpenSpec.ofChange Rows.romanFindsSpec) false w args)
      (Rows.romanFindsSpec.post enc Tryd.prog Tryd.f5 false true false false) := by
  refine returnsInHanded_of_change_and (C := Tryd.checked) (X := fun w _ => laidMetH Tryd.prog Rows.romanFindsRow.laid w) (fun _ _ _ hh h => h.of_heap hh) own started (by kernel_rfl) Tryd.func5
    (ChangeSpec.witness_shaped (enc := enc) (C := Tryd.checked) (os := os) (X := fun w _ => laidMetH Tryd.prog Rows.romanFindsRow.laid w) false (World.laidAll Tryd.prog os Rows.romanFindsRow.laid) #[.slice none 0 0, .string ByteArray.empty] 8 (World.laidAll_os _ _ _)
      (World.shaped_of_ZipB (by kernel_rfl) (by kernel_rfl)) (by kernel_rfl) (by kernel_rfl) (by kernel_rfl)
      (by rw [MakeChecks.laidMetH_plain _ _ _ (by kernel_rfl)]; exact laidMet_laidAll _ (by kernel_rfl) (by kernel_rfl))) ?_
  intro W base args ds gs before hval0 hW hcnd hsz0 hL _
  have hval : ∀ (j : Nat) t v, Tryd.f5.params[j]? = some t → args[j]? = some v → Value.okWide Tryd.prog W .any base t v := hval0
  have hW' := hW
  obtain ⟨p, q, hA0, hV, rfl, hfz, hnd⟩ := hW
  have hA : DataW.TrodAll enc Tryd.prog W 0 (fun _ => true) true Tryd.f5.params.toList args.toList ds p := hA0
  rw [Tryd.params5] at hA hval
  obtain ⟨v0, vs0, d0, ds0, p0, q0, hargs, rfl, rfl, h0, r0⟩ := trodAll_cons hA
  obtain ⟨v1, vs1, d1, ds1, p1, q1, rfl, rfl, rfl, h1, r1⟩ := trodAll_cons r0
  obtain ⟨rfl, rfl, rfl⟩ := trodAll_nil r1
  obtain rfl : args = #[v0, v1] := by cases args; simp_all
  obtain ⟨rfl, rfl⟩ := trodVars_none hV
  obtain ⟨a0, len0, cap0, rfl⟩ := okWide_slice Tryd.underlying26 (hval 0 26 v0 rfl rfl)
  have k0 := h0
  have lt0 : ∀ x ∈ p0, x.block < W.heap.size := by obtain ⟨m, hm⟩ := k0; exact DataW.trod_lt m _ _ _ hm
  obtain ⟨z0, w0⟩ : ∃ rs, RowR W (.slice a0 len0 cap0) rs := by
    obtain ⟨fuel, hf⟩ := h0
    exact rules_open hf
  obtain ⟨a1, rfl, rfl, rfl, w1⟩ := open_string Tryd.underlying9 (hval 1 9 v1 rfl rfl) h1
  have hsz : (DataW.weightsEach Tryd.prog (Tryd.f5.params.toList ++ Rows.romanFindsSpec.plain.varTypes Tryd.prog) (_ ++ _)).all (· ≤ reachBytes) = true := hsz0
  rw [Tryd.params5] at hsz
  have sz1 := sized_string hsz (j := 1) (t := 9) rfl rfl
  skip
  clear hA0 hval0
  refine (walk a0 len0 cap0 z0 a1 W w0 w1 (by have := sz1; simp only [reachBytes, Array.length_toList] at this; exact this)).mono fun e W' ⟨he, bel⟩ => ?_
  subst he
  exact ⟨_, rfl, _, _, _, [], _, [], hW', trodAll_mk1 (shut_bool Tryd.underlying4 _), (trodAll_cons_mk (Below.trod laidOut (by kernel_rfl) (of_decide_eq_true (by kernel_rfl)) k0 bel lt0) (trodAll_cons_mk (shut_string Tryd.underlying9 w1) trodAll_mk0)), rfl, bel.frame _, fun h => by cases h⟩

theorem over : Rows.romanFindsRow.holds Tryd.pinned (OpenSpec.ofChange Rows.romanFindsSpec) :=
  OpenClaim.holds_of_wide 5 Tryd.f5 rfl rfl rfl rfl rfl rfl rfl ⟨rfl, rfl, rfl, rfl, rfl⟩ rfl rfl rfl rfl rfl (by kernel_rfl) Tryd.func5 (by kernel_rfl)
    (of_decide_eq_true (by kernel_rfl)) (by unfold Func.isWrapper; first | (rw [if_pos (by decide +kernel)]; kernel_rfl) | (rw [if_neg (by decide +kernel)]; exact ⟨rfl, rfl⟩))
    (fun os started H enc _ => lifted os started H enc)

theorem proved : Rows.RomanFindsCardSaid :=
  Claim7.holds_tied_plain_at .later [] Rows.romanFindsCard.laidKinds true Rows.romanFindsCard.stood.harness false over (fun _ h => by cases h) (by kernel_rfl) (fun _ h => by cases h) romanFinds_row_tie rfl ⟨rfl, rfl⟩ (by kernel_rfl) rfl
    (fun f fn hf hfn => by
      obtain rfl : f = 5 := Option.some.inj ((show Tryd.prog.funcNamed "henkan/henkanlaw05.RomanFinds" = some 5 by kernel_rfl).symm.trans hf) |>.symm
      obtain rfl : fn = Tryd.f5 := (Option.some.inj (Tryd.func5.symm.trans hfn)).symm
      exact ⟨by kernel_rfl, fun j t ht => by
        rw [Tryd.params5] at ht
        have hm : t ∈ ([26, 9] : List TypeId) := by simpa using Array.mem_of_getElem? ht
        have hall : (([26, 9] : List TypeId).all fun u => !Tryd.prog.wantsStandIn u) = true := by kernel_rfl
        exact (show Tryd.prog.wantsStandIn t = false by simpa using List.all_eq_true.1 hall t hm)⟩)
    (by kernel_rfl)
end Go.Proofs.YtpaeppklkicngaaDoor.romanFinds
