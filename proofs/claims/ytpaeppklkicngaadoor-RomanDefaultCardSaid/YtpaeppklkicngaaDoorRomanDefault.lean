/-
  The rules of the document are the same each time, and allowed.
-/
import Derived.Test.YtpaeppklkicngaaDoorRomDp
import Derived.Test.YtpaeppklkicngaaDoorRomDr
import Derived.Test.YtpaeppklkicngaaDoorRomW
import Derived.Test.YtpaeppklkicngaaDoorRomX
import Derived.OpenShut
import Derived.ShutString
import Derived.ChangeOld
import Derived.LaidMore
import Derived.Lay
import Derived.SevenTiedAt
import Derived.SizedLaws
import Derived.Test.YtpaeppklkicngaaDoorCards
import Derived.Test.YtpaeppklkicngaaDoorTie
set_option linter.unusedVariables false
set_option linter.unusedSimpArgs false
namespace Go.Proofs.YtpaeppklkicngaaDoor.romanDefault
open Go Go.RowKit Go.ChangeShapes Go.WideShapes Go.ChangeAt Go.Proofs.YtpaeppklkicngaaDoor Go.Proofs.YtpaeppklkicngaaDoor.Kit
open Go.ChangeMaps (open_string shut_string)
open Go.Proofs.YtpaeppklkicngaaDoor.Utf Go.Proofs.YtpaeppklkicngaaDoor.Rom
set_option maxRecDepth 100000

def HasRow (w : World) (g n : Nat) : Prop := ∃ cur e, w.heap[g]? = some (.cells cur e (0, 0)) ∧ n ≤ cur.size
theorem HasRow.set {w : World} {g n : Nat} (h : HasRow w g n) (j : Nat) (u : Value) : HasRow (w.setCell ⟨g, j, none⟩ u) g n := by
  obtain ⟨cur, e, h1, h2⟩ := h
  refine ⟨cur.setIfInBounds j u, e, ?_, by simpa using h2⟩
  simp only [World.setCell, Array.getElem?_modify, if_true, h1, Option.map_some]
  rfl
theorem HasRow.cell {w : World} {g n : Nat} (h : HasRow w g n) {j : Nat} (hj : j < n) : (∃ x, w.cell? ⟨g, j, none⟩ = some x) ∧ w.frozen? ⟨g, j, none⟩ = false := by
  obtain ⟨cur, e, h1, h2⟩ := h
  refine ⟨⟨cur[j]'(by omega), ?_⟩, ?_⟩
  · rw [cell_of_row w g j cur e (0, 0) h1, Array.getElem?_eq_getElem]
  · unfold World.frozen?
    rw [show w.heap[(⟨g, j, none⟩ : Addr).block]? = _ from h1]
    simp
theorem HasRow.later {w w' : World} {g n : Nat} (h : HasRow w g n) (hb : Below w.heap.size w w') : HasRow w' g n := by
  obtain ⟨cur, e, h1, h2⟩ := h
  exact ⟨cur, e, by rw [hb.block g (Array.getElem?_eq_some_iff.1 h1).1]; exact h1, h2⟩
theorem def_short : ∀ r ∈ defL, Short r := by
  have h : ∀ t ∈ def3, t.1.length ≤ 10 ∧ t.2.1.length ≤ 10 ∧ t.2.2.length ≤ 10 := by decide +kernel
  intro r hr
  obtain ⟨t, ht, rfl⟩ := List.mem_map.1 hr
  have := h t ht
  refine ⟨?_, ?_, ?_⟩
  · show (ba t.1).size ≤ _; rw [ba_size]; omega
  · show (ba t.2.1).size ≤ _; rw [ba_size]; omega
  · show (ba t.2.2).size ≤ _; rw [ba_size]; omega

set_option maxHeartbeats 4000000 in
theorem walk (w : World) :
    Calls Tryd.prog 6 #[] w fun e w' => e = .returned (.bool true) ∧ Below w.heap.size w w' := by
  have HR := Lib.hid rdefault_any
  have HD := Lib.hid default_any
  have HS := Lib.hid (fun v1 v2 W hA hB => same_any v1 v2 defL defL W hA hB (by rw [def_len]; omega))
  have HC := Lib.hid (fun v W hA => check_any v defL W hA def_short)
  have HW := Lib.hid works_any
  rw [decide_eq_true rfl] at HS
  rw [def_check] at HC
  go_enter Tryd.func6, Tryd.ntmps6
  go_wp2_with (first
    | (go_at_call 25; (refine (HR.out _).mono ?_); rintro e w1 ⟨v1, rfl, own1, hb1⟩; have R1 := Lib.hid (row_of_own own1).1; have H1 := Lib.hid hb1; clear own1 hb1 HR)
    | (go_at_call 26; (refine (HD.out _).mono ?_); rintro e w2 ⟨v2, rfl, own2, hb2⟩; rw [def_len] at own2; have R2 := Lib.hid (row_of_own own2).1; obtain ⟨g2, cap2, cur2, rfl, hg2, hlt2, hh2, hn2, hm2, hcs2, _, _⟩ := own_parts own2 (by omega); have H2 := Lib.hid hb2; have HRow := Lib.hid (show HasRow w2 g2 486 from ⟨cur2, _, hh2, by omega⟩); clear own2 hb2 hh2 hcs2)
    | (go_at_call 13; (refine (HS.out _ _ _ R2.out (R1.out.later H2.out (Nat.le_refl _))).mono ?_); rintro e w3 ⟨rfl, hb3⟩; have H3 := Lib.hid hb3; clear hb3)
    | (go_at_call 19; (refine (HC.out _ _ (R2.out.later H3.out (Nat.le_refl _))).mono ?_); rintro e w4 ⟨rfl, hb4⟩; have H4 := Lib.hid hb4; clear hb4))
  have H5 := Lib.hid ((HRow.out.later H3.out).later H4.out)
  have H6 : Hid (Below w1.heap.size w1 w4) := Lib.hid ((H2.out.trans (H3.out.mono H2.out.size)).trans (H4.out.mono (Nat.le_trans H2.out.size H3.out.size)))
  go_loopw [3] (fun i wr => ∃ m : Nat, i = .int .i64 m ∧ m ≤ 162 ∧ HasRow wr g2 486 ∧ Below w1.heap.size w1 wr) (fun i _ => 162 - (intOf i).toNat)
  case atStart => exact ⟨0, rfl, by omega, H5.out, H6.out⟩
  case round =>
    obtain ⟨m, rfl, hm, hrow, hbw⟩ := hrel
    by_cases hml : m < 162
    · obtain ⟨⟨x0, z0⟩, y0⟩ := hrow.cell (show m * 3 < 486 by omega)
      obtain ⟨⟨x1, z1⟩, y1⟩ := hrow.cell (show m * 3 + 1 < 486 by omega)
      obtain ⟨⟨x2, z2⟩, y2⟩ := hrow.cell (show m * 3 + 2 < 486 by omega)
      have k0 : (0 : Int) ≤ m := by omega
      have k1 : (m : Int) < 162 := by omega
      have HA := Lib.hid (fun u0 u1 u2 => ((hrow.set (m * 3) u0).set (m * 3 + 1) u1).set (m * 3 + 2) u2)
      have HB := Lib.hid (fun (u0 u1 u2 : Value) => ((hbw.setCell (p := ⟨g2, m * 3, none⟩) hg2 u0).setCell (p := ⟨g2, m * 3 + 1, none⟩) hg2 u1).setCell (p := ⟨g2, m * 3 + 2, none⟩) hg2 u2)
      clear hrow hbw
      go_wp2
      go_roundw
      case rel => exact ⟨m + 1, by go_num, by omega, HA.out _ _ _, HB.out _ _ _⟩
      case measure => simp [intOf]; omega
    · have HB := Lib.hid hbw
      clear hrow hbw
      go_wp2_with (first
        | (go_at_call 26; (refine (HD.out _).mono ?_); rintro e w5 ⟨v5, rfl, own5, hb5⟩; have R5 := Lib.hid (row_of_own own5).1; have H7 : Hid (Below w1.heap.size w1 w5) := Lib.hid (HB.out.trans (hb5.mono HB.out.size)); clear own5 hb5)
        | (go_at_call 13; (refine (HS.out _ _ _ R5.out (R1.out.later H7.out (Nat.le_refl _))).mono ?_); rintro e w6 ⟨rfl, hb6⟩; have H8 : Hid (Below w1.heap.size w1 w6) := Lib.hid (H7.out.trans (hb6.mono H7.out.size)); clear hb6)
        | (go_at_call 14; (refine (HW.out _).mono ?_); rintro e w7 ⟨rfl, hb7⟩))
      go_ret
      exact ⟨rfl, H1.out.trans ((H8.out.trans (hb7.mono H8.out.size)).mono H1.out.size)⟩
theorem own : ownKnob Tryd.prog.godebug = none := by kernel_rfl
theorem laidOut : laidOutB Tryd.prog = true := by kernel_rfl

set_option maxRecDepth 100000 in
theorem lifted (os : Os) (started : os.Started) (H : Type) (enc : TypeId × Value → H) :
    ReturnsInHanded {} Tryd.checked os 6 .any (fun w args => (Rows.romanDefaultSpec.pre enc Tryd.prog Tryd.f6 Rows.romanDefaultRow.domain false w args ∧ laidMetH Tryd.prog Rows.romanDefaultRow.laid w) ∧ sizedMet enc Tryd.prog Tryd.f6 (OpenSpec.ofChange Rows.romanDefaultSpec) false w args)
      (Rows.romanDefaultSpec.post enc Tryd.prog Tryd.f6 false true false false) := by
  refine returnsInHanded_of_change_and (C := Tryd.checked) (X := fun w _ => laidMetH Tryd.prog Rows.romanDefaultRow.laid w) (fun _ _ _ hh h => h.of_heap hh) own started (by kernel_rfl) Tryd.func6
    (ChangeSpec.witness_shaped (enc := enc) (C := Tryd.checked) (os := os) (X := fun w _ => laidMetH Tryd.prog Rows.romanDefaultRow.laid w) false (World.laidAll Tryd.prog os Rows.romanDefaultRow.laid) #[] 8 (World.laidAll_os _ _ _)
      (World.shaped_of_ZipB (by kernel_rfl) (by kernel_rfl)) (by kernel_rfl) (by kernel_rfl) (by kernel_rfl)
      (by rw [MakeChecks.laidMetH_plain _ _ _ (by kernel_rfl)]; exact laidMet_laidAll _ (by kernel_rfl) (by kernel_rfl))) ?_
  intro W base args ds gs before hval0 hW hcnd hsz0 hL _
  have hval : ∀ (j : Nat) t v, Tryd.f6.params[j]? = some t → args[j]? = some v → Value.okWide Tryd.prog W .any base t v := hval0
  have hW' := hW
  obtain ⟨p, q, hA0, hV, rfl, hfz, hnd⟩ := hW
  have hA : DataW.TrodAll enc Tryd.prog W 0 (fun _ => true) true Tryd.f6.params.toList args.toList ds p := hA0
  rw [Tryd.params6] at hA hval
  obtain ⟨rfl, rfl, rfl⟩ := trodAll_none hA
  obtain ⟨rfl, rfl⟩ := trodVars_none hV
  skip
  clear hA0 hval0
  refine (walk W).mono fun e W' ⟨he, bel⟩ => ?_
  subst he
  exact ⟨_, rfl, _, _, _, [], _, [], hW', trodAll_mk1 (shut_bool Tryd.underlying4 _), trodAll_mk0, rfl, bel.frame _, fun h => by cases h⟩

theorem over : Rows.romanDefaultRow.holds Tryd.pinned (OpenSpec.ofChange Rows.romanDefaultSpec) :=
  OpenClaim.holds_of_wide 6 Tryd.f6 rfl rfl rfl rfl rfl rfl rfl ⟨rfl, rfl, rfl, rfl, rfl⟩ rfl rfl rfl rfl rfl (by kernel_rfl) Tryd.func6 (by kernel_rfl)
    (of_decide_eq_true (by kernel_rfl)) (by unfold Func.isWrapper; first | (rw [if_pos (by decide +kernel)]; kernel_rfl) | (rw [if_neg (by decide +kernel)]; exact ⟨rfl, rfl⟩))
    (fun os started H enc _ => lifted os started H enc)

theorem proved : Rows.RomanDefaultCardSaid :=
  Claim7.holds_tied_plain_at .later [] Rows.romanDefaultCard.laidKinds true Rows.romanDefaultCard.stood.harness false over (fun _ h => by cases h) (by kernel_rfl) (fun _ h => by cases h) romanDefault_row_tie rfl ⟨rfl, rfl⟩ (by kernel_rfl) rfl
    (fun f fn hf hfn => by
      obtain rfl : f = 6 := Option.some.inj ((show Tryd.prog.funcNamed "henkan/henkanlaw05.RomanDefault" = some 6 by kernel_rfl).symm.trans hf) |>.symm
      obtain rfl : fn = Tryd.f6 := (Option.some.inj (Tryd.func6.symm.trans hfn)).symm
      exact ⟨by kernel_rfl, fun j t ht => by
        rw [Tryd.params6] at ht
        have hm : t ∈ ([] : List TypeId) := by simpa using Array.mem_of_getElem? ht
        have hall : (([] : List TypeId).all fun u => !Tryd.prog.wantsStandIn u) = true := by kernel_rfl
        exact (show Tryd.prog.wantsStandIn t = false by simpa using List.all_eq_true.1 hall t hm)⟩)
    (by kernel_rfl)
end Go.Proofs.YtpaeppklkicngaaDoor.romanDefault
