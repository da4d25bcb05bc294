/-
  Keys are fed, and flushed, as the document says: AutoSteps, for every input.
-/
import Derived.Test.YtmbccolkgephgaaAutRs
import Derived.Test.YtmbccolkgephgaaRomV
import Derived.OpenShut
import Derived.ShutString
import Derived.ChangeOld
import Derived.HandedShaped
import Derived.LaidMore
import Derived.Lay
import Derived.SizedLaws
import Derived.Deep.DeepHandedRow
import Derived.Test.YtmbccolkgephgaaAutFr
set_option linter.unusedVariables false
set_option linter.unusedSimpArgs false
namespace Go.Proofs.Ytmbccolkgephgaa.autoSteps
open Go Go.RowKit Go.ChangeShapes Go.WideShapes Go.ChangeAt Go.Proofs.Ytmbccolkgephgaa Go.Proofs.Ytmbccolkgephgaa.Kit Go.Proofs.Ytmbccolkgephgaa.Utf Go.Proofs.Ytmbccolkgephgaa.Rom Go.Proofs.Ytmbccolkgephgaa.Aut
open Go.ChangeMaps (open_string shut_string)
set_option maxRecDepth 100000

set_option maxHeartbeats 8000000 in
theorem walk (a0 : Option Addr) (len0 cap0 : Nat) (z0 : List Rule) (a1 : ByteArray) (a2 : Int) (w : World) (w0 : RowR w (.slice a0 len0 cap0) z0) (w1 : a1.size ≤ maxLen) (w2 : (Lit.int .u8 a2).wf = true) (s1 : a1.size ≤ 140737488351232) (hm : MaxL w) (hG : 0 < w.heap.size) :
    Calls Try.prog 4 #[.slice a0 len0 cap0, .string a1, .int .u8 a2] w fun e w' => e = .returned (.bool true) ∧ Below w.heap.size w w' := by
  have HL := Lib.hid (light_any (.slice a0 len0 cap0) z0 a1 w w0 s1)
  have HR := Lib.hid w0
  have HWK := Lib.hid works_any
  have HML := Lib.hid hm
  obtain ⟨c8, rfl⟩ := u8_of w2
  by_cases hlt : Lt z0 a1
  rotate_left
  · have HLT := Lib.hid hlt
    clear w0 w1 w2 s1 hm hlt
    go_enter Try.func4, Try.ntmps4
    go_wp2_with (go_at_call 14; (with_reducible refine HL.out.mono ?_); rintro e w1 ⟨x, rfl, hw1, hx⟩; obtain rfl := hw1.symm; obtain rfl : x = false := Bool.eq_false_iff.2 (fun h => HLT.out (hx.1 h)); clear hx)
    go_ret
    exact ⟨rfl, Below.refl _ _⟩
  have hsh := hlt.short
  have h200 := hlt.2.1
  have hlz := hlt.1
  have HLT := Lib.hid hlt
  have HGV : Hid (∀ W, Below w.heap.size w W → Calls Try.prog 17 #[.slice a0 len0 cap0] W fun e w' => ∃ v', e = .returned v' ∧ Hid (RowR w' v' z0) ∧ Below W.heap.size W w') := Lib.hid fun W hW => (gvn6_any _ z0 W (HR.out.later hW (Nat.le_refl _)) (by omega)).mono fun e w' ⟨v', he, hown, hb⟩ => ⟨v', he, Lib.hid (row_of_own hown).1, hb⟩
  by_cases hc : checkL z0 = 0
  rotate_left
  · have HN := Lib.hid (new_no w0 hsh hc)
    have HC := Lib.hid (fun v W (h : RowR W v z0) => rcheck_any v z0 W h hsh)
    have hne : (checkL z0 != 0) = true := by simpa using hc
    generalize checkL z0 = E at HN hne HC
    clear w0 w1 w2 s1 hm hlt hc hsh h200 hlz
    go_enter Try.func4, Try.ntmps4
    go_wp2_with (first
      | (go_at_call 14; (with_reducible refine HL.out.mono ?_); rintro e w1 ⟨x, rfl, hw1, hx⟩; obtain rfl := hw1.symm; obtain rfl : x = true := hx.2 HLT.out; clear hx)
      | (go_at_call 15; (with_reducible refine HN.out.mono ?_); rintro e w2 ⟨rfl, hbw2⟩)
      | (go_at_call 17; (with_reducible refine (HGV.out _ hbw2).mono ?_); rintro e w3 ⟨v3, rfl, hv3, hb3⟩; have hbw3 := hbw2.trans (hb3.mono hbw2.size))
      | (go_at_call 16; (with_reducible refine (HC.out _ _ hv3.out).mono ?_); rintro e w4 ⟨rfl, hb4⟩; have hbw4 := hbw3.trans (hb4.mono hbw3.size))
      | (go_at_call 18; (with_reducible refine (HWK.out _ (HML.out.later hbw4 hG) (Nat.lt_of_lt_of_le hG hbw4.size)).mono ?_); rintro e w5 ⟨rfl, hb5⟩))
    go_ret
    exact ⟨rfl, hbw4.trans (hb5.mono hbw4.size)⟩
  obtain ⟨_, hok⟩ := ok_of_check hc
  have HN := Lib.hid (new_yes w0 hsh hc)
  obtain ⟨O, hO⟩ : ∃ O, ba (fd z0 (keysOf (bs a1)) (keysOf [c8])).1 = O := ⟨_, rfl⟩
  obtain ⟨Q, hQ⟩ : ∃ Q, ba (fd z0 (keysOf (bs a1)) (keysOf [c8])).2 = Q := ⟨_, rfl⟩
  have hStep : Hid (∀ (B a : Nat) (W : World), AutoAt B W a z0 → B ≤ W.heap.size → Calls Try.prog 21 #[.pointer (some ⟨a, 0, none⟩), .string a1, .int .u8 c8.toNat] W fun e w' => e = .returned (.tuple #[.string O, .string Q]) ∧ Below W.heap.size W w') := Lib.hid fun B a W hA hB => by
    have h := step_any hok B a a1 c8 W hA hB (by omega)
    rw [hO, hQ] at h
    exact h
  have hRS : Hid (∀ (v : Value) (W : World), RowR W v z0 → Calls Try.prog 22 #[v, .string a1, .int .u8 c8.toNat] W fun e w' => e = .returned (.tuple #[.string O, .string Q]) ∧ Below W.heap.size W w') := Lib.hid fun v W hv => by
    have h := rstep_any v z0 a1 c8 W hv hok hsh (by omega)
    rw [hO, hQ] at h
    exact h
  obtain ⟨F, hF⟩ := flushes_ex hok (keysOf (bs a1))
  have hFl : Hid (∀ (B a : Nat) (W : World), AutoAt B W a z0 → B ≤ W.heap.size → Calls Try.prog 23 #[.pointer (some ⟨a, 0, none⟩), .string a1] W fun e w' => e = .returned (.string (ba F)) ∧ Below W.heap.size W w') := Lib.hid fun B a W hA hB => by
    refine (flush_any hok B a a1 W hA hB (by omega)).mono ?_
    rintro e w' ⟨F', rfl, hF', hb⟩
    rw [hF'.det hF]
    exact ⟨rfl, hb⟩
  have hRF : Hid (∀ (v : Value) (W : World), RowR W v z0 → Calls Try.prog 24 #[v, .string a1] W fun e w' => e = .returned (.string (ba F)) ∧ Below W.heap.size W w') := Lib.hid fun v W hv => by
    refine (rflush_any v z0 a1 W hv hok hsh (by omega)).mono ?_
    rintro e w' ⟨F', rfl, hF', hb⟩
    rw [hF'.det hF]
    exact ⟨rfl, hb⟩
  clear w0 w1 w2 s1 hm hlt hc hsh h200 hlz hO hQ hF hok
  generalize ba F = F at *
  go_enter Try.func4, Try.ntmps4
  go_wp2_with (first
    | (go_at_call 14; (with_reducible refine HL.out.mono ?_); rintro e w1 ⟨x, rfl, hw1, hx⟩; obtain rfl := hw1.symm; obtain rfl : x = true := hx.2 HLT.out; clear hx)
    | (go_at_call 15; (with_reducible refine HN.out.mono ?_); rintro e w2 ⟨a, rfl, hA2, hbw2⟩; have hB2 := Nat.le_refl w2.heap.size)
    | (go_at_call 21; (with_reducible refine (hStep.out _ _ _ hA2 hB2).mono ?_); rintro e w3 ⟨rfl, hb3⟩; have hA3 := hA2.later hb3 hB2; have hB3 := hb3.size; have hbw3 := hbw2.trans (hb3.mono hbw2.size); clear hStep)
    | (go_at_call 17; (with_reducible refine (HGV.out _ hbw3).mono ?_); rintro e w4 ⟨v4, rfl, hv4, hb4⟩; have hA4 := hA3.later hb4 hB3; have hB4 := Nat.le_trans hB3 hb4.size; have hbw4 := hbw3.trans (hb4.mono hbw3.size); clear hb3)
    | (go_at_call 22; (with_reducible refine (hRS.out _ _ hv4.out).mono ?_); rintro e w5 ⟨rfl, hb5⟩; have hA5 := hA4.later hb5 hB4; have hB5 := Nat.le_trans hB4 hb5.size; have hbw5 := hbw4.trans (hb5.mono hbw4.size); clear hRS)
    | (go_at_call 23; (with_reducible refine (hFl.out _ _ _ hA5 hB5).mono ?_); rintro e w6 ⟨rfl, hb6⟩; have hbw6 := hbw5.trans (hb6.mono hbw5.size); clear hbw3)
    | (go_at_call 17; (with_reducible refine (HGV.out _ hbw6).mono ?_); rintro e w7 ⟨v7, rfl, hv7, hb7⟩; have hbw7 := hbw6.trans (hb7.mono hbw6.size))
    | (go_at_call 24; (with_reducible refine (hRF.out _ _ hv7.out).mono ?_); rintro e w8 ⟨rfl, hb8⟩; have hbw8 := hbw7.trans (hb8.mono hbw7.size))
    | (go_at_call 18; (with_reducible refine (HWK.out _ (HML.out.later hbw8 hG) (Nat.lt_of_lt_of_le hG hbw8.size)).mono ?_); rintro e w9 ⟨rfl, hb9⟩))
  go_ret
  exact ⟨rfl, hbw8.trans (hb9.mono hbw8.size)⟩
theorem own : ownKnob Try.prog.godebug = none := by kernel_rfl
theorem laidOut : laidOutB Try.prog = true := by kernel_rfl

set_option maxRecDepth 100000 in
theorem lifted (os : Os) (started : os.Started) (H : Type) (enc : TypeId × Value → H) :
    ReturnsInHanded {} Try.checked os 4 .any (Rows.autoStepsSpec.pre6 enc Try.prog Try.f4 Rows.autoStepsRow.domain false) (Rows.autoStepsSpec.post enc Try.prog Try.f4 false true false false) := by
  refine returnsInHanded_of_change_shaped (C := Try.checked) own started (by kernel_rfl) Try.func4
    (ChangeSpec.witness6 (enc := enc) (C := Try.checked) false ⟨#[], #[.slice none 0 0, .string ByteArray.empty, .int .u8 0], []⟩ 8 (by kernel_rfl) (by kernel_rfl) (by kernel_rfl) (by kernel_rfl)) ?_
  intro W base args ds gs before hval0 hW hcnd hsz0 hsh _
  have hval : ∀ (j : Nat) t v, Try.f4.params[j]? = some t → args[j]? = some v → Value.okWide Try.prog W .any base t v := hval0
  have hW' := hW
  obtain ⟨p, q, hA0, hV, rfl, hfz, hnd⟩ := hW
  have hA : DataW.TrodAll enc Try.prog W 0 (fun _ => true) true Try.f4.params.toList args.toList ds p := hA0
  rw [Try.params4] at hA hval
  obtain ⟨v0, vs0, d0, ds0, p0, q0, hargs, rfl, rfl, h0, r0⟩ := trodAll_cons hA
  obtain ⟨v1, vs1, d1, ds1, p1, q1, rfl, rfl, rfl, h1, r1⟩ := trodAll_cons r0
  obtain ⟨v2, vs2, d2, ds2, p2, q2, rfl, rfl, rfl, h2, r2⟩ := trodAll_cons r1
  obtain ⟨rfl, rfl, rfl⟩ := trodAll_nil r2
  obtain rfl : args = #[v0, v1, v2] := by cases args; simp_all
  obtain ⟨rfl, rfl⟩ := trodVars_none hV
  obtain ⟨a0, len0, cap0, rfl⟩ := okWide_slice Try.underlying22 (hval 0 22 v0 rfl rfl)
  have k0 := h0
  have lt0 : ∀ x ∈ p0, x.block < W.heap.size := by obtain ⟨m, hm⟩ := k0; exact DataW.trod_lt m _ _ _ hm
  obtain ⟨z0, w0⟩ : ∃ rs, RowR W (.slice a0 len0 cap0) rs := by
    obtain ⟨fuel, hf⟩ := h0
    exact rules_open hf
  obtain ⟨a1, rfl, rfl, rfl, w1⟩ := open_string Try.underlying9 (hval 1 9 v1 rfl rfl) h1
  obtain ⟨a2, rfl, rfl, rfl, w2⟩ := open_int Try.underlying5 (hval 2 5 v2 rfl rfl) h2
  clear hA0 hval0
  have hsz : (DataW.weightsEach Try.prog (Try.f4.params.toList ++ Rows.autoStepsSpec.plain.varTypes Try.prog) (_ ++ _)).all (· ≤ reachBytes) = true := hsz0
  rw [Try.params4] at hsz
  have sz1 := sized_string hsz (j := 1) (t := 9) rfl rfl
  refine (walk a0 len0 cap0 z0 a1 a2 W w0 w1 w2 (by have := sz1; simp only [reachBytes, Array.length_toList] at this; exact this) (maxL_of hsh).1 (maxL_of hsh).2).mono fun e W' ⟨he, bel⟩ => ?_
  subst he
  exact ⟨_, rfl, _, _, _, [], _, [], hW', trodAll_mk1 (shut_bool Try.underlying4 _), (trodAll_cons_mk (Below.trod laidOut (by kernel_rfl) (of_decide_eq_true (by kernel_rfl)) k0 bel lt0) (trodAll_cons_mk (shut_string Try.underlying9 w1) (trodAll_cons_mk (shut_int Try.underlying5 w2) trodAll_mk0))), rfl, bel.frame _, fun h => by cases h⟩

theorem over : Rows.autoStepsRow.holds Try.pinned (OpenSpec.ofChange Rows.autoStepsSpec) :=
  OpenClaim.holds_of_wide 4 Try.f4 rfl rfl rfl rfl rfl rfl rfl ⟨rfl, rfl, rfl, rfl, rfl⟩ rfl rfl rfl rfl rfl (by kernel_rfl) Try.func4 (by kernel_rfl)
    (of_decide_eq_true (by kernel_rfl)) (by unfold Func.isWrapper; first | (rw [if_pos (by decide +kernel)]; kernel_rfl) | (rw [if_neg (by decide +kernel)]; exact ⟨rfl, rfl⟩))
    (fun os started H enc _ => lifted os started H enc)

theorem proved : Rows.AutoStepsSaid := over
end Go.Proofs.Ytmbccolkgephgaa.autoSteps
