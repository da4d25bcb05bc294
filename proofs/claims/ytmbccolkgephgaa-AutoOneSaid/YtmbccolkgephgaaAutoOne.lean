/-
  Feeding a key after others writes what it writes with what is pending: AutoOne, for every input.
-/
import Derived.Test.YtmbccolkgephgaaAutQ
import Derived.OpenShut
import Derived.ShutString
import Derived.ChangeOld
import Derived.HandedShaped
import Derived.Test.YtmbccolkgephgaaAutFr
set_option linter.unusedVariables false
set_option linter.unusedSimpArgs false
namespace Go.Proofs.Ytmbccolkgephgaa.autoOne
open Go Go.RowKit Go.ChangeShapes Go.WideShapes Go.ChangeAt Go.Proofs.Ytmbccolkgephgaa Go.Proofs.Ytmbccolkgephgaa.Kit Go.Proofs.Ytmbccolkgephgaa.Utf Go.Proofs.Ytmbccolkgephgaa.Rom Go.Proofs.Ytmbccolkgephgaa.Aut
open Go.ChangeMaps (open_string shut_string)
set_option maxRecDepth 100000

set_option maxHeartbeats 4000000 in
theorem walk (a0 : Option Addr) (len0 cap0 : Nat) (z0 : List Rule) (a1 : ByteArray) (a2 : Int) (w : World) (w0 : RowR w (.slice a0 len0 cap0) z0) (w1 : a1.size ≤ maxLen) (w2 : (Lit.int .u8 a2).wf = true) (s1 : a1.size ≤ 140737488351232) (hm : MaxL w) (hG : 0 < w.heap.size) :
    Calls Try.prog 7 #[.slice a0 len0 cap0, .string a1, .int .u8 a2] w fun e w' => e = .returned (.bool true) ∧ Below w.heap.size w w' := by
  have HL := Lib.hid (light_any (.slice a0 len0 cap0) z0 a1 w w0 s1)
  have HR := Lib.hid w0
  have HWK := Lib.hid works_any
  have HML := Lib.hid hm
  obtain ⟨c8, rfl⟩ := u8_of w2
  by_cases hlt : Lt z0 a1
  rotate_left
  · have HLT := Lib.hid hlt
    clear w0 w1 w2 s1 hm hlt
    go_enter Try.func7, Try.ntmps7
    go_wp2_with (go_at_call 14; (with_reducible refine HL.out.mono ?_); rintro e w1 ⟨x, rfl, hw1, hx⟩; obtain rfl := hw1.symm; obtain rfl : x = false := Bool.eq_false_iff.2 (fun h => HLT.out (hx.1 h)); clear hx)
    go_ret
    exact ⟨rfl, Below.refl _ _⟩
  have hsh := hlt.short
  have h200 := hlt.2.1
  by_cases hc : checkL z0 = 0
  rotate_left
  · have HN := Lib.hid (new_no w0 hsh hc)
    have hne : (checkL z0 != 0) = true := by simpa using hc
    have HLT := Lib.hid hlt
    generalize checkL z0 = E at HN hne
    clear w0 w1 w2 s1 hm hlt hc hsh
    go_enter Try.func7, Try.ntmps7
    go_wp2_with (first
      | (go_at_call 14; (with_reducible refine HL.out.mono ?_); rintro e w1 ⟨x, rfl, hw1, hx⟩; obtain rfl := hw1.symm; obtain rfl : x = true := hx.2 HLT.out; clear hx)
      | (go_at_call 15; (with_reducible refine HN.out.mono ?_); rintro e w2 ⟨rfl, hb2⟩)
      | (go_at_call 18; (with_reducible refine (HWK.out _ (HML.out.later hb2 hG) (Nat.lt_of_lt_of_le hG hb2.size)).mono ?_); rintro e w3 ⟨rfl, hb3⟩))
    go_ret
    exact ⟨rfl, hb2.trans (hb3.mono hb2.size)⟩
  obtain ⟨_, hok⟩ := ok_of_check hc
  have HN := Lib.hid (new_yes w0 hsh hc)
  have HLT := Lib.hid hlt
  -- the keys, the key, what they write
  obtain ⟨o1, q1, hf1⟩ := feeds_ex hok [] (keysOf (bs a1))
  obtain ⟨o2, q2, hf2⟩ := feeds_ex hok q1 (keysOf [c8])
  have hq1 := hf1.keys hok AllK.nil (keysOf_all _)
  have hl1 := hf1.len hok
  have hk1 := keysOf_le (bs a1)
  rw [bs_len] at hk1
  rw [List.length_nil] at hl1
  have hRun : Hid (∀ (B a : Nat) (W : World), AutoAt B W a z0 → B ≤ W.heap.size → Calls Try.prog 19 #[.pointer (some ⟨a, 0, none⟩), .string a1] W fun e w' => e = .returned (.tuple #[.string (ba o1), .string (ba q1)]) ∧ Below W.heap.size W w') := Lib.hid fun B a W hA hB => by
    have h := run_any hok B a a1 W hA hB (by omega)
    rw [hf1.fd] at h
    exact h
  have hStep : Hid (∀ (B a : Nat) (W : World), AutoAt B W a z0 → B ≤ W.heap.size → Calls Try.prog 21 #[.pointer (some ⟨a, 0, none⟩), .string (ba q1), .int .u8 c8.toNat] W fun e w' => e = .returned (.tuple #[.string (ba o2), .string (ba q2)]) ∧ Below W.heap.size W w') := Lib.hid fun B a W hA hB => by
    have h := step_any hok B a (ba q1) c8 W hA hB (by rw [ba_size]; omega)
    rw [bs_ba, keysOf_id hq1, hf2.fd] at h
    exact h
  have hRun2 : Hid (∀ (B a : Nat) (W : World), AutoAt B W a z0 → B ≤ W.heap.size → Calls Try.prog 19 #[.pointer (some ⟨a, 0, none⟩), .string (a1 ++ ba [c8])] W fun e w' => e = .returned (.tuple #[.string (ba o1 ++ ba o2), .string (ba q2)]) ∧ Below W.heap.size W w') := Lib.hid fun B a W hA hB => by
    have h := run_any hok B a (a1 ++ ba [c8]) W hA hB (by rw [ByteArray.size_append, ba_size]; simp; omega)
    rw [bs_app2, bs_ba, keysOf_append, (hf1.comp hf2).fd, ba_app] at h
    exact h
  have hz1 : (ba o1).size ≤ 100000 := by rw [ba_size]; omega
  have hz2 : (ba o2).size ≤ 100000 := by
    have := hf2.len hok
    have := keysOf_le [c8]
    simp only [List.length_singleton] at this
    rw [ba_size]; omega
  have hb1 : ¬ 9223372036854775807 < (ba o1).size + (ba o2).size := by omega
  have hb2 : ¬ 9223372036854775807 < a1.size + (ba [c8]).size := by rw [ba_size]; simp; omega
  have hcv1 : ∀ W : World, (convert 47 9 (.slice (some ⟨W.heap.size, 0, none⟩) 1 1)).run Try.prog (W.alloc (Obj.cells #[.int .u8 c8.toNat] 5)) = .ok (.string (ba [c8])) (W.alloc (Obj.cells #[.int .u8 c8.toNat] 5)) := fun W => conv_lit W c8 (heap_alloc_new W _)
  clear w0 w1 w2 s1 hm hlt hc hsh hf1 hf2 hq1 hl1 hk1
  generalize ba [c8] = K at *
  generalize ba o1 = O1 at *
  generalize ba o2 = O2 at *
  generalize ba q1 = Q1 at *
  generalize ba q2 = Q2 at *
  go_enter Try.func7, Try.ntmps7
  go_wp2_with (first
    | (go_at_call 14; (with_reducible refine HL.out.mono ?_); rintro e w1 ⟨x, rfl, hw1, hx⟩; obtain rfl := hw1.symm; obtain rfl : x = true := hx.2 HLT.out; clear hx)
    | (go_at_call 15; (with_reducible refine HN.out.mono ?_); rintro e w2 ⟨a, rfl, hA2, hbw2⟩; have hB2 := Nat.le_refl w2.heap.size)
    | (go_at_call 19; (with_reducible refine (hRun.out _ _ _ hA2 hB2).mono ?_); rintro e w3 ⟨rfl, hb3⟩; have hA3 := hA2.later hb3 hB2; have hB3 := hb3.size; have hbw3 := hbw2.trans (hb3.mono hbw2.size); clear hRun)
    | (go_at_call 21; (with_reducible refine (hStep.out _ _ _ hA3 hB3).mono ?_); rintro e w4 ⟨rfl, hb4⟩; have hA4 := hA3.later hb4 hB3; have hB4 := Nat.le_trans hB3 hb4.size; have hbw4 := hbw3.trans (hb4.mono hbw3.size); have hb5' := (Below.refl w4.heap.size w4).alloc (Nat.le_refl _) (Obj.cells #[.int .u8 c8.toNat] 5); have hA5 := hA4.later hb5' hB4; have hB5 := Nat.le_trans hB4 hb5'.size; have hbw5 := hbw4.trans (hb5'.mono hbw4.size))
    | (go_at_call 19; (with_reducible refine (hRun2.out _ _ _ hA5 hB5).mono ?_); rintro e w6 ⟨rfl, hb6⟩; have hbw6 := hbw5.trans (hb6.mono hbw5.size))
    | (go_at_call 18; (with_reducible refine (HWK.out _ (HML.out.later hbw6 hG) (Nat.lt_of_lt_of_le hG hbw6.size)).mono ?_); rintro e w7 ⟨rfl, hb7⟩))
  go_ret
  exact ⟨rfl, hbw6.trans (hb7.mono hbw6.size)⟩
theorem own : ownKnob Try.prog.godebug = none := by kernel_rfl
theorem laidOut : laidOutB Try.prog = true := by kernel_rfl

set_option maxRecDepth 100000 in
theorem lifted (os : Os) (started : os.Started) (H : Type) (enc : TypeId × Value → H) :
    ReturnsInHanded {} Try.checked os 7 .any (Rows.autoOneSpec.pre6 enc Try.prog Try.f7 Rows.autoOneRow.domain false) (Rows.autoOneSpec.post enc Try.prog Try.f7 false true false false) := by
  refine returnsInHanded_of_change_shaped (C := Try.checked) own started (by kernel_rfl) Try.func7
    (ChangeSpec.witness6 (enc := enc) (C := Try.checked) false ⟨#[], #[.slice none 0 0, .string ByteArray.empty, .int .u8 0], []⟩ 8 (by kernel_rfl) (by kernel_rfl) (by kernel_rfl) (by kernel_rfl)) ?_
  intro W base args ds gs before hval0 hW hcnd hsz0 hsh _
  have hval : ∀ (j : Nat) t v, Try.f7.params[j]? = some t → args[j]? = some v → Value.okWide Try.prog W .any base t v := hval0
  have hW' := hW
  obtain ⟨p, q, hA0, hV, rfl, hfz, hnd⟩ := hW
  have hA : DataW.TrodAll enc Try.prog W 0 (fun _ => true) true Try.f7.params.toList args.toList ds p := hA0
  rw [Try.params7] at hA hval
  obtain ⟨v0, vs0, d0, ds0, p0, q0, hargs, rfl, rfl, h0, r0⟩ := trodAll_cons hA
  obtain ⟨v1, vs1, d1, ds1, p1, q1, rfl, rfl, rfl, h1, r1⟩ := trodAll_cons r0
  obtain ⟨v2, vs2, d2, ds2, p2, q2, rfl, rfl, rfl, h2, r2⟩ := trodAll_cons r1
  obtain ⟨rfl, rfl, rfl⟩ := trodAll_nil r2
  obtain rfl : args = #[v0, v1, v2] := by cases args; simp_all
  obtain ⟨rfl, rfl⟩ := trodVars_none hV
  obtain ⟨a0, len0, cap0, rfl⟩ := okWide_slice Try.underlying22 (hval 0 22 v0 rfl rfl)
  have k0 := h0
  have lt0 : ∀ x ∈ p0, x.block < W.heap.size := by obtain ⟨m, hm⟩ := k0; exact DataW.trod_lt m _ _ _ hm
  obtain ⟨z0, w0⟩ : ∃ rs, RowR W (.slice a0 len0 cap0) rs := by
    obtain ⟨fuel, hf⟩ := h0
    exact rules_open hf
  obtain ⟨a1, rfl, rfl, rfl, w1⟩ := open_string Try.underlying9 (hval 1 9 v1 rfl rfl) h1
  obtain ⟨a2, rfl, rfl, rfl, w2⟩ := open_int Try.underlying5 (hval 2 5 v2 rfl rfl) h2
  clear hA0 hval0
  have hsz : (DataW.weightsEach Try.prog (Try.f7.params.toList ++ Rows.autoOneSpec.plain.varTypes Try.prog) (_ ++ _)).all (· ≤ reachBytes) = true := hsz0
  rw [Try.params7] at hsz
  have sz1 := sized_string hsz (j := 1) (t := 9) rfl rfl
  refine (walk a0 len0 cap0 z0 a1 a2 W w0 w1 w2 (by have := sz1; simp only [reachBytes, Array.length_toList] at this; exact this) (maxL_of hsh).1 (maxL_of hsh).2).mono fun e W' ⟨he, bel⟩ => ?_
  subst he
  exact ⟨_, rfl, _, _, _, [], _, [], hW', trodAll_mk1 (shut_bool Try.underlying4 _), (trodAll_cons_mk (Below.trod laidOut (by kernel_rfl) (of_decide_eq_true (by kernel_rfl)) k0 bel lt0) (trodAll_cons_mk (shut_string Try.underlying9 w1) (trodAll_cons_mk (shut_int Try.underlying5 w2) trodAll_mk0))), rfl, bel.frame _, fun h => by cases h⟩

theorem over : Rows.autoOneRow.holds Try.pinned (OpenSpec.ofChange Rows.autoOneSpec) :=
  OpenClaim.holds_of_wide 7 Try.f7 rfl rfl rfl rfl rfl rfl rfl ⟨rfl, rfl, rfl, rfl, rfl⟩ rfl rfl rfl rfl rfl (by kernel_rfl) Try.func7 (by kernel_rfl)
    (of_decide_eq_true (by kernel_rfl)) (by unfold Func.isWrapper; first | (rw [if_pos (by decide +kernel)]; kernel_rfl) | (rw [if_neg (by decide +kernel)]; exact ⟨rfl, rfl⟩))
    (fun os started H enc _ => lifted os started H enc)

theorem proved : Rows.AutoOneSaid := over
end Go.Proofs.Ytmbccolkgephgaa.autoOne
