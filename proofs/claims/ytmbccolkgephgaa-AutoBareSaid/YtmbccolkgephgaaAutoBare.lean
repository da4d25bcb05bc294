/-
  Without rules all keys are written as they are: AutoBare, for every input.
-/
import Derived.Test.YtmbccolkgephgaaAutQ
import Derived.OpenShut
import Derived.ShutString
import Derived.ChangeOld
import Derived.HandedShaped
import Derived.Test.YtmbccolkgephgaaAutFr
set_option linter.unusedVariables false
set_option linter.unusedSimpArgs false
namespace Go.Proofs.Ytmbccolkgephgaa.autoBare
open Go Go.RowKit Go.ChangeShapes Go.WideShapes Go.ChangeAt Go.Proofs.Ytmbccolkgephgaa Go.Proofs.Ytmbccolkgephgaa.Kit Go.Proofs.Ytmbccolkgephgaa.Utf Go.Proofs.Ytmbccolkgephgaa.Rom Go.Proofs.Ytmbccolkgephgaa.Aut
open Go.ChangeMaps (open_string shut_string)
set_option maxRecDepth 100000

set_option maxHeartbeats 4000000 in
theorem walk (a0 : ByteArray) (w : World) (w0 : a0.size ≤ maxLen) (s0 : a0.size ≤ 140737488351232) (hm : MaxL w) (hG : 0 < w.heap.size) :
    Calls Try.prog 10 #[.string a0] w fun e w' => e = .returned (.bool true) ∧ Below w.heap.size w w' := by
  by_cases hl : 200 < a0.size
  · have hl2 : (200 : Int) < a0.size := by omega
    go_enter Try.func10, Try.ntmps10
    go_wp2
    go_ret
    exact ⟨rfl, Below.refl _ _⟩
  have hoth : ∀ c ∈ keysOf (bs a0), Other [] c := fun c _ r hr => by cases hr
  have hf := feeds_others (rs := []) rfl hoth
  have hfl := flushes_others (rs := []) hoth rfl
  have HN : Hid (∀ W, Calls Try.prog 15 #[.slice none 0 0] W fun e w' => ∃ a, e = .returned (.tuple #[.pointer (some ⟨a, 0, none⟩), .int .i64 0]) ∧ AutoAt w'.heap.size w' a [] ∧ Below W.heap.size W w') := Lib.hid fun W => by
    refine (new_any (.slice none 0 0) [] W (RowR.nil W) (fun r hr => by cases hr)).mono ?_
    rintro e w' ⟨hb, ⟨h, _⟩ | ⟨_, a, rfl, hA, _⟩⟩
    · exact absurd rfl h
    · exact ⟨a, rfl, hA, hb⟩
  have HR : Hid (∀ (B a : Nat) (W : World), AutoAt B W a [] → B ≤ W.heap.size → Calls Try.prog 19 #[.pointer (some ⟨a, 0, none⟩), .string a0] W fun e w' => e = .returned (.tuple #[.string (ba (keysOf (bs a0))), .string ⟨#[]⟩]) ∧ Below W.heap.size W w') := Lib.hid fun B a W hA hB => by
    have h := run_any (rs := []) rfl B a a0 W hA hB (by omega)
    rw [hf.fd] at h
    exact h
  have HF : Hid (∀ (B a : Nat) (W : World), AutoAt B W a [] → B ≤ W.heap.size → Calls Try.prog 23 #[.pointer (some ⟨a, 0, none⟩), .string a0] W fun e w' => e = .returned (.string (ba (keysOf (bs a0)))) ∧ Below W.heap.size W w') := Lib.hid fun B a W hA hB => by
    refine (flush_any (rs := []) rfl B a a0 W hA hB (by omega)).mono ?_
    rintro e w' ⟨F, rfl, hF, hb⟩
    rw [hF.det hfl]
    exact ⟨rfl, hb⟩
  have HK := Lib.hid (fun W => rkeys_any a0 W (by omega))
  have HW := Lib.hid works_any
  have HM := Lib.hid hm
  have hl2 : (a0.size : Int) ≤ 200 := by omega
  have heq : ((ba (keysOf (bs a0))).toList == (ba (keysOf (bs a0))).toList) = true := by simp
  clear w0 s0 hm hl hoth hf hfl
  generalize ba (keysOf (bs a0)) = K at *
  go_enter Try.func10, Try.ntmps10
  go_wp2_with (first
    | (go_at_call 15; (with_reducible refine (HN.out _).mono ?_); rintro e w1 ⟨a, rfl, hA1, hb1⟩)
    | (go_at_call 19; (with_reducible refine (HR.out _ _ _ hA1 (Nat.le_refl _)).mono ?_); rintro e w2 ⟨rfl, hb2⟩; have hA2 := hA1.later hb2 (Nat.le_refl _))
    | (go_at_call 28; (with_reducible refine (HK.out _).mono ?_); rintro e w3 ⟨rfl, hb3⟩; have hA3 := hA2.later hb3 hb2.size)
    | (go_at_call 23; (with_reducible refine (HF.out _ _ _ hA3 (Nat.le_trans hb2.size hb3.size)).mono ?_); rintro e w4 ⟨rfl, hb4⟩; have hbw : Below w.heap.size w w4 := (hb1.trans (hb2.mono hb1.size)).trans ((hb3.mono (Nat.le_trans hb1.size hb2.size)).trans (hb4.mono (Nat.le_trans (Nat.le_trans hb1.size hb2.size) hb3.size))))
    | (go_at_call 18; (with_reducible refine (HW.out _ (HM.out.later hbw hG) (Nat.lt_of_lt_of_le hG hbw.size)).mono ?_); rintro e w5 ⟨rfl, hb5⟩))
  go_ret
  exact ⟨rfl, hbw.trans (hb5.mono hbw.size)⟩
theorem own : ownKnob Try.prog.godebug = none := by kernel_rfl
theorem laidOut : laidOutB Try.prog = true := by kernel_rfl

set_option maxRecDepth 100000 in
theorem lifted (os : Os) (started : os.Started) (H : Type) (enc : TypeId × Value → H) :
    ReturnsInHanded {} Try.checked os 10 .any (Rows.autoBareSpec.pre6 enc Try.prog Try.f10 Rows.autoBareRow.domain false) (Rows.autoBareSpec.post enc Try.prog Try.f10 false true false false) := by
  refine returnsInHanded_of_change_shaped (C := Try.checked) own started (by kernel_rfl) Try.func10
    (ChangeSpec.witness6 (enc := enc) (C := Try.checked) false ⟨#[], #[.string ByteArray.empty], []⟩ 8 (by kernel_rfl) (by kernel_rfl) (by kernel_rfl) (by kernel_rfl)) ?_
  intro W base args ds gs before hval0 hW hcnd hsz0 hsh _
  have hval : ∀ (j : Nat) t v, Try.f10.params[j]? = some t → args[j]? = some v → Value.okWide Try.prog W .any base t v := hval0
  have hW' := hW
  obtain ⟨p, q, hA0, hV, rfl, hfz, hnd⟩ := hW
  have hA : DataW.TrodAll enc Try.prog W 0 (fun _ => true) true Try.f10.params.toList args.toList ds p := hA0
  rw [Try.params10] at hA hval
  obtain ⟨v0, vs0, d0, ds0, p0, q0, hargs, rfl, rfl, h0, r0⟩ := trodAll_cons hA
  obtain ⟨rfl, rfl, rfl⟩ := trodAll_nil r0
  obtain rfl : args = #[v0] := by cases args; simp_all
  obtain ⟨rfl, rfl⟩ := trodVars_none hV
  obtain ⟨a0, rfl, rfl, rfl, w0⟩ := open_string Try.underlying9 (hval 0 9 v0 rfl rfl) h0
  clear hA0 hval0
  have hsz : (DataW.weightsEach Try.prog (Try.f10.params.toList ++ Rows.autoBareSpec.plain.varTypes Try.prog) (_ ++ _)).all (· ≤ reachBytes) = true := hsz0
  rw [Try.params10] at hsz
  have sz0 := sized_string hsz (j := 0) (t := 9) rfl rfl
  refine (walk a0 W w0 (by have := sz0; simp only [reachBytes, Array.length_toList] at this; exact this) (maxL_of hsh).1 (maxL_of hsh).2).mono fun e W' ⟨he, bel⟩ => ?_
  subst he
  exact ⟨_, rfl, _, _, _, [], _, [], hW', trodAll_mk1 (shut_bool Try.underlying4 _), (trodAll_cons_mk (shut_string Try.underlying9 w0) trodAll_mk0), rfl, bel.frame _, fun h => by cases h⟩

theorem over : Rows.autoBareRow.holds Try.pinned (OpenSpec.ofChange Rows.autoBareSpec) :=
  OpenClaim.holds_of_wide 10 Try.f10 rfl rfl rfl rfl rfl rfl rfl ⟨rfl, rfl, rfl, rfl, rfl⟩ rfl rfl rfl rfl rfl (by kernel_rfl) Try.func10 (by kernel_rfl)
    (of_decide_eq_true (by kernel_rfl)) (by unfold Func.isWrapper; first | (rw [if_pos (by decide +kernel)]; kernel_rfl) | (rw [if_neg (by decide +kernel)]; exact ⟨rfl, rfl⟩))
    (fun os started H enc _ => lifted os started H enc)

theorem proved : Rows.AutoBareSaid := over
end Go.Proofs.Ytmbccolkgephgaa.autoBare
