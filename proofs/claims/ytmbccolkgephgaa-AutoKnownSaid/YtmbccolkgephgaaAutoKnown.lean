/-
  The examples of the chapter: AutoKnown.
-/
import Derived.Test.YtmbccolkgephgaaAutQ
import Derived.OpenShut
import Derived.ShutString
import Derived.ChangeOld
import Derived.HandedShaped
import Derived.Test.YtmbccolkgephgaaAutFr
set_option linter.unusedVariables false
set_option linter.unusedSimpArgs false
namespace Go.Proofs.Ytmbccolkgephgaa.autoKnown
open Go Go.RowKit Go.ChangeShapes Go.WideShapes Go.ChangeAt Go.Proofs.Ytmbccolkgephgaa Go.Proofs.Ytmbccolkgephgaa.Kit Go.Proofs.Ytmbccolkgephgaa.Utf Go.Proofs.Ytmbccolkgephgaa.Rom Go.Proofs.Ytmbccolkgephgaa.Aut
open Go.ChangeMaps (open_string shut_string)
set_option maxRecDepth 100000

theorem k_nna : Least smallR [227, 130, 147, 227, 129, 130] [110, 110, 97] true := bfs_least (f := 60) (r := some [110, 110, 97]) small_ok (by decide +kernel)
theorem k_nn : Least smallR [227, 130, 147] [110, 110] true := bfs_least (f := 60) (r := some [110, 110]) small_ok (by decide +kernel)
theorem k_ka : Least smallR [227, 129, 139] [] false := bfs_least (f := 60) (r := none) small_ok (by decide +kernel)
theorem k_no : Least smallR [] [] true := bfs_least (f := 60) (r := some []) small_ok (by decide +kernel)
theorem k_run1 : Feeds smallR [] [120, 98] [120, 98] [] := feedO_sound (f := 100) (by decide +kernel)
theorem k_run2 : Feeds smallR [] [107, 65] [107, 65] [] := feedO_sound (f := 100) (by decide +kernel)
theorem k_step : Feeds smallR [110] [107] [227, 130, 147, 107] [] := feedO_sound (f := 100) (by decide +kernel)

set_option maxHeartbeats 4000000 in
theorem walk (w : World) (hm : MaxL w) (hG : 0 < w.heap.size) :
    Calls Try.prog 13 #[] w fun e w' => e = .returned (.bool true) ∧ Below w.heap.size w w' := by
  have HR1 : Hid (∀ (B a : Nat) (W : World), AutoAt B W a smallR → B ≤ W.heap.size → Calls Try.prog 19 #[.pointer (some ⟨a, 0, none⟩), .string { data := #[120, 98] }] W fun e w' => e = .returned (.tuple #[.string { data := #[120, 98] }, .string { data := #[] }]) ∧ Below W.heap.size W w') := Lib.hid fun B a W h1 h2 => run_small k_run1 (allK_dec rfl) (by decide) B a W h1 h2
  have HR2 : Hid (∀ (B a : Nat) (W : World), AutoAt B W a smallR → B ≤ W.heap.size → Calls Try.prog 19 #[.pointer (some ⟨a, 0, none⟩), .string { data := #[107, 65] }] W fun e w' => e = .returned (.tuple #[.string { data := #[107, 65] }, .string { data := #[] }]) ∧ Below W.heap.size W w') := Lib.hid fun B a W h1 h2 => run_small k_run2 (allK_dec rfl) (by decide) B a W h1 h2
  have HSP : Hid (∀ (B a : Nat) (W : World), AutoAt B W a smallR → B ≤ W.heap.size → Calls Try.prog 21 #[.pointer (some ⟨a, 0, none⟩), .string { data := #[110] }, .int .u8 107] W fun e w' => e = .returned (.tuple #[.string { data := #[227, 130, 147, 107] }, .string { data := #[] }]) ∧ Below W.heap.size W w') := Lib.hid fun B a W h1 h2 => by
    have h := step_any small_ok B a (ba [110]) 107 W h1 h2 (by decide)
    rw [bs_ba, show keysOf [110] = [110] from rfl, show keysOf [107] = [107] from rfl, k_step.fd] at h
    exact h
  have HT1 : Hid (∀ (B a : Nat) (W : World), AutoAt B W a smallR → B ≤ W.heap.size → MaxL W → 0 < W.heap.size → Calls Try.prog 26 #[.pointer (some ⟨a, 0, none⟩), .string { data := #[227, 130, 147, 227, 129, 130] }] W fun e w' => e = .returned (.tuple #[.string { data := #[110, 110, 97] }, .bool true]) ∧ Below W.heap.size W w') := Lib.hid fun B a W h1 h2 h3 h4 => type_small k_nna (by decide +kernel) (by decide) B a W h1 h2 h3 h4
  have HT2 : Hid (∀ (B a : Nat) (W : World), AutoAt B W a smallR → B ≤ W.heap.size → MaxL W → 0 < W.heap.size → Calls Try.prog 26 #[.pointer (some ⟨a, 0, none⟩), .string { data := #[227, 130, 147] }] W fun e w' => e = .returned (.tuple #[.string { data := #[110, 110] }, .bool true]) ∧ Below W.heap.size W w') := Lib.hid fun B a W h1 h2 h3 h4 => type_small k_nn (by decide +kernel) (by decide) B a W h1 h2 h3 h4
  have HT3 : Hid (∀ (B a : Nat) (W : World), AutoAt B W a smallR → B ≤ W.heap.size → MaxL W → 0 < W.heap.size → Calls Try.prog 26 #[.pointer (some ⟨a, 0, none⟩), .string { data := #[227, 129, 139] }] W fun e w' => e = .returned (.tuple #[.string { data := #[] }, .bool false]) ∧ Below W.heap.size W w') := Lib.hid fun B a W h1 h2 h3 h4 => type_small k_ka (by decide +kernel) (by decide) B a W h1 h2 h3 h4
  have HT4 : Hid (∀ (B a : Nat) (W : World), AutoAt B W a smallR → B ≤ W.heap.size → MaxL W → 0 < W.heap.size → Calls Try.prog 26 #[.pointer (some ⟨a, 0, none⟩), .string { data := #[] }] W fun e w' => e = .returned (.tuple #[.string { data := #[] }, .bool true]) ∧ Below W.heap.size W w') := Lib.hid fun B a W h1 h2 h3 h4 => type_small k_no (by decide +kernel) (by decide) B a W h1 h2 h3 h4
  have HSM := Lib.hid small_any
  have HNW := Lib.hid new_small
  have HWK := Lib.hid works_any
  have HML := Lib.hid hm
  clear hm
  go_enter Try.func13, Try.ntmps13
  go_wp2_with (first
    | (go_at_call 29; (with_reducible refine (HSM.out _).mono ?_); rintro e w1 ⟨v, rfl, hR1, hb1⟩)
    | (go_at_call 15; (with_reducible refine (HNW.out _ _ hR1).mono ?_); rintro e w2 ⟨a, rfl, hA2, hb2⟩; have hbw2 := hb1.trans (hb2.mono hb1.size); have hB2 : w2.heap.size ≤ w2.heap.size := Nat.le_refl _; generalize hBB : w2.heap.size = BB at hA2; have hB2 : BB ≤ w2.heap.size := (by omega); clear hBB)
    | (go_at_call 19; (with_reducible refine (HR1.out _ _ _ hA2 hB2).mono ?_); rintro e w3 ⟨rfl, hb3⟩; have hA3 := hA2.later hb3 hB2; have hB3 := Nat.le_trans hB2 hb3.size; have hbw3 := hbw2.trans (hb3.mono hbw2.size); clear HR1)
    | (go_at_call 19; (with_reducible refine (HR2.out _ _ _ hA3 hB3).mono ?_); rintro e w4 ⟨rfl, hb4⟩; have hA4 := hA3.later hb4 hB3; have hB4 := Nat.le_trans hB3 hb4.size; have hbw4 := hbw3.trans (hb4.mono hbw3.size))
    | (go_at_call 21; (with_reducible refine (HSP.out _ _ _ hA4 hB4).mono ?_); rintro e w5 ⟨rfl, hb5⟩; have hA5 := hA4.later hb5 hB4; have hB5 := Nat.le_trans hB4 hb5.size; have hbw5 := hbw4.trans (hb5.mono hbw4.size))
    | (go_at_call 26; (with_reducible refine (HT1.out _ _ _ hA5 hB5 (HML.out.later hbw5 hG) (Nat.lt_of_lt_of_le hG hbw5.size)).mono ?_); rintro e w6 ⟨rfl, hb6⟩; have hA6 := hA5.later hb6 hB5; have hB6 := Nat.le_trans hB5 hb6.size; have hbw6 := hbw5.trans (hb6.mono hbw5.size); clear HT1)
    | (go_at_call 26; (with_reducible refine (HT2.out _ _ _ hA6 hB6 (HML.out.later hbw6 hG) (Nat.lt_of_lt_of_le hG hbw6.size)).mono ?_); rintro e w7 ⟨rfl, hb7⟩; have hA7 := hA6.later hb7 hB6; have hB7 := Nat.le_trans hB6 hb7.size; have hbw7 := hbw6.trans (hb7.mono hbw6.size); clear HT2)
    | (go_at_call 26; (with_reducible refine (HT3.out _ _ _ hA7 hB7 (HML.out.later hbw7 hG) (Nat.lt_of_lt_of_le hG hbw7.size)).mono ?_); rintro e w8 ⟨rfl, hb8⟩; have hA8 := hA7.later hb8 hB7; have hB8 := Nat.le_trans hB7 hb8.size; have hbw8 := hbw7.trans (hb8.mono hbw7.size); clear HT3)
    | (go_at_call 26; (with_reducible refine (HT4.out _ _ _ hA8 hB8 (HML.out.later hbw8 hG) (Nat.lt_of_lt_of_le hG hbw8.size)).mono ?_); rintro e w9 ⟨rfl, hb9⟩; have hbw9 := hbw8.trans (hb9.mono hbw8.size); clear HT4)
    | (go_at_call 18; (with_reducible refine (HWK.out _ (HML.out.later hbw9 hG) (Nat.lt_of_lt_of_le hG hbw9.size)).mono ?_); rintro e w10 ⟨rfl, hb10⟩))
  go_ret
  exact ⟨rfl, hbw9.trans (hb10.mono hbw9.size)⟩
theorem own : ownKnob Try.prog.godebug = none := by kernel_rfl
theorem laidOut : laidOutB Try.prog = true := by kernel_rfl

set_option maxRecDepth 100000 in
theorem lifted (os : Os) (started : os.Started) (H : Type) (enc : TypeId × Value → H) :
    ReturnsInHanded {} Try.checked os 13 .any (Rows.autoKnownSpec.pre6 enc Try.prog Try.f13 Rows.autoKnownRow.domain false) (Rows.autoKnownSpec.post enc Try.prog Try.f13 false true false false) := by
  refine returnsInHanded_of_change_shaped (C := Try.checked) own started (by kernel_rfl) Try.func13
    (ChangeSpec.witness6 (enc := enc) (C := Try.checked) false ⟨#[], #[], []⟩ 8 (by kernel_rfl) (by kernel_rfl) (by kernel_rfl) (by kernel_rfl)) ?_
  intro W base args ds gs before hval0 hW hcnd hsz0 hsh _
  have hval : ∀ (j : Nat) t v, Try.f13.params[j]? = some t → args[j]? = some v → Value.okWide Try.prog W .any base t v := hval0
  have hW' := hW
  obtain ⟨p, q, hA0, hV, rfl, hfz, hnd⟩ := hW
  have hA : DataW.TrodAll enc Try.prog W 0 (fun _ => true) true Try.f13.params.toList args.toList ds p := hA0
  rw [Try.params13] at hA hval
  obtain ⟨rfl, rfl, rfl⟩ := trodAll_none hA
  obtain ⟨rfl, rfl⟩ := trodVars_none hV
  clear hA0 hval0
  refine (walk W (maxL_of hsh).1 (maxL_of hsh).2).mono fun e W' ⟨he, bel⟩ => ?_
  subst he
  exact ⟨_, rfl, _, _, _, [], _, [], hW', trodAll_mk1 (shut_bool Try.underlying4 _), trodAll_mk0, rfl, bel.frame _, fun h => by cases h⟩

theorem over : Rows.autoKnownRow.holds Try.pinned (OpenSpec.ofChange Rows.autoKnownSpec) :=
  OpenClaim.holds_of_wide 13 Try.f13 rfl rfl rfl rfl rfl rfl rfl ⟨rfl, rfl, rfl, rfl, rfl⟩ rfl rfl rfl rfl rfl (by kernel_rfl) Try.func13 (by kernel_rfl)
    (of_decide_eq_true (by kernel_rfl)) (by unfold Func.isWrapper; first | (rw [if_pos (by decide +kernel)]; kernel_rfl) | (rw [if_neg (by decide +kernel)]; exact ⟨rfl, rfl⟩))
    (fun os started H enc _ => lifted os started H enc)

theorem proved : Rows.AutoKnownSaid := over
end Go.Proofs.Ytmbccolkgephgaa.autoKnown
