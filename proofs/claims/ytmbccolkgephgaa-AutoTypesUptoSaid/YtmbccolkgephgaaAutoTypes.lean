/-
  Type returns the keys that the document says, or none: AutoTypes, for every input of the bound's bulk.
-/
import Derived.Test.YtmbccolkgephgaaAutTz
import Derived.Test.YtmbccolkgephgaaRomV
import Derived.Test.YtmbccolkgephgaaUtfH
import Derived.OpenShut
import Derived.ShutString
import Derived.ChangeOld
import Derived.HandedShaped
import Derived.LaidMore
import Derived.Lay
import Derived.SizedLaws
import Derived.Deep.DeepHandedRow
import Derived.Test.YtmbccolkgephgaaAutFr
set_option linter.unusedVariables false
set_option linter.unusedSimpArgs false
namespace Go.Proofs.Ytmbccolkgephgaa.autoTypes
open Go Go.RowKit Go.ChangeShapes Go.WideShapes Go.ChangeAt Go.Proofs.Ytmbccolkgephgaa Go.Proofs.Ytmbccolkgephgaa.Kit Go.Proofs.Ytmbccolkgephgaa.Utf Go.Proofs.Ytmbccolkgephgaa.Rom Go.Proofs.Ytmbccolkgephgaa.Aut
open Go.ChangeMaps (open_string shut_string)
set_option maxRecDepth 100000

set_option maxHeartbeats 8000000 in
theorem walk (a0 : Option Addr) (len0 cap0 : Nat) (z0 : List Rule) (a1 : ByteArray) (w : World) (w0 : RowR w (.slice a0 len0 cap0) z0) (w1 : a1.size ≤ maxLen) (u1 : a1.size ≤ 1048576) (hm : MaxL w) (hG : 0 < w.heap.size) :
    Calls Try.prog 5 #[.slice a0 len0 cap0, .string a1] w fun e w' => e = .returned (.bool true) ∧ Below w.heap.size w w' := by
  have HR := Lib.hid w0
  have HL := Lib.hid (fun W (h : Below w.heap.size w W) => light_any (.slice a0 len0 cap0) z0 { data := #[] } W (HR.out.later h (Nat.le_refl _)) (by show 0 ≤ _; omega))
  have HWK := Lib.hid works_any
  have HML := Lib.hid hm
  have HCN := Lib.hid (fun W => rcount_any a1 W (by omega))
  generalize count (bs a1) = C at HCN
  by_cases hlt : Lt z0 { data := #[] }
  rotate_left
  · have HLT := Lib.hid hlt
    clear w0 w1 u1 hm hlt
    go_enter Try.func5, Try.ntmps5
    go_wp2_with (first
      | (go_at_call 25; (with_reducible refine (HCN.out _).mono ?_); rintro e w1 ⟨rfl, hb1⟩)
      | (go_at_call 14; (with_reducible refine (HL.out _ hb1).mono ?_); rintro e w2 ⟨x, rfl, hw1, hx⟩; obtain rfl := hw1.symm; obtain rfl : x = false := Bool.eq_false_iff.2 (fun h => HLT.out (hx.1 h)); clear hx))
    go_ret
    exact ⟨rfl, hb1⟩
  have HLT := Lib.hid hlt
  by_cases h400 : 400 < a1.size
  · have h400' : (400 : Int) < a1.size := by omega
    clear w0 w1 u1 hm hlt
    go_enter Try.func5, Try.ntmps5
    go_wp2_with (first
      | (go_at_call 25; (with_reducible refine (HCN.out _).mono ?_); rintro e w1 ⟨rfl, hb1⟩)
      | (go_at_call 14; (with_reducible refine (HL.out _ hb1).mono ?_); rintro e w2 ⟨x, rfl, hw1, hx⟩; obtain rfl := hw1.symm; obtain rfl : x = true := hx.2 HLT.out; clear hx))
    go_ret
    exact ⟨rfl, hb1⟩
  have h400' : (a1.size : Int) ≤ 400 := by omega
  by_cases h14 : 14 < C ∧ C ≤ 64
  · obtain ⟨h14, h64⟩ := h14
    clear w0 w1 u1 hm hlt
    go_enter Try.func5, Try.ntmps5
    go_wp2_with (first
      | (go_at_call 25; (with_reducible refine (HCN.out _).mono ?_); rintro e w1 ⟨rfl, hb1⟩)
      | (go_at_call 14; (with_reducible refine (HL.out _ hb1).mono ?_); rintro e w2 ⟨x, rfl, hw1, hx⟩; obtain rfl := hw1.symm; obtain rfl : x = true := hx.2 HLT.out; clear hx))
    go_ret
    exact ⟨rfl, hb1⟩
  have hsh := hlt.short
  have hlz := hlt.1
  have HSH := Lib.hid hsh
  have HGV : Hid (∀ W, Below w.heap.size w W → Calls Try.prog 17 #[.slice a0 len0 cap0] W fun e w' => ∃ v', e = .returned v' ∧ Hid (RowR w' v' z0) ∧ Below W.heap.size W w') := Lib.hid fun W hW => (gvn6_any _ z0 W (HR.out.later hW (Nat.le_refl _)) (by omega)).mono fun e w' ⟨v', he, hown, hb⟩ => ⟨v', he, Lib.hid (row_of_own hown).1, hb⟩
  have h14' : C ≤ 14 ∨ 64 < C := by omega
  by_cases hc : checkL z0 = 0
  rotate_left
  · have HN : Hid (∀ W, Below w.heap.size w W → _) := Lib.hid (fun W (h : Below w.heap.size w W) => new_no (HR.out.later h (Nat.le_refl _)) hsh hc)
    have HC := Lib.hid (fun v W (h : RowR W v z0) => rcheck_any v z0 W h hsh)
    have hne : (checkL z0 != 0) = true := by simpa using hc
    generalize checkL z0 = E at HN hne HC
    clear w0 w1 u1 hm hlt hc hsh hlz h14
    rcases h14' with h14 | h14
    all_goals
      go_enter Try.func5, Try.ntmps5
      go_wp2_with (first
        | (go_at_call 25; (with_reducible refine (HCN.out _).mono ?_); rintro e w1 ⟨rfl, hb1⟩)
        | (go_at_call 14; (with_reducible refine (HL.out _ hb1).mono ?_); rintro e w2 ⟨x, rfl, hw1, hx⟩; obtain rfl := hw1.symm; obtain rfl : x = true := hx.2 HLT.out; clear hx)
        | (go_at_call 15; (with_reducible refine (HN.out _ hb1).mono ?_); rintro e w2 ⟨rfl, hb2⟩; have hbw2 := hb1.trans (hb2.mono hb1.size))
        | (go_at_call 17; (with_reducible refine (HGV.out _ hbw2).mono ?_); rintro e w3 ⟨v3, rfl, hv3, hb3⟩; have hbw3 := hbw2.trans (hb3.mono hbw2.size))
        | (go_at_call 16; (with_reducible refine (HC.out _ _ hv3.out).mono ?_); rintro e w4 ⟨rfl, hb4⟩; have hbw4 := hbw3.trans (hb4.mono hbw3.size))
        | (go_at_call 18; (with_reducible refine (HWK.out _ (HML.out.later hbw4 hG) (Nat.lt_of_lt_of_le hG hbw4.size)).mono ?_); rintro e w5 ⟨rfl, hb5⟩))
      go_ret
      exact ⟨rfl, hbw4.trans (hb5.mono hbw4.size)⟩
  obtain ⟨h500, hok⟩ := ok_of_check hc
  have HN : Hid (∀ W, Below w.heap.size w W → _) := Lib.hid (fun W (h : Below w.heap.size w W) => new_yes (HR.out.later h (Nat.le_refl _)) hsh hc)
  have HTY : Hid (∀ (B a : Nat) (W : World), AutoAt B W a z0 → B ≤ W.heap.size → MaxL W → 0 < W.heap.size → Calls Try.prog 26 #[.pointer (some ⟨a, 0, none⟩), .string a1] W fun e w' => ∃ k ok, e = .returned (.tuple #[.string (ba k), .bool ok]) ∧ Hid (TypeIs z0 (bs a1) k ok) ∧ Below W.heap.size W w') := Lib.hid fun B a W h1 h2 h3 h4 => (type_any hok h500 B a a1 W h1 h2 h3 h4 w1).mono fun e w' ⟨k, ok, he, h, _, hb⟩ => ⟨k, ok, he, Lib.hid h, hb⟩
  have HRT : Hid (∀ (v : Value) (W : World), RowR W v z0 → Calls Try.prog 27 #[v, .string a1] W fun e w' => ∃ k ok, e = .returned (.tuple #[.string (ba k), .bool ok]) ∧ Hid (TypeIs z0 (bs a1) k ok) ∧ Below W.heap.size W w') := Lib.hid fun v W hv => (rtype_any v z0 a1 W hv hok hsh h500 (by omega)).mono fun e w' ⟨k, ok, he, h, hb⟩ => ⟨k, ok, he, Lib.hid h, hb⟩
  clear w0 w1 u1 hm hlt hc hsh hlz h14 hok h500
  rcases h14' with h14 | h14
  all_goals
    go_enter Try.func5, Try.ntmps5
    go_wp2_with (first
      | (go_at_call 25; (with_reducible refine (HCN.out _).mono ?_); rintro e w1 ⟨rfl, hb1⟩)
      | (go_at_call 14; (with_reducible refine (HL.out _ hb1).mono ?_); rintro e w2 ⟨x, rfl, hw1, hx⟩; obtain rfl := hw1.symm; obtain rfl : x = true := hx.2 HLT.out; clear hx)
      | (go_at_call 15; (with_reducible refine (HN.out _ hb1).mono ?_); rintro e w2 ⟨a, rfl, hA2, hb2⟩; have hbw2 := hb1.trans (hb2.mono hb1.size); have hB2 := Nat.le_refl w2.heap.size)
      | (go_at_call 26; (with_reducible refine (HTY.out _ _ _ hA2 hB2 (HML.out.later hbw2 hG) (Nat.lt_of_lt_of_le hG hbw2.size)).mono ?_); rintro e w3 ⟨k3, ok3, rfl, hT3, hb3⟩; have hbw3 := hbw2.trans (hb3.mono hbw2.size))
      | (go_at_call 17; (with_reducible refine (HGV.out _ hbw3).mono ?_); rintro e w4 ⟨v4, rfl, hv4, hb4⟩; have hbw4 := hbw3.trans (hb4.mono hbw3.size))
      | (go_at_call 27; (with_reducible refine (HRT.out _ _ hv4.out).mono ?_); rintro e w5 ⟨k5, ok5, rfl, hT5, hb5⟩; have hbw5 := hbw4.trans (hb5.mono hbw4.size); (obtain ⟨rfl, rfl⟩ := hT3.out.det hT5.out); clear hT3 hT5)
      | (go_at_call 18; (with_reducible refine (HWK.out _ (HML.out.later hbw5 hG) (Nat.lt_of_lt_of_le hG hbw5.size)).mono ?_); rintro e w6 ⟨rfl, hb6⟩))
    go_ret
    exact ⟨rfl, hbw5.trans (hb6.mono hbw5.size)⟩
theorem own : ownKnob Try.prog.godebug = none := by kernel_rfl
theorem laidOut : laidOutB Try.prog = true := by kernel_rfl

/-- What the bound gives: a text's length. -/
theorem part_short {H : Type} {s : ByteArray} {l : List (DataW H)} (hk : Rows.uptoSmall H l = true) (hm : DataW.lit (.string s.data.toList) ∈ l) : s.size ≤ 1048576 := by
  obtain ⟨B, hB⟩ : ∃ B : Nat, B = 1048576 := ⟨_, rfl⟩
  have h : Rows.uptoBulkAll l ≤ B := by rw [hB]; exact of_decide_eq_true hk
  rw [← hB]
  clear hB hk
  have e : s.data.toList.length = s.size := by rw [Array.length_toList]; rfl
  induction l with
  | nil => cases hm
  | cons x r ih =>
    simp only [Rows.uptoBulkAll] at h
    rcases List.mem_cons.1 hm with rfl | hr
    · simp only [Rows.uptoBulk] at h; omega
    · exact ih hr (by omega)

set_option maxRecDepth 100000 in
theorem contract (H : Type) (enc : TypeId × Value → H) (W : World) (base : Nat) (args : Array Value) (ds gs : List (DataW H)) (before : List MemPlace)
    (hval0 : ∀ (j : Nat) t v, Try.f5.params[j]? = some t → args[j]? = some v → Value.okWide Try.prog W .any base t v)
    (hW : DataW.Whole enc Try.prog Try.f5.params.toList Rows.autoTypesSpec.vars false W args.toList ds gs before) (hk : Rows.uptoSmall H (ds ++ gs) = true) (hsh : W.ShapedOpen Try.prog) :
    Calls Try.prog 5 args W fun e W' => ∃ v, e = .returned v ∧ Rows.autoTypesSpec.post enc Try.prog Try.f5 false true false false W args v W' := by
  have hval : ∀ (j : Nat) t v, Try.f5.params[j]? = some t → args[j]? = some v → Value.okWide Try.prog W .any base t v := hval0
  have hW' := hW
  obtain ⟨p, q, hA0, hV, rfl, hfz, hnd⟩ := hW
  have hA : DataW.TrodAll enc Try.prog W 0 (fun _ => true) true Try.f5.params.toList args.toList ds p := hA0
  rw [Try.params5] at hA hval
  obtain ⟨v0, vs0, d0, ds0, p0, q0, hargs, rfl, rfl, h0, r0⟩ := trodAll_cons hA
  obtain ⟨v1, vs1, d1, ds1, p1, q1, rfl, rfl, rfl, h1, r1⟩ := trodAll_cons r0
  obtain ⟨rfl, rfl, rfl⟩ := trodAll_nil r1
  obtain rfl : args = #[v0, v1] := by cases args; simp_all
  obtain ⟨rfl, rfl⟩ := trodVars_none hV
  obtain ⟨a0, len0, cap0, rfl⟩ := okWide_slice Try.underlying22 (hval 0 22 v0 rfl rfl)
  have k0 := h0
  have lt0 : ∀ x ∈ p0, x.block < W.heap.size := by obtain ⟨m, hm⟩ := k0; exact DataW.trod_lt m _ _ _ hm
  obtain ⟨z0, w0⟩ : ∃ rs, RowR W (.slice a0 len0 cap0) rs := by
    obtain ⟨fuel, hf⟩ := h0
    exact rules_open hf
  obtain ⟨a1, rfl, rfl, rfl, w1⟩ := open_string Try.underlying9 (hval 1 9 v1 rfl rfl) h1
  clear hA0 hval0
  simp only [List.append_nil] at hk
  have u1 := part_short hk (.tail _ (.head _))
  refine (walk a0 len0 cap0 z0 a1 W w0 w1 u1 (maxL_of hsh).1 (maxL_of hsh).2).mono fun e W' ⟨he, bel⟩ => ?_
  subst he
  exact ⟨_, rfl, _, _, _, [], _, [], hW', trodAll_mk1 (shut_bool Try.underlying4 _), (trodAll_cons_mk (Below.trod laidOut (by kernel_rfl) (of_decide_eq_true (by kernel_rfl)) k0 bel lt0) (trodAll_cons_mk (shut_string Try.underlying9 w1) trodAll_mk0)), rfl, bel.frame _, fun h => by cases h⟩

/-- THAT THERE IS AN INPUT THAT FITS, out of a world that is laid whole. -/
theorem witness_row_shaped {H : Type} {enc : TypeId × Value → H} {C : Checked} {os : Os} {f : FuncId} {fn : Func} {s : OpenSpec} {conds : List PathCond} {apart : Bool} {laid : List (String × DataW Unit)} (modest : Bool) (w0 : World) (args : Array Value) (hos : w0.os = os)
    (hsh : (w0.forCall (fun _ _ => 0) ⟨#[], args, []⟩).Shaped C.prog)
    (hok : Input.okWideB C.prog (w0.forCall (fun _ _ => 0) ⟨#[], args, []⟩) f ⟨#[], args, []⟩ = true)
    (hrow : s.preRow enc C.prog fn conds apart laid (w0.forCall (fun _ _ => 0) ⟨#[], args, []⟩).memory args) :
    ∃ (w : World) (tape : Tape) (i : Input), w.os = os ∧ (w.forCall tape i).Shaped C.prog ∧ i.vars = [] ∧ Input.okWide C.prog (w.forCall tape i) .any w.heap.size f i ∧
      s.preRow enc C.prog fn conds apart laid (w.forCall tape i).memory i.args ∧ ({ modest := modest } : Assume).holds C.prog (lone (Frame.enter C.prog f i.args .normal) [] (w.forCall tape i)) :=
  ⟨w0, fun _ _ => 0, ⟨#[], args, []⟩, hos, hsh, (Input.okWide_of_okWideB (base := 0) hok).1, (Input.okWide_of_okWideB hok).2, hrow, by
    simp only [Assume.holds]
    exact ⟨by simp, by simp, fun _ => Modest.zero, by simp, by simp⟩⟩

set_option maxRecDepth 100000 in
theorem lifted (os : Os) (started : os.Started) (H : Type) (enc : TypeId × Value → H) (F : Stop.Interp) :
    ReturnsInHanded {} Try.checked os 5 .any ((Rows.OpenSpec.upto Rows.autoTypesSpec).preRow enc Try.prog Try.f5 Rows.autoTypesUptoRow.domain false Rows.autoTypesUptoRow.laid) (((Rows.OpenSpec.upto Rows.autoTypesSpec).at F).post enc Try.prog Try.f5 false true false false) := by
  refine returnsInHanded_of_row (C := Try.checked) (s := Rows.OpenSpec.upto Rows.autoTypesSpec) own started (by kernel_rfl) Try.func5
    (witness_row_shaped (enc := enc) (C := Try.checked) (os := os) false (World.laidAll Try.prog os Rows.autoTypesUptoRow.laid) #[.slice none 0 0, .string ByteArray.empty] (World.laidAll_os _ _ _)
      (World.shaped_of_ZipB (by kernel_rfl) (by kernel_rfl)) (by kernel_rfl)
      (OpenSpec.preRow_of_cond 8 (x := ([.nil, .lit (.string [])], [], [])) (by kernel_rfl) (by kernel_rfl) (fun k hk => by cases hk; kernel_rfl) (by kernel_rfl)
        (by rw [MakeChecks.laidMetH_plain _ _ _ (by kernel_rfl)]; exact laidMet_laidAll _ (by kernel_rfl) (by kernel_rfl)))) ?_
  intro W base args ds gs before hval hW _ hcond _ hL hsh _
  exact contract H enc W base args ds gs before hval hW (hcond _ rfl) hsh

theorem over : Rows.autoTypesUptoRow.holds Try.pinned (Rows.OpenSpec.upto Rows.autoTypesSpec) :=
  OpenClaim.holds_of_cond 5 Try.f5 rfl rfl rfl rfl rfl rfl rfl ⟨rfl, rfl, rfl, rfl, rfl⟩ rfl rfl rfl rfl rfl (by kernel_rfl) Try.func5 (by kernel_rfl)
    (of_decide_eq_true (by kernel_rfl)) (by unfold Func.isWrapper; first | (rw [if_pos (by decide +kernel)]; kernel_rfl) | (rw [if_neg (by decide +kernel)]; exact ⟨rfl, rfl⟩))
    (fun os started H enc _ F => by rw [OpenClaim.pre_eq_preRow]; exact lifted os started H enc F)

theorem proved : Rows.AutoTypesUptoSaid := over
end Go.Proofs.Ytmbccolkgephgaa.autoTypes
