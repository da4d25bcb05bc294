/-
  The keys that Type returns write the text, and two texts in a row: AutoTyped, for every input of the bound's bulk.
-/
import Derived.Test.YtmbccolkgephgaaAutQ
import Derived.Test.YtmbccolkgephgaaUtfH
import Derived.OpenShut
import Derived.ShutString
import Derived.ChangeOld
import Derived.HandedShaped
import Derived.LaidMore
import Derived.Lay
import Derived.SizedLaws
import Derived.Deep.DeepHandedRow
import Derived.Test.YtmbccolkgephgaaAutFr
set_option linter.unusedVariables false
set_option linter.unusedSimpArgs false
namespace Go.Proofs.Ytmbccolkgephgaa.autoTyped
open Go Go.RowKit Go.ChangeShapes Go.WideShapes Go.ChangeAt Go.Proofs.Ytmbccolkgephgaa Go.Proofs.Ytmbccolkgephgaa.Kit Go.Proofs.Ytmbccolkgephgaa.Utf Go.Proofs.Ytmbccolkgephgaa.Rom Go.Proofs.Ytmbccolkgephgaa.Aut
open Go.ChangeMaps (open_string shut_string)
set_option maxRecDepth 100000

theorem TypeIs.cases {rs : List Rule} {s k : By} {ok : Bool} (h : TypeIs rs s k ok) : (ok = true ∧ Types rs s k ∧ (0 ≤ count s ∧ count s ≤ 64)) ∨ (ok = false ∧ k = []) := by
  rcases h with ⟨_, h1, h2⟩ | ⟨hc, ⟨rfl, h1, h2⟩ | ⟨rfl, h1, _⟩⟩
  · exact .inr ⟨h2, h1⟩
  · exact .inl ⟨rfl, h1, hc⟩
  · exact .inr ⟨rfl, h1⟩
theorem count_app {s t : By} (hs : 0 ≤ count s) (ht : 0 ≤ count t) : count (s ++ t) = count s + count t := by
  unfold count at *
  cases h1 : chars s with
  | none => rw [h1] at hs; simp at hs
  | some cs =>
    cases h2 : chars t with
    | none => rw [h2] at ht; simp at ht
    | some ds =>
      obtain ⟨hv, he⟩ := chars_some h1
      have e : chars (s ++ t) = some (cs ++ ds) := by rw [he, chars_encs_append hv, h2]; rfl
      rw [e]
      simp
theorem ba_nil : ba [] = { data := #[] } := rfl
theorem Types.app {rs : List Rule} {s t k m : By} (h1 : Types rs s k) (h2 : Types rs t m) : Types rs (s ++ t) (k ++ m) := ⟨h1.1.append h2.1, h1.2.comp h2.2⟩

set_option maxHeartbeats 16000000 in
theorem walk (a0 : Option Addr) (len0 cap0 : Nat) (z0 : List Rule) (a1 : ByteArray) (a2 : ByteArray) (w : World) (w0 : RowR w (.slice a0 len0 cap0) z0) (w1 : a1.size ≤ maxLen) (w2 : a2.size ≤ maxLen) (u1 : a1.size ≤ 1048576) (u2 : a2.size ≤ 1048576) (hm : MaxL w) (hG : 0 < w.heap.size) :
    Calls Try.prog 11 #[.slice a0 len0 cap0, .string a1, .string a2] w fun e w' => e = .returned (.bool true) ∧ Below w.heap.size w w' := by
  have HL := Lib.hid (light_any (.slice a0 len0 cap0) z0 { data := #[] } w w0 (by show 0 ≤ _; omega))
  have HWK := Lib.hid works_any
  have HML := Lib.hid hm
  have HR := Lib.hid w0
  by_cases hlt : Lt z0 { data := #[] }
  rotate_left
  · have HLT := Lib.hid hlt
    clear w0 w1 w2 u1 u2 hm hlt
    go_enter Try.func11, Try.ntmps11
    go_wp2_with (go_at_call 14; (with_reducible refine HL.out.mono ?_); rintro e w1 ⟨x, rfl, hw1, hx⟩; obtain rfl := hw1.symm; obtain rfl : x = false := Bool.eq_false_iff.2 (fun h => HLT.out (hx.1 h)); clear hx)
    go_ret
    exact ⟨rfl, Below.refl _ _⟩
  have hsh := hlt.short
  have HLT := Lib.hid hlt
  have HC1 := Lib.hid (fun W => rcount_any a1 W (by omega))
  have HC2 := Lib.hid (fun W => rcount_any a2 W (by omega))
  obtain ⟨C1, hC1⟩ : ∃ C1 : Int, count (bs a1) = C1 := ⟨_, rfl⟩
  obtain ⟨C2, hC2⟩ : ∃ C2 : Int, count (bs a2) = C2 := ⟨_, rfl⟩
  rw [hC1] at HC1
  rw [hC2] at HC2
  by_cases h1 : 20 < C1
  · clear w0 w1 w2 u1 u2 hm hlt hsh hC1 hC2
    go_enter Try.func11, Try.ntmps11
    go_wp2_with (first
      | (go_at_call 14; (with_reducible refine HL.out.mono ?_); rintro e w1 ⟨x, rfl, hw1, hx⟩; obtain rfl := hw1.symm; obtain rfl : x = true := hx.2 HLT.out; clear hx)
      | (go_at_call 25; (with_reducible refine (HC1.out _).mono ?_); rintro e w2 ⟨rfl, hb2⟩))
    go_ret
    exact ⟨rfl, hb2⟩
  by_cases h2 : 20 < C2
  · clear w0 w1 w2 u1 u2 hm hlt hsh hC1 hC2
    go_enter Try.func11, Try.ntmps11
    go_wp2_with (first
      | (go_at_call 14; (with_reducible refine HL.out.mono ?_); rintro e w1 ⟨x, rfl, hw1, hx⟩; obtain rfl := hw1.symm; obtain rfl : x = true := hx.2 HLT.out; clear hx)
      | (go_at_call 25; (with_reducible refine (HC1.out _).mono ?_); rintro e w2 ⟨rfl, hb2⟩; clear HC1)
      | (go_at_call 25; (with_reducible refine (HC2.out _).mono ?_); rintro e w3 ⟨rfl, hb3⟩))
    go_ret
    exact ⟨rfl, hb2.trans (hb3.mono hb2.size)⟩
  by_cases hc : checkL z0 = 0
  rotate_left
  · have HN : Hid (∀ W, Below w.heap.size w W → Calls Try.prog 15 #[.slice a0 len0 cap0] W fun e w' => e = .returned (.tuple #[.pointer none, .int .i64 (checkL z0)]) ∧ Below W.heap.size W w') := Lib.hid fun W hW => new_no (HR.out.later hW (Nat.le_refl _)) hsh hc
    have hne : (checkL z0 != 0) = true := by simpa using hc
    generalize checkL z0 = E at HN hne
    clear w0 w1 w2 u1 u2 hm hlt hc hsh hC1 hC2
    go_enter Try.func11, Try.ntmps11
    go_wp2_with (first
      | (go_at_call 14; (with_reducible refine HL.out.mono ?_); rintro e w1 ⟨x, rfl, hw1, hx⟩; obtain rfl := hw1.symm; obtain rfl : x = true := hx.2 HLT.out; clear hx)
      | (go_at_call 25; (with_reducible refine (HC1.out _).mono ?_); rintro e w2 ⟨rfl, hb2⟩; clear HC1)
      | (go_at_call 25; (with_reducible refine (HC2.out _).mono ?_); rintro e w3 ⟨rfl, hb3⟩; have hbw3 := hb2.trans (hb3.mono hb2.size))
      | (go_at_call 15; (with_reducible refine (HN.out _ hbw3).mono ?_); rintro e w4 ⟨rfl, hb4⟩; have hbw4 := hbw3.trans (hb4.mono hbw3.size))
      | (go_at_call 18; (with_reducible refine (HWK.out _ (HML.out.later hbw4 hG) (Nat.lt_of_lt_of_le hG hbw4.size)).mono ?_); rintro e w5 ⟨rfl, hb5⟩))
    go_ret
    exact ⟨rfl, hbw4.trans (hb5.mono hbw4.size)⟩
  obtain ⟨h500, hok⟩ := ok_of_check hc
  have HN : Hid (∀ W, Below w.heap.size w W → Calls Try.prog 15 #[.slice a0 len0 cap0] W fun e w' => ∃ a, e = .returned (.tuple #[.pointer (some ⟨a, 0, none⟩), .int .i64 0]) ∧ AutoAt w'.heap.size w' a z0 ∧ Below W.heap.size W w') := Lib.hid fun W hW => new_yes (HR.out.later hW (Nat.le_refl _)) hsh hc
  have HTY : ∀ (s : ByteArray) (B a : Nat) (W : World), s.size ≤ 4000000 → AutoAt B W a z0 → B ≤ W.heap.size → MaxL W → 0 < W.heap.size → Calls Try.prog 26 #[.pointer (some ⟨a, 0, none⟩), .string s] W fun e w' => ∃ k ok, e = .returned (.tuple #[.string (ba k), .bool ok]) ∧ TypeIs z0 (bs s) k ok ∧ k.length ≤ 1000000 ∧ Below W.heap.size W w' := fun s B a W hs h3 h4 h5 h6 => type_any hok h500 B a s W h3 h4 h5 h6 (by unfold maxLen; omega)
  have HT1 := Lib.hid (fun B a W => HTY a1 B a W (by omega))
  have HT2 := Lib.hid (fun B a W => HTY a2 B a W (by omega))
  have HT3 : Hid (∀ (k m : By), Types z0 (bs a1) k → Types z0 (bs a2) m → (0 ≤ count (bs a1)) → (0 ≤ count (bs a2)) → ∀ (B a : Nat) (W : World), AutoAt B W a z0 → B ≤ W.heap.size → MaxL W → 0 < W.heap.size → Calls Try.prog 26 #[.pointer (some ⟨a, 0, none⟩), .string (a1 ++ a2)] W fun e w' => ∃ n, e = .returned (.tuple #[.string (ba n), .bool true]) ∧ Hid (Types z0 (bs (a1 ++ a2)) n) ∧ ((ba n).size : Int) ≤ ((ba k).size : Int) + ((ba m).size : Int) ∧ n.length ≤ 1000000 ∧ Below W.heap.size W w') := Lib.hid fun k m hk hmm q1 q2 B a W h3 h4 h5 h6 => by
    refine (HTY (a1 ++ a2) B a W (by rw [ByteArray.size_append]; omega) h3 h4 h5 h6).mono ?_
    rintro e w' ⟨n, ok, rfl, hT, hnl, hb⟩
    have ht := Types.app hk hmm
    rw [← bs_app2] at ht
    have hcn : count (bs (a1 ++ a2)) = C1 + C2 := by rw [bs_app2, count_app q1 q2, hC1, hC2]
    rcases hT with ⟨h, _, _⟩ | ⟨_, ⟨rfl, h7, h8⟩ | ⟨_, _, h8⟩⟩
    · rw [hcn] at h; omega
    · refine ⟨n, rfl, Lib.hid h7, ?_, hnl, hb⟩
      have := sle_len (h8 _ ht)
      rw [List.length_append] at this
      rw [ba_size, ba_size, ba_size]; omega
    · exact absurd ht (h8 _)
  have HRN : Hid (∀ (s : ByteArray) (k : By), Types z0 (bs s) k → k.length ≤ 1000000 → ∀ (B a : Nat) (W : World), AutoAt B W a z0 → B ≤ W.heap.size → Calls Try.prog 19 #[.pointer (some ⟨a, 0, none⟩), .string (ba k)] W fun e w' => e = .returned (.tuple #[.string s, .string ⟨#[]⟩]) ∧ Below W.heap.size W w') := Lib.hid fun s k hk hkl B a W h3 h4 => by
    have h := run_any hok B a (ba k) W h3 h4 (by rw [ba_size]; omega)
    rw [bs_ba, keysOf_id hk.1, hk.2.fd, ba_bs] at h
    exact h
  have hsum : ¬ 9223372036854775807 < a1.size + a2.size := by omega
  have HKS : Hid (∀ k : By, k.length ≤ 1000000 → ((ba k).size : Int) ≤ 1000000) := Lib.hid fun k h => by rw [ba_size]; omega
  have hem : (ba []).toList.isEmpty = true := by rw [Lib.toList_data]; rfl
  clear w0 w1 w2 u1 u2 hm hlt hsh hc HTY hC1 hC2
  go_enter Try.func11, Try.ntmps11
  go_wp2_with (first
    | (go_at_call 14; (with_reducible refine HL.out.mono ?_); rintro e w1 ⟨x, rfl, hw1, hx⟩; obtain rfl := hw1.symm; obtain rfl : x = true := hx.2 HLT.out; clear hx)
    | (go_at_call 25; (with_reducible refine (HC1.out _).mono ?_); rintro e w2 ⟨rfl, hb2⟩; clear HC1)
    | (go_at_call 25; (with_reducible refine (HC2.out _).mono ?_); rintro e w3 ⟨rfl, hb3⟩; have hbw3 := hb2.trans (hb3.mono hb2.size))
    | (go_at_call 15; (with_reducible refine (HN.out _ hbw3).mono ?_); rintro e w4 ⟨a, rfl, hA4, hb4⟩; have hbw4 := hbw3.trans (hb4.mono hbw3.size); have hB4 := Nat.le_refl w4.heap.size)
    | (go_at_call 26; (with_reducible refine (HT1.out _ _ _ hA4 hB4 (HML.out.later hbw4 hG) (Nat.lt_of_lt_of_le hG hbw4.size)).mono ?_); rintro e w5 ⟨k, ok, rfl, hT1, hkl, hb5⟩; have hA5 := hA4.later hb5 hB4; have hB5 := hb5.size; have hbw5 := hbw4.trans (hb5.mono hbw4.size); clear HT1; have hks := HKS.out k hkl; have HKL := Lib.hid hkl; clear hkl; rcases TypeIs.cases hT1 with ⟨rfl, hty1, hcc1⟩ | ⟨rfl, rfl⟩)
    | (go_at_call 26; (with_reducible refine (HT2.out _ _ _ hA5 hB5 (HML.out.later hbw5 hG) (Nat.lt_of_lt_of_le hG hbw5.size)).mono ?_); rintro e w6 ⟨m, is, rfl, hT2, hml, hb6⟩; have hA6 := hA5.later hb6 hB5; have hB6 := Nat.le_trans hB5 hb6.size; have hbw6 := hbw5.trans (hb6.mono hbw5.size); clear HT2; have hms := HKS.out m hml; clear hml; rcases TypeIs.cases hT2 with ⟨rfl, hty2, hcc2⟩ | ⟨rfl, rfl⟩)
    | (go_at_call 19; (with_reducible refine (HRN.out a1 k hty1 HKL.out _ _ _ hA6 hB6).mono ?_); rintro e w7 ⟨rfl, hb7⟩; have hA7 := hA6.later hb7 hB6; have hB7 := Nat.le_trans hB6 hb7.size; have hbw7 := hbw6.trans (hb7.mono hbw6.size))
    | (go_at_call 26; (with_reducible refine (HT3.out k m hty1 hty2 hcc1.1 hcc2.1 _ _ _ hA7 hB7 (HML.out.later hbw7 hG) (Nat.lt_of_lt_of_le hG hbw7.size)).mono ?_); rintro e w8 ⟨n, rfl, hty3, hnl, hnn, hb8⟩; have hA8 := hA7.later hb8 hB7; have hB8 := Nat.le_trans hB7 hb8.size; have hbw8 := hbw7.trans (hb8.mono hbw7.size); have HNN := Lib.hid hnn; clear hnn)
    | (go_at_call 19; (with_reducible refine (HRN.out (a1 ++ a2) n hty3.out HNN.out _ _ _ hA8 hB8).mono ?_); rintro e w9 ⟨rfl, hb9⟩; have hbw9 := hbw8.trans (hb9.mono hbw8.size))
    | (go_at_call 18; (with_reducible refine (HWK.out _ (HML.out.later hbw9 hG) (Nat.lt_of_lt_of_le hG hbw9.size)).mono ?_); rintro e w10 ⟨rfl, hb10⟩; have hfin := hbw9.trans (hb10.mono hbw9.size))
    | (go_at_call 18; (with_reducible refine (HWK.out _ (HML.out.later hbw7 hG) (Nat.lt_of_lt_of_le hG hbw7.size)).mono ?_); rintro e w10 ⟨rfl, hb10⟩; have hfin := hbw7.trans (hb10.mono hbw7.size))
    | (go_at_call 18; (with_reducible refine (HWK.out _ (HML.out.later hbw6 hG) (Nat.lt_of_lt_of_le hG hbw6.size)).mono ?_); rintro e w10 ⟨rfl, hb10⟩; have hfin := hbw6.trans (hb10.mono hbw6.size)))
  all_goals (try go_ret)
  all_goals exact ⟨rfl, hfin⟩
theorem own : ownKnob Try.prog.godebug = none := by kernel_rfl
theorem laidOut : laidOutB Try.prog = true := by kernel_rfl

/-- What the bound gives: a text's length. -/
theorem part_short {H : Type} {s : ByteArray} {l : List (DataW H)} (hk : Rows.uptoSmall H l = true) (hm : DataW.lit (.string s.data.toList) ∈ l) : s.size ≤ 1048576 := by
  obtain ⟨B, hB⟩ : ∃ B : Nat, B = 1048576 := ⟨_, rfl⟩
  have h : Rows.uptoBulkAll l ≤ B := by rw [hB]; exact of_decide_eq_true hk
  rw [← hB]
  clear hB hk
  have e : s.data.toList.length = s.size := by rw [Array.length_toList]; rfl
  induction l with
  | nil => cases hm
  | cons x r ih =>
    simp only [Rows.uptoBulkAll] at h
    rcases List.mem_cons.1 hm with rfl | hr
    · simp only [Rows.uptoBulk] at h; omega
    · exact ih hr (by omega)

set_option maxRecDepth 100000 in
theorem contract (H : Type) (enc : TypeId × Value → H) (W : World) (base : Nat) (args : Array Value) (ds gs : List (DataW H)) (before : List MemPlace)
    (hval0 : ∀ (j : Nat) t v, Try.f11.params[j]? = some t → args[j]? = some v → Value.okWide Try.prog W .any base t v)
    (hW : DataW.Whole enc Try.prog Try.f11.params.toList Rows.autoTypedSpec.vars false W args.toList ds gs before) (hk : Rows.uptoSmall H (ds ++ gs) = true) (hsh : W.ShapedOpen Try.prog) :
    Calls Try.prog 11 args W fun e W' => ∃ v, e = .returned v ∧ Rows.autoTypedSpec.post enc Try.prog Try.f11 false true false false W args v W' := by
  have hval : ∀ (j : Nat) t v, Try.f11.params[j]? = some t → args[j]? = some v → Value.okWide Try.prog W .any base t v := hval0
  have hW' := hW
  obtain ⟨p, q, hA0, hV, rfl, hfz, hnd⟩ := hW
  have hA : DataW.TrodAll enc Try.prog W 0 (fun _ => true) true Try.f11.params.toList args.toList ds p := hA0
  rw [Try.params11] at hA hval
  obtain ⟨v0, vs0, d0, ds0, p0, q0, hargs, rfl, rfl, h0, r0⟩ := trodAll_cons hA
  obtain ⟨v1, vs1, d1, ds1, p1, q1, rfl, rfl, rfl, h1, r1⟩ := trodAll_cons r0
  obtain ⟨v2, vs2, d2, ds2, p2, q2, rfl, rfl, rfl, h2, r2⟩ := trodAll_cons r1
  obtain ⟨rfl, rfl, rfl⟩ := trodAll_nil r2
  obtain rfl : args = #[v0, v1, v2] := by cases args; simp_all
  obtain ⟨rfl, rfl⟩ := trodVars_none hV
  obtain ⟨a0, len0, cap0, rfl⟩ := okWide_slice Try.underlying22 (hval 0 22 v0 rfl rfl)
  have k0 := h0
  have lt0 : ∀ x ∈ p0, x.block < W.heap.size := by obtain ⟨m, hm⟩ := k0; exact DataW.trod_lt m _ _ _ hm
  obtain ⟨z0, w0⟩ : ∃ rs, RowR W (.slice a0 len0 cap0) rs := by
    obtain ⟨fuel, hf⟩ := h0
    exact rules_open hf
  obtain ⟨a1, rfl, rfl, rfl, w1⟩ := open_string Try.underlying9 (hval 1 9 v1 rfl rfl) h1
  obtain ⟨a2, rfl, rfl, rfl, w2⟩ := open_string Try.underlying9 (hval 2 9 v2 rfl rfl) h2
  clear hA0 hval0
  simp only [List.append_nil] at hk
  have u1 := part_short hk (.tail _ (.head _))
  have u2 := part_short hk (.tail _ (.tail _ (.head _)))
  refine (walk a0 len0 cap0 z0 a1 a2 W w0 w1 w2 u1 u2 (maxL_of hsh).1 (maxL_of hsh).2).mono fun e W' ⟨he, bel⟩ => ?_
  subst he
  exact ⟨_, rfl, _, _, _, [], _, [], hW', trodAll_mk1 (shut_bool Try.underlying4 _), (trodAll_cons_mk (Below.trod laidOut (by kernel_rfl) (of_decide_eq_true (by kernel_rfl)) k0 bel lt0) (trodAll_cons_mk (shut_string Try.underlying9 w1) (trodAll_cons_mk (shut_string Try.underlying9 w2) trodAll_mk0))), rfl, bel.frame _, fun h => by cases h⟩

/-- THAT THERE IS AN INPUT THAT FITS, out of a world that is laid whole. -/
theorem witness_row_shaped {H : Type} {enc : TypeId × Value → H} {C : Checked} {os : Os} {f : FuncId} {fn : Func} {s : OpenSpec} {conds : List PathCond} {apart : Bool} {laid : List (String × DataW Unit)} (modest : Bool) (w0 : World) (args : Array Value) (hos : w0.os = os)
    (hsh : (w0.forCall (fun _ _ => 0) ⟨#[], args, []⟩).Shaped C.prog)
    (hok : Input.okWideB C.prog (w0.forCall (fun _ _ => 0) ⟨#[], args, []⟩) f ⟨#[], args, []⟩ = true)
    (hrow : s.preRow enc C.prog fn conds apart laid (w0.forCall (fun _ _ => 0) ⟨#[], args, []⟩).memory args) :
    ∃ (w : World) (tape : Tape) (i : Input), w.os = os ∧ (w.forCall tape i).Shaped C.prog ∧ i.vars = [] ∧ Input.okWide C.prog (w.forCall tape i) .any w.heap.size f i ∧
      s.preRow enc C.prog fn conds apart laid (w.forCall tape i).memory i.args ∧ ({ modest := modest } : Assume).holds C.prog (lone (Frame.enter C.prog f i.args .normal) [] (w.forCall tape i)) :=
  ⟨w0, fun _ _ => 0, ⟨#[], args, []⟩, hos, hsh, (Input.okWide_of_okWideB (base := 0) hok).1, (Input.okWide_of_okWideB hok).2, hrow, by
    simp only [Assume.holds]
    exact ⟨by simp, by simp, fun _ => Modest.zero, by simp, by simp⟩⟩

set_option maxRecDepth 100000 in
theorem lifted (os : Os) (started : os.Started) (H : Type) (enc : TypeId × Value → H) (F : Stop.Interp) :
    ReturnsInHanded {} Try.checked os 11 .any ((Rows.OpenSpec.upto Rows.autoTypedSpec).preRow enc Try.prog Try.f11 Rows.autoTypedUptoRow.domain false Rows.autoTypedUptoRow.laid) (((Rows.OpenSpec.upto Rows.autoTypedSpec).at F).post enc Try.prog Try.f11 false true false false) := by
  refine returnsInHanded_of_row (C := Try.checked) (s := Rows.OpenSpec.upto Rows.autoTypedSpec) own started (by kernel_rfl) Try.func11
    (witness_row_shaped (enc := enc) (C := Try.checked) (os := os) false (World.laidAll Try.prog os Rows.autoTypedUptoRow.laid) #[.slice none 0 0, .string ByteArray.empty, .string ByteArray.empty] (World.laidAll_os _ _ _)
      (World.shaped_of_ZipB (by kernel_rfl) (by kernel_rfl)) (by kernel_rfl)
      (OpenSpec.preRow_of_cond 8 (x := ([.nil, .lit (.string []), .lit (.string [])], [], [])) (by kernel_rfl) (by kernel_rfl) (fun k hk => by cases hk; kernel_rfl) (by kernel_rfl)
        (by rw [MakeChecks.laidMetH_plain _ _ _ (by kernel_rfl)]; exact laidMet_laidAll _ (by kernel_rfl) (by kernel_rfl)))) ?_
  intro W base args ds gs before hval hW _ hcond _ hL hsh _
  exact contract H enc W base args ds gs before hval hW (hcond _ rfl) hsh

theorem over : Rows.autoTypedUptoRow.holds Try.pinned (Rows.OpenSpec.upto Rows.autoTypedSpec) :=
  OpenClaim.holds_of_cond 11 Try.f11 rfl rfl rfl rfl rfl rfl rfl ⟨rfl, rfl, rfl, rfl, rfl⟩ rfl rfl rfl rfl rfl (by kernel_rfl) Try.func11 (by kernel_rfl)
    (of_decide_eq_true (by kernel_rfl)) (by unfold Func.isWrapper; first | (rw [if_pos (by decide +kernel)]; kernel_rfl) | (rw [if_neg (by decide +kernel)]; exact ⟨rfl, rfl⟩))
    (fun os started H enc _ F => by rw [OpenClaim.pre_eq_preRow]; exact lifted os started H enc F)

theorem proved : Rows.AutoTypedUptoSaid := over
end Go.Proofs.Ytmbccolkgephgaa.autoTyped
