/-
  Keys that are typed one after the other write what the automaton says.
-/
import Derived.Test.YtlmbbpppfghcbaaM16
import Derived.OpenShut
import Derived.ShutString
import Derived.ChangeOld
import Derived.HandedShaped
import Derived.LaidMore
import Derived.Lay
import Derived.SizedLaws
import Derived.Deep.DeepHandedRow
import Derived.Test.YtlmbbpppfghcbaaM15
set_option linter.unusedVariables false
set_option linter.unusedSimpArgs false
namespace Go.Proofs.Ytlmbbpppfghcbaa.composeTypes
open Go Go.RowKit Go.ChangeShapes Go.WideShapes Go.ChangeAt Go.Proofs.Ytlmbbpppfghcbaa Go.Proofs.Ytlmbbpppfghcbaa.Kit Go.Proofs.Ytlmbbpppfghcbaa.Utf Go.Proofs.Ytlmbbpppfghcbaa.Rom Go.Proofs.Ytlmbbpppfghcbaa.Aut Go.Proofs.Ytlmbbpppfghcbaa.Cmp
open Go.ChangeMaps (open_string shut_string)
theorem keys_next {s : ByteArray} {n : Nat} (hn : n < s.size) (h : AllK ((bs s).take n)) (h1 : 33 ≤ ((bt8 s n).toNat : Int)) (h2 : ((bt8 s n).toNat : Int) ≤ 126) : AllK ((bs s).take (n + 1)) := by
  have e : (bs s).take (n + 1) = (bs s).take n ++ [bt8 s n] := by
    unfold bt8
    rw [List.take_add_one, List.getD_eq_getElem?_getD, List.getElem?_eq_getElem (by rw [bs_len]; exact hn)]; rfl
  rw [e]
  refine h.append (AllK.one ?_)
  unfold isKb
  rw [decide_eq_true_eq]
  omega

set_option maxHeartbeats 8000000 in
theorem walk (a0 : Option Addr) (len0 cap0 : Nat) (z0 : List Rule) (a1 : ByteArray) (w : World) (w0 : RowR w (.slice a0 len0 cap0) z0) (w1 : a1.size ≤ maxLen) (u0 : ∀ r ∈ z0, Short r) (u1 : a1.size ≤ 1048576) :
    Calls Try.prog 4 #[.slice a0 len0 cap0, .string a1] w fun e w' => e = .returned (.bool true) ∧ Below w.heap.size w w' := by
  have HWK := Lib.hid works_any
  have hT : Hid (∀ W, Below w.heap.size w W → Calls Try.prog 17 #[] W fun e w' => e = .returned (.bool true) ∧ Below w.heap.size w w') := Lib.hid fun W h => (HWK.out W).mono fun e w' ⟨h1, h2⟩ => ⟨h1, h.trans (h2.mono h.size)⟩
  by_cases hc : checkL z0 = 0
  rotate_left
  · have HN := Lib.hid (cnew_no w0 u0 hc)
    have hne : (checkL z0 != 0) = true := by simpa using hc
    generalize checkL z0 = E at HN hne
    clear w0 w1 u0 u1 hc
    go_enter Try.func4, Try.ntmps4
    go_wp2_with (first
      | (go_at_call 18; (with_reducible refine HN.out.mono ?_); rintro e w2 ⟨rfl, hB⟩)
      | (go_at_call 17; (with_reducible refine (hT.out _ hB).mono ?_); rintro e w3 ⟨rfl, hB3⟩))
    go_ret
    exact ⟨rfl, hB3⟩
  obtain ⟨h500, hok⟩ := ok_of_check hc
  have HN := Lib.hid (cnew_yes w0 u0 hc)
  by_cases hl : 100 < a1.size
  · have hli : (100 : Int) < a1.size := by omega
    clear w0 w1 u0 u1 hc
    go_enter Try.func4, Try.ntmps4
    go_wp2_with (first
      | (go_at_call 18; (with_reducible refine HN.out.mono ?_); rintro e w2 ⟨q, rfl, hA, hB⟩)
      | (go_at_call 17; (with_reducible refine (hT.out _ hB).mono ?_); rintro e w3 ⟨rfl, hB3⟩))
    go_ret
    exact ⟨rfl, hB3⟩
  have hli : ¬ (100 : Int) < a1.size := by omega
  have HTY := Lib.hid (fun (Q q0 : Nat) (W : World) (h1 : AutoAt Q W q0 z0) (h2 : Q ≤ W.heap.size) => typed_any hok Q q0 a1 W h1 h2 u1)
  have HRN := Lib.hid (fun (Q q0 : Nat) (W : World) (h1 : AutoAt Q W q0 z0) (h2 : Q ≤ W.heap.size) => run_any hok Q q0 a1 W h1 h2 (by omega))
  clear w0 w1 u0 hc
  go_enter Try.func4, Try.ntmps4
  go_wp2_with (first
    | (go_at_call 18; (with_reducible refine HN.out.mono ?_); rintro e w2 ⟨q, rfl, hA, hB⟩; have HA := Lib.hid hA; clear hA))
  go_loopw [7] (fun i wr => ∃ (n : Nat), i = .int .i64 n ∧ n ≤ a1.size ∧ Hid (AllK ((bs a1).take n)) ∧ wr = w2) (fun i _ => a1.size - (intOf i).toNat)
  case atStart => exact ⟨0, rfl, Nat.zero_le _, Lib.hid AllK.nil, rfl⟩
  case round =>
    obtain ⟨n, rfl, hn, hk, rfl⟩ := hrel
    by_cases hnl : n < a1.size
    · have hrun := run_byte a1 n hnl
      rw [bz_bt8] at hrun
      have HNX := Lib.hid (keys_next hnl hk.out)
      generalize ((bt8 a1 n).toNat : Int) = key at hrun HNX
      by_cases h1 : key < 33
      · go_wp2_with (first
          | (go_at_call 17; (with_reducible refine (hT.out _ hB).mono ?_); rintro e w3 ⟨rfl, hB3⟩))
        go_ret
        exact ⟨rfl, hB3⟩
      · by_cases h2 : 126 < key
        · go_wp2_with (first
            | (go_at_call 17; (with_reducible refine (hT.out _ hB).mono ?_); rintro e w3 ⟨rfl, hB3⟩))
          go_ret
          exact ⟨rfl, hB3⟩
        · go_wp2
          go_roundw
          case rel => exact ⟨n + 1, by go_num, by omega, Lib.hid (HNX.out (by omega) (by omega)), trivial⟩
          case measure => simp [intOf]; omega
    · have hall : AllK (bs a1) := by have := hk.out; rwa [List.take_of_length_le (by rw [bs_len]; omega)] at this
      rw [keysOf_id hall] at HRN
      have hty := fun h => Typd.all (rs := z0) hok (ks := bs a1) (ks0 := []) (b' := (typL z0 noB (bs a1)).1) Typd.nil h
      have HTX := Lib.hid (fun (b : Bf) (hs : Sh b) (s : Value) (W : World) (h : ItR W s b.is) => text_buf b (.agg #[s, .int .i64 b.c, .string b.p]) W ⟨_, rfl, h⟩ hs)
      generalize typL z0 noB (bs a1) = T at HTY hty
      obtain ⟨b, ok⟩ := T
      cases ok
      · clear hty HTX HRN
        obtain ⟨is, c, p⟩ := b
        simp only at *
        go_wp2_with (first
          | (go_at_call 19; (with_reducible refine (HTY.out _ _ _ HA.out (Nat.le_refl _)).mono ?_); rintro e w4 ⟨a4, m4, k4, rfl, hI4, hb, hs4⟩; have hB4 := hB.trans (hb.mono hB.size); clear hI4 hs4)
          | (go_at_call 17; (with_reducible refine (hT.out _ (hB4.alloc hB4.size _)).mono ?_); rintro e w5 ⟨rfl, hB5⟩))
        go_ret
        exact ⟨rfl, hB5⟩
      · have hy := hty rfl
        rw [List.nil_append] at hy
        have htx := hy.text
        have hyc := hy.c
        have hyp : b.p = ba (fd z0 [] (bs a1)).2 := by rw [← hy.p, ba_bs]
        have HTX2 : Hid (∀ (s : Value) (W : World), Sh b → ItR W s b.is → Calls Try.prog 11 #[.agg #[s, .int .i64 b.c, .string b.p]] W fun e w' => e = .returned (.tuple #[.string (ba (fd z0 [] (bs a1)).1), .string (ba (fd z0 [] (bs a1)).2), .string ⟨#[]⟩]) ∧ Below W.heap.size W w') := Lib.hid fun s W hs h => by
          have := HTX.out b hs s W h
          rwa [htx] at this
        generalize ba (fd z0 [] (bs a1)).1 = O at HTX2 HRN
        generalize ba (fd z0 [] (bs a1)).2 = R at HTX2 HRN hyp
        clear hty HTX hy htx
        obtain ⟨is, c, p⟩ := b
        simp only at *
        subst hyp
        subst hyc
        go_wp2_with (first
          | (go_at_call 19; (with_reducible refine (HTY.out _ _ _ HA.out (Nat.le_refl _)).mono ?_); rintro e w4 ⟨a4, m4, k4, rfl, hI4, hb, hs4⟩; have hB4 := hB.trans (hb.mono hB.size); obtain rfl : m4 = is.length := hI4.len.1; have HI4 := Lib.hid hI4; have HS4 := Lib.hid hs4; have hl4 := hb.size; have HA4 := Lib.hid (HA.out.later hb (Nat.le_refl _)); clear hI4 hs4 hb)
          | (go_at_call 20
             refine calls_alloc fun W5 hW => ?_
             obtain ⟨x5, hs5, hn5⟩ := box_new hW
             have hb := hn5 _ (Nat.le_refl _)
             have HI5 := HI4.out.later hb (Nat.le_refl _)
             have hB5 := hB4.trans (hb.mono hB4.size)
             (with_reducible refine (HRN.out _ _ _ (HA4.out.later hb hl4) (by omega)).mono ?_)
             clear hW hn5 hb
             rintro e w6 ⟨rfl, hb⟩
             replace x5 := box_later x5 hb (by omega)
             replace HI5 := HI5.later hb (Nat.le_refl _)
             replace hB5 := hB5.trans (hb.mono hB5.size)
             have hl6 := hb.size
             obtain ⟨b0, b1, b2, _⟩ := box_facts x5
             clear hb)
          | (go_at_call 11
             (with_reducible refine (HTX2.out _ _ HS4.out HI5).mono ?_)
             rintro e w7 ⟨rfl, hb⟩
             replace x5 := box_later x5 hb (by omega)
             replace hB5 := hB5.trans (hb.mono hB5.size)
             clear b0 b1 b2 hb HI5
             obtain ⟨b0, b1, b2, _⟩ := box_facts x5)
          | (go_at_call 17; (with_reducible refine (hT.out _ hB5).mono ?_); rintro e w8 ⟨rfl, hB8⟩))
        go_ret
        exact ⟨rfl, hB8⟩
theorem own : ownKnob Try.prog.godebug = none := by kernel_rfl
theorem laidOut : laidOutB Try.prog = true := by kernel_rfl

/-- What the bound gives: a text's length. -/
theorem part_short {H : Type} {s : ByteArray} {l : List (DataW H)} (hk : Rows.uptoSmall H l = true) (hm : DataW.lit (.string s.data.toList) ∈ l) : s.size ≤ 1048576 := by
  obtain ⟨B, hB⟩ : ∃ B : Nat, B = 1048576 := ⟨_, rfl⟩
  have h : Rows.uptoBulkAll l ≤ B := by rw [hB]; exact of_decide_eq_true hk
  rw [← hB]
  clear hB hk
  have e : s.data.toList.length = s.size := by rw [Array.length_toList]; rfl
  induction l with
  | nil => cases hm
  | cons x r ih =>
    simp only [Rows.uptoBulkAll] at h
    rcases List.mem_cons.1 hm with rfl | hr
    · simp only [Rows.uptoBulk] at h; omega
    · exact ih hr (by omega)

theorem part_bulk {H : Type} {d : DataW H} {l : List (DataW H)} (hk : Rows.uptoSmall H l = true) (hm : d ∈ l) : Rows.uptoBulk d ≤ 1048576 := by
  obtain ⟨B, hB⟩ : ∃ B : Nat, B = 1048576 := ⟨_, rfl⟩
  have h : Rows.uptoBulkAll l ≤ B := by rw [hB]; exact of_decide_eq_true hk
  rw [← hB]
  exact Nat.le_trans (bulk_mem hm) h

set_option maxRecDepth 100000 in
theorem contract (H : Type) (enc : TypeId × Value → H) (W : World) (base : Nat) (args : Array Value) (ds gs : List (DataW H)) (before : List MemPlace)
    (hval0 : ∀ (j : Nat) t v, Try.f4.params[j]? = some t → args[j]? = some v → Value.okWide Try.prog W .any base t v)
    (hW : DataW.Whole enc Try.prog Try.f4.params.toList Rows.composeTypesSpec.vars false W args.toList ds gs before) (hk : Rows.uptoSmall H (ds ++ gs) = true) (hsh : W.ShapedOpen Try.prog) :
    Calls Try.prog 4 args W fun e W' => ∃ v, e = .returned v ∧ Rows.composeTypesSpec.post enc Try.prog Try.f4 false true false false W args v W' := by
  have hval : ∀ (j : Nat) t v, Try.f4.params[j]? = some t → args[j]? = some v → Value.okWide Try.prog W .any base t v := hval0
  have hW' := hW
  obtain ⟨p, q, hA0, hV, rfl, hfz, hnd⟩ := hW
  have hA : DataW.TrodAll enc Try.prog W 0 (fun _ => true) true Try.f4.params.toList args.toList ds p := hA0
  rw [Try.params4] at hA hval
  obtain ⟨v0, vs0, d0, ds0, p0, q0, hargs, rfl, rfl, h0, r0⟩ := trodAll_cons hA
  obtain ⟨v1, vs1, d1, ds1, p1, q1, rfl, rfl, rfl, h1, r1⟩ := trodAll_cons r0
  obtain ⟨rfl, rfl, rfl⟩ := trodAll_nil r1
  obtain rfl : args = #[v0, v1] := by cases args; simp_all
  obtain ⟨rfl, rfl⟩ := trodVars_none hV
  obtain ⟨a0, len0, cap0, rfl⟩ := okWide_slice Try.underlying40 (hval 0 40 v0 rfl rfl)
  have k0 := h0
  have lt0 : ∀ x ∈ p0, x.block < W.heap.size := by obtain ⟨m, hm⟩ := k0; exact DataW.trod_lt m _ _ _ hm
  obtain ⟨z0, w0, bk0⟩ : ∃ rs, RowR W (.slice a0 len0 cap0) rs ∧ (Rows.uptoBulk d0 ≤ 1048576 → ∀ r ∈ rs, Short r) := by
    obtain ⟨fuel, hf⟩ := h0
    exact rules_bulk hf
  obtain ⟨a1, rfl, rfl, rfl, w1⟩ := open_string Try.underlying9 (hval 1 9 v1 rfl rfl) h1
  clear hA0 hval0
  simp only [List.append_nil] at hk
  have u0 := bk0 (part_bulk hk (.head _))
  have u1 := part_short hk (.tail _ (.head _))
  refine (walk a0 len0 cap0 z0 a1 W w0 w1 u0 u1).mono fun e W' ⟨he, bel⟩ => ?_
  subst he
  exact ⟨_, rfl, _, _, _, [], _, [], hW', trodAll_mk1 (shut_bool Try.underlying4 _), (trodAll_cons_mk (Below.trod laidOut (by kernel_rfl) (of_decide_eq_true (by kernel_rfl)) k0 bel lt0) (trodAll_cons_mk (shut_string Try.underlying9 w1) trodAll_mk0)), rfl, bel.frame _, fun h => by cases h⟩

/-- THAT THERE IS AN INPUT THAT FITS, out of a world that is laid whole. -/
theorem witness_row_shaped {H : Type} {enc : TypeId × Value → H} {C : Checked} {os : Os} {f : FuncId} {fn : Func} {s : OpenSpec} {conds : List PathCond} {apart : Bool} {laid : List (String × DataW Unit)} (modest : Bool) (w0 : World) (args : Array Value) (hos : w0.os = os)
    (hsh : (w0.forCall (fun _ _ => 0) ⟨#[], args, []⟩).Shaped C.prog)
    (hok : Input.okWideB C.prog (w0.forCall (fun _ _ => 0) ⟨#[], args, []⟩) f ⟨#[], args, []⟩ = true)
    (hrow : s.preRow enc C.prog fn conds apart laid (w0.forCall (fun _ _ => 0) ⟨#[], args, []⟩).memory args) :
    ∃ (w : World) (tape : Tape) (i : Input), w.os = os ∧ (w.forCall tape i).Shaped C.prog ∧ i.vars = [] ∧ Input.okWide C.prog (w.forCall tape i) .any w.heap.size f i ∧
      s.preRow enc C.prog fn conds apart laid (w.forCall tape i).memory i.args ∧ ({ modest := modest } : Assume).holds C.prog (lone (Frame.enter C.prog f i.args .normal) [] (w.forCall tape i)) :=
  ⟨w0, fun _ _ => 0, ⟨#[], args, []⟩, hos, hsh, (Input.okWide_of_okWideB (base := 0) hok).1, (Input.okWide_of_okWideB hok).2, hrow, by
    simp only [Assume.holds]
    exact ⟨by simp, by simp, fun _ => Modest.zero, by simp, by simp⟩⟩

set_option maxRecDepth 100000 in
theorem lifted (os : Os) (started : os.Started) (H : Type) (enc : TypeId × Value → H) (F : Stop.Interp) :
    ReturnsInHanded {} Try.checked os 4 .any ((Rows.OpenSpec.upto Rows.composeTypesSpec).preRow enc Try.prog Try.f4 Rows.composeTypesUptoRow.domain false Rows.composeTypesUptoRow.laid) (((Rows.OpenSpec.upto Rows.composeTypesSpec).at F).post enc Try.prog Try.f4 false true false false) := by
  refine returnsInHanded_of_row (C := Try.checked) (s := Rows.OpenSpec.upto Rows.composeTypesSpec) own started (by kernel_rfl) Try.func4
    (witness_row_shaped (enc := enc) (C := Try.checked) (os := os) false (World.laidAll Try.prog os Rows.composeTypesUptoRow.laid) #[.slice none 0 0, .string ByteArray.empty] (World.laidAll_os _ _ _)
      (World.shaped_of_ZipB (by kernel_rfl) (by kernel_rfl)) (by kernel_rfl)
      (OpenSpec.preRow_of_cond 8 (x := ([.nil, .lit (.string [])], [], [])) (by kernel_rfl) (by kernel_rfl) (fun k hk => by cases hk; kernel_rfl) (by kernel_rfl)
        (by rw [MakeChecks.laidMetH_plain _ _ _ (by kernel_rfl)]; exact laidMet_laidAll _ (by kernel_rfl) (by kernel_rfl)))) ?_
  intro W base args ds gs before hval hW _ hcond _ hL hsh _
  exact contract H enc W base args ds gs before hval hW (hcond _ rfl) hsh

theorem over : Rows.composeTypesUptoRow.holds Try.pinned (Rows.OpenSpec.upto Rows.composeTypesSpec) :=
  OpenClaim.holds_of_cond 4 Try.f4 rfl rfl rfl rfl rfl rfl rfl ⟨rfl, rfl, rfl, rfl, rfl⟩ rfl rfl rfl rfl rfl (by kernel_rfl) Try.func4 (by kernel_rfl)
    (of_decide_eq_true (by kernel_rfl)) (by unfold Func.isWrapper; first | (rw [if_pos (by decide +kernel)]; kernel_rfl) | (rw [if_neg (by decide +kernel)]; exact ⟨rfl, rfl⟩))
    (fun os started H enc _ F => by rw [OpenClaim.pre_eq_preRow]; exact lifted os started H enc F)

theorem proved : Rows.ComposeTypesUptoSaid := over
end Go.Proofs.Ytlmbbpppfghcbaa.composeTypes
