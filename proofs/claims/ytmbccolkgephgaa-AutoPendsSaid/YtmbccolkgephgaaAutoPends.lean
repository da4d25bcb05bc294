/-
  What is pending is the beginning of the keys of a rule that has more: AutoPends, for every input.
-/
import Derived.Test.YtmbccolkgephgaaAutQ
import Derived.OpenShut
import Derived.ShutString
import Derived.ChangeOld
import Derived.HandedShaped
import Derived.Test.YtmbccolkgephgaaAutFr
set_option linter.unusedVariables false
set_option linter.unusedSimpArgs false
namespace Go.Proofs.Ytmbccolkgephgaa.autoPends
open Go Go.RowKit Go.ChangeShapes Go.WideShapes Go.ChangeAt Go.Proofs.Ytmbccolkgephgaa Go.Proofs.Ytmbccolkgephgaa.Kit Go.Proofs.Ytmbccolkgephgaa.Utf Go.Proofs.Ytmbccolkgephgaa.Rom Go.Proofs.Ytmbccolkgephgaa.Aut
open Go.ChangeMaps (open_string shut_string)
set_option maxRecDepth 100000

set_option maxHeartbeats 8000000 in
theorem walk (a0 : Option Addr) (len0 cap0 : Nat) (z0 : List Rule) (a1 : ByteArray) (w : World) (w0 : RowR w (.slice a0 len0 cap0) z0) (w1 : a1.size ≤ maxLen) (s1 : a1.size ≤ 140737488351232) (hm : MaxL w) (hG : 0 < w.heap.size) :
    Calls Try.prog 8 #[.slice a0 len0 cap0, .string a1] w fun e w' => e = .returned (.bool true) ∧ Below w.heap.size w w' := by
  have HL := Lib.hid (light_any (.slice a0 len0 cap0) z0 a1 w w0 s1)
  have HWK := Lib.hid works_any
  have HML := Lib.hid hm
  by_cases hlt : Lt z0 a1
  rotate_left
  · have HLT := Lib.hid hlt
    clear w0 w1 s1 hm hlt
    go_enter Try.func8, Try.ntmps8
    go_wp2_with (go_at_call 14; (with_reducible refine HL.out.mono ?_); rintro e w1 ⟨x, rfl, hw1, hx⟩; obtain rfl := hw1.symm; obtain rfl : x = false := Bool.eq_false_iff.2 (fun h => HLT.out (hx.1 h)); clear hx)
    go_ret
    exact ⟨rfl, Below.refl _ _⟩
  have hsh := hlt.short
  have h200 := hlt.2.1
  by_cases hc : checkL z0 = 0
  rotate_left
  · have HN := Lib.hid (new_no w0 hsh hc)
    have hne : (checkL z0 != 0) = true := by simpa using hc
    have HLT := Lib.hid hlt
    generalize checkL z0 = E at HN hne
    clear w0 w1 s1 hm hlt hc hsh
    go_enter Try.func8, Try.ntmps8
    go_wp2_with (first
      | (go_at_call 14; (with_reducible refine HL.out.mono ?_); rintro e w1 ⟨x, rfl, hw1, hx⟩; obtain rfl := hw1.symm; obtain rfl : x = true := hx.2 HLT.out; clear hx)
      | (go_at_call 15; (with_reducible refine HN.out.mono ?_); rintro e w2 ⟨rfl, hb2⟩)
      | (go_at_call 18; (with_reducible refine (HWK.out _ (HML.out.later hb2 hG) (Nat.lt_of_lt_of_le hG hb2.size)).mono ?_); rintro e w3 ⟨rfl, hb3⟩))
    go_ret
    exact ⟨rfl, hb2.trans (hb3.mono hb2.size)⟩
  obtain ⟨_, hok⟩ := ok_of_check hc
  have HN := Lib.hid (new_yes w0 hsh hc)
  have HLT := Lib.hid hlt
  have HR := Lib.hid w0
  have hrl : len0 = z0.length := w0.len.1
  subst hrl
  have hlz := hlt.1
  obtain ⟨o1, q1, hf1⟩ := feeds_ex hok [] (keysOf (bs a1))
  have hpd := hf1.pend (.inl rfl)
  have hl1 := hf1.len hok
  have hk1 := keysOf_le (bs a1)
  rw [bs_len] at hk1
  rw [List.length_nil] at hl1
  have hRun : Hid (∀ (B a : Nat) (W : World), AutoAt B W a z0 → B ≤ W.heap.size → Calls Try.prog 19 #[.pointer (some ⟨a, 0, none⟩), .string a1] W fun e w' => e = .returned (.tuple #[.string (ba o1), .string (ba q1)]) ∧ Below W.heap.size W w') := Lib.hid fun B a W hA hB => by
    have h := run_any hok B a a1 W hA hB (by omega)
    rw [hf1.fd] at h
    exact h
  have hFl : Hid (∀ (B a : Nat) (W : World), AutoAt B W a z0 → B ≤ W.heap.size → q1 = [] → Calls Try.prog 23 #[.pointer (some ⟨a, 0, none⟩), .string (ba q1)] W fun e w' => e = .returned (.string ⟨#[]⟩) ∧ Below W.heap.size W w') := Lib.hid fun B a W hA hB hq => by
    subst hq
    refine (flush_any hok B a (ba []) W hA hB (by rw [ba_size]; simp)).mono ?_
    rintro e w' ⟨F, rfl, hF, hb⟩
    rw [bs_ba] at hF
    rw [hF.det .nil]
    exact ⟨rfl, hb⟩
  have HPD := Lib.hid hpd
  have hqs : (ba q1).size ≤ 1000 := by rw [ba_size]; omega
  have hem : (ba q1).toList.isEmpty = decide (q1 = []) := by
    rw [Lib.toList_data]
    cases q1 <;> rfl
  have HEM := Lib.hid hem
  clear w0 w1 s1 hm hlt hc hsh hf1 hl1 hk1 hpd hem
  obtain ⟨em, hemd⟩ : ∃ em : Bool, decide (q1 = []) = em := ⟨_, rfl⟩
  have HE2 := Lib.hid hemd
  have hem2 : (ba q1).toList.isEmpty = em := by rw [HEM.out]; exact hemd
  clear hemd
  obtain ⟨Q1, hQ1⟩ : ∃ Q1, ba q1 = Q1 := ⟨_, rfl⟩
  rw [hQ1] at hRun hFl hqs hem2
  have HQ1 := Lib.hid hQ1
  clear hQ1
  generalize ba o1 = O1 at *
  go_enter Try.func8, Try.ntmps8
  go_wp2_with (first
    | (go_at_call 14; (with_reducible refine HL.out.mono ?_); rintro e w1 ⟨x, rfl, hw1, hx⟩; obtain rfl := hw1.symm; obtain rfl : x = true := hx.2 HLT.out; clear hx)
    | (go_at_call 15; (with_reducible refine HN.out.mono ?_); rintro e w2 ⟨a, rfl, hA2, hbw2⟩; have hB2 := Nat.le_refl w2.heap.size)
    | (go_at_call 19; (with_reducible refine (hRun.out _ _ _ hA2 hB2).mono ?_); rintro e w3 ⟨rfl, hb3⟩; have hA3 := hA2.later hb3 hB2; have hB3 := hb3.size; have hbw3 := hbw2.trans (hb3.mono hbw2.size); clear hRun))
  go_loopw [9, 10] (fun f i wr => ∃ (k : Nat) (fb : Bool), i = .int .i64 k ∧ f = .bool fb ∧ k ≤ z0.length ∧ Hid (fb = (em || longL (z0.take k) Q1)) ∧ wr = w3) (fun _ i _ => z0.length - (intOf i).toNat)
  case atStart => exact ⟨0, em, rfl, rfl, Nat.zero_le _, Lib.hid (by simp [longL]), rfl⟩
  case round =>
    obtain ⟨k, fb, rfl, rfl, hk, hfb, rfl⟩ := hrel
    by_cases hkl : k < z0.length
    · obtain ⟨b, off, rfl, hb, hx⟩ := (HR.out.later hbw3 (Nat.le_refl _)).at (by omega)
      obtain ⟨x0, x1, x2⟩ := hx k hkl
      have k0 : (0 : Int) ≤ k := by omega
      have k1 : (k : Int) < z0.length := by omega
      have hsu := longL_succ (x := Q1) hkl
      have hrk := (HLT.out.2.2 _ (ri_mem hkl)).1
      generalize ri z0 k = r at x0 x1 x2 hsu hrk
      have HSU := Lib.hid hsu
      clear hx hsu
      cases fb
      · by_cases hl : Q1.size < r.k.size
        · have hlr : longR r Q1 = ((r.k.extract 0 Q1.size).toList == Q1.toList) := by unfold longR; rw [decide_eq_true hl, extract_pref _ _ (by omega)]; rfl
          have HLR := Lib.hid hlr
          clear hlr
          cases q : ((r.k.extract 0 Q1.size).toList == Q1.toList)
          · rw [q] at HLR
            go_wp2
            go_roundw
            case rel => exact ⟨k + 1, false, by go_num, rfl, by omega, Lib.hid (by rw [HSU.out, HLR.out, Bool.or_false]; exact hfb.out), trivial⟩
            case measure => simp [intOf]; omega
          · rw [q] at HLR
            go_wp2
            go_roundw
            case rel => exact ⟨k + 1, true, by go_num, rfl, by omega, Lib.hid (by rw [HSU.out, HLR.out]; simp), trivial⟩
            case measure => simp [intOf]; omega
        · have HLR := Lib.hid (show longR r Q1 = false by unfold longR; rw [decide_eq_false hl]; rfl)
          go_wp2
          go_roundw
          case rel => exact ⟨k + 1, false, by go_num, rfl, by omega, Lib.hid (by rw [HSU.out, HLR.out, Bool.or_false]; exact hfb.out), trivial⟩
          case measure => simp [intOf]; omega
      · go_wp2
        go_roundw
        case rel => exact ⟨k + 1, true, by go_num, rfl, by omega, Lib.hid (by
          have := hfb.out
          rw [HSU.out, ← Bool.or_assoc, ← this]; rfl), trivial⟩
        case measure => simp [intOf]; omega
    · have ht : fb = true := by
        have h1 := hfb.out
        rw [List.take_of_length_le (by omega)] at h1
        rw [h1]
        rcases HPD.out with h | h
        · rw [← HE2.out, h]; rfl
        · rw [← HQ1.out, h, Bool.or_true]
      subst ht
      have HA3 := Lib.hid hA3
      cases em
      · go_wp2_with (go_at_call 18; (with_reducible refine (HWK.out _ (HML.out.later hbw3 hG) (Nat.lt_of_lt_of_le hG hbw3.size)).mono ?_); rintro e w5 ⟨rfl, hb5⟩)
        go_ret
        exact ⟨rfl, hbw3.trans (hb5.mono hbw3.size)⟩
      · have hqn : q1 = [] := by have := HE2.out; simpa using this
        go_wp2_with (first
          | (go_at_call 23; (with_reducible refine (hFl.out _ _ _ HA3.out hB3 hqn).mono ?_); rintro e w4 ⟨rfl, hb4⟩; have hbw4 := hbw3.trans (hb4.mono hbw3.size))
          | (go_at_call 18; (with_reducible refine (HWK.out _ (HML.out.later hbw4 hG) (Nat.lt_of_lt_of_le hG hbw4.size)).mono ?_); rintro e w5 ⟨rfl, hb5⟩))
        go_ret
        exact ⟨rfl, hbw4.trans (hb5.mono hbw4.size)⟩
theorem own : ownKnob Try.prog.godebug = none := by kernel_rfl
theorem laidOut : laidOutB Try.prog = true := by kernel_rfl

set_option maxRecDepth 100000 in
theorem lifted (os : Os) (started : os.Started) (H : Type) (enc : TypeId × Value → H) :
    ReturnsInHanded {} Try.checked os 8 .any (Rows.autoPendsSpec.pre6 enc Try.prog Try.f8 Rows.autoPendsRow.domain false) (Rows.autoPendsSpec.post enc Try.prog Try.f8 false true false false) := by
  refine returnsInHanded_of_change_shaped (C := Try.checked) own started (by kernel_rfl) Try.func8
    (ChangeSpec.witness6 (enc := enc) (C := Try.checked) false ⟨#[], #[.slice none 0 0, .string ByteArray.empty], []⟩ 8 (by kernel_rfl) (by kernel_rfl) (by kernel_rfl) (by kernel_rfl)) ?_
  intro W base args ds gs before hval0 hW hcnd hsz0 hsh _
  have hval : ∀ (j : Nat) t v, Try.f8.params[j]? = some t → args[j]? = some v → Value.okWide Try.prog W .any base t v := hval0
  have hW' := hW
  obtain ⟨p, q, hA0, hV, rfl, hfz, hnd⟩ := hW
  have hA : DataW.TrodAll enc Try.prog W 0 (fun _ => true) true Try.f8.params.toList args.toList ds p := hA0
  rw [Try.params8] at hA hval
  obtain ⟨v0, vs0, d0, ds0, p0, q0, hargs, rfl, rfl, h0, r0⟩ := trodAll_cons hA
  obtain ⟨v1, vs1, d1, ds1, p1, q1, rfl, rfl, rfl, h1, r1⟩ := trodAll_cons r0
  obtain ⟨rfl, rfl, rfl⟩ := trodAll_nil r1
  obtain rfl : args = #[v0, v1] := by cases args; simp_all
  obtain ⟨rfl, rfl⟩ := trodVars_none hV
  obtain ⟨a0, len0, cap0, rfl⟩ := okWide_slice Try.underlying22 (hval 0 22 v0 rfl rfl)
  have k0 := h0
  have lt0 : ∀ x ∈ p0, x.block < W.heap.size := by obtain ⟨m, hm⟩ := k0; exact DataW.trod_lt m _ _ _ hm
  obtain ⟨z0, w0⟩ : ∃ rs, RowR W (.slice a0 len0 cap0) rs := by
    obtain ⟨fuel, hf⟩ := h0
    exact rules_open hf
  obtain ⟨a1, rfl, rfl, rfl, w1⟩ := open_string Try.underlying9 (hval 1 9 v1 rfl rfl) h1
  clear hA0 hval0
  have hsz : (DataW.weightsEach Try.prog (Try.f8.params.toList ++ Rows.autoPendsSpec.plain.varTypes Try.prog) (_ ++ _)).all (· ≤ reachBytes) = true := hsz0
  rw [Try.params8] at hsz
  have sz1 := sized_string hsz (j := 1) (t := 9) rfl rfl
  refine (walk a0 len0 cap0 z0 a1 W w0 w1 (by have := sz1; simp only [reachBytes, Array.length_toList] at this; exact this) (maxL_of hsh).1 (maxL_of hsh).2).mono fun e W' ⟨he, bel⟩ => ?_
  subst he
  exact ⟨_, rfl, _, _, _, [], _, [], hW', trodAll_mk1 (shut_bool Try.underlying4 _), (trodAll_cons_mk (Below.trod laidOut (by kernel_rfl) (of_decide_eq_true (by kernel_rfl)) k0 bel lt0) (trodAll_cons_mk (shut_string Try.underlying9 w1) trodAll_mk0)), rfl, bel.frame _, fun h => by cases h⟩

theorem over : Rows.autoPendsRow.holds Try.pinned (OpenSpec.ofChange Rows.autoPendsSpec) :=
  OpenClaim.holds_of_wide 8 Try.f8 rfl rfl rfl rfl rfl rfl rfl ⟨rfl, rfl, rfl, rfl, rfl⟩ rfl rfl rfl rfl rfl (by kernel_rfl) Try.func8 (by kernel_rfl)
    (of_decide_eq_true (by kernel_rfl)) (by unfold Func.isWrapper; first | (rw [if_pos (by decide +kernel)]; kernel_rfl) | (rw [if_neg (by decide +kernel)]; exact ⟨rfl, rfl⟩))
    (fun os started H enc _ => lifted os started H enc)

theorem proved : Rows.AutoPendsSaid := over
end Go.Proofs.Ytmbccolkgephgaa.autoPends
