/-
  RomanReturns: rules that are written are read again as they were; a text that is read and written keeps its rules. Conditions: none.
-/
import Derived.Test.YtpaeppklkicngaaDoorRomW
import Derived.Test.YtpaeppklkicngaaDoorRomZ
import Derived.Test.YtpaeppklkicngaaDoorRomFr
import Derived.OpenShut
import Derived.ShutString
import Derived.ChangeOld
import Derived.LaidMore
import Derived.Lay
import Derived.SevenTiedAt
import Derived.SizedLaws
import Derived.Test.YtpaeppklkicngaaDoorCards
import Derived.Test.YtpaeppklkicngaaDoorTie
set_option linter.unusedVariables false
set_option linter.unusedSimpArgs false
namespace Go.Proofs.YtpaeppklkicngaaDoor.romanReturns
open Go Go.RowKit Go.ChangeShapes Go.WideShapes Go.ChangeAt Go.Proofs.YtpaeppklkicngaaDoor Go.Proofs.YtpaeppklkicngaaDoor.Kit
open Go.ChangeMaps (open_string shut_string)
open Go.Proofs.YtpaeppklkicngaaDoor.Utf Go.Proofs.YtpaeppklkicngaaDoor.Rom
set_option maxRecDepth 100000

set_option maxHeartbeats 8000000 in
theorem walk (a0 : Option Addr) (len0 cap0 : Nat) (z0 : List Rule) (a1 : ByteArray) (w : World) (w0 : RowR w (.slice a0 len0 cap0) z0) (w1 : a1.size ≤ maxLen) (s1 : a1.size ≤ 140737488351232) :
    Calls Tryd.prog 7 #[.slice a0 len0 cap0, .string a1] w fun e w' => e = .returned (.bool true) ∧ Below w.heap.size w w' := by
  have HFEW := Lib.hid (few_ok (.slice a0 len0 cap0) z0 w w0)
  have HR := Lib.hid w0
  clear w0 w1
  have hb := Below.refl w.heap.size w
  by_cases hlen : a1.size ≤ 5000
  rotate_left
  · go_enter Tryd.func7, Tryd.ntmps7
    go_wp2_with (go_at_call 15; (refine HFEW.out.mono ?_); rintro e w1 ⟨x, rfl, hx, hw1⟩; obtain rfl := hw1.symm; clear hx; cases x)
    all_goals go_ret
    all_goals exact ⟨rfl, Below.refl _ _⟩
  have HG := Lib.hid (fun W h hR => given_ok (.slice a0 len0 cap0) z0 W h hR)
  have HS := fun v1 v2 W hA hB hn => same_any v1 v2 z0 z0 W hA hB hn
  rw [decide_eq_true rfl] at HS
  replace HS := Lib.hid HS
  have HW := Lib.hid works_any
  obtain ⟨b, bn, be, hpb⟩ : ∃ b bn be, parseL a1 = (b, bn, be) := ⟨_, _, _, rfl⟩
  have HB := Lib.hid (parse_is a1 b bn be hpb s1)
  have HSB := fun v1 v2 W hA hB hn => same_any v1 v2 b b W hA hB hn
  rw [decide_eq_true rfl] at HSB
  replace HSB := Lib.hid HSB
  have HTB := Lib.hid (fun v W hR hn => taken_is v b W hR hn)
  have hbr : be = 0 → checkL b = 0 := fun h => by have := parse_ok (s := a1); rw [hpb] at this; exact this h
  have hbe : be ≠ 0 → b = [] := fun h => by have := parse_err (s := a1); rw [hpb] at this; exact this h
  clear hpb
  have HP := fun v W hR hs => print_any v z0 W hR hs
  have HPB := fun v W hR hs => print_any v b W hR hs
  have HPZ := fun h : checkL z0 = 0 => parse_printed h
  have HPT := fun h : checkL b = 0 => parse_printed h
  obtain ⟨tz, htz⟩ : ∃ tz, ba (printB z0) = tz := ⟨_, rfl⟩
  obtain ⟨tb, htb⟩ : ∃ tb, ba (printB b) = tb := ⟨_, rfl⟩
  unfold printL at HP HPB
  rw [htz] at HP HPZ
  rw [htb] at HPB HPT
  clear htz htb
  obtain ⟨E, hE⟩ : ∃ E, checkL z0 = E := ⟨_, rfl⟩
  rw [hE] at HP HPZ
  clear hE
  by_cases h0 : E = 0
  · subst h0
    rw [if_pos rfl] at HP
    replace HP := Lib.hid HP
    replace HPZ := Lib.hid (HPZ rfl)
    by_cases h1 : be = 0
    · subst h1
      have hck := hbr rfl
      rw [if_pos hck] at HPB
      replace HPB := Lib.hid HPB
      replace HPT := Lib.hid (HPT hck)
      clear hbr hbe hck
      go_enter Tryd.func7, Tryd.ntmps7
      go_wp2_with (first
        | (go_at_call 15; (refine HFEW.out.mono ?_); rintro e w1 ⟨x, rfl, hx, hw1⟩; obtain rfl := hw1.symm; cases x)
        | (go_at_call 16; (with_reducible refine (HG.out _ hx HR.out).mono ?_); rintro e w2 ⟨v, rfl, hR2, hb2⟩; have hb := hb.trans (hb2.mono hb.size))
        | (go_at_call 17; (with_reducible refine (HP.out _ _ hR2 hx.short).mono ?_); rintro e w3 ⟨rfl, hb3⟩; have hb := hb.trans (hb3.mono hb.size); clear hR2 HP HG)
        | (go_at_call 11; (with_reducible refine (HPZ.out _).mono ?_); rintro e w4 ⟨az, capz, rfl, hRz, hb4, hshz, hlz⟩; have hb := hb.trans (hb4.mono hb.size); clear hshz HPZ)
        | (go_at_call 13; (with_reducible refine (HS.out _ _ _ hRz (HR.out.later hb (Nat.le_refl _)) (by omega)).mono ?_); rintro e w5 ⟨rfl, hb5⟩; have hb := hb.trans (hb5.mono hb.size); clear hRz HS)
        | (go_at_call 11; (with_reducible refine (HB.out _).mono ?_); rintro e w6 ⟨ab, capb, rfl, hRb, hb6, hshb, hlb⟩; have hb := hb.trans (hb6.mono hb.size); have hshb := Lib.hid hshb; clear HB; (try simp only [List.length_nil]))
        | (go_at_call 17; (with_reducible refine (HPB.out _ _ hRb hshb.out).mono ?_); rintro e w7 ⟨rfl, hb7⟩; have hRb2 := hRb.later hb7 (Nat.le_refl _); have hb := hb.trans (hb7.mono hb.size); clear HPB)
        | (go_at_call 11; (with_reducible refine (HPT.out _).mono ?_); rintro e w8 ⟨ac, capc, rfl, hRc, hb8, hshc, hlc⟩; have hRb3 := hRb2.later hb8 (Nat.le_refl _); have hb := hb.trans (hb8.mono hb.size); clear hshc)
        | (go_at_call 27; (with_reducible refine (HTB.out _ _ hRb3 (by omega)).mono ?_); rintro e w9 ⟨vt, rfl, hRt, hb9⟩; have hRc2 := hRc.later hb9 (Nat.le_refl _); have hb := hb.trans (hb9.mono hb.size))
        | (go_at_call 13; (with_reducible refine (HSB.out _ _ _ hRc2 hRt (by omega)).mono ?_); rintro e w10 ⟨rfl, hb10⟩; have hb := hb.trans (hb10.mono hb.size))
        | (go_at_call 14; (with_reducible refine (HW.out _).mono ?_); rintro e w11 ⟨rfl, hb11⟩; have hb := hb.trans (hb11.mono hb.size)))
      all_goals go_ret
      all_goals exact ⟨rfl, hb⟩
    · obtain rfl := hbe h1
      have h1b : (be != 0) = true := by simpa using h1
      clear hbr hbe HPB HPT HSB HTB
      go_enter Tryd.func7, Tryd.ntmps7
      go_wp2_with (first
        | (go_at_call 15; (refine HFEW.out.mono ?_); rintro e w1 ⟨x, rfl, hx, hw1⟩; obtain rfl := hw1.symm; cases x)
        | (go_at_call 16; (with_reducible refine (HG.out _ hx HR.out).mono ?_); rintro e w2 ⟨v, rfl, hR2, hb2⟩; have hb := hb.trans (hb2.mono hb.size))
        | (go_at_call 17; (with_reducible refine (HP.out _ _ hR2 hx.short).mono ?_); rintro e w3 ⟨rfl, hb3⟩; have hb := hb.trans (hb3.mono hb.size); clear hR2 HP HG)
        | (go_at_call 11; (with_reducible refine (HPZ.out _).mono ?_); rintro e w4 ⟨az, capz, rfl, hRz, hb4, hshz, hlz⟩; have hb := hb.trans (hb4.mono hb.size); clear hshz HPZ)
        | (go_at_call 13; (with_reducible refine (HS.out _ _ _ hRz (HR.out.later hb (Nat.le_refl _)) (by omega)).mono ?_); rintro e w5 ⟨rfl, hb5⟩; have hb := hb.trans (hb5.mono hb.size); clear hRz HS)
        | (go_at_call 11; (with_reducible refine (HB.out _).mono ?_); rintro e w6 ⟨ab, capb, rfl, hRb, hb6, hshb, hlb⟩; have hb := hb.trans (hb6.mono hb.size); have hshb := Lib.hid hshb; clear HB; (try simp only [List.length_nil]))
        | (go_at_call 17; (with_reducible refine (HPB.out _ _ hRb hshb.out).mono ?_); rintro e w7 ⟨rfl, hb7⟩; have hRb2 := hRb.later hb7 (Nat.le_refl _); have hb := hb.trans (hb7.mono hb.size); clear HPB)
        | (go_at_call 11; (with_reducible refine (HPT.out _).mono ?_); rintro e w8 ⟨ac, capc, rfl, hRc, hb8, hshc, hlc⟩; have hRb3 := hRb2.later hb8 (Nat.le_refl _); have hb := hb.trans (hb8.mono hb.size); clear hshc)
        | (go_at_call 27; (with_reducible refine (HTB.out _ _ hRb3 (by omega)).mono ?_); rintro e w9 ⟨vt, rfl, hRt, hb9⟩; have hRc2 := hRc.later hb9 (Nat.le_refl _); have hb := hb.trans (hb9.mono hb.size))
        | (go_at_call 13; (with_reducible refine (HSB.out _ _ _ hRc2 hRt (by omega)).mono ?_); rintro e w10 ⟨rfl, hb10⟩; have hb := hb.trans (hb10.mono hb.size))
        | (go_at_call 14; (with_reducible refine (HW.out _).mono ?_); rintro e w11 ⟨rfl, hb11⟩; have hb := hb.trans (hb11.mono hb.size)))
      all_goals go_ret
      all_goals exact ⟨rfl, hb⟩
  · rw [if_neg h0] at HP
    replace HP := Lib.hid HP
    have h0b : (E == 0) = false := by simpa using h0
    clear HPZ
    by_cases h1 : be = 0
    · subst h1
      have hck := hbr rfl
      rw [if_pos hck] at HPB
      replace HPB := Lib.hid HPB
      replace HPT := Lib.hid (HPT hck)
      clear hbr hbe hck
      go_enter Tryd.func7, Tryd.ntmps7
      go_wp2_with (first
        | (go_at_call 15; (refine HFEW.out.mono ?_); rintro e w1 ⟨x, rfl, hx, hw1⟩; obtain rfl := hw1.symm; cases x)
        | (go_at_call 16; (with_reducible refine (HG.out _ hx HR.out).mono ?_); rintro e w2 ⟨v, rfl, hR2, hb2⟩; have hb := hb.trans (hb2.mono hb.size))
        | (go_at_call 17; (with_reducible refine (HP.out _ _ hR2 hx.short).mono ?_); rintro e w3 ⟨rfl, hb3⟩; have hb := hb.trans (hb3.mono hb.size); clear hR2 HP HG)
        | (go_at_call 11; (with_reducible refine (HPZ.out _).mono ?_); rintro e w4 ⟨az, capz, rfl, hRz, hb4, hshz, hlz⟩; have hb := hb.trans (hb4.mono hb.size); clear hshz HPZ)
        | (go_at_call 13; (with_reducible refine (HS.out _ _ _ hRz (HR.out.later hb (Nat.le_refl _)) (by omega)).mono ?_); rintro e w5 ⟨rfl, hb5⟩; have hb := hb.trans (hb5.mono hb.size); clear hRz HS)
        | (go_at_call 11; (with_reducible refine (HB.out _).mono ?_); rintro e w6 ⟨ab, capb, rfl, hRb, hb6, hshb, hlb⟩; have hb := hb.trans (hb6.mono hb.size); have hshb := Lib.hid hshb; clear HB; (try simp only [List.length_nil]))
        | (go_at_call 17; (with_reducible refine (HPB.out _ _ hRb hshb.out).mono ?_); rintro e w7 ⟨rfl, hb7⟩; have hRb2 := hRb.later hb7 (Nat.le_refl _); have hb := hb.trans (hb7.mono hb.size); clear HPB)
        | (go_at_call 11; (with_reducible refine (HPT.out _).mono ?_); rintro e w8 ⟨ac, capc, rfl, hRc, hb8, hshc, hlc⟩; have hRb3 := hRb2.later hb8 (Nat.le_refl _); have hb := hb.trans (hb8.mono hb.size); clear hshc)
        | (go_at_call 27; (with_reducible refine (HTB.out _ _ hRb3 (by omega)).mono ?_); rintro e w9 ⟨vt, rfl, hRt, hb9⟩; have hRc2 := hRc.later hb9 (Nat.le_refl _); have hb := hb.trans (hb9.mono hb.size))
        | (go_at_call 13; (with_reducible refine (HSB.out _ _ _ hRc2 hRt (by omega)).mono ?_); rintro e w10 ⟨rfl, hb10⟩; have hb := hb.trans (hb10.mono hb.size))
        | (go_at_call 14; (with_reducible refine (HW.out _).mono ?_); rintro e w11 ⟨rfl, hb11⟩; have hb := hb.trans (hb11.mono hb.size)))
      all_goals go_ret
      all_goals exact ⟨rfl, hb⟩
    · obtain rfl := hbe h1
      have h1b : (be != 0) = true := by simpa using h1
      clear hbr hbe HPB HPT HSB HTB
      go_enter Tryd.func7, Tryd.ntmps7
      go_wp2_with (first
        | (go_at_call 15; (refine HFEW.out.mono ?_); rintro e w1 ⟨x, rfl, hx, hw1⟩; obtain rfl := hw1.symm; cases x)
        | (go_at_call 16; (with_reducible refine (HG.out _ hx HR.out).mono ?_); rintro e w2 ⟨v, rfl, hR2, hb2⟩; have hb := hb.trans (hb2.mono hb.size))
        | (go_at_call 17; (with_reducible refine (HP.out _ _ hR2 hx.short).mono ?_); rintro e w3 ⟨rfl, hb3⟩; have hb := hb.trans (hb3.mono hb.size); clear hR2 HP HG)
        | (go_at_call 11; (with_reducible refine (HPZ.out _).mono ?_); rintro e w4 ⟨az, capz, rfl, hRz, hb4, hshz, hlz⟩; have hb := hb.trans (hb4.mono hb.size); clear hshz HPZ)
        | (go_at_call 13; (with_reducible refine (HS.out _ _ _ hRz (HR.out.later hb (Nat.le_refl _)) (by omega)).mono ?_); rintro e w5 ⟨rfl, hb5⟩; have hb := hb.trans (hb5.mono hb.size); clear hRz HS)
        | (go_at_call 11; (with_reducible refine (HB.out _).mono ?_); rintro e w6 ⟨ab, capb, rfl, hRb, hb6, hshb, hlb⟩; have hb := hb.trans (hb6.mono hb.size); have hshb := Lib.hid hshb; clear HB; (try simp only [List.length_nil]))
        | (go_at_call 17; (with_reducible refine (HPB.out _ _ hRb hshb.out).mono ?_); rintro e w7 ⟨rfl, hb7⟩; have hRb2 := hRb.later hb7 (Nat.le_refl _); have hb := hb.trans (hb7.mono hb.size); clear HPB)
        | (go_at_call 11; (with_reducible refine (HPT.out _).mono ?_); rintro e w8 ⟨ac, capc, rfl, hRc, hb8, hshc, hlc⟩; have hRb3 := hRb2.later hb8 (Nat.le_refl _); have hb := hb.trans (hb8.mono hb.size); clear hshc)
        | (go_at_call 27; (with_reducible refine (HTB.out _ _ hRb3 (by omega)).mono ?_); rintro e w9 ⟨vt, rfl, hRt, hb9⟩; have hRc2 := hRc.later hb9 (Nat.le_refl _); have hb := hb.trans (hb9.mono hb.size))
        | (go_at_call 13; (with_reducible refine (HSB.out _ _ _ hRc2 hRt (by omega)).mono ?_); rintro e w10 ⟨rfl, hb10⟩; have hb := hb.trans (hb10.mono hb.size))
        | (go_at_call 14; (with_reducible refine (HW.out _).mono ?_); rintro e w11 ⟨rfl, hb11⟩; have hb := hb.trans (hb11.mono hb.size)))
      all_goals go_ret
      all_goals exact ⟨rfl, hb⟩
theorem own : ownKnob Tryd.prog.godebug = none := by kernel_rfl
theorem laidOut : laidOutB Tryd.prog = true := by kernel_rfl

set_option maxRecDepth 100000 in
theorem lifted (os : Os) (started : os.Started) (H : Type) (enc : TypeId × Value → H) :
    ReturnsInHanded {} Tryd.checked os 7 .any (fun w args => (Rows.romanReturnsSpec.pre enc Tryd.prog Tryd.f7 Rows.romanReturnsRow.domain false w args ∧ laidMetH Tryd.prog Rows.romanReturnsRow.laid w) ∧ sizedMet enc Tryd.prog Tryd.f7 (OpenSpec.ofChange Rows.romanReturnsSpec) false w args)
      (Rows.romanReturnsSpec.post enc Tryd.prog Tryd.f7 false true false false) := by
  refine returnsInHanded_of_change_and (C := Tryd.checked) (X := fun w _ => laidMetH Tryd.prog Rows.romanReturnsRow.laid w) (fun _ _ _ hh h => h.of_heap hh) own started (by kernel_rfl) Tryd.func7
    (ChangeSpec.witness_shaped (enc := enc) (C := Tryd.checked) (os := os) (X := fun w _ => laidMetH Tryd.prog Rows.romanReturnsRow.laid w) false (World.laidAll Tryd.prog os Rows.romanReturnsRow.laid) #[.slice none 0 0, .string ByteArray.empty] 8 (World.laidAll_os _ _ _)
      (World.shaped_of_ZipB (by kernel_rfl) (by kernel_rfl)) (by kernel_rfl) (by kernel_rfl) (by kernel_rfl)
      (by rw [MakeChecks.laidMetH_plain _ _ _ (by kernel_rfl)]; exact laidMet_laidAll _ (by kernel_rfl) (by kernel_rfl))) ?_
  intro W base args ds gs before hval0 hW hcnd hsz0 hL _
  have hval : ∀ (j : Nat) t v, Tryd.f7.params[j]? = some t → args[j]? = some v → Value.okWide Tryd.prog W .any base t v := hval0
  have hW' := hW
  obtain ⟨p, q, hA0, hV, rfl, hfz, hnd⟩ := hW
  have hA : DataW.TrodAll enc Tryd.prog W 0 (fun _ => true) true Tryd.f7.params.toList args.toList ds p := hA0
  rw [Tryd.params7] at hA hval
  obtain ⟨v0, vs0, d0, ds0, p0, q0, hargs, rfl, rfl, h0, r0⟩ := trodAll_cons hA
  obtain ⟨v1, vs1, d1, ds1, p1, q1, rfl, rfl, rfl, h1, r1⟩ := trodAll_cons r0
  obtain ⟨rfl, rfl, rfl⟩ := trodAll_nil r1
  obtain rfl : args = #[v0, v1] := by cases args; simp_all
  obtain ⟨rfl, rfl⟩ := trodVars_none hV
  obtain ⟨a0, len0, cap0, rfl⟩ := okWide_slice Tryd.underlying26 (hval 0 26 v0 rfl rfl)
  have k0 := h0
  have lt0 : ∀ x ∈ p0, x.block < W.heap.size := by obtain ⟨m, hm⟩ := k0; exact DataW.trod_lt m _ _ _ hm
  obtain ⟨z0, w0⟩ : ∃ rs, RowR W (.slice a0 len0 cap0) rs := by
    obtain ⟨fuel, hf⟩ := h0
    exact rules_open hf
  obtain ⟨a1, rfl, rfl, rfl, w1⟩ := open_string Tryd.underlying9 (hval 1 9 v1 rfl rfl) h1
  have hsz : (DataW.weightsEach Tryd.prog (Tryd.f7.params.toList ++ Rows.romanReturnsSpec.plain.varTypes Tryd.prog) (_ ++ _)).all (· ≤ reachBytes) = true := hsz0
  rw [Tryd.params7] at hsz
  have sz1 := sized_string hsz (j := 1) (t := 9) rfl rfl
  skip
  clear hA0 hval0
  refine (walk a0 len0 cap0 z0 a1 W w0 w1 (by have := sz1; simp only [reachBytes, Array.length_toList] at this; exact this)).mono fun e W' ⟨he, bel⟩ => ?_
  subst he
  exact ⟨_, rfl, _, _, _, [], _, [], hW', trodAll_mk1 (shut_bool Tryd.underlying4 _), (trodAll_cons_mk (Below.trod laidOut (by kernel_rfl) (of_decide_eq_true (by kernel_rfl)) k0 bel lt0) (trodAll_cons_mk (shut_string Tryd.underlying9 w1) trodAll_mk0)), rfl, bel.frame _, fun h => by cases h⟩

theorem over : Rows.romanReturnsRow.holds Tryd.pinned (OpenSpec.ofChange Rows.romanReturnsSpec) :=
  OpenClaim.holds_of_wide 7 Tryd.f7 rfl rfl rfl rfl rfl rfl rfl ⟨rfl, rfl, rfl, rfl, rfl⟩ rfl rfl rfl rfl rfl (by kernel_rfl) Tryd.func7 (by kernel_rfl)
    (of_decide_eq_true (by kernel_rfl)) (by unfold Func.isWrapper; first | (rw [if_pos (by decide +kernel)]; kernel_rfl) | (rw [if_neg (by decide +kernel)]; exact ⟨rfl, rfl⟩))
    (fun os started H enc _ => lifted os started H enc)

theorem proved : Rows.RomanReturnsCardSaid :=
  Claim7.holds_tied_plain_at .later [] Rows.romanReturnsCard.laidKinds true Rows.romanReturnsCard.stood.harness false over (fun _ h => by cases h) (by kernel_rfl) (fun _ h => by cases h) romanReturns_row_tie rfl ⟨rfl, rfl⟩ (by kernel_rfl) rfl
    (fun f fn hf hfn => by
      obtain rfl : f = 7 := Option.some.inj ((show Tryd.prog.funcNamed "henkan/henkanlaw05.RomanReturns" = some 7 by kernel_rfl).symm.trans hf) |>.symm
      obtain rfl : fn = Tryd.f7 := (Option.some.inj (Tryd.func7.symm.trans hfn)).symm
      exact ⟨by kernel_rfl, fun j t ht => by
        rw [Tryd.params7] at ht
        have hm : t ∈ ([26, 9] : List TypeId) := by simpa using Array.mem_of_getElem? ht
        have hall : (([26, 9] : List TypeId).all fun u => !Tryd.prog.wantsStandIn u) = true := by kernel_rfl
        exact (show Tryd.prog.wantsStandIn t = false by simpa using List.all_eq_true.1 hall t hm)⟩)
    (by kernel_rfl)
end Go.Proofs.YtpaeppklkicngaaDoor.romanReturns
