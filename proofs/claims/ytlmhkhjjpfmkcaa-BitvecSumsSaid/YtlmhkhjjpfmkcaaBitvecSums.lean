/-
  BitvecSums returns true for every list of bits and every place: true and false bits add up. Conditions: none.
-/
import Derived.Test.YtlmhkhjjpfmkcaaBvK
import Derived.Test.YtlmhkhjjpfmkcaaBvFr
import Derived.OpenShut
import Derived.ShutString
import Derived.ChangeOld
import Derived.HandedShaped
import Derived.LaidMore
import Derived.Lay
import Derived.SizedLaws
import Derived.Deep.DeepHandedRow
import Derived.Test.YtlmhkhjjpfmkcaaBvFr
set_option linter.unusedVariables false
set_option linter.unusedSimpArgs false
set_option maxRecDepth 100000
namespace Go.Proofs.Ytlmhkhjjpfmkcaa.bitvecSums
open Go Go.RowKit Go.ChangeShapes Go.WideShapes Go.ChangeAt Go.Proofs.Ytlmhkhjjpfmkcaa Go.Proofs.Ytlmhkhjjpfmkcaa.Kit Go.Proofs.Ytlmhkhjjpfmkcaa.Bv
open Go.ChangeMaps (open_string shut_string)
theorem rank_sum (l : List Bool) (i : Int) : (rank l true i : Int) + (rank l false i : Int) = max (min i (l.length : Int)) 0 := by
  unfold rank
  rw [rk_true, rk_false]
  have := tr_le l (min i (l.length : Int)).toNat
  omega
theorem rank_up (l : List Bool) (b : Bool) {k : Nat} (h : k < l.length) : rank l b ((k : Int) + 1) = rank l b (k : Int) + if bt l k = b then 1 else 0 := by
  rw [rank_next b h, rank_nat l b (by omega)]; rfl
theorem rank_up2 (l : List Bool) {Q : Int} (h0 : 0 ≤ Q) (h : Q < (l.length : Int)) : rank l (gt l Q) (Q + 1) = rank l (gt l Q) Q + 1 ∧ rank l (!gt l Q) (Q + 1) = rank l (!gt l Q) Q := by
  obtain ⟨k, rfl⟩ := Int.eq_ofNat_of_zero_le h0
  rw [gt_nat, rank_up l _ (by omega), rank_up l _ (by omega)]
  cases bt l k <;> simp
set_option maxHeartbeats 4000000 in
theorem walk (a0 : Option Addr) (len0 cap0 : Nat) (z0 : List Bool) (a1 : Int) (w : World) (w0 : Reads w (.slice a0 len0 cap0) (bls z0)) (n0 : z0.length = len0) (w1 : (Lit.int .i64 a1).wf = true) :
    Calls Try.prog 8 #[.slice a0 len0 cap0, .int .i64 a1] w fun e w' => e = .returned (.bool true) ∧ Below w.heap.size w w' := by
  have hlen := w0.len.2
  unfold maxLen at hlen
  subst n0
  by_cases hl : z0.length ≤ 3000
  · have HN := Lib.hid (new_ok z0 a0 cap0 w (by omega) w0)
    have HWK := Lib.hid works_any
    have hlz : (z0.length : Int) ≤ 3000 := by omega
    have hl3 : z0.length ≤ 1048576 := by omega
    have HL3 := Lib.hid hl3
    have hsum := rank_sum z0 a1
    have HUP := Lib.hid (fun Q h0 h => @rank_up2 z0 Q h0 h)
    have HK1 := Lib.hid (fun (w1 : World) (B0 B1 p : Nat) (hv : VecAt B0 B1 w1 p z0) => rank_any hv hl3 true a1)
    have HK2 := Lib.hid (fun (w1 : World) (B0 B1 p : Nat) (hv : VecAt B0 B1 w1 p z0) => rank_any hv hl3 false a1)
    obtain ⟨r1, hr1⟩ : ∃ r, rank z0 true a1 = r := ⟨_, rfl⟩
    obtain ⟨r2, hr2⟩ : ∃ r, rank z0 false a1 = r := ⟨_, rfl⟩
    rw [hr1] at HK1
    rw [hr2] at HK2
    rw [hr1, hr2] at hsum
    have hb1' : r1 ≤ 3000 := by omega
    have hb2' : r2 ≤ 3000 := by omega
    clear hr1 hr2
    obtain ⟨n, hn⟩ : ∃ n, z0.length = n := ⟨_, rfl⟩
    have HNN := Lib.hid hn
    rw [hn] at hsum hlz hl HN HUP hlen ⊢
    clear hn w0 hl3 w1
    by_cases hA : a1 < 0
    · have e1 : (((r1 : Int) + (r2 : Int)) != 0) = false := by rw [bne_eq_false_iff_eq]; omega
      clear hsum
      by_cases hn0 : n = 0
      · subst hn0
        go_enter Try.func8, Try.ntmps8
        go_wp2_with (first
          | (go_at_call 12; (with_reducible refine HN.out.mono ?_); rintro e w1 ⟨p, rfl, hv, hb1⟩; have K1 := Lib.hid (HK1.out _ _ _ _ hv); have K2 := Lib.hid (HK2.out _ _ _ _ hv); clear hv)
          | (go_at_call 19; (with_reducible refine K1.out.mono ?_); rintro e w2 ⟨rfl, rfl⟩; clear K1)
          | (go_at_call 19; (with_reducible refine K2.out.mono ?_); rintro e w2 ⟨rfl, rfl⟩; clear K2)
          | (go_at_call 18; (with_reducible refine (HWK.out _).mono ?_); rintro e w6 ⟨rfl, hb6⟩))
        go_ret
        exact ⟨rfl, hb1.trans (hb6.mono hb1.size)⟩
      · have hnz : ((0 : Int) == (n : Int)) = false := by rw [beq_eq_false_iff_ne]; omega
        have hup := HUP.out (0 : Int) (by omega) (by omega)
        have hup1 := hup.1
        have hup2 := hup.2
        have HKG := Lib.hid (fun (w1 : World) (B0 B1 p : Nat) (hv : VecAt B0 B1 w1 p z0) => get_any hv HL3.out (0 : Int))
        obtain ⟨c, hc⟩ : ∃ c, gt z0 (0 : Int) = c := ⟨_, rfl⟩
        rw [hc] at hup1 hup2 HKG
        have HK3 := Lib.hid (fun (w1 : World) (B0 B1 p : Nat) (hv : VecAt B0 B1 w1 p z0) => rank_any hv HL3.out c ((0 : Int) + 1))
        have HK4 := Lib.hid (fun (w1 : World) (B0 B1 p : Nat) (hv : VecAt B0 B1 w1 p z0) => rank_any hv HL3.out c (0 : Int))
        have HK5 := Lib.hid (fun (w1 : World) (B0 B1 p : Nat) (hv : VecAt B0 B1 w1 p z0) => rank_any hv HL3.out (!c) ((0 : Int) + 1))
        have HK6 := Lib.hid (fun (w1 : World) (B0 B1 p : Nat) (hv : VecAt B0 B1 w1 p z0) => rank_any hv HL3.out (!c) (0 : Int))
        rw [hup1] at HK3
        rw [hup2] at HK5
        have hrl : rank z0 c (0 : Int) ≤ n := by rw [← HNN.out]; unfold rank; exact Nat.le_trans (rk_le _ _ _) (by omega)
        obtain ⟨s, hs⟩ : ∃ s, rank z0 c (0 : Int) = s := ⟨_, rfl⟩
        obtain ⟨t, ht⟩ : ∃ t, rank z0 (!c) (0 : Int) = t := ⟨_, rfl⟩
        rw [hs] at HK3 HK4 hrl
        rw [ht] at HK5 HK6
        rw [show (((s + 1 : Nat) : Int)) = (s : Int) + 1 by omega] at HK3
        rw [show (0 : Int) + 1 = 1 from rfl] at HK3 HK5
        clear hup hup1 hup2 hc hs ht
        go_enter Try.func8, Try.ntmps8
        go_wp2_with (first
          | (go_at_call 12; (with_reducible refine HN.out.mono ?_); rintro e w1 ⟨p, rfl, hv, hb1⟩; have K1 := Lib.hid (HK1.out _ _ _ _ hv); have K2 := Lib.hid (HK2.out _ _ _ _ hv); have K3 := Lib.hid (HK3.out _ _ _ _ hv); have K4 := Lib.hid (HK4.out _ _ _ _ hv); have K5 := Lib.hid (HK5.out _ _ _ _ hv); have K6 := Lib.hid (HK6.out _ _ _ _ hv); have KG := Lib.hid (HKG.out _ _ _ _ hv); clear hv)
          | (go_at_call 19; (with_reducible refine K1.out.mono ?_); rintro e w2 ⟨rfl, rfl⟩; clear K1)
          | (go_at_call 19; (with_reducible refine K2.out.mono ?_); rintro e w2 ⟨rfl, rfl⟩; clear K2)
          | (go_at_call 16; (with_reducible refine KG.out.mono ?_); rintro e w2 ⟨rfl, rfl⟩; clear KG)
          | (go_at_call 19; (with_reducible refine K3.out.mono ?_); rintro e w2 ⟨rfl, rfl⟩; clear K3)
          | (go_at_call 19; (with_reducible refine K4.out.mono ?_); rintro e w2 ⟨rfl, rfl⟩; clear K4)
          | (go_at_call 19; (with_reducible refine K5.out.mono ?_); rintro e w2 ⟨rfl, rfl⟩; clear K5)
          | (go_at_call 19; (with_reducible refine K6.out.mono ?_); rintro e w2 ⟨rfl, rfl⟩; clear K6)
          | (go_at_call 18; (with_reducible refine (HWK.out _).mono ?_); rintro e w6 ⟨rfl, hb6⟩))
        go_ret
        exact ⟨rfl, hb1.trans (hb6.mono hb1.size)⟩
    · by_cases hB : a1 ≤ (n : Int)
      · have h0 : 0 ≤ a1 := by omega
        have e1 : (((r1 : Int) + (r2 : Int)) != a1) = false := by rw [bne_eq_false_iff_eq]; omega
        clear hsum hA
        by_cases hq : a1 = (n : Int)
        · subst hq
          go_enter Try.func8, Try.ntmps8
          go_wp2_with (first
            | (go_at_call 12; (with_reducible refine HN.out.mono ?_); rintro e w1 ⟨p, rfl, hv, hb1⟩; have K1 := Lib.hid (HK1.out _ _ _ _ hv); have K2 := Lib.hid (HK2.out _ _ _ _ hv); clear hv)
            | (go_at_call 19; (with_reducible refine K1.out.mono ?_); rintro e w2 ⟨rfl, rfl⟩; clear K1)
            | (go_at_call 19; (with_reducible refine K2.out.mono ?_); rintro e w2 ⟨rfl, rfl⟩; clear K2)
            | (go_at_call 18; (with_reducible refine (HWK.out _).mono ?_); rintro e w6 ⟨rfl, hb6⟩))
          go_ret
          exact ⟨rfl, hb1.trans (hb6.mono hb1.size)⟩
        · have hqz : (a1 == (n : Int)) = false := by rw [beq_eq_false_iff_ne]; exact hq
          have hqn : a1 < (n : Int) := by omega
          clear hq hB
          have hup := HUP.out a1 (by omega) (by omega)
          have hup1 := hup.1
          have hup2 := hup.2
          have HKG := Lib.hid (fun (w1 : World) (B0 B1 p : Nat) (hv : VecAt B0 B1 w1 p z0) => get_any hv HL3.out a1)
          obtain ⟨c, hc⟩ : ∃ c, gt z0 a1 = c := ⟨_, rfl⟩
          rw [hc] at hup1 hup2 HKG
          have HK3 := Lib.hid (fun (w1 : World) (B0 B1 p : Nat) (hv : VecAt B0 B1 w1 p z0) => rank_any hv HL3.out c (a1 + 1))
          have HK4 := Lib.hid (fun (w1 : World) (B0 B1 p : Nat) (hv : VecAt B0 B1 w1 p z0) => rank_any hv HL3.out c a1)
          have HK5 := Lib.hid (fun (w1 : World) (B0 B1 p : Nat) (hv : VecAt B0 B1 w1 p z0) => rank_any hv HL3.out (!c) (a1 + 1))
          have HK6 := Lib.hid (fun (w1 : World) (B0 B1 p : Nat) (hv : VecAt B0 B1 w1 p z0) => rank_any hv HL3.out (!c) a1)
          rw [hup1] at HK3
          rw [hup2] at HK5
          have hrl : rank z0 c a1 ≤ n := by rw [← HNN.out]; unfold rank; exact Nat.le_trans (rk_le _ _ _) (by omega)
          obtain ⟨s, hs⟩ : ∃ s, rank z0 c a1 = s := ⟨_, rfl⟩
          obtain ⟨t, ht⟩ : ∃ t, rank z0 (!c) a1 = t := ⟨_, rfl⟩
          rw [hs] at HK3 HK4 hrl
          rw [ht] at HK5 HK6
          rw [show (((s + 1 : Nat) : Int)) = (s : Int) + 1 by omega] at HK3
          clear hup hup1 hup2 hc hs ht
          go_enter Try.func8, Try.ntmps8
          go_wp2_with (first
            | (go_at_call 12; (with_reducible refine HN.out.mono ?_); rintro e w1 ⟨p, rfl, hv, hb1⟩; have K1 := Lib.hid (HK1.out _ _ _ _ hv); have K2 := Lib.hid (HK2.out _ _ _ _ hv); have K3 := Lib.hid (HK3.out _ _ _ _ hv); have K4 := Lib.hid (HK4.out _ _ _ _ hv); have K5 := Lib.hid (HK5.out _ _ _ _ hv); have K6 := Lib.hid (HK6.out _ _ _ _ hv); have KG := Lib.hid (HKG.out _ _ _ _ hv); clear hv)
            | (go_at_call 19; (with_reducible refine K1.out.mono ?_); rintro e w2 ⟨rfl, rfl⟩; clear K1)
            | (go_at_call 19; (with_reducible refine K2.out.mono ?_); rintro e w2 ⟨rfl, rfl⟩; clear K2)
            | (go_at_call 16; (with_reducible refine KG.out.mono ?_); rintro e w2 ⟨rfl, rfl⟩; clear KG)
            | (go_at_call 19; (with_reducible refine K3.out.mono ?_); rintro e w2 ⟨rfl, rfl⟩; clear K3)
            | (go_at_call 19; (with_reducible refine K4.out.mono ?_); rintro e w2 ⟨rfl, rfl⟩; clear K4)
            | (go_at_call 19; (with_reducible refine K5.out.mono ?_); rintro e w2 ⟨rfl, rfl⟩; clear K5)
            | (go_at_call 19; (with_reducible refine K6.out.mono ?_); rintro e w2 ⟨rfl, rfl⟩; clear K6)
            | (go_at_call 18; (with_reducible refine (HWK.out _).mono ?_); rintro e w6 ⟨rfl, hb6⟩))
          go_ret
          exact ⟨rfl, hb1.trans (hb6.mono hb1.size)⟩
      · have hC : (n : Int) < a1 := by omega
        have e1 : (((r1 : Int) + (r2 : Int)) != (n : Int)) = false := by rw [bne_eq_false_iff_eq]; omega
        clear hsum hA hB
        go_enter Try.func8, Try.ntmps8
        go_wp2_with (first
          | (go_at_call 12; (with_reducible refine HN.out.mono ?_); rintro e w1 ⟨p, rfl, hv, hb1⟩; have K1 := Lib.hid (HK1.out _ _ _ _ hv); have K2 := Lib.hid (HK2.out _ _ _ _ hv); clear hv)
          | (go_at_call 19; (with_reducible refine K1.out.mono ?_); rintro e w2 ⟨rfl, rfl⟩; clear K1)
          | (go_at_call 19; (with_reducible refine K2.out.mono ?_); rintro e w2 ⟨rfl, rfl⟩; clear K2)
          | (go_at_call 18; (with_reducible refine (HWK.out _).mono ?_); rintro e w6 ⟨rfl, hb6⟩))
        go_ret
        exact ⟨rfl, hb1.trans (hb6.mono hb1.size)⟩
  · have hlz : (3000 : Int) < (z0.length : Int) := by omega
    clear hl w0
    go_enter Try.func8, Try.ntmps8
    go_wp2
    go_ret
    exact ⟨rfl, Below.refl _ _⟩
theorem own : ownKnob Try.prog.godebug = none := by kernel_rfl
theorem laidOut : laidOutB Try.prog = true := by kernel_rfl

set_option maxRecDepth 100000 in
theorem lifted (os : Os) (started : os.Started) (H : Type) (enc : TypeId × Value → H) :
    ReturnsInHanded {} Try.checked os 8 .any (Rows.bitvecSumsSpec.pre6 enc Try.prog Try.f8 Rows.bitvecSumsRow.domain false) (Rows.bitvecSumsSpec.post enc Try.prog Try.f8 false true false false) := by
  refine returnsInHanded_of_change_shaped (C := Try.checked) own started (by kernel_rfl) Try.func8
    (ChangeSpec.witness6 (enc := enc) (C := Try.checked) false ⟨#[], #[.slice none 0 0, .int .i64 0], []⟩ 8 (by kernel_rfl) (by kernel_rfl) (by kernel_rfl) (by kernel_rfl)) ?_
  intro W base args ds gs before hval0 hW hcnd hsz0 hsh _
  have hval : ∀ (j : Nat) t v, Try.f8.params[j]? = some t → args[j]? = some v → Value.okWide Try.prog W .any base t v := hval0
  have hW' := hW
  obtain ⟨p, q, hA0, hV, rfl, hfz, hnd⟩ := hW
  have hA : DataW.TrodAll enc Try.prog W 0 (fun _ => true) true Try.f8.params.toList args.toList ds p := hA0
  rw [Try.params8] at hA hval
  obtain ⟨v0, vs0, d0, ds0, p0, q0, hargs, rfl, rfl, h0, r0⟩ := trodAll_cons hA
  obtain ⟨v1, vs1, d1, ds1, p1, q1, rfl, rfl, rfl, h1, r1⟩ := trodAll_cons r0
  obtain ⟨rfl, rfl, rfl⟩ := trodAll_nil r1
  obtain rfl : args = #[v0, v1] := by cases args; simp_all
  obtain ⟨rfl, rfl⟩ := trodVars_none hV
  obtain ⟨a0, len0, cap0, rfl⟩ := okWide_slice Try.underlying22 (hval 0 22 v0 rfl rfl)
  have k0 := h0
  have lt0 : ∀ x ∈ p0, x.block < W.heap.size := by obtain ⟨m, hm⟩ := k0; exact DataW.trod_lt m _ _ _ hm
  obtain ⟨z0, w0, n0⟩ : ∃ z, Reads W (.slice a0 len0 cap0) (bls z) ∧ z.length = len0 := by
    obtain ⟨fuel, hf⟩ := h0
    exact bools_open hf
  obtain ⟨a1, rfl, rfl, rfl, w1⟩ := open_int Try.underlying3 (hval 1 3 v1 rfl rfl) h1
  clear hA0 hval0
  refine (walk a0 len0 cap0 z0 a1 W w0 n0 w1).mono fun e W' ⟨he, bel⟩ => ?_
  subst he
  exact ⟨_, rfl, _, _, _, [], _, [], hW', trodAll_mk1 (shut_bool Try.underlying4 _), (trodAll_cons_mk (Below.trod laidOut (by kernel_rfl) (of_decide_eq_true (by kernel_rfl)) k0 bel lt0) (trodAll_cons_mk (shut_int Try.underlying3 w1) trodAll_mk0)), rfl, bel.frame _, fun h => by cases h⟩

theorem over : Rows.bitvecSumsRow.holds Try.pinned (OpenSpec.ofChange Rows.bitvecSumsSpec) :=
  OpenClaim.holds_of_wide 8 Try.f8 rfl rfl rfl rfl rfl rfl rfl ⟨rfl, rfl, rfl, rfl, rfl⟩ rfl rfl rfl rfl rfl (by kernel_rfl) Try.func8 (by kernel_rfl)
    (of_decide_eq_true (by kernel_rfl)) (by unfold Func.isWrapper; first | (rw [if_pos (by decide +kernel)]; kernel_rfl) | (rw [if_neg (by decide +kernel)]; exact ⟨rfl, rfl⟩))
    (fun os started H enc _ => lifted os started H enc)

theorem proved : Rows.BitvecSumsSaid := over
end Go.Proofs.Ytlmhkhjjpfmkcaa.bitvecSums
