/-
  BitvecInverse returns true for every list of bits and every two numbers: Select and Rank are inverse to each other. Conditions: none.
-/
import Derived.Test.YtlmhkhjjpfmkcaaBvK
import Derived.Test.YtlmhkhjjpfmkcaaBvFr
import Derived.OpenShut
import Derived.ShutString
import Derived.ChangeOld
import Derived.HandedShaped
import Derived.LaidMore
import Derived.Lay
import Derived.SizedLaws
import Derived.Deep.DeepHandedRow
import Derived.Test.YtlmhkhjjpfmkcaaBvFr
set_option linter.unusedVariables false
set_option linter.unusedSimpArgs false
set_option maxRecDepth 100000
namespace Go.Proofs.Ytlmhkhjjpfmkcaa.bitvecInverse
open Go Go.RowKit Go.ChangeShapes Go.WideShapes Go.ChangeAt Go.Proofs.Ytlmhkhjjpfmkcaa Go.Proofs.Ytlmhkhjjpfmkcaa.Kit Go.Proofs.Ytlmhkhjjpfmkcaa.Bv
open Go.ChangeMaps (open_string shut_string)
theorem sel_parts (l : List Bool) (b : Bool) (k : Int) : (sel l b k = -1) ∨ (0 ≤ sel l b k ∧ sel l b k < (l.length : Int) ∧ sel l b k ≠ -1 ∧ gt l (sel l b k) = b ∧ ((rank l b (sel l b k) : Nat) : Int) = k) := by
  rcases sel_cases l b k with h | ⟨j, h1, h2, h3, h4⟩
  · exact .inl h
  · rw [h1]
    exact .inr ⟨by omega, by omega, by omega, by rw [gt_nat]; exact h3, by rw [rank_nat l b (by omega)]; exact h4⟩
theorem sel_back (l : List Bool) {i : Int} (h0 : 0 ≤ i) (h1 : i < (l.length : Int)) : sel l (gt l i) (rank l (gt l i) i : Nat) = i := by
  obtain ⟨k, rfl⟩ := Int.eq_ofNat_of_zero_le h0
  rw [gt_nat, rank_nat l _ (by omega)]
  exact sel_at (by omega) rfl rfl
set_option maxHeartbeats 4000000 in
theorem walk (a0 : Option Addr) (len0 cap0 : Nat) (z0 : List Bool) (a1 a2 : Int) (w : World) (w0 : Reads w (.slice a0 len0 cap0) (bls z0)) (n0 : z0.length = len0) (w1 : (Lit.int .i64 a1).wf = true) (w2 : (Lit.int .i64 a2).wf = true) :
    Calls Try.prog 7 #[.slice a0 len0 cap0, .int .i64 a1, .int .i64 a2] w fun e w' => e = .returned (.bool true) ∧ Below w.heap.size w w' := by
  have hlen := w0.len.2
  unfold maxLen at hlen
  subst n0
  clear w1 w2
  by_cases hl : z0.length ≤ 3000
  · have HN := Lib.hid (new_ok z0 a0 cap0 w (by omega) w0)
    have HWK := Lib.hid works_any
    have hlz : (z0.length : Int) ≤ 3000 := by omega
    have hl3 : z0.length ≤ 1048576 := by omega
    have HL3 := Lib.hid hl3
    have HSP := Lib.hid (fun b => sel_parts z0 b a2)
    have HSB := Lib.hid (fun h0 h1 => @sel_back z0 a1 h0 h1)
    obtain ⟨n, hn⟩ : ∃ n, z0.length = n := ⟨_, rfl⟩
    have HNN := Lib.hid hn
    rw [hn] at hlz hl HN HSP HSB hlen ⊢
    clear hn w0 hl3
    go_enter Try.func7, Try.ntmps7
    go_wp2_with (go_at_call 12; (with_reducible refine HN.out.mono ?_); rintro e w1 ⟨p, rfl, hv, hb1⟩; have HV := Lib.hid hv; have HB1 := Lib.hid hb1; clear hv hb1)
    go_loopw [9] (fun x W => ∃ k : Int, 0 ≤ k ∧ k ≤ 2 ∧ x = .int .i64 k ∧ Below w1.heap.size w1 W) (fun x _ => (2 - intOf x).toNat)
    case atStart => exact ⟨0, by omega, by omega, rfl, Below.refl _ _⟩
    case round =>
      obtain ⟨k, hk0, hk2, rfl, hb⟩ := hrel
      by_cases hlt : k < 2
      · have hbb : ∃ b : Bool, (k == 1) = b := ⟨_, rfl⟩
        obtain ⟨b, hbb⟩ := hbb
        have hv := HV.out.below hb (Nat.le_refl _)
        have HSE := Lib.hid (select_any hv hb.size HL3.out b a2)
        have HG := Lib.hid (fun W (hW : Below w1.heap.size w1 W) => get_any (HV.out.below hW (Nat.le_refl _)) HL3.out (sel z0 b a2))
        have HR := Lib.hid (fun W (hW : Below w1.heap.size w1 W) => rank_any (HV.out.below hW (Nat.le_refl _)) HL3.out b (sel z0 b a2))
        rcases HSP.out b with hm | ⟨g0, g1, g2, g3, g4⟩
        · rw [hm] at HSE
          clear hv HG HR
          go_wp2_with (go_at_call 21; (with_reducible refine HSE.out.mono ?_); rintro e w3 ⟨rfl, hb3⟩; have hb4 := hb.trans (hb3.mono hb.size); clear hb3)
          go_roundw
          case rel => exact ⟨k + 1, by omega, by omega, by go_num, hb4⟩
          case measure => simp [intOf]; omega
        · rw [g3] at HG
          obtain ⟨R, hR⟩ : ∃ R, rank z0 b (sel z0 b a2) = R := ⟨_, rfl⟩
          rw [hR] at HR g4
          obtain ⟨s, hs⟩ : ∃ s, sel z0 b a2 = s := ⟨_, rfl⟩
          rw [hs] at HSE HG HR g0 g1 g2
          have hne : (s != -1) = true := by rw [bne_iff_ne]; exact g2
          have hne2 : ((R : Int) != a2) = false := by rw [bne_eq_false_iff_eq]; exact g4
          have hbc : (b != b) = false := by cases b <;> rfl
          clear hv hR hs g2 g3 g4
          cases b
          all_goals
            go_wp2_with (first
              | (go_at_call 21; (with_reducible refine HSE.out.mono ?_); rintro e w3 ⟨rfl, hb3⟩; have hb4 := hb.trans (hb3.mono hb.size); clear hb3; have HG3 := Lib.hid (HG.out _ hb4); have HR3 := Lib.hid (HR.out _ hb4))
              | (go_at_call 16; (with_reducible refine HG3.out.mono ?_); rintro e w4 ⟨rfl, rfl⟩)
              | (go_at_call 19; (with_reducible refine HR3.out.mono ?_); rintro e w4 ⟨rfl, rfl⟩))
            go_roundw
            case rel => exact ⟨k + 1, by omega, by omega, by go_num, hb4⟩
            case measure => simp [intOf]; omega
      · obtain rfl : k = 2 := by omega
        have hbw := HB1.out.trans (hb.mono HB1.out.size)
        by_cases h0 : a1 < 0
        · go_wp2_with (go_at_call 18; (with_reducible refine (HWK.out _).mono ?_); rintro e w6 ⟨rfl, hb6⟩)
          go_ret
          exact ⟨rfl, hbw.trans (hb6.mono hbw.size)⟩
        · have h0' : 0 ≤ a1 := by omega
          clear h0
          by_cases h1 : a1 < (n : Int)
          · have hsb := HSB.out h0' h1
            have hv := HV.out.below hb (Nat.le_refl _)
            have HG := Lib.hid (get_any hv HL3.out a1)
            obtain ⟨c, hc⟩ : ∃ c, gt z0 a1 = c := ⟨_, rfl⟩
            rw [hc] at HG hsb
            have HR := Lib.hid (rank_any hv HL3.out c a1)
            have HS := Lib.hid (select_any hv hb.size HL3.out c (rank z0 c a1 : Nat))
            rw [hsb] at HS
            obtain ⟨R, hR⟩ : ∃ R, rank z0 c a1 = R := ⟨_, rfl⟩
            rw [hR] at HR HS
            have e1 : (a1 == a1) = true := beq_self_eq_true _
            clear hv hc hR hsb
            go_wp2_with (first
              | (go_at_call 16; (with_reducible refine HG.out.mono ?_); rintro e w4 ⟨rfl, rfl⟩)
              | (go_at_call 19; (with_reducible refine HR.out.mono ?_); rintro e w4 ⟨rfl, rfl⟩)
              | (go_at_call 21; (with_reducible refine HS.out.mono ?_); rintro e w3 ⟨rfl, hb3⟩; have hb4 := hbw.trans (hb3.mono hbw.size); clear hb3)
              | (go_at_call 18; (with_reducible refine (HWK.out _).mono ?_); rintro e w6 ⟨rfl, hb6⟩))
            go_ret
            exact ⟨rfl, hb4.trans (hb6.mono hb4.size)⟩
          · have h2 : (n : Int) ≤ a1 := by omega
            clear h1
            go_wp2_with (go_at_call 18; (with_reducible refine (HWK.out _).mono ?_); rintro e w6 ⟨rfl, hb6⟩)
            go_ret
            exact ⟨rfl, hbw.trans (hb6.mono hbw.size)⟩
  · have hlz : (3000 : Int) < (z0.length : Int) := by omega
    clear hl w0
    go_enter Try.func7, Try.ntmps7
    go_wp2
    go_ret
    exact ⟨rfl, Below.refl _ _⟩
theorem own : ownKnob Try.prog.godebug = none := by kernel_rfl
theorem laidOut : laidOutB Try.prog = true := by kernel_rfl

set_option maxRecDepth 100000 in
theorem lifted (os : Os) (started : os.Started) (H : Type) (enc : TypeId × Value → H) :
    ReturnsInHanded {} Try.checked os 7 .any (Rows.bitvecInverseSpec.pre6 enc Try.prog Try.f7 Rows.bitvecInverseRow.domain false) (Rows.bitvecInverseSpec.post enc Try.prog Try.f7 false true false false) := by
  refine returnsInHanded_of_change_shaped (C := Try.checked) own started (by kernel_rfl) Try.func7
    (ChangeSpec.witness6 (enc := enc) (C := Try.checked) false ⟨#[], #[.slice none 0 0, .int .i64 0, .int .i64 0], []⟩ 8 (by kernel_rfl) (by kernel_rfl) (by kernel_rfl) (by kernel_rfl)) ?_
  intro W base args ds gs before hval0 hW hcnd hsz0 hsh _
  have hval : ∀ (j : Nat) t v, Try.f7.params[j]? = some t → args[j]? = some v → Value.okWide Try.prog W .any base t v := hval0
  have hW' := hW
  obtain ⟨p, q, hA0, hV, rfl, hfz, hnd⟩ := hW
  have hA : DataW.TrodAll enc Try.prog W 0 (fun _ => true) true Try.f7.params.toList args.toList ds p := hA0
  rw [Try.params7] at hA hval
  obtain ⟨v0, vs0, d0, ds0, p0, q0, hargs, rfl, rfl, h0, r0⟩ := trodAll_cons hA
  obtain ⟨v1, vs1, d1, ds1, p1, q1, rfl, rfl, rfl, h1, r1⟩ := trodAll_cons r0
  obtain ⟨v2, vs2, d2, ds2, p2, q2, rfl, rfl, rfl, h2, r2⟩ := trodAll_cons r1
  obtain ⟨rfl, rfl, rfl⟩ := trodAll_nil r2
  obtain rfl : args = #[v0, v1, v2] := by cases args; simp_all
  obtain ⟨rfl, rfl⟩ := trodVars_none hV
  obtain ⟨a0, len0, cap0, rfl⟩ := okWide_slice Try.underlying22 (hval 0 22 v0 rfl rfl)
  have k0 := h0
  have lt0 : ∀ x ∈ p0, x.block < W.heap.size := by obtain ⟨m, hm⟩ := k0; exact DataW.trod_lt m _ _ _ hm
  obtain ⟨z0, w0, n0⟩ : ∃ z, Reads W (.slice a0 len0 cap0) (bls z) ∧ z.length = len0 := by
    obtain ⟨fuel, hf⟩ := h0
    exact bools_open hf
  obtain ⟨a1, rfl, rfl, rfl, w1⟩ := open_int Try.underlying3 (hval 1 3 v1 rfl rfl) h1
  obtain ⟨a2, rfl, rfl, rfl, w2⟩ := open_int Try.underlying3 (hval 2 3 v2 rfl rfl) h2
  clear hA0 hval0
  refine (walk a0 len0 cap0 z0 a1 a2 W w0 n0 w1 w2).mono fun e W' ⟨he, bel⟩ => ?_
  subst he
  exact ⟨_, rfl, _, _, _, [], _, [], hW', trodAll_mk1 (shut_bool Try.underlying4 _), (trodAll_cons_mk (Below.trod laidOut (by kernel_rfl) (of_decide_eq_true (by kernel_rfl)) k0 bel lt0) (trodAll_cons_mk (shut_int Try.underlying3 w1) (trodAll_cons_mk (shut_int Try.underlying3 w2) trodAll_mk0))), rfl, bel.frame _, fun h => by cases h⟩

theorem over : Rows.bitvecInverseRow.holds Try.pinned (OpenSpec.ofChange Rows.bitvecInverseSpec) :=
  OpenClaim.holds_of_wide 7 Try.f7 rfl rfl rfl rfl rfl rfl rfl ⟨rfl, rfl, rfl, rfl, rfl⟩ rfl rfl rfl rfl rfl (by kernel_rfl) Try.func7 (by kernel_rfl)
    (of_decide_eq_true (by kernel_rfl)) (by unfold Func.isWrapper; first | (rw [if_pos (by decide +kernel)]; kernel_rfl) | (rw [if_neg (by decide +kernel)]; exact ⟨rfl, rfl⟩))
    (fun os started H enc _ => lifted os started H enc)

theorem proved : Rows.BitvecInverseSaid := over
end Go.Proofs.Ytlmhkhjjpfmkcaa.bitvecInverse
