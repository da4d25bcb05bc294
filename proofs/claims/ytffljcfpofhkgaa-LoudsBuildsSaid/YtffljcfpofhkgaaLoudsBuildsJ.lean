/-
  LoudsBuilds
-/
import Derived.Test.YtffljcfpofhkgaaM2
import Derived.OpenShut
import Derived.ShutString
import Derived.ChangeOld
import Derived.HandedShaped
import Derived.LaidMore
import Derived.Lay
import Derived.SizedLaws
import Derived.Deep.DeepHandedRow
import Derived.Test.YtffljcfpofhkgaaBvFr
set_option linter.unusedVariables false
set_option linter.unusedSimpArgs false
set_option maxRecDepth 100000
namespace Go.Proofs.Ytffljcfpofhkgaa.loudsBuilds
open Go Go.RowKit Go.ChangeShapes Go.WideShapes Go.ChangeAt Go.Proofs.Ytffljcfpofhkgaa Go.Proofs.Ytffljcfpofhkgaa.Kit Go.Proofs.Ytffljcfpofhkgaa.Bv
open Go.ChangeMaps (open_string shut_string)
open Lo in
set_option maxHeartbeats 4000000 in
theorem walk (a0 : Option Addr) (len0 cap0 : Nat) (z0 : List (List UInt8)) (w : World) (w0 : Reads w (.slice a0 len0 cap0) (Lo.strs z0)) (n0 : z0.length = len0) (y0 : ∀ i, i < z0.length → (Lo.sg z0 i).length ≤ 281474976710656) :
    Calls Try.prog 3 #[.slice a0 len0 cap0] w fun e w' => e = .returned (.bool true) ∧ Below w.heap.size w w' := by
  subst n0
  have HR := Lib.hid (fun V (hV : Below w.heap.size w V) i (hi : i < z0.length) => show ∃ b off, a0 = some ⟨b, off, none⟩ ∧ V.cell? ⟨b, off + i, none⟩ = some (.string (ba (sg z0 i))) by
    obtain ⟨b, off, e1, hb, hc⟩ := Reads.cell w0 (strs_get hi)
    exact ⟨b, off, e1, by rw [hV.cell (p := ⟨b, off + i, none⟩) hb]; exact hc⟩)
  have hlen := w0.len.2
  unfold maxLen at hlen
  have HW := Lib.hid (fun V => Lo.works_lo V)
  rcases err_or z0 with hf | ⟨c, hc⟩
  · have HB := Lib.hid (fun V (hV : Below w.heap.size w V) => bld_fits hf a0 cap0 V (w0.later hV))
    have HC := Lib.hid (fun V (hV : Below w.heap.size w V) => rcheck_fits hf a0 cap0 V (w0.later hV))
    have HLB := Lib.hid (fun V (hV : Below w.heap.size w V) => lbuild_any hf a0 cap0 V (w0.later hV))
    obtain ⟨m, hm⟩ : ∃ m, z0.length = m := ⟨_, rfl⟩
    rw [hm] at HR HB HC HLB hlen ⊢
    clear w0 y0 hf hm
    go_enter Try.func3, Try.ntmps3
    go_wp2
    go_loopw [3, 11] (fun x z wr => ∃ (i : Nat) (v : Int), i ≤ m ∧ z = .int .i64 (i : Int) ∧ x = .int .i64 v ∧ wr = w) (fun _ z _ => m - (intOf z).toNat)
    case atStart => exact ⟨0, 0, Nat.zero_le _, rfl, rfl, rfl⟩
    case round =>
      obtain ⟨i, v, hi, rfl, rfl, rfl⟩ := hrel
      by_cases hlt : i < m
      · obtain ⟨b, off, rfl, hcell⟩ := HR.out _ (Below.refl _ _) i hlt
        obtain ⟨S, hS⟩ : ∃ S, ba (sg z0 i) = S := ⟨_, rfl⟩
        rw [hS] at hcell
        have hi0 : (0 : Int) ≤ (i : Int) := by omega
        have him : (i : Int) < (m : Int) := by omega
        clear hS hlt
        go_wp2
        go_roundw
        case rel => exact ⟨i + 1, _, by omega, by go_num, rfl, by trivial⟩
        case measure => simp [intOf]; omega
      · obtain rfl : i = m := by omega
        by_cases hv : (20000 : Int) < v
        · go_wp2_with (go_at_call 15; (with_reducible refine (HW.out _).mono ?_); rintro e w1 ⟨rfl, hb1⟩)
          go_ret
          exact ⟨rfl, hb1⟩
        · go_wp2_with (first
            | (go_at_call 16; (with_reducible refine (HB.out _ (Below.refl _ _)).mono ?_); rintro e w1 ⟨p, rfl, ht⟩; have hb1 := ht.1; clear ht)
            | (go_at_call 17; (with_reducible refine (HC.out _ hb1).mono ?_); rintro e w2 ⟨rfl, hb2⟩; have hb3 := hb1.trans (hb2.mono hb1.size))
            | (go_at_call 18; (with_reducible refine (HLB.out _ hb3).mono ?_); rintro e w4 ⟨p4, rfl, ht⟩; have hb5 := hb3.trans (ht.1.mono hb3.size); clear ht)
            | (go_at_call 15; (with_reducible refine (HW.out _).mono ?_); rintro e w6 ⟨rfl, hb6⟩; have hb7 := hb5.trans (hb6.mono hb5.size)))
          go_ret
          exact ⟨rfl, hb7⟩
  · have HB := Lib.hid (fun V (hV : Below w.heap.size w V) => bld_err hc a0 cap0 V (w0.later hV) y0)
    have HC := Lib.hid (fun V (hV : Below w.heap.size w V) => rcheck_err hc a0 cap0 V (w0.later hV) y0)
    have hnz := hc.nz
    have hq : (c != 0) = true := by rw [bne_iff_ne]; exact hnz
    obtain ⟨m, hm⟩ : ∃ m, z0.length = m := ⟨_, rfl⟩
    rw [hm] at HR HB HC hlen ⊢
    clear w0 y0 hc hm
    go_enter Try.func3, Try.ntmps3
    go_wp2
    go_loopw [3, 11] (fun x z wr => ∃ (i : Nat) (v : Int), i ≤ m ∧ z = .int .i64 (i : Int) ∧ x = .int .i64 v ∧ wr = w) (fun _ z _ => m - (intOf z).toNat)
    case atStart => exact ⟨0, 0, Nat.zero_le _, rfl, rfl, rfl⟩
    case round =>
      obtain ⟨i, v, hi, rfl, rfl, rfl⟩ := hrel
      by_cases hlt : i < m
      · obtain ⟨b, off, rfl, hcell⟩ := HR.out _ (Below.refl _ _) i hlt
        obtain ⟨S, hS⟩ : ∃ S, ba (sg z0 i) = S := ⟨_, rfl⟩
        rw [hS] at hcell
        have hi0 : (0 : Int) ≤ (i : Int) := by omega
        have him : (i : Int) < (m : Int) := by omega
        clear hS hlt
        go_wp2
        go_roundw
        case rel => exact ⟨i + 1, _, by omega, by go_num, rfl, by trivial⟩
        case measure => simp [intOf]; omega
      · obtain rfl : i = m := by omega
        by_cases hv : (20000 : Int) < v
        · go_wp2_with (go_at_call 15; (with_reducible refine (HW.out _).mono ?_); rintro e w1 ⟨rfl, hb1⟩)
          go_ret
          exact ⟨rfl, hb1⟩
        · go_wp2_with (first
            | (go_at_call 16; (with_reducible refine (HB.out _ (Below.refl _ _)).mono ?_); rintro e w1 ⟨rfl, hb1⟩)
            | (go_at_call 17; (with_reducible refine (HC.out _ hb1).mono ?_); rintro e w2 ⟨rfl, hb2⟩; have hb3 := hb1.trans (hb2.mono hb1.size))
            | (go_at_call 15; (with_reducible refine (HW.out _).mono ?_); rintro e w6 ⟨rfl, hb6⟩; have hb7 := hb3.trans (hb6.mono hb3.size)))
          go_ret
          exact ⟨rfl, hb7⟩
theorem own : ownKnob Try.prog.godebug = none := by kernel_rfl
theorem laidOut : laidOutB Try.prog = true := by kernel_rfl

set_option maxRecDepth 100000 in
theorem lifted (os : Os) (started : os.Started) (H : Type) (enc : TypeId × Value → H) :
    ReturnsInHanded {} Try.checked os 3 .any (Rows.loudsBuildsSpec.pre6 enc Try.prog Try.f3 Rows.loudsBuildsRow.domain false) (Rows.loudsBuildsSpec.post enc Try.prog Try.f3 false true false false) := by
  refine returnsInHanded_of_change_shaped (C := Try.checked) own started (by kernel_rfl) Try.func3
    (ChangeSpec.witness6 (enc := enc) (C := Try.checked) false ⟨#[], #[.slice none 0 0], []⟩ 8 (by kernel_rfl) (by kernel_rfl) (by kernel_rfl) (by kernel_rfl)) ?_
  intro W base args ds gs before hval0 hW hcnd hsz0 hsh _
  have hval : ∀ (j : Nat) t v, Try.f3.params[j]? = some t → args[j]? = some v → Value.okWide Try.prog W .any base t v := hval0
  have hW' := hW
  obtain ⟨p, q, hA0, hV, rfl, hfz, hnd⟩ := hW
  have hA : DataW.TrodAll enc Try.prog W 0 (fun _ => true) true Try.f3.params.toList args.toList ds p := hA0
  rw [Try.params3] at hA hval
  obtain ⟨v0, vs0, d0, ds0, p0, q0, hargs, rfl, rfl, h0, r0⟩ := trodAll_cons hA
  obtain ⟨rfl, rfl, rfl⟩ := trodAll_nil r0
  obtain rfl : args = #[v0] := by cases args; simp_all
  obtain ⟨rfl, rfl⟩ := trodVars_none hV
  obtain ⟨a0, len0, cap0, rfl⟩ := okWide_slice Try.underlying22 (hval 0 22 v0 rfl rfl)
  have k0 := h0
  have lt0 : ∀ x ∈ p0, x.block < W.heap.size := by obtain ⟨m, hm⟩ := k0; exact DataW.trod_lt m _ _ _ hm
  obtain ⟨z0, w0, n0, y0⟩ : ∃ z, Reads W (.slice a0 len0 cap0) (Lo.strs z) ∧ z.length = len0 ∧ Lo.StrsOf d0 z := by
    obtain ⟨fuel, hf⟩ := h0
    exact Lo.strs_open hf
  clear hA0 hval0
  have hsz : (DataW.weightsEach Try.prog (Try.f3.params.toList ++ Rows.loudsBuildsSpec.plain.varTypes Try.prog) (_ ++ _)).all (· ≤ reachBytes) = true := hsz0
  rw [Try.params3] at hsz
  have sy0 := Lo.sized_strs hsz (j := 0) rfl rfl y0
  refine (walk a0 len0 cap0 z0 W w0 n0 sy0).mono fun e W' ⟨he, bel⟩ => ?_
  subst he
  exact ⟨_, rfl, _, _, _, [], _, [], hW', trodAll_mk1 (shut_bool Try.underlying4 _), (trodAll_cons_mk (Below.trod laidOut (by kernel_rfl) (of_decide_eq_true (by kernel_rfl)) k0 bel lt0) trodAll_mk0), rfl, bel.frame _, fun h => by cases h⟩

theorem over : Rows.loudsBuildsRow.holds Try.pinned (OpenSpec.ofChange Rows.loudsBuildsSpec) :=
  OpenClaim.holds_of_wide 3 Try.f3 rfl rfl rfl rfl rfl rfl rfl ⟨rfl, rfl, rfl, rfl, rfl⟩ rfl rfl rfl rfl rfl (by kernel_rfl) Try.func3 (by kernel_rfl)
    (of_decide_eq_true (by kernel_rfl)) (by unfold Func.isWrapper; first | (rw [if_pos (by decide +kernel)]; kernel_rfl) | (rw [if_neg (by decide +kernel)]; exact ⟨rfl, rfl⟩))
    (fun os started H enc _ => lifted os started H enc)

theorem proved : Rows.LoudsBuildsSaid := over
end Go.Proofs.Ytffljcfpofhkgaa.loudsBuilds
