/-
  PackedNone returns true: no sequence of too many numbers, none without an object. Conditions: none.
-/
import Derived.Test.YtleegkocahobkaaPkN
import Derived.OpenShut
import Derived.ShutString
import Derived.ChangeOld
import Derived.HandedShaped
import Derived.LaidMore
import Derived.Lay
import Derived.SizedLaws
import Derived.Deep.DeepHandedRow
import Derived.Test.YtleegkocahobkaaBvFr
set_option linter.unusedVariables false
set_option linter.unusedSimpArgs false
set_option maxRecDepth 100000
namespace Go.Proofs.Ytleegkocahobkaa.packedNone
open Go Go.RowKit Go.ChangeShapes Go.WideShapes Go.ChangeAt Go.Proofs.Ytleegkocahobkaa Go.Proofs.Ytleegkocahobkaa.Kit Go.Proofs.Ytleegkocahobkaa.Bv
open Go.ChangeMaps (open_string shut_string)
open Go.Proofs.Ytleegkocahobkaa.Pk
def d1 : List UInt8 := [1, 0, 16, 0, 0]
def d0 : List UInt8 := [0, 0, 16, 0, 0]
theorem dec1_none : decP d1 = none := by
  have h : num4 d1 = 1048577 := by decide +kernel
  unfold decP
  rw [h, if_neg (by decide), if_pos (.inl (by omega))]
theorem dec0_some (N : Nat) (hN : N = 1048576) : decP d0 = some (zs N) := by
  have h : d0 = pcode (zs N) := by
    rw [zs_code, hN]
    decide +kernel
  rw [h]
  exact decP_code _ (by rw [zs_len, hN]; exact Nat.le_refl _) (zs_u64 N)
set_option maxHeartbeats 4000000 in
theorem walk (w : World) :
    Calls Try.prog 10 #[] w fun e w' => e = .returned (.bool true) ∧ Below w.heap.size w w' := by
  obtain ⟨i0, hi, hz0, hz1, hz2⟩ := info_parts info_u64
  obtain ⟨N, hN⟩ : ∃ N : Nat, N = 1048576 := ⟨_, rfl⟩
  obtain ⟨M, hM⟩ : ∃ M : Nat, M = N + 1 := ⟨_, rfl⟩
  have hNz : (1048576 : Int) = (N : Int) := by omega
  have hMz : (1048577 : Int) = (M : Int) := by omega
  have HNZ := Lib.hid hNz
  have HMZ := Lib.hid hMz
  have HN := Lib.hid hN
  have HM := Lib.hid hM
  have HWK := Lib.hid works_pk
  have HD0 := Lib.hid (dec0_some N hN)
  have HD1 := Lib.hid dec1_none
  have hMl : M ≤ 2000000 := by omega
  have hM1 : 1 < M := by omega
  have HG := Lib.hid (fun W => get_pk_nil 0 W)
  have HL := Lib.hid (fun W => len_pk_nil W)
  have HW := Lib.hid (fun W => wid_pk_nil W)
  have HF : Hid (∀ W, Calls Try.prog 17 #[.pointer none, .int .u64 3] W fun e w' => e = .returned (.int .i64 0) ∧ Below W.heap.size W w') := Lib.hid (fun W => find_pk_nil 3 W)
  have HE := Lib.hid (fun W => encode_pk_nil W)
  clear hN hM hNz hMz
  go_enter Try.func10, Try.ntmps10
  go_wp2_with (first
    | (go_at_call 15; (with_reducible refine (HG.out _).mono ?_); rintro e w1 ⟨rfl, rfl⟩)
    | (go_at_call 24; (with_reducible refine (HL.out _).mono ?_); rintro e w1 ⟨rfl, rfl⟩)
    | (go_at_call 13; (with_reducible refine (HW.out _).mono ?_); rintro e w1 ⟨rfl, rfl⟩)
    | (go_at_call 17; (with_reducible refine (HF.out _).mono ?_); rintro e w2 ⟨rfl, hb2⟩)
    | (go_at_call 19; (with_reducible refine (HE.out _).mono ?_); rintro e w3 ⟨rfl, rfl⟩)
    | (at_make; refine wpList_make_full _ rfl _ _ _ rfl w2.heap.size 27 i0 (.int .u64 0) 1 Try.underlying22 hi hz0 hz1 _ _ _ _ M rfl rfl HMZ.out HMZ.out (by rw [hz2]; omega) (by unfold maxLen; omega) (Nat.le_refl _) ?_; intro w4 hown4 hg4))
  have hw0 : w4.ownsRow w2.heap.size 27 1 (.slice (some ⟨w2.heap.size, 0, none⟩) M M) M (u64s (zs M)) := by
    have h := hown4
    rw [show (Value.int IntKind.u64 0).cells = #[Value.int IntKind.u64 0] from rfl, toList_madeCells_one, Nat.mul_one] at h
    unfold zs u64s
    rw [List.map_replicate]
    exact h
  have hb4 : Below w2.heap.size w2 w4 := (Below.refl _ w2).grown hg4 (Nat.le_refl _) (fun j hj => by cases hj)
  have HB4 := Lib.hid (hb2.trans (hb4.mono hb2.size))
  have HLO := Lib.hid (fun W a c => pnew_long M a c W (by have := HM.out; have := HN.out; omega) (by unfold maxLen; omega))
  have hrd := own_reads hw0
  have hrd1 : Reads w4 (.slice (some ⟨w2.heap.size, 1, none⟩) N N) (u64s (zs N)) := by
    have h := reads_cut hrd (i := 1) (j := M) (by omega) (Nat.le_refl _)
    have e : ((u64s (zs M)).take M).drop 1 = u64s (zs N) := by
      rw [List.take_of_length_le (by rw [u64s_len, zs_len]; exact Nat.le_refl _), HM.out]
      unfold u64s zs
      rw [List.map_replicate, List.map_replicate, List.drop_replicate]
      rfl
    rw [e] at h
    have e2 : M - 1 = N := by have := HM.out; omega
    rw [e2] at h
    exact h
  have HNEW : Hid (Calls Try.prog 11 #[.slice (some ⟨w2.heap.size, 1, none⟩) N N] w4 fun e w' => ∃ p, e = .returned (.tuple #[.pointer (some ⟨p, 0, none⟩), .int .i64 0]) ∧ PkAt w4.heap.size w'.heap.size w' p (zs N) ∧ Below w4.heap.size w4 w') := Lib.hid (by
    have h := pnew_at (zs N) (some ⟨w2.heap.size, 1, none⟩) N w4 (by rw [zs_len, HN.out]; exact Nat.le_refl _) (zs_u64 N) (by rw [zs_len]; exact hrd1)
    rw [zs_len] at h
    exact h)
  have hNM : ((M - 1 : Nat) : Int) = (N : Int) := by have := HM.out; omega
  have hMN : M - 1 = N := by have := HM.out; omega
  clear hw0 hown4 hg4 hb4 hrd hrd1
  go_wp2_with (go_at_call 11; (with_reducible refine (HLO.out _ _ _).mono ?_); rintro e w5 ⟨rfl, rfl⟩; clear HLO)
  have hNd : ((N : Int) != 1048576) = false := by rw [bne_eq_false_iff_eq]; exact HNZ.out.symm
  have hNe : ((N : Int) == 1048576) = true := by rw [beq_iff_eq]; exact HNZ.out.symm
  have HDE1 : Hid (∀ (W : World) (B : Nat), B = W.heap.size → Calls Try.prog 22 #[.slice (some ⟨B, 0, none⟩) 5 5] (W.alloc (.cells #[.int .u8 1, .int .u8 0, .int .u8 16, .int .u8 0, .int .u8 0] 5)) fun e w' => e = .returned (.tuple #[.pointer none, .int .i64 5]) ∧ Below (W.alloc (.cells #[.int .u8 1, .int .u8 0, .int .u8 16, .int .u8 0, .int .u8 0] 5)).heap.size (W.alloc (.cells #[.int .u8 1, .int .u8 0, .int .u8 16, .int .u8 0, .int .u8 0] 5)) w') := Lib.hid (fun W B hB => by
    have h := pdec_any d1 (some ⟨B, 0, none⟩) 5 (W.alloc (.cells #[.int .u8 1, .int .u8 0, .int .u8 16, .int .u8 0, .int .u8 0] 5)) (reads_lit W #[.int .u8 1, .int .u8 0, .int .u8 16, .int .u8 0, .int .u8 0] 5 B 5 hB rfl (by simp [maxLen])) (by decide)
    rw [HD1.out] at h
    exact h)
  have HDE0 : Hid (∀ (W : World) (B : Nat), B = W.heap.size → Calls Try.prog 22 #[.slice (some ⟨B, 0, none⟩) 5 5] (W.alloc (.cells #[.int .u8 0, .int .u8 0, .int .u8 16, .int .u8 0, .int .u8 0] 5)) fun e w' => ∃ p, e = .returned (.tuple #[.pointer (some ⟨p, 0, none⟩), .int .i64 0]) ∧ Hid (PkAt (W.alloc (.cells #[.int .u8 0, .int .u8 0, .int .u8 16, .int .u8 0, .int .u8 0] 5)).heap.size w'.heap.size w' p (zs N)) ∧ Below (W.alloc (.cells #[.int .u8 0, .int .u8 0, .int .u8 16, .int .u8 0, .int .u8 0] 5)).heap.size (W.alloc (.cells #[.int .u8 0, .int .u8 0, .int .u8 16, .int .u8 0, .int .u8 0] 5)) w') := Lib.hid (fun W B hB => by
    have h := pdec_any d0 (some ⟨B, 0, none⟩) 5 (W.alloc (.cells #[.int .u8 0, .int .u8 0, .int .u8 16, .int .u8 0, .int .u8 0] 5)) (reads_lit W #[.int .u8 0, .int .u8 0, .int .u8 16, .int .u8 0, .int .u8 0] 5 B 5 hB rfl (by simp [maxLen])) (by decide)
    rw [HD0.out] at h
    refine h.mono ?_
    rintro e w' ⟨p, h1, h2, h3⟩
    exact ⟨p, h1, Lib.hid h2, h3⟩)
  have HLN : Hid (∀ (B0 B1 p : Nat) (W : World), PkAt B0 B1 W p (zs N) → Calls Try.prog 24 #[.pointer (some ⟨p, 0, none⟩)] W fun e w' => e = .returned (.int .i64 (N : Int)) ∧ W = w') := Lib.hid (fun B0 B1 p W h => by have h2 := len_pk h; rw [zs_len] at h2; exact h2)
  have HWN : Hid (∀ (B0 B1 p : Nat) (W : World), PkAt B0 B1 W p (zs N) → Calls Try.prog 13 #[.pointer (some ⟨p, 0, none⟩)] W fun e w' => e = .returned (.int .i64 0) ∧ W = w') := Lib.hid (fun B0 B1 p W h => by have h2 := wid_pk h; rw [zs_wid] at h2; exact h2)
  clear hNM hMN HG HL HW HF HE HD0 HD1
  go_wp2_with (first
    | (go_at_call 11; (with_reducible refine HNEW.out.mono ?_); rintro e w6 ⟨p, rfl, hv6, hb6⟩; have HB6 := Lib.hid (HB4.out.trans (hb6.mono HB4.out.size)); have HL6 := Lib.hid (HLN.out _ _ _ _ hv6); have HW6 := Lib.hid (HWN.out _ _ _ _ hv6); have HDA := Lib.hid (HDE1.out w6 w6.heap.size rfl); have HB6a : Hid (Below w.heap.size w (w6.alloc (.cells #[.int .u8 1, .int .u8 0, .int .u8 16, .int .u8 0, .int .u8 0] 5))) := Lib.hid (HB6.out.alloc HB6.out.size _); clear hv6 hb6 HNEW)
    | (go_at_call 24; (with_reducible refine HL6.out.mono ?_); rintro e w7 ⟨rfl, rfl⟩; clear HL6)
    | (go_at_call 13; (with_reducible refine HW6.out.mono ?_); rintro e w7 ⟨rfl, rfl⟩; clear HW6)
    | (go_at_call 22; (with_reducible refine HDA.out.mono ?_); rintro e w8 ⟨rfl, hb8⟩; have HB8 := Lib.hid (HB6a.out.trans (hb8.mono HB6a.out.size)); have HDB := Lib.hid (HDE0.out w8 w8.heap.size rfl); have HB8a : Hid (Below w.heap.size w (w8.alloc (.cells #[.int .u8 0, .int .u8 0, .int .u8 16, .int .u8 0, .int .u8 0] 5))) := Lib.hid (HB8.out.alloc HB8.out.size _); clear hb8 HDA)
    | (go_at_call 22; (with_reducible refine HDB.out.mono ?_); rintro e w9 ⟨q, rfl, hv9, hb9⟩; have HB9 := Lib.hid (HB8a.out.trans (hb9.mono HB8a.out.size)); have HL9 := Lib.hid (HLN.out _ _ _ _ hv9.out); clear hb9 hv9 HDB)
    | (go_at_call 24; (with_reducible refine HL9.out.mono ?_); rintro e w10 ⟨rfl, rfl⟩; clear HL9)
    | (go_at_call 16; (with_reducible refine (HWK.out _).mono ?_); rintro e w11 ⟨rfl, hb11⟩; have HB11 := Lib.hid (HB9.out.trans (hb11.mono HB9.out.size)); clear hb11))
  go_ret
  exact ⟨rfl, HB11.out⟩
theorem own : ownKnob Try.prog.godebug = none := by kernel_rfl
theorem laidOut : laidOutB Try.prog = true := by kernel_rfl

set_option maxRecDepth 100000 in
theorem lifted (os : Os) (started : os.Started) (H : Type) (enc : TypeId × Value → H) :
    ReturnsInHanded {} Try.checked os 10 .any (Rows.packedNoneSpec.pre6 enc Try.prog Try.f10 Rows.packedNoneRow.domain false) (Rows.packedNoneSpec.post enc Try.prog Try.f10 false true false false) := by
  refine returnsInHanded_of_change_shaped (C := Try.checked) own started (by kernel_rfl) Try.func10
    (ChangeSpec.witness6 (enc := enc) (C := Try.checked) false ⟨#[], #[], []⟩ 8 (by kernel_rfl) (by kernel_rfl) (by kernel_rfl) (by kernel_rfl)) ?_
  intro W base args ds gs before hval0 hW hcnd hsz0 hsh _
  have hval : ∀ (j : Nat) t v, Try.f10.params[j]? = some t → args[j]? = some v → Value.okWide Try.prog W .any base t v := hval0
  have hW' := hW
  obtain ⟨p, q, hA0, hV, rfl, hfz, hnd⟩ := hW
  have hA : DataW.TrodAll enc Try.prog W 0 (fun _ => true) true Try.f10.params.toList args.toList ds p := hA0
  rw [Try.params10] at hA hval
  obtain ⟨rfl, rfl, rfl⟩ := trodAll_none hA
  obtain ⟨rfl, rfl⟩ := trodVars_none hV
  clear hA0 hval0
  refine (walk W).mono fun e W' ⟨he, bel⟩ => ?_
  subst he
  exact ⟨_, rfl, _, _, _, [], _, [], hW', trodAll_mk1 (shut_bool Try.underlying4 _), trodAll_mk0, rfl, bel.frame _, fun h => by cases h⟩

theorem over : Rows.packedNoneRow.holds Try.pinned (OpenSpec.ofChange Rows.packedNoneSpec) :=
  OpenClaim.holds_of_wide 10 Try.f10 rfl rfl rfl rfl rfl rfl rfl ⟨rfl, rfl, rfl, rfl, rfl⟩ rfl rfl rfl rfl rfl (by kernel_rfl) Try.func10 (by kernel_rfl)
    (of_decide_eq_true (by kernel_rfl)) (by unfold Func.isWrapper; first | (rw [if_pos (by decide +kernel)]; kernel_rfl) | (rw [if_neg (by decide +kernel)]; exact ⟨rfl, rfl⟩))
    (fun os started H enc _ => lifted os started H enc)

theorem proved : Rows.PackedNoneSaid := over
end Go.Proofs.Ytleegkocahobkaa.packedNone
