/-
  PackedBack returns true for every list of numbers: what is encoded is decoded as it was, and the code has its size. Conditions: none.
-/
import Derived.Test.YtleegkocahobkaaPkN
import Derived.OpenShut
import Derived.ShutString
import Derived.ChangeOld
import Derived.HandedShaped
import Derived.LaidMore
import Derived.Lay
import Derived.SizedLaws
import Derived.Deep.DeepHandedRow
import Derived.Test.YtleegkocahobkaaBvFr
set_option linter.unusedVariables false
set_option linter.unusedSimpArgs false
set_option maxRecDepth 100000
namespace Go.Proofs.Ytleegkocahobkaa.packedBack
open Go Go.RowKit Go.ChangeShapes Go.WideShapes Go.ChangeAt Go.Proofs.Ytleegkocahobkaa Go.Proofs.Ytleegkocahobkaa.Kit Go.Proofs.Ytleegkocahobkaa.Bv
open Go.ChangeMaps (open_string shut_string)
open Go.Proofs.Ytleegkocahobkaa.Pk
set_option maxHeartbeats 4000000 in
theorem walk (a0 : Option Addr) (len0 cap0 : Nat) (z0 : List Int) (w : World) (w0 : IsRow .u64 w a0 len0 cap0 z0) :
    Calls Try.prog 7 #[.slice a0 len0 cap0] w fun e w' => e = .returned (.bool true) ∧ Below w.heap.size w w' := by
  obtain ⟨l, hR, rfl, hx⟩ := u64_of_row w0
  clear w0
  have hlen := hR.len.2
  unfold maxLen at hlen
  by_cases hl : l.length ≤ 3000
  · have HN := Lib.hid (pnew_at l a0 cap0 w (by omega) hx hR)
    have HWK := Lib.hid works_pk
    have hlz : (l.length : Int) ≤ 3000 := by omega
    have HENC := Lib.hid (fun (B0 B1 p : Nat) (w : World) (h : PkAt B0 B1 w p l) (hB : B1 ≤ w.heap.size) => encode_at h hB (by omega) hx)
    have HHAS := Lib.hid (fun (B0 B1 p : Nat) (W : World) (h : PkAt B0 B1 W p l) (hB : B1 ≤ W.heap.size) (hW : Below w.heap.size w W) => has_yes h hB (by omega) hx a0 cap0 (hR.later hW))
    have HWID := Lib.hid (fun (B0 B1 p : Nat) (W : World) (h : PkAt B0 B1 W p l) => wid_pk h)
    have hW := wid_64 hx
    have hcl := pcode_len l
    have hdc := decP_code l (by omega) hx
    obtain ⟨n, hn⟩ : ∃ n, l.length = n := ⟨_, rfl⟩
    rw [hn] at hlen hl hlz HN HHAS hcl ⊢
    obtain ⟨V, hV⟩ : ∃ V, wid l = V := ⟨_, rfl⟩
    rw [hV] at hW hcl HWID
    obtain ⟨cb, hcb⟩ : ∃ cb, pcode l = cb := ⟨_, rfl⟩
    rw [hcb] at HENC hdc hcl
    obtain ⟨M, hM⟩ : ∃ M, n * V = M := ⟨_, rfl⟩
    have hMl : M ≤ 3000 * 64 := by rw [← hM]; exact Nat.mul_le_mul hl hW
    have hmul := mul_nat 3 n V M hM (by omega)
    rw [hM] at hcl
    obtain ⟨D, hD⟩ : ∃ D, (M + 7) / 8 = D := ⟨_, rfl⟩
    have h7 : (M : Int) + 7 = ((M + 7 : Nat) : Int) := by omega
    have hquo := quo_nat 3 (M + 7) 8 D (by omega) (by decide) hD
    rw [← h7] at hquo
    simp only [Int.cast_ofNat_Int] at hquo
    rw [hD] at hcl
    have hDl : D ≤ 30000 := by omega
    have HDEC := Lib.hid (fun (W : World) (a : Option Addr) (c : Nat) (h : Reads W (.slice a cb.length c) (u8s cb)) => pdec_any cb a c W h (by omega))
    rw [hdc] at HDEC
    obtain ⟨N, hNN⟩ : ∃ N, cb.length = N := ⟨_, rfl⟩
    have hNz : ((N : Int) == 5 + (D : Int)) = true := by rw [beq_iff_eq]; omega
    have hVV : ((V : Int) == (V : Int)) = true := beq_self_eq_true _
    have HNN := Lib.hid hNN
    have HSAM := Lib.hid (fun (a1 a2 : Option Addr) (c1 c2 : Nat) (W : World) (h1 : Reads W (.slice a1 cb.length c1) (u8s cb)) (h2 : Reads W (.slice a2 cb.length c2) (u8s cb)) => samb_any cb cb a1 a2 c1 c2 true (decide_eq_true rfl) W h1 h2)
    have HENC2 : Hid (∀ (B0 B1 p : Nat) (w : World), PkAt B0 B1 w p l → B1 ≤ w.heap.size → Calls Try.prog 19 #[.pointer (some ⟨p, 0, none⟩)] w fun e w' => ∃ a c, e = .returned (.slice a N c) ∧ w'.ownsRow w.heap.size 5 1 (.slice a N c) N (u8s cb) ∧ Below w.heap.size w w') := Lib.hid (fun B0 B1 p w h hB => by have h := HENC.out B0 B1 p w h hB; unfold EncPost at h; rw [hNN] at h; exact h)
    rw [hNN] at HDEC HSAM
    clear hn hR hx hV hcb hM hD h7 hcl hdc hNN HENC
    go_enter Try.func7, Try.ntmps7
    go_wp2_with (first
      | (go_at_call 11; (with_reducible refine HN.out.mono ?_); rintro e w7 ⟨p, rfl, hv, hb7⟩; have HV := Lib.hid hv; have HB7 := Lib.hid hb7; have HE := Lib.hid (HENC2.out _ _ _ _ hv (Nat.le_refl _)); clear hv hb7 HN)
      | (go_at_call 19; (with_reducible refine HE.out.mono ?_); rintro e w8 ⟨a8, c8, rfl, ho8, hb8⟩; have HO8 := Lib.hid ho8; have HB8a := Lib.hid hb8; have HB8 := Lib.hid (HB7.out.trans (hb8.mono HB7.out.size)); have HD := Lib.hid (HDEC.out _ _ _ (own_reads ho8)); have hh8 := (own_reads ho8).len.2; unfold maxLen at hh8; clear ho8 hb8 HE)
      | (go_at_call 22; (with_reducible refine HD.out.mono ?_); rintro e w9 ⟨q, rfl, hq, hb9⟩; have HQ := Lib.hid hq; have HB9a := Lib.hid hb9; have HB9 := Lib.hid (HB8.out.trans (hb9.mono HB8.out.size)); have HH := Lib.hid (HHAS.out _ _ _ _ hq (Nat.le_refl _) HB9.out); clear hq hb9 HD)
      | (go_at_call 12; (with_reducible refine HH.out.mono ?_); rintro e w10 ⟨rfl, hb10⟩; have HB10 := Lib.hid (HB9.out.trans (hb10.mono HB9.out.size)); have HQ10 := Lib.hid (HQ.out.below hb10 (Nat.le_refl _)); have hz10 := hb10.size; have hz9 := HB9a.out.size; have hz8 := HB8a.out.size; have HP10 := Lib.hid (((HV.out.below HB8a.out (Nat.le_refl _)).below HB9a.out hz8).below hb10 (by omega)); have HO10 := Lib.hid (own_later (own_later HO8.out HB9a.out) hb10); have HWQ := Lib.hid (HWID.out _ _ _ _ HQ10.out); have HWP := Lib.hid (HWID.out _ _ _ _ HP10.out); have HE2 := Lib.hid (HENC2.out _ _ _ _ HQ10.out hz10); clear hb10 HH)
      | (go_at_call 13; (with_reducible refine HWQ.out.mono ?_); rintro e w11 ⟨rfl, rfl⟩; clear HWQ)
      | (go_at_call 13; (with_reducible refine HWP.out.mono ?_); rintro e w11 ⟨rfl, rfl⟩; clear HWP)
      | (go_at_call 19; (with_reducible refine HE2.out.mono ?_); rintro e w12 ⟨a12, c12, rfl, ho12, hb12⟩; have HB12 := Lib.hid (HB10.out.trans (hb12.mono HB10.out.size)); have HP12 := Lib.hid (HP10.out.below hb12 (by omega)); have hz12 := hb12.size; have HS := Lib.hid (HSAM.out _ _ _ _ _ (own_reads ho12) (own_reads (own_later HO10.out hb12))); clear ho12 hb12 HE2)
      | (go_at_call 20; (with_reducible refine HS.out.mono ?_); rintro e w13 ⟨rfl, hb13⟩; have HB13 := Lib.hid (HB12.out.trans (hb13.mono HB12.out.size)); have HWP2 := Lib.hid (HWID.out _ _ _ _ (HP12.out.below hb13 (by omega))); clear hb13 HS)
      | (go_at_call 13; (with_reducible refine HWP2.out.mono ?_); rintro e w14 ⟨rfl, rfl⟩; clear HWP2)
      | (go_at_call 16; (with_reducible refine (HWK.out _).mono ?_); rintro e w15 ⟨rfl, hb15⟩; have HB15 := Lib.hid (HB13.out.trans (hb15.mono HB13.out.size)); clear hb15))
    go_ret
    exact ⟨rfl, HB15.out⟩
  · have hlz : (3000 : Int) < (l.length : Int) := by omega
    clear hl hR hx
    go_enter Try.func7, Try.ntmps7
    go_wp2
    go_ret
    exact ⟨rfl, Below.refl _ _⟩
theorem own : ownKnob Try.prog.godebug = none := by kernel_rfl
theorem laidOut : laidOutB Try.prog = true := by kernel_rfl

set_option maxRecDepth 100000 in
theorem lifted (os : Os) (started : os.Started) (H : Type) (enc : TypeId × Value → H) :
    ReturnsInHanded {} Try.checked os 7 .any (Rows.packedBackSpec.pre6 enc Try.prog Try.f7 Rows.packedBackRow.domain false) (Rows.packedBackSpec.post enc Try.prog Try.f7 false true false false) := by
  refine returnsInHanded_of_change_shaped (C := Try.checked) own started (by kernel_rfl) Try.func7
    (ChangeSpec.witness6 (enc := enc) (C := Try.checked) false ⟨#[], #[.slice none 0 0], []⟩ 8 (by kernel_rfl) (by kernel_rfl) (by kernel_rfl) (by kernel_rfl)) ?_
  intro W base args ds gs before hval0 hW hcnd hsz0 hsh _
  have hval : ∀ (j : Nat) t v, Try.f7.params[j]? = some t → args[j]? = some v → Value.okWide Try.prog W .any base t v := hval0
  have hW' := hW
  obtain ⟨p, q, hA0, hV, rfl, hfz, hnd⟩ := hW
  have hA : DataW.TrodAll enc Try.prog W 0 (fun _ => true) true Try.f7.params.toList args.toList ds p := hA0
  rw [Try.params7] at hA hval
  obtain ⟨v0, vs0, d0, ds0, p0, q0, hargs, rfl, rfl, h0, r0⟩ := trodAll_cons hA
  obtain ⟨rfl, rfl, rfl⟩ := trodAll_nil r0
  obtain rfl : args = #[v0] := by cases args; simp_all
  obtain ⟨rfl, rfl⟩ := trodVars_none hV
  obtain ⟨a0, len0, cap0, rfl⟩ := okWide_slice Try.underlying22 (hval 0 22 v0 rfl rfl)
  have k0 := h0
  have lt0 : ∀ x ∈ p0, x.block < W.heap.size := by obtain ⟨m, hm⟩ := k0; exact DataW.trod_lt m _ _ _ hm
  obtain ⟨z0, w0⟩ : ∃ zs, IsRow .u64 W a0 len0 cap0 zs := by
    obtain ⟨fuel, hf⟩ := h0
    rcases open_ints Try.underlying22 Try.underlying27 (by kernel_rfl) hf with ⟨hcs, _⟩ | ⟨x, l, c, zs, hcs, _, hl, hm, hz, _, hcell, hwz⟩
    · simp [Value.cells] at hcs
      obtain ⟨rfl, rfl, rfl⟩ := hcs
      exact ⟨[], .inl ⟨rfl, rfl, rfl, rfl⟩⟩
    · simp [Value.cells] at hcs
      obtain ⟨rfl, rfl, rfl⟩ := hcs
      exact ⟨zs, .inr ⟨_, rfl, hl, hm, by simpa using hz, hcell, hwz⟩⟩
  clear hA0 hval0
  refine (walk a0 len0 cap0 z0 W w0).mono fun e W' ⟨he, bel⟩ => ?_
  subst he
  exact ⟨_, rfl, _, _, _, [], _, [], hW', trodAll_mk1 (shut_bool Try.underlying4 _), (trodAll_cons_mk (Below.trod laidOut (by kernel_rfl) (of_decide_eq_true (by kernel_rfl)) k0 bel lt0) trodAll_mk0), rfl, bel.frame _, fun h => by cases h⟩

theorem over : Rows.packedBackRow.holds Try.pinned (OpenSpec.ofChange Rows.packedBackSpec) :=
  OpenClaim.holds_of_wide 7 Try.f7 rfl rfl rfl rfl rfl rfl rfl ⟨rfl, rfl, rfl, rfl, rfl⟩ rfl rfl rfl rfl rfl (by kernel_rfl) Try.func7 (by kernel_rfl)
    (of_decide_eq_true (by kernel_rfl)) (by unfold Func.isWrapper; first | (rw [if_pos (by decide +kernel)]; kernel_rfl) | (rw [if_neg (by decide +kernel)]; exact ⟨rfl, rfl⟩))
    (fun os started H enc _ => lifted os started H enc)

theorem proved : Rows.PackedBackSaid := over
end Go.Proofs.Ytleegkocahobkaa.packedBack
