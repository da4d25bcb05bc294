/-
  BitvecReturns returns true for every list of bits and every list of bytes: a vector that is encoded and decoded has the same bits, and bytes that are accepted are the code of what they are decoded to. Conditions: none.
-/
import Derived.Test.YtlmhkhjjpfmkcaaBvM
import Derived.Test.YtlmhkhjjpfmkcaaBvFr
import Derived.Deep.RegionLaw
import Derived.StillTailTactics
import Derived.OpenShut
import Derived.ShutString
import Derived.ChangeOld
import Derived.HandedShaped
import Derived.LaidMore
import Derived.Lay
import Derived.SizedLaws
import Derived.Deep.DeepHandedRow
import Derived.Test.YtlmhkhjjpfmkcaaBvFr
set_option linter.unusedVariables false
set_option linter.unusedSimpArgs false
set_option maxRecDepth 100000
namespace Go.Proofs.Ytlmhkhjjpfmkcaa.bitvecReturns
open Go Go.RowKit Go.ChangeShapes Go.WideShapes Go.ChangeAt Go.Proofs.Ytlmhkhjjpfmkcaa Go.Proofs.Ytlmhkhjjpfmkcaa.Kit Go.Proofs.Ytlmhkhjjpfmkcaa.Bv
open Go.ChangeMaps (open_string shut_string)
set_option maxHeartbeats 4000000 in
theorem walk (a0 : Option Addr) (len0 cap0 : Nat) (z0 : List Bool) (a1 : Option Addr) (len1 cap1 : Nat) (z1 : List UInt8) (w : World) (w0 : Reads w (.slice a0 len0 cap0) (bls z0)) (n0 : z0.length = len0) (w1 : Reads w (.slice a1 len1 cap1) (u8s z1)) (n1 : z1.length = len1) :
    Calls Try.prog 9 #[.slice a0 len0 cap0, .slice a1 len1 cap1] w fun e w' => e = .returned (.bool true) ∧ Below w.heap.size w w' := by
  have hlen := w0.len.2
  have hlen1 := w1.len.2
  unfold maxLen at hlen hlen1
  subst n0
  subst n1
  by_cases hl : z0.length ≤ 3000
  · by_cases hl1 : z1.length ≤ 1000
    · have HN := Lib.hid (new_ok z0 a0 cap0 w (by omega) w0)
      have H0 := Lib.hid w0
      have HWK := Lib.hid works_any
      have hlz : (z0.length : Int) ≤ 3000 := by omega
      have hlz1 : (z1.length : Int) ≤ 1000 := by omega
      have hl3 : z0.length ≤ 1048576 := by omega
      have HL3 := Lib.hid hl3
      have HL30 := Lib.hid hl
      have hcl : (code z0).length ≤ 100000 := by rw [code_len]; unfold nw nc; omega
      have HENC := Lib.hid (fun (B0 B1 p : Nat) (w : World) (h : VecAt B0 B1 w p z0) (hB : B1 ≤ w.heap.size) => encode_any h hB hl3)
      have HDEC := Lib.hid (fun (a : Option Addr) (cap : Nat) (W : World) (h : Reads W (.slice a (code z0).length cap) (u8s (code z0))) => decode_any (code z0) a cap W h (by omega))
      have hdc := decL_code z0 hl3
      rw [hdc] at HDEC
      have HBIT := Lib.hid (fun (B0 B1 p : Nat) (w : World) (h : VecAt B0 B1 w p z0) (hB : B1 ≤ w.heap.size) => bits_any h hB (by omega))
      have HLEN := Lib.hid (fun (B0 B1 p : Nat) (w : World) (h : VecAt B0 B1 w p z0) => len_any h)
      have HSAM := Lib.hid (fun (a : Option Addr) (c : Nat) (W : World) (h : Reads W (.slice a z0.length c) (bls z0)) (hW : Below w.heap.size w W) => same_yes z0 a a0 c cap0 W h (w0.later hW))
      have HD1 := Lib.hid (fun W (hW : Below w.heap.size w W) => decode_any z1 a1 cap1 W (w1.later hW) (by omega))
      have HC1 := Lib.hid (fun W (hW : Below w.heap.size w W) => conv_reads (w1.later hW))
      have HDS := Lib.hid (fun l h => @decL_some z1 l h)
      obtain ⟨n, hn⟩ : ∃ n, z0.length = n := ⟨_, rfl⟩
      rw [hn] at hlen hl hlz H0 HN HBIT HLEN HSAM ⊢
      obtain ⟨cb, hcb⟩ : ∃ cb, code z0 = cb := ⟨_, rfl⟩
      rw [hcb] at hcl HENC HDEC
      obtain ⟨m, hm⟩ : ∃ m, z1.length = m := ⟨_, rfl⟩
      rw [hm] at hlen1 hl1 hlz1 HD1 HC1 ⊢
      clear hn w0 w1 hl3 hcb hdc hm
      go_enter Try.func9, Try.ntmps9
      go_wp2_with (first
        | (go_at_call 12; (with_reducible refine HN.out.mono ?_); rintro e w7 ⟨p, rfl, hv, hb7⟩; have HV := Lib.hid hv; have HB7 := Lib.hid hb7; have HE := Lib.hid (HENC.out _ _ _ _ hv (Nat.le_refl _)); clear hv hb7)
        | (go_at_call 23; (with_reducible refine HE.out.mono ?_); rintro e w8 ⟨a8, c8, rfl, ho8, hb8⟩; have HB8 := Lib.hid (HB7.out.trans (hb8.mono HB7.out.size)); have HD := Lib.hid (HDEC.out _ _ _ (own_reads ho8)); clear ho8 hb8 HE)
        | (go_at_call 25; (with_reducible refine HD.out.mono ?_); rintro e w9 ⟨p9, rfl, hv9, hb9⟩; have HB9 := Lib.hid (HB8.out.trans (hb9.mono HB8.out.size)); have HV9 := Lib.hid hv9; have HLN := Lib.hid (HLEN.out _ _ _ _ hv9); have HBT := Lib.hid (HBIT.out _ _ _ _ hv9 (Nat.le_refl _)); clear hv9 hb9 HD)
        | (go_at_call 14; (with_reducible refine HLN.out.mono ?_); rintro e w4 ⟨rfl, rfl⟩)
        | (go_at_call 15; (with_reducible refine HBT.out.mono ?_); rintro e w10 ⟨a10, c10, rfl, ho10, hb10⟩; have HB10 := Lib.hid (HB9.out.trans (hb10.mono HB9.out.size)); have HSM := Lib.hid (HSAM.out _ _ _ (own_reads ho10) HB10.out); clear ho10 hb10)
        | (go_at_call 13; (with_reducible refine HSM.out.mono ?_); rintro e w11 ⟨rfl, hb11⟩; have HB11 := Lib.hid (HB10.out.trans (hb11.mono HB10.out.size)); have HDB := Lib.hid (HD1.out _ HB11.out); clear hb11))
      have hdb := HDB.out
      cases ho : decL z1 with
      | none =>
        rw [ho] at hdb
        have HDN := Lib.hid hdb
        clear hdb HDB ho
        go_wp2_with (go_at_call 25; (with_reducible refine HDN.out.mono ?_); rintro e w12 ⟨rfl, hb12⟩; have HB12 := Lib.hid (HB11.out.trans (hb12.mono HB11.out.size)); clear hb12)
        clear HN HV HB7 HB8 HB9 HV9 HLN HBT HB10 HSM HB11 HDN HENC HDEC HBIT HLEN HSAM HD1 HC1 HDS hcl hlen hlen1 hl hl1 hlz hlz1 H0 HL3 HL30
        have hne : ((5 : Int) != 0) = true := by decide
        refine wp_region_any (by kernel_rfl) ?_
        change wpAny _ _ _ _ _ _ _ (World.drew _)
        refine wpAny_take (i := 0) (v := .int .i64 5) rfl (by kernel_rfl) (by kernel_rfl) (by kernel_rfl) (fun _ _ _ h => h) (Or.inl ⟨by kernel_rfl, fun w => by kernel_rfl⟩) ?_
        refine wpAny_take (i := 1) (v := .bool true) rfl (by kernel_rfl) (by kernel_rfl) (by kernel_rfl) (fun _ _ _ h => h) (Or.inl ⟨by kernel_rfl, fun w => by kernel_rfl⟩) ?_
        refine wpAny_take (i := 2) (v := .bool true) rfl (by kernel_rfl) (by kernel_rfl) (by kernel_rfl) (fun _ _ _ h => h) (Or.inl ⟨by kernel_rfl, fun w => by kernel_rfl⟩) ?_
        refine wpAny_take (i := 3) (v := undef) rfl (by kernel_rfl) (by kernel_rfl) (by kernel_rfl) (fun _ _ _ h => h) (Or.inr ⟨by kernel_rfl, rfl⟩) ?_
        refine wpAny_take (i := 4) (v := undef) rfl (by kernel_rfl) (by kernel_rfl) (by kernel_rfl) (fun _ _ _ h => h) (Or.inr ⟨by kernel_rfl, rfl⟩) ?_
        refine wpAny_take (i := 5) (v := undef) rfl (by kernel_rfl) (by kernel_rfl) (by kernel_rfl) (fun _ _ _ h => h) (Or.inr ⟨by kernel_rfl, rfl⟩) ?_
        refine wpAny_take (i := 6) (v := undef) rfl (by kernel_rfl) (by kernel_rfl) (by kernel_rfl) (fun _ _ _ h => h) (Or.inr ⟨by kernel_rfl, rfl⟩) ?_
        refine wpAny_take (i := 7) (v := undef) rfl (by kernel_rfl) (by kernel_rfl) (by kernel_rfl) (fun _ _ _ h => h) (Or.inr ⟨by kernel_rfl, rfl⟩) ?_
        refine wpAny_take (i := 8) (v := undef) rfl (by kernel_rfl) (by kernel_rfl) (by kernel_rfl) (fun _ _ _ h => h) (Or.inr ⟨by kernel_rfl, rfl⟩) ?_
        refine wpAny_take (i := 9) (v := .bool true) rfl (by kernel_rfl) (by kernel_rfl) (by kernel_rfl) (fun _ _ _ h => h) (Or.inl ⟨by kernel_rfl, fun w => by kernel_rfl⟩) ?_
        refine wpAny_take (i := 10) (v := .bool true) rfl (by kernel_rfl) (by kernel_rfl) (by kernel_rfl) (fun _ _ _ h => h) (Or.inl ⟨by kernel_rfl, fun w => by kernel_rfl⟩) ?_
        refine wpAny_ready (rs := [11]) (by kernel_rfl) (by simp) ?_
        refine AllReady.cons rfl (fun K hK => ?_) ?_
        · go_simp
          go_at_call 18
          (with_reducible refine (HWK.out _).mono ?_)
          rintro e w13 ⟨rfl, hb13⟩
          have HB13 : Hid (Below w.heap.size w w13) := Lib.hid (HB12.out.drew.trans (hb13.mono HB12.out.size))
          clear hb13
          try go_simp
          refine hK _ _ ?_
          clear hK K
          refine wpAny_take (i := 12) (v := .bool true) rfl (by kernel_rfl) (by kernel_rfl) (by kernel_rfl) (fun _ _ _ h => h) (Or.inl ⟨by kernel_rfl, fun w => by kernel_rfl⟩) ?_
          refine wpAny_take (i := 13) (v := .bool true) rfl (by kernel_rfl) (by kernel_rfl) (by kernel_rfl) (fun _ _ _ h => h) (Or.inl ⟨by kernel_rfl, fun w => by kernel_rfl⟩) ?_
          refine wpAny_done (by kernel_rfl) ?_ _
          go_wp2
          go_ret
          exact ⟨rfl, HB13.out⟩
        · exact AllReady.nil
      | some l =>
        rw [ho] at hdb
        have HDN := Lib.hid hdb
        obtain ⟨hc, hll⟩ := HDS.out l ho
        have HENL := Lib.hid (fun (B0 B1 p : Nat) (w : World) (h : VecAt B0 B1 w p l) (hB : B1 ≤ w.heap.size) => encode_any h hB hll)
        rw [hc] at HENL
        clear hdb HDB ho hc hll
        go_wp2_with (go_at_call 25; (with_reducible refine HDN.out.mono ?_); rintro e w12 ⟨p12, rfl, hv12, hb12⟩; have HB12 := Lib.hid (HB11.out.trans (hb12.mono HB11.out.size)); have HV12 := Lib.hid hv12; have hcv := HC1.out _ HB12.out; have hcvd := HC1.out _ HB12.out.drew; have HE0 := Lib.hid (HENL.out _ _ _ _ hv12 (Nat.le_refl _)); have HE1 := Lib.hid (HENL.out _ _ p12 w12.drew (hv12.later (fun _ _ _ => rfl)) (Nat.le_refl _)); clear hb12 hv12)
        go_region_law (first
          | (go_simp; go_at_call 23; (first | (with_reducible refine HE0.out.mono ?_) | (with_reducible refine HE1.out.mono ?_)); rintro e w14 ⟨a14, c14, rfl, ho14, hb14⟩; have HB14 : Hid (Below w.heap.size w w14) := Lib.hid (by first | exact HB12.out.trans (hb14.mono HB12.out.size) | exact HB12.out.drew.trans (hb14.mono HB12.out.size) | exact HB12.out.drew.drew.trans (hb14.mono HB12.out.size)); have q1 := conv_row ho14; have q1d : (convert 35 9 (.slice a14 z1.length c14)).run Try.prog w14.drew = .ok (.string ⟨z1.toArray⟩) w14.drew := conv_row (w := w14.drew) ho14; have q2 := HC1.out _ HB14.out; have q2d := HC1.out _ HB14.out.drew; clear ho14 hb14)
          | (go_simp; go_at_call 18; (with_reducible refine (HWK.out _).mono ?_); rintro e w13 ⟨rfl, hb13⟩; have HB13 : Hid (Below w.heap.size w w13) := Lib.hid (by first | exact HB14.out.trans (hb13.mono HB14.out.size) | exact HB14.out.drew.trans (hb13.mono HB14.out.size)); clear hb13))
        all_goals go_wp2
        all_goals go_ret
        all_goals first | exact ⟨rfl, HB13.out⟩ | exact ⟨rfl, HB13.out.drew⟩
    · have hlz : (z0.length : Int) ≤ 3000 := by omega
      have hlz1 : (1000 : Int) < (z1.length : Int) := by omega
      clear hl hl1 w0 w1
      go_enter Try.func9, Try.ntmps9
      go_wp2
      go_ret
      exact ⟨rfl, Below.refl _ _⟩
  · have hlz : (3000 : Int) < (z0.length : Int) := by omega
    clear hl w0 w1
    go_enter Try.func9, Try.ntmps9
    go_wp2
    go_ret
    exact ⟨rfl, Below.refl _ _⟩
theorem own : ownKnob Try.prog.godebug = none := by kernel_rfl
theorem laidOut : laidOutB Try.prog = true := by kernel_rfl

set_option maxRecDepth 100000 in
theorem lifted (os : Os) (started : os.Started) (H : Type) (enc : TypeId × Value → H) :
    ReturnsInHanded {} Try.checked os 9 .any (Rows.bitvecReturnsSpec.pre6 enc Try.prog Try.f9 Rows.bitvecReturnsRow.domain false) (Rows.bitvecReturnsSpec.post enc Try.prog Try.f9 false true false false) := by
  refine returnsInHanded_of_change_shaped (C := Try.checked) own started (by kernel_rfl) Try.func9
    (ChangeSpec.witness6 (enc := enc) (C := Try.checked) false ⟨#[], #[.slice none 0 0, .slice none 0 0], []⟩ 8 (by kernel_rfl) (by kernel_rfl) (by kernel_rfl) (by kernel_rfl)) ?_
  intro W base args ds gs before hval0 hW hcnd hsz0 hsh _
  have hval : ∀ (j : Nat) t v, Try.f9.params[j]? = some t → args[j]? = some v → Value.okWide Try.prog W .any base t v := hval0
  have hW' := hW
  obtain ⟨p, q, hA0, hV, rfl, hfz, hnd⟩ := hW
  have hA : DataW.TrodAll enc Try.prog W 0 (fun _ => true) true Try.f9.params.toList args.toList ds p := hA0
  rw [Try.params9] at hA hval
  obtain ⟨v0, vs0, d0, ds0, p0, q0, hargs, rfl, rfl, h0, r0⟩ := trodAll_cons hA
  obtain ⟨v1, vs1, d1, ds1, p1, q1, rfl, rfl, rfl, h1, r1⟩ := trodAll_cons r0
  obtain ⟨rfl, rfl, rfl⟩ := trodAll_nil r1
  obtain rfl : args = #[v0, v1] := by cases args; simp_all
  obtain ⟨rfl, rfl⟩ := trodVars_none hV
  obtain ⟨a0, len0, cap0, rfl⟩ := okWide_slice Try.underlying22 (hval 0 22 v0 rfl rfl)
  have k0 := h0
  have lt0 : ∀ x ∈ p0, x.block < W.heap.size := by obtain ⟨m, hm⟩ := k0; exact DataW.trod_lt m _ _ _ hm
  obtain ⟨z0, w0, n0⟩ : ∃ z, Reads W (.slice a0 len0 cap0) (bls z) ∧ z.length = len0 := by
    obtain ⟨fuel, hf⟩ := h0
    exact bools_open hf
  obtain ⟨a1, len1, cap1, rfl⟩ := okWide_slice Try.underlying35 (hval 1 35 v1 rfl rfl)
  have k1 := h1
  have lt1 : ∀ x ∈ p1, x.block < W.heap.size := by obtain ⟨m, hm⟩ := k1; exact DataW.trod_lt m _ _ _ hm
  obtain ⟨z1, w1, n1⟩ : ∃ z, Reads W (.slice a1 len1 cap1) (u8s z) ∧ z.length = len1 := by
    obtain ⟨fuel, hf⟩ := h1
    exact bytes_open hf
  clear hA0 hval0
  refine (walk a0 len0 cap0 z0 a1 len1 cap1 z1 W w0 n0 w1 n1).mono fun e W' ⟨he, bel⟩ => ?_
  subst he
  exact ⟨_, rfl, _, _, _, [], _, [], hW', trodAll_mk1 (shut_bool Try.underlying4 _), (trodAll_cons_mk (Below.trod laidOut (by kernel_rfl) (of_decide_eq_true (by kernel_rfl)) k0 bel lt0) (trodAll_cons_mk (Below.trod laidOut (by kernel_rfl) (of_decide_eq_true (by kernel_rfl)) k1 bel lt1) trodAll_mk0)), rfl, bel.frame _, fun h => by cases h⟩

theorem over : Rows.bitvecReturnsRow.holds Try.pinned (OpenSpec.ofChange Rows.bitvecReturnsSpec) :=
  OpenClaim.holds_of_wide 9 Try.f9 rfl rfl rfl rfl rfl rfl rfl ⟨rfl, rfl, rfl, rfl, rfl⟩ rfl rfl rfl rfl rfl (by kernel_rfl) Try.func9 (by kernel_rfl)
    (of_decide_eq_true (by kernel_rfl)) (by unfold Func.isWrapper; first | (rw [if_pos (by decide +kernel)]; kernel_rfl) | (rw [if_neg (by decide +kernel)]; exact ⟨rfl, rfl⟩))
    (fun os started H enc _ => lifted os started H enc)

theorem proved : Rows.BitvecReturnsSaid := over
end Go.Proofs.Ytlmhkhjjpfmkcaa.bitvecReturns
