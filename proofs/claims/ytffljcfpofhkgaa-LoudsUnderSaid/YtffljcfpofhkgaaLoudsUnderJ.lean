/-
  LoudsUnder
-/
import Derived.Test.YtffljcfpofhkgaaM2
import Derived.OpenShut
import Derived.ShutString
import Derived.ChangeOld
import Derived.HandedShaped
import Derived.LaidMore
import Derived.Lay
import Derived.SizedLaws
import Derived.Deep.DeepHandedRow
import Derived.Test.YtffljcfpofhkgaaBvFr
set_option linter.unusedVariables false
set_option linter.unusedSimpArgs false
set_option maxRecDepth 100000
namespace Go.Proofs.Ytffljcfpofhkgaa.loudsUnder
open Go Go.RowKit Go.ChangeShapes Go.WideShapes Go.ChangeAt Go.Proofs.Ytffljcfpofhkgaa Go.Proofs.Ytffljcfpofhkgaa.Kit Go.Proofs.Ytffljcfpofhkgaa.Bv
open Go.ChangeMaps (open_string shut_string)
open Lo in
set_option maxHeartbeats 4000000 in
theorem walk (a0 : Option Addr) (len0 cap0 : Nat) (z0 : List (List UInt8)) (a1 : ByteArray) (a2 : Int) (w : World) (w0 : Reads w (.slice a0 len0 cap0) (Lo.strs z0)) (n0 : z0.length = len0) (y0 : ∀ i, i < z0.length → (Lo.sg z0 i).length ≤ 281474976710656) (w1 : a1.size ≤ maxLen) (w2 : (Lit.int .i64 a2).wf = true) (s1 : a1.size ≤ 140737488351232) :
    Calls Try.prog 5 #[.slice a0 len0 cap0, .string a1, .int .i64 a2] w fun e w' => e = .returned (.bool true) ∧ Below w.heap.size w w' := by
  subst n0
  have HS := Lib.hid (set_any z0 a0 cap0 w w0 y0)
  obtain ⟨s, hs⟩ : ∃ s, a1 = ba s := ⟨a1.data.toList, by unfold ba; simp⟩
  have hsl : s.length ≤ 281474976710656 := by have := ba_size s; rw [hs] at s1; omega
  have HW := Lib.hid (fun V => Lo.works_lo V)
  have HB := Lib.hid (fun L (hf : Fits L) a c V (hR : Reads V (.slice a L.length c) (strs L)) => lbuild_any hf a c V hR)
  have HU := Lib.hid (fun L p V V2 (h : Tr V p L V2) (hf : Fits L) => Tr.under h hf s hsl a2)
  have HRU := Lib.hid (fun L a c V (hR : Reads V (.slice a L.length c) (strs L)) (hf : Fits L) => runder_any L a c V hR hf.size (by have := hf.few; omega) s hsl a2)
  rw [← hs] at HU HRU
  clear w0 y0 hs hsl
  go_enter Try.func5, Try.ntmps5
  go_wp2_with (first
    | (go_at_call 19; (with_reducible refine HS.out.mono ?_); rintro e v1 ⟨L, b1, c1, rfl, hf, hl3, ho, hb1⟩; have HF := Lib.hid hf; have HO := Lib.hid ho; have HB1 := Lib.hid hb1; clear hf ho hl3 hb1)
    | (go_at_call 18; (with_reducible refine (HB.out L HF.out _ _ _ (own_reads HO.out)).mono ?_); rintro e v2 ⟨p, rfl, ht⟩; have HT := Lib.hid ht; have HB2 := Lib.hid (HB1.out.trans (ht.1.mono HB1.out.size)); have HO2 := Lib.hid (own_later HO.out ht.1); clear ht)
    | (go_at_call 25; (with_reducible refine (HU.out L p _ _ HT.out HF.out).mono ?_); rintro e v3 ⟨av, cv, rfl, ho3, hb3⟩; have HB3 := Lib.hid (HB2.out.trans (hb3.mono HB2.out.size)); have HO3 := Lib.hid ho3; have HO4 := Lib.hid (own_later HO2.out hb3); clear ho3 hb3)
    | (go_at_call 26; (with_reducible refine (HRU.out L _ _ _ (own_reads HO4.out) HF.out).mono ?_); rintro e v5 ⟨av5, cv5, rfl, ho5, hb5⟩; have HB5 := Lib.hid (HB3.out.trans (hb5.mono HB3.out.size)); have HO5 := Lib.hid ho5; have HO6 := Lib.hid (own_later HO3.out hb5); clear ho5 hb5)
    | (go_at_call 24; (with_reducible refine (sameInts_any _ _ _ _ _ _ _ (own_reads HO6.out) (own_reads HO5.out)).mono ?_); rintro e v7 ⟨rfl, hb7⟩; have HB7 := Lib.hid (HB5.out.trans (hb7.mono HB5.out.size)); clear hb7; rw [decide_eq_true rfl])
    | (go_at_call 15; (with_reducible refine (HW.out _).mono ?_); rintro e v8 ⟨rfl, hb8⟩; have HB8 := Lib.hid (HB7.out.trans (hb8.mono HB7.out.size)); clear hb8))
  go_ret
  exact ⟨rfl, HB8.out⟩
theorem own : ownKnob Try.prog.godebug = none := by kernel_rfl
theorem laidOut : laidOutB Try.prog = true := by kernel_rfl

set_option maxRecDepth 100000 in
theorem lifted (os : Os) (started : os.Started) (H : Type) (enc : TypeId × Value → H) :
    ReturnsInHanded {} Try.checked os 5 .any (Rows.loudsUnderSpec.pre6 enc Try.prog Try.f5 Rows.loudsUnderRow.domain false) (Rows.loudsUnderSpec.post enc Try.prog Try.f5 false true false false) := by
  refine returnsInHanded_of_change_shaped (C := Try.checked) own started (by kernel_rfl) Try.func5
    (ChangeSpec.witness6 (enc := enc) (C := Try.checked) false ⟨#[], #[.slice none 0 0, .string ByteArray.empty, .int .i64 0], []⟩ 8 (by kernel_rfl) (by kernel_rfl) (by kernel_rfl) (by kernel_rfl)) ?_
  intro W base args ds gs before hval0 hW hcnd hsz0 hsh _
  have hval : ∀ (j : Nat) t v, Try.f5.params[j]? = some t → args[j]? = some v → Value.okWide Try.prog W .any base t v := hval0
  have hW' := hW
  obtain ⟨p, q, hA0, hV, rfl, hfz, hnd⟩ := hW
  have hA : DataW.TrodAll enc Try.prog W 0 (fun _ => true) true Try.f5.params.toList args.toList ds p := hA0
  rw [Try.params5] at hA hval
  obtain ⟨v0, vs0, d0, ds0, p0, q0, hargs, rfl, rfl, h0, r0⟩ := trodAll_cons hA
  obtain ⟨v1, vs1, d1, ds1, p1, q1, rfl, rfl, rfl, h1, r1⟩ := trodAll_cons r0
  obtain ⟨v2, vs2, d2, ds2, p2, q2, rfl, rfl, rfl, h2, r2⟩ := trodAll_cons r1
  obtain ⟨rfl, rfl, rfl⟩ := trodAll_nil r2
  obtain rfl : args = #[v0, v1, v2] := by cases args; simp_all
  obtain ⟨rfl, rfl⟩ := trodVars_none hV
  obtain ⟨a0, len0, cap0, rfl⟩ := okWide_slice Try.underlying22 (hval 0 22 v0 rfl rfl)
  have k0 := h0
  have lt0 : ∀ x ∈ p0, x.block < W.heap.size := by obtain ⟨m, hm⟩ := k0; exact DataW.trod_lt m _ _ _ hm
  obtain ⟨z0, w0, n0, y0⟩ : ∃ z, Reads W (.slice a0 len0 cap0) (Lo.strs z) ∧ z.length = len0 ∧ Lo.StrsOf d0 z := by
    obtain ⟨fuel, hf⟩ := h0
    exact Lo.strs_open hf
  obtain ⟨a1, rfl, rfl, rfl, w1⟩ := open_string Try.underlying9 (hval 1 9 v1 rfl rfl) h1
  obtain ⟨a2, rfl, rfl, rfl, w2⟩ := open_int Try.underlying3 (hval 2 3 v2 rfl rfl) h2
  clear hA0 hval0
  have hsz : (DataW.weightsEach Try.prog (Try.f5.params.toList ++ Rows.loudsUnderSpec.plain.varTypes Try.prog) (_ ++ _)).all (· ≤ reachBytes) = true := hsz0
  rw [Try.params5] at hsz
  have sy0 := Lo.sized_strs hsz (j := 0) rfl rfl y0
  have sz1 := sized_string hsz (j := 1) (t := 9) rfl rfl
  refine (walk a0 len0 cap0 z0 a1 a2 W w0 n0 sy0 w1 w2 (by have := sz1; simp only [reachBytes, Array.length_toList] at this; exact this)).mono fun e W' ⟨he, bel⟩ => ?_
  subst he
  exact ⟨_, rfl, _, _, _, [], _, [], hW', trodAll_mk1 (shut_bool Try.underlying4 _), (trodAll_cons_mk (Below.trod laidOut (by kernel_rfl) (of_decide_eq_true (by kernel_rfl)) k0 bel lt0) (trodAll_cons_mk (shut_string Try.underlying9 w1) (trodAll_cons_mk (shut_int Try.underlying3 w2) trodAll_mk0))), rfl, bel.frame _, fun h => by cases h⟩

theorem over : Rows.loudsUnderRow.holds Try.pinned (OpenSpec.ofChange Rows.loudsUnderSpec) :=
  OpenClaim.holds_of_wide 5 Try.f5 rfl rfl rfl rfl rfl rfl rfl ⟨rfl, rfl, rfl, rfl, rfl⟩ rfl rfl rfl rfl rfl (by kernel_rfl) Try.func5 (by kernel_rfl)
    (of_decide_eq_true (by kernel_rfl)) (by unfold Func.isWrapper; first | (rw [if_pos (by decide +kernel)]; kernel_rfl) | (rw [if_neg (by decide +kernel)]; exact ⟨rfl, rfl⟩))
    (fun os started H enc _ => lifted os started H enc)

theorem proved : Rows.LoudsUnderSaid := over
end Go.Proofs.Ytffljcfpofhkgaa.loudsUnder
