/-
  LoudsTexts
-/
import Derived.Test.YtffljcfpofhkgaaM2
import Derived.OpenShut
import Derived.ShutString
import Derived.ChangeOld
import Derived.HandedShaped
import Derived.LaidMore
import Derived.Lay
import Derived.SizedLaws
import Derived.Deep.DeepHandedRow
import Derived.Test.YtffljcfpofhkgaaBvFr
set_option linter.unusedVariables false
set_option linter.unusedSimpArgs false
set_option maxRecDepth 100000
namespace Go.Proofs.Ytffljcfpofhkgaa.loudsTexts
open Go Go.RowKit Go.ChangeShapes Go.WideShapes Go.ChangeAt Go.Proofs.Ytffljcfpofhkgaa Go.Proofs.Ytffljcfpofhkgaa.Kit Go.Proofs.Ytffljcfpofhkgaa.Bv
open Go.ChangeMaps (open_string shut_string)
open Lo in
set_option maxHeartbeats 4000000 in
theorem walk (a0 : Option Addr) (len0 cap0 : Nat) (z0 : List (List UInt8)) (a1 : Int) (w : World) (w0 : Reads w (.slice a0 len0 cap0) (Lo.strs z0)) (n0 : z0.length = len0) (y0 : ∀ i, i < z0.length → (Lo.sg z0 i).length ≤ 281474976710656) (w1 : (Lit.int .i64 a1).wf = true) :
    Calls Try.prog 6 #[.slice a0 len0 cap0, .int .i64 a1] w fun e w' => e = .returned (.bool true) ∧ Below w.heap.size w w' := by
  subst n0
  have HS := Lib.hid (set_any z0 a0 cap0 w w0 y0)
  have HW := Lib.hid (fun V => Lo.works_lo V)
  have HB := Lib.hid (fun L (hf : Fits L) a c V (hR : Reads V (.slice a L.length c) (strs L)) => lbuild_any hf a c V hR)
  have HX := Lib.hid (fun L p V V2 (h : Tr V p L V2) (hf : Fits L) (hi : a1 < 0 ∨ (L.length : Int) ≤ a1) => show Calls Try.prog 27 #[.pointer (some ⟨p, 0, none⟩), .int .i64 a1] V2 fun e w' => e = .returned (.tuple #[.string { data := #[] }, .bool false]) ∧ Below V2.heap.size V2 w' from Tr.out h hf hi)
  have HI := Lib.hid (fun L p V V2 (h : Tr V p L V2) (hf : Fits L) (i : Nat) (hi : i < L.length) => Tr.text h hf hi)
  clear w0 y0
  go_enter Try.func6, Try.ntmps6
  go_wp2_with (first
    | (go_at_call 19; (with_reducible refine HS.out.mono ?_); rintro e v1 ⟨L, b1, c1, rfl, hf, hl3, ho, hb1⟩; have HF := Lib.hid hf; have HO := Lib.hid ho; have HB1 := Lib.hid hb1; clear hf ho hb1)
    | (go_at_call 18; (with_reducible refine (HB.out L HF.out _ _ _ (own_reads HO.out)).mono ?_); rintro e v2 ⟨p, rfl, ht⟩; have HT := Lib.hid ht; have HB2 := Lib.hid (HB1.out.trans (ht.1.mono HB1.out.size)); have HO2 := Lib.hid (own_later HO.out ht.1); clear ht))
  by_cases hi : a1 < 0 ∨ (L.length : Int) ≤ a1
  · have HTX := Lib.hid (HX.out L p _ _ HT.out HF.out hi)
    obtain ⟨m, hm⟩ : ∃ m, L.length = m := ⟨_, rfl⟩
    simp only [hm] at *
    go_wp2_with (first
      | (go_at_call 27; (with_reducible refine HTX.out.mono ?_); rintro e v3 ⟨rfl, hb3⟩; have HB3 := Lib.hid (HB2.out.trans (hb3.mono HB2.out.size)); clear hb3)
      | (go_at_call 15; (with_reducible refine (HW.out _).mono ?_); rintro e v8 ⟨rfl, hb8⟩; have HB8 := Lib.hid (HB3.out.trans (hb8.mono HB3.out.size)); clear hb8))
    all_goals go_ret
    all_goals exact ⟨rfl, HB8.out⟩
  · obtain ⟨i, rfl⟩ : ∃ i : Nat, a1 = (i : Int) := ⟨a1.toNat, by omega⟩
    have hil : i < L.length := by omega
    have HTX := Lib.hid (HI.out L p _ _ HT.out HF.out i hil)
    have HC := Lib.hid (fun V (hV : Below v2.heap.size v2 V) => Reads.cell (own_reads (own_later HO2.out hV)) (strs_get hil))
    have hi0 : (0 : Int) ≤ (i : Int) := by omega
    have hi1 : (i : Int) < (L.length : Int) := by omega
    obtain ⟨S, hS⟩ : ∃ S, ba (sg L i) = S := ⟨_, rfl⟩
    simp only [hS] at HTX HC
    obtain ⟨m, hm⟩ : ∃ m, L.length = m := ⟨_, rfl⟩
    clear hS hi
    simp only [hm] at *
    go_wp2_with (first
      | (go_at_call 27; (with_reducible refine HTX.out.mono ?_); rintro e v3 ⟨rfl, hb3⟩; have HB3 := Lib.hid (HB2.out.trans (hb3.mono HB2.out.size)); obtain ⟨bb, off, rfl, _, hcell⟩ := HC.out _ hb3; clear hb3)
      | (go_at_call 15; (with_reducible refine (HW.out _).mono ?_); rintro e v8 ⟨rfl, hb8⟩; have HB8 := Lib.hid (HB3.out.trans (hb8.mono HB3.out.size)); clear hb8))
    all_goals go_ret
    all_goals exact ⟨rfl, HB8.out⟩
theorem own : ownKnob Try.prog.godebug = none := by kernel_rfl
theorem laidOut : laidOutB Try.prog = true := by kernel_rfl

set_option maxRecDepth 100000 in
theorem lifted (os : Os) (started : os.Started) (H : Type) (enc : TypeId × Value → H) :
    ReturnsInHanded {} Try.checked os 6 .any (Rows.loudsTextsSpec.pre6 enc Try.prog Try.f6 Rows.loudsTextsRow.domain false) (Rows.loudsTextsSpec.post enc Try.prog Try.f6 false true false false) := by
  refine returnsInHanded_of_change_shaped (C := Try.checked) own started (by kernel_rfl) Try.func6
    (ChangeSpec.witness6 (enc := enc) (C := Try.checked) false ⟨#[], #[.slice none 0 0, .int .i64 0], []⟩ 8 (by kernel_rfl) (by kernel_rfl) (by kernel_rfl) (by kernel_rfl)) ?_
  intro W base args ds gs before hval0 hW hcnd hsz0 hsh _
  have hval : ∀ (j : Nat) t v, Try.f6.params[j]? = some t → args[j]? = some v → Value.okWide Try.prog W .any base t v := hval0
  have hW' := hW
  obtain ⟨p, q, hA0, hV, rfl, hfz, hnd⟩ := hW
  have hA : DataW.TrodAll enc Try.prog W 0 (fun _ => true) true Try.f6.params.toList args.toList ds p := hA0
  rw [Try.params6] at hA hval
  obtain ⟨v0, vs0, d0, ds0, p0, q0, hargs, rfl, rfl, h0, r0⟩ := trodAll_cons hA
  obtain ⟨v1, vs1, d1, ds1, p1, q1, rfl, rfl, rfl, h1, r1⟩ := trodAll_cons r0
  obtain ⟨rfl, rfl, rfl⟩ := trodAll_nil r1
  obtain rfl : args = #[v0, v1] := by cases args; simp_all
  obtain ⟨rfl, rfl⟩ := trodVars_none hV
  obtain ⟨a0, len0, cap0, rfl⟩ := okWide_slice Try.underlying22 (hval 0 22 v0 rfl rfl)
  have k0 := h0
  have lt0 : ∀ x ∈ p0, x.block < W.heap.size := by obtain ⟨m, hm⟩ := k0; exact DataW.trod_lt m _ _ _ hm
  obtain ⟨z0, w0, n0, y0⟩ : ∃ z, Reads W (.slice a0 len0 cap0) (Lo.strs z) ∧ z.length = len0 ∧ Lo.StrsOf d0 z := by
    obtain ⟨fuel, hf⟩ := h0
    exact Lo.strs_open hf
  obtain ⟨a1, rfl, rfl, rfl, w1⟩ := open_int Try.underlying3 (hval 1 3 v1 rfl rfl) h1
  clear hA0 hval0
  have hsz : (DataW.weightsEach Try.prog (Try.f6.params.toList ++ Rows.loudsTextsSpec.plain.varTypes Try.prog) (_ ++ _)).all (· ≤ reachBytes) = true := hsz0
  rw [Try.params6] at hsz
  have sy0 := Lo.sized_strs hsz (j := 0) rfl rfl y0
  refine (walk a0 len0 cap0 z0 a1 W w0 n0 sy0 w1).mono fun e W' ⟨he, bel⟩ => ?_
  subst he
  exact ⟨_, rfl, _, _, _, [], _, [], hW', trodAll_mk1 (shut_bool Try.underlying4 _), (trodAll_cons_mk (Below.trod laidOut (by kernel_rfl) (of_decide_eq_true (by kernel_rfl)) k0 bel lt0) (trodAll_cons_mk (shut_int Try.underlying3 w1) trodAll_mk0)), rfl, bel.frame _, fun h => by cases h⟩

theorem over : Rows.loudsTextsRow.holds Try.pinned (OpenSpec.ofChange Rows.loudsTextsSpec) :=
  OpenClaim.holds_of_wide 6 Try.f6 rfl rfl rfl rfl rfl rfl rfl ⟨rfl, rfl, rfl, rfl, rfl⟩ rfl rfl rfl rfl rfl (by kernel_rfl) Try.func6 (by kernel_rfl)
    (of_decide_eq_true (by kernel_rfl)) (by unfold Func.isWrapper; first | (rw [if_pos (by decide +kernel)]; kernel_rfl) | (rw [if_neg (by decide +kernel)]; exact ⟨rfl, rfl⟩))
    (fun os started H enc _ => lifted os started H enc)

theorem proved : Rows.LoudsTextsSaid := over
end Go.Proofs.Ytffljcfpofhkgaa.loudsTexts
