/-
  LoudsNeighbours
-/
import Derived.Test.YtffljcfpofhkgaaM2
import Derived.OpenShut
import Derived.ShutString
import Derived.ChangeOld
import Derived.HandedShaped
import Derived.LaidMore
import Derived.Lay
import Derived.SizedLaws
import Derived.Deep.DeepHandedRow
import Derived.Test.YtffljcfpofhkgaaBvFr
set_option linter.unusedVariables false
set_option linter.unusedSimpArgs false
set_option maxRecDepth 100000
namespace Go.Proofs.Ytffljcfpofhkgaa.loudsNeighbours
open Go Go.RowKit Go.ChangeShapes Go.WideShapes Go.ChangeAt Go.Proofs.Ytffljcfpofhkgaa Go.Proofs.Ytffljcfpofhkgaa.Kit Go.Proofs.Ytffljcfpofhkgaa.Bv
open Go.ChangeMaps (open_string shut_string)
open Lo in
theorem under_run {L : List Lo.Str} (hL : Ok L) (s : Lo.Str) (most : Int) : ∃ f k : Nat, underK L s most = List.range' f k ∧ (k = 0 ∨ f + k ≤ L.length) ∧ (k : Int) ≤ max most 0 := by
  cases hn : nodeOf L s with
  | none => exact ⟨0, 0, by rw [underK_none hL hn]; rfl, .inl rfl, by omega⟩
  | some k =>
    have hg := node_at hL ((nodeOf_some hL).1 hn).1
    have h1 := hg.ft
    have h2 := hg.tm
    exact ⟨_, _, underK_node hL hn most, .inr (by omega), by omega⟩
open Lo in
set_option maxHeartbeats 4000000 in
theorem walk (a0 : Option Addr) (len0 cap0 : Nat) (z0 : List (List UInt8)) (a1 : ByteArray) (a2 : Int) (w : World) (w0 : Reads w (.slice a0 len0 cap0) (Lo.strs z0)) (n0 : z0.length = len0) (y0 : ∀ i, i < z0.length → (Lo.sg z0 i).length ≤ 281474976710656) (w1 : a1.size ≤ maxLen) (w2 : (Lit.int .i64 a2).wf = true) (s1 : a1.size ≤ 140737488351232) :
    Calls Try.prog 10 #[.slice a0 len0 cap0, .string a1, .int .i64 a2] w fun e w' => e = .returned (.bool true) ∧ Below w.heap.size w w' := by
  subst n0
  have HS := Lib.hid (set_any z0 a0 cap0 w w0 y0)
  obtain ⟨s, hs⟩ : ∃ s, a1 = ba s := ⟨a1.data.toList, by unfold ba; simp⟩
  have hsl : s.length ≤ 281474976710656 := by have := ba_size s; rw [hs] at s1; omega
  have HW := Lib.hid (fun V => Lo.works_lo V)
  have HB := Lib.hid (fun L (hf : Fits L) a c V (hR : Reads V (.slice a L.length c) (strs L)) => lbuild_any hf a c V hR)
  have HU := Lib.hid (fun L p V V2 (h : Tr V p L V2) (hf : Fits L) => Tr.under h hf s hsl a2)
  rw [← hs] at HU
  clear w0 y0 hs hsl
  go_enter Try.func10, Try.ntmps10
  go_wp2_with (first
    | (go_at_call 19; (with_reducible refine HS.out.mono ?_); rintro e v1 ⟨L, b1, c1, rfl, hf, hl3, ho, hb1⟩; have HF := Lib.hid hf; have HO := Lib.hid ho; have HB1 := Lib.hid hb1; clear hf ho hb1)
    | (go_at_call 18; (with_reducible refine (HB.out L HF.out _ _ _ (own_reads HO.out)).mono ?_); rintro e v2 ⟨p, rfl, ht⟩; have HT := Lib.hid ht; have HB2 := Lib.hid (HB1.out.trans (ht.1.mono HB1.out.size)); clear ht)
    | (go_at_call 25; (with_reducible refine (HU.out L p _ _ HT.out HF.out).mono ?_); rintro e v3 ⟨av, cv, rfl, ho3, hb3⟩; have HB3 := Lib.hid (HB2.out.trans (hb3.mono HB2.out.size)); have HO3 := Lib.hid ho3; clear ho3 hb3))
  obtain ⟨f, k, hU, hfk, hkm⟩ := under_run HF.out.ok s a2
  have HR := Lib.hid (fun V (hV : Below v3.heap.size v3 V) i (hi : i < k) => show ∃ b off, av = some ⟨b, off, none⟩ ∧ V.cell? ⟨b, off + i, none⟩ = some (.int .i64 ((f + i : Nat) : Int)) by
    have h1 := own_reads (own_later HO3.out hV)
    rw [hU] at h1
    obtain ⟨b, off, e1, _, hc⟩ := Reads.cell h1 (i := i) (x := .int .i64 ((f + i : Nat) : Int)) (by unfold i64s; rw [List.getElem?_map, List.getElem?_range' hi]; simp)
    exact ⟨b, off, e1, hc⟩)
  have hkl : (underK L s a2).length = k := by rw [hU]; simp
  obtain ⟨m, hm⟩ : ∃ m, L.length = m := ⟨_, rfl⟩
  rw [hkl]
  rw [hm] at hfk hl3 ⊢
  clear hU hkl hm
  go_wp2
  go_loopw [22] (fun x wr => ∃ i : Nat, i ≤ k ∧ x = .int .i64 (i : Int) ∧ Below v3.heap.size v3 wr) (fun x _ => k - (intOf x).toNat)
  case atStart => exact ⟨0, Nat.zero_le _, rfl, Below.refl _ _⟩
  case round =>
    obtain ⟨i, hi, rfl, hb⟩ := hrel
    have hbs := hb.size
    by_cases hlt : i < k
    · obtain ⟨b, off, rfl, c0⟩ := HR.out _ hb 0 (by omega)
      obtain ⟨b', off', e1, ci⟩ := HR.out _ hb i hlt
      cases e1
      obtain ⟨z, hz⟩ : ∃ z, f + i = z := ⟨_, rfl⟩
      rw [hz] at ci
      rw [Nat.add_zero, Nat.add_zero] at c0
      have hzi : (f : Int) + (i : Int) = (z : Int) := by omega
      have hwz : IntKind.i64.wrap (z : Int) = (z : Int) := by rw [IntKind.wrap_i64]; omega
      have hi0 : (0 : Int) ≤ (i : Int) := by omega
      have hik : (i : Int) < (k : Int) := by omega
      have hk0 : (0 : Int) < (k : Int) := by omega
      have hzm : (z : Int) < (m : Int) := by omega
      have hzm2 : ¬ (m : Int) ≤ (z : Int) := by omega
      clear hz hkm
      go_wp2
      go_quiet (fail)
      go_wp2
      go_roundw
      case rel => exact ⟨i + 1, by omega, by go_num, hb.trans (Lo.below_drewN _ _ hbs)⟩
      case measure => simp [intOf]; omega
    · obtain rfl : i = k := by omega
      have HB4 := Lib.hid (HB3.out.trans (hb.mono HB3.out.size))
      go_wp2_with (go_at_call 15; (with_reducible refine (HW.out _).mono ?_); rintro e v8 ⟨rfl, hb8⟩; have HB8 := Lib.hid (HB4.out.trans (hb8.mono HB4.out.size)); clear hb8)
      go_ret
      exact ⟨rfl, HB8.out⟩
theorem own : ownKnob Try.prog.godebug = none := by kernel_rfl
theorem laidOut : laidOutB Try.prog = true := by kernel_rfl

set_option maxRecDepth 100000 in
theorem lifted (os : Os) (started : os.Started) (H : Type) (enc : TypeId × Value → H) :
    ReturnsInHanded {} Try.checked os 10 .any (Rows.loudsNeighboursSpec.pre6 enc Try.prog Try.f10 Rows.loudsNeighboursRow.domain false) (Rows.loudsNeighboursSpec.post enc Try.prog Try.f10 false true false false) := by
  refine returnsInHanded_of_change_shaped (C := Try.checked) own started (by kernel_rfl) Try.func10
    (ChangeSpec.witness6 (enc := enc) (C := Try.checked) false ⟨#[], #[.slice none 0 0, .string ByteArray.empty, .int .i64 0], []⟩ 8 (by kernel_rfl) (by kernel_rfl) (by kernel_rfl) (by kernel_rfl)) ?_
  intro W base args ds gs before hval0 hW hcnd hsz0 hsh _
  have hval : ∀ (j : Nat) t v, Try.f10.params[j]? = some t → args[j]? = some v → Value.okWide Try.prog W .any base t v := hval0
  have hW' := hW
  obtain ⟨p, q, hA0, hV, rfl, hfz, hnd⟩ := hW
  have hA : DataW.TrodAll enc Try.prog W 0 (fun _ => true) true Try.f10.params.toList args.toList ds p := hA0
  rw [Try.params10] at hA hval
  obtain ⟨v0, vs0, d0, ds0, p0, q0, hargs, rfl, rfl, h0, r0⟩ := trodAll_cons hA
  obtain ⟨v1, vs1, d1, ds1, p1, q1, rfl, rfl, rfl, h1, r1⟩ := trodAll_cons r0
  obtain ⟨v2, vs2, d2, ds2, p2, q2, rfl, rfl, rfl, h2, r2⟩ := trodAll_cons r1
  obtain ⟨rfl, rfl, rfl⟩ := trodAll_nil r2
  obtain rfl : args = #[v0, v1, v2] := by cases args; simp_all
  obtain ⟨rfl, rfl⟩ := trodVars_none hV
  obtain ⟨a0, len0, cap0, rfl⟩ := okWide_slice Try.underlying22 (hval 0 22 v0 rfl rfl)
  have k0 := h0
  have lt0 : ∀ x ∈ p0, x.block < W.heap.size := by obtain ⟨m, hm⟩ := k0; exact DataW.trod_lt m _ _ _ hm
  obtain ⟨z0, w0, n0, y0⟩ : ∃ z, Reads W (.slice a0 len0 cap0) (Lo.strs z) ∧ z.length = len0 ∧ Lo.StrsOf d0 z := by
    obtain ⟨fuel, hf⟩ := h0
    exact Lo.strs_open hf
  obtain ⟨a1, rfl, rfl, rfl, w1⟩ := open_string Try.underlying9 (hval 1 9 v1 rfl rfl) h1
  obtain ⟨a2, rfl, rfl, rfl, w2⟩ := open_int Try.underlying3 (hval 2 3 v2 rfl rfl) h2
  clear hA0 hval0
  have hsz : (DataW.weightsEach Try.prog (Try.f10.params.toList ++ Rows.loudsNeighboursSpec.plain.varTypes Try.prog) (_ ++ _)).all (· ≤ reachBytes) = true := hsz0
  rw [Try.params10] at hsz
  have sy0 := Lo.sized_strs hsz (j := 0) rfl rfl y0
  have sz1 := sized_string hsz (j := 1) (t := 9) rfl rfl
  refine (walk a0 len0 cap0 z0 a1 a2 W w0 n0 sy0 w1 w2 (by have := sz1; simp only [reachBytes, Array.length_toList] at this; exact this)).mono fun e W' ⟨he, bel⟩ => ?_
  subst he
  exact ⟨_, rfl, _, _, _, [], _, [], hW', trodAll_mk1 (shut_bool Try.underlying4 _), (trodAll_cons_mk (Below.trod laidOut (by kernel_rfl) (of_decide_eq_true (by kernel_rfl)) k0 bel lt0) (trodAll_cons_mk (shut_string Try.underlying9 w1) (trodAll_cons_mk (shut_int Try.underlying3 w2) trodAll_mk0))), rfl, bel.frame _, fun h => by cases h⟩

theorem over : Rows.loudsNeighboursRow.holds Try.pinned (OpenSpec.ofChange Rows.loudsNeighboursSpec) :=
  OpenClaim.holds_of_wide 10 Try.f10 rfl rfl rfl rfl rfl rfl rfl ⟨rfl, rfl, rfl, rfl, rfl⟩ rfl rfl rfl rfl rfl (by kernel_rfl) Try.func10 (by kernel_rfl)
    (of_decide_eq_true (by kernel_rfl)) (by unfold Func.isWrapper; first | (rw [if_pos (by decide +kernel)]; kernel_rfl) | (rw [if_neg (by decide +kernel)]; exact ⟨rfl, rfl⟩))
    (fun os started H enc _ => lifted os started H enc)

theorem proved : Rows.LoudsNeighboursSaid := over
end Go.Proofs.Ytffljcfpofhkgaa.loudsNeighbours
