/-
  LoudsFinds
-/
import Derived.Test.YtffljcfpofhkgaaM2
import Derived.OpenShut
import Derived.ShutString
import Derived.ChangeOld
import Derived.HandedShaped
import Derived.LaidMore
import Derived.Lay
import Derived.SizedLaws
import Derived.Deep.DeepHandedRow
import Derived.Test.YtffljcfpofhkgaaBvFr
import Derived.Test.YtffljcfpofhkgaaLoTf
set_option linter.unusedVariables false
set_option linter.unusedSimpArgs false
set_option maxRecDepth 100000
namespace Go.Proofs.Ytffljcfpofhkgaa.loudsFinds
open Go Go.RowKit Go.ChangeShapes Go.WideShapes Go.ChangeAt Go.Proofs.Ytffljcfpofhkgaa Go.Proofs.Ytffljcfpofhkgaa.Kit Go.Proofs.Ytffljcfpofhkgaa.Bv
open Go.ChangeMaps (open_string shut_string)
open Lo in
theorem hcs_get : ∀ (hs : List (Nat × Nat)) (i : Nat), i < hs.length → ∃ x y : Nat, (hcs hs)[i * 2]? = some (.int .i64 (x : Int)) ∧ (hcs hs)[i * 2 + 1]? = some (.int .i64 (y : Int))
  | [], i, h => by simp at h
  | (x, y) :: hs, 0, _ => ⟨x, y, rfl, rfl⟩
  | (x, y) :: hs, i + 1, h => by
    obtain ⟨x', y', h1, h2⟩ := hcs_get hs i (by simpa using h)
    refine ⟨x', y', ?_, ?_⟩
    · rw [← h1]
      show ([Value.int .i64 (x : Int), .int .i64 (y : Int)] ++ hcs hs)[(i + 1) * 2]? = _
      rw [List.getElem?_append_right (by simp; omega)]
      congr 1
      simp; omega
    · rw [← h2]
      show ([Value.int .i64 (x : Int), .int .i64 (y : Int)] ++ hcs hs)[(i + 1) * 2 + 1]? = _
      rw [List.getElem?_append_right (by simp; omega)]
      congr 1
      simp; omega
open Lo in
theorem hits_cells {w : World} {base e n cap : Nat} {a : Option Addr} {hs : List (Nat × Nat)} (h : w.ownsRow base e 2 (.slice a n cap) n (hcs hs)) (hn : n = hs.length) (V : World) (hV : Below w.heap.size w V) (i : Nat) (hi : i < n) (x y : Nat) (hx : (hcs hs)[i * 2]? = some (.int .i64 (x : Int))) (hy : (hcs hs)[i * 2 + 1]? = some (.int .i64 (y : Int))) :
    ∃ g, a = some ⟨g, 0, none⟩ ∧ V.cell? ⟨g, i * 2, none⟩ = some (.int .i64 (x : Int)) ∧ V.cell? ⟨g, i * 2 + 1, none⟩ = some (.int .i64 (y : Int)) := by
  obtain ⟨g, e1, _, hg, hc, _⟩ := own_cellsN h (by omega)
  refine ⟨g, e1, ?_, ?_⟩
  · rw [hV.cell (p := ⟨g, i * 2, none⟩) hg]; exact hc _ _ hx
  · rw [hV.cell (p := ⟨g, i * 2 + 1, none⟩) hg]; exact hc _ _ hy
open Lo in
set_option maxHeartbeats 4000000 in
theorem walk (a0 : Option Addr) (len0 cap0 : Nat) (z0 : List (List UInt8)) (a1 : ByteArray) (w : World) (w0 : Reads w (.slice a0 len0 cap0) (Lo.strs z0)) (n0 : z0.length = len0) (y0 : ∀ i, i < z0.length → (Lo.sg z0 i).length ≤ 281474976710656) (w1 : a1.size ≤ maxLen) (s1 : a1.size ≤ 140737488351232) :
    Calls Try.prog 4 #[.slice a0 len0 cap0, .string a1] w fun e w' => e = .returned (.bool true) ∧ Below w.heap.size w w' := by
  subst n0
  have HS := Lib.hid (set_any z0 a0 cap0 w w0 y0)
  obtain ⟨s, hs⟩ : ∃ s, a1 = ba s := ⟨a1.data.toList, by unfold ba; simp⟩
  have hsl : s.length ≤ 281474976710656 := by have := ba_size s; rw [hs] at s1; omega
  have HW := Lib.hid (fun V => Lo.works_lo V)
  have HB := Lib.hid (fun L (hf : Fits L) a c V (hR : Reads V (.slice a L.length c) (strs L)) => lbuild_any hf a c V hR)
  have HFI := Lib.hid (fun L p V V2 (h : Tr V p L V2) (hf : Fits L) => Tr.find h hf s hsl)
  have HRF := Lib.hid (fun L a c V (hR : Reads V (.slice a L.length c) (strs L)) (hf : Fits L) => rfind_lo L a c V hR s hf.ok)
  have HPX := Lib.hid (fun L p V V2 (h : Tr V p L V2) (hf : Fits L) => Tr.prefixes h hf s hsl)
  have HRX := Lib.hid (fun L a c V (hR : Reads V (.slice a L.length c) (strs L)) (hf : Fits L) => rprefixes_lo L a c V hR hf.ok s hsl)
  rw [← hs] at HFI HRF HPX HRX
  have HSEQ := Lib.hid hs
  clear w0 y0 hs hsl
  go_enter Try.func4, Try.ntmps4
  go_wp2_with (first
    | (go_at_call 19; (with_reducible refine HS.out.mono ?_); rintro e v1 ⟨L, b1, c1, rfl, hf, hl3, ho, hb1⟩; have HF := Lib.hid hf; have HO := Lib.hid ho; have HB1 := Lib.hid hb1; clear hf ho hb1)
    | (go_at_call 18; (with_reducible refine (HB.out L HF.out _ _ _ (own_reads HO.out)).mono ?_); rintro e v2 ⟨p, rfl, ht⟩; have HT := Lib.hid ht; have HB2 := Lib.hid (HB1.out.trans (ht.1.mono HB1.out.size)); have HO2 := Lib.hid (own_later HO.out ht.1); clear ht))
  have HIX : Hid (∀ q, ixOf L s = some q → q < L.length) := Lib.hid (fun q h => ((ixOf_some HF.out.ok).1 h).1)
  have HFI2 := Lib.hid (HFI.out L p _ _ HT.out HF.out)
  have HRF2 := Lib.hid (fun a c V hR => HRF.out L a c V hR HF.out)
  cases hix : ixOf L s with
  | some q =>
    have hq := HIX.out q hix
    rw [hix] at HFI2 HRF2
    have HFI3 : Hid (Calls Try.prog 20 #[.pointer (some ⟨p, 0, none⟩), .string a1] v2 fun e w' => e = .returned (.tuple #[.int .i64 (q : Int), .bool true]) ∧ Below v2.heap.size v2 w') := HFI2
    have HRF3 : Hid (∀ a c V, Reads V (.slice a L.length c) (strs L) → Calls Try.prog 21 #[.slice a L.length c, .string a1] V fun e w' => e = .returned (.int .i64 (q : Int)) ∧ Below V.heap.size V w') := HRF2
    have hq0 : (0 : Int) ≤ (q : Int) := by omega
    have hmax : max (q : Int) 0 = (q : Int) := by omega
    clear HFI2 HRF2 hix
    go_wp2_with (first
      | (go_at_call 20; (with_reducible refine HFI3.out.mono ?_); rintro e v3 ⟨rfl, hb3⟩; have HB3 := Lib.hid (HB2.out.trans (hb3.mono HB2.out.size)); have HO3 := Lib.hid (own_later HO2.out hb3); have HT3 := Lib.hid (HT.out.later hb3); clear hb3)
      | (go_at_call 21; (with_reducible refine (HRF3.out _ _ _ (own_reads HO3.out)).mono ?_); rintro e v4 ⟨rfl, hb4⟩; have HB4 := Lib.hid (HB3.out.trans (hb4.mono HB3.out.size)); have HO4 := Lib.hid (own_later HO3.out hb4); have HT4 := Lib.hid (HT3.out.later hb4); clear hb4)
      | (go_at_call 22; (with_reducible refine (HPX.out L p _ _ HT4.out HF.out).mono ?_); rintro e v5 ⟨vx, rfl, ho5, hb5⟩; obtain ⟨a5, c5, rfl⟩ := own_slice ho5; have HB5 := Lib.hid (HB4.out.trans (hb5.mono HB4.out.size)); have HO5 := Lib.hid (own_later HO4.out hb5); have HX5 := Lib.hid ho5; clear hb5 ho5)
      | (go_at_call 23; (with_reducible refine (HRX.out L _ _ _ (own_reads HO5.out) HF.out).mono ?_); rintro e v6 ⟨vy, rfl, ho6, hb6⟩; obtain ⟨a6, c6, rfl⟩ := own_slice ho6; have HB6 := Lib.hid (HB5.out.trans (hb6.mono HB5.out.size)); have HX6 := Lib.hid (own_later HX5.out hb6); have HY6 := Lib.hid ho6; clear hb6 ho6))
    have HCX := Lib.hid (hits_cells HX6.out rfl)
    have HCY := Lib.hid (hits_cells HY6.out rfl)
    have HG := Lib.hid (hcs_get (hits L s))
    have hhl : (hits L s).length ≤ s.length + 1 := hitI_len L s (s.length + 1)
    have hsz : s.length = a1.size := by rw [HSEQ.out, ba_size]
    obtain ⟨k, hk⟩ : ∃ k, (hits L s).length = k := ⟨_, rfl⟩
    rw [hk] at HCX HCY HG hhl ⊢
    rw [hsz] at hhl
    clear hk hsz
    go_wp2
    go_loopw [52] (fun x wr => ∃ i : Nat, i ≤ k ∧ x = .int .i64 (i : Int) ∧ Below v6.heap.size v6 wr) (fun x _ => k - (intOf x).toNat)
    case atStart => exact ⟨0, Nat.zero_le _, rfl, Below.refl _ _⟩
    case round =>
      obtain ⟨i, hi, rfl, hb⟩ := hrel
      have hbs := hb.size
      by_cases hlt : i < k
      · obtain ⟨x, y, h1, h2⟩ := HG.out i hlt
        obtain ⟨g, rfl, c1, c2⟩ := HCX.out _ hb i hlt x y h1 h2
        obtain ⟨g2, rfl, d1, d2⟩ := HCY.out _ hb i hlt x y h1 h2
        have hi0 : (0 : Int) ≤ (i : Int) := by omega
        have hik : (i : Int) < (k : Int) := by omega
        clear h1 h2
        go_wp2
        go_quiet (fail)
        go_wp2
        go_roundw
        case rel => exact ⟨i + 1, by omega, by go_num, hb.trans (Lo.below_drewN _ _ hbs)⟩
        case measure => simp [intOf]; omega
      · obtain rfl : i = k := by omega
        have HB7 := Lib.hid (HB6.out.trans (hb.mono HB6.out.size))
        go_wp2_with (go_at_call 15; (with_reducible refine (HW.out _).mono ?_); rintro e v8 ⟨rfl, hb8⟩; have HB8 := Lib.hid (HB7.out.trans (hb8.mono HB7.out.size)); clear hb8)
        go_ret
        exact ⟨rfl, HB8.out⟩
  | none =>
    rw [hix] at HFI2 HRF2
    have HFI3 : Hid (Calls Try.prog 20 #[.pointer (some ⟨p, 0, none⟩), .string a1] v2 fun e w' => e = .returned (.tuple #[.int .i64 0, .bool false]) ∧ Below v2.heap.size v2 w') := HFI2
    have HRF3 : Hid (∀ a c V, Reads V (.slice a L.length c) (strs L) → Calls Try.prog 21 #[.slice a L.length c, .string a1] V fun e w' => e = .returned (.int .i64 (-1)) ∧ Below V.heap.size V w') := HRF2
    have hmax : max (-1 : Int) 0 = 0 := by decide
    clear HFI2 HRF2 hix
    go_wp2_with (first
      | (go_at_call 20; (with_reducible refine HFI3.out.mono ?_); rintro e v3 ⟨rfl, hb3⟩; have HB3 := Lib.hid (HB2.out.trans (hb3.mono HB2.out.size)); have HO3 := Lib.hid (own_later HO2.out hb3); have HT3 := Lib.hid (HT.out.later hb3); clear hb3)
      | (go_at_call 21; (with_reducible refine (HRF3.out _ _ _ (own_reads HO3.out)).mono ?_); rintro e v4 ⟨rfl, hb4⟩; have HB4 := Lib.hid (HB3.out.trans (hb4.mono HB3.out.size)); have HO4 := Lib.hid (own_later HO3.out hb4); have HT4 := Lib.hid (HT3.out.later hb4); clear hb4)
      | (go_at_call 22; (with_reducible refine (HPX.out L p _ _ HT4.out HF.out).mono ?_); rintro e v5 ⟨vx, rfl, ho5, hb5⟩; obtain ⟨a5, c5, rfl⟩ := own_slice ho5; have HB5 := Lib.hid (HB4.out.trans (hb5.mono HB4.out.size)); have HO5 := Lib.hid (own_later HO4.out hb5); have HX5 := Lib.hid ho5; clear hb5 ho5)
      | (go_at_call 23; (with_reducible refine (HRX.out L _ _ _ (own_reads HO5.out) HF.out).mono ?_); rintro e v6 ⟨vy, rfl, ho6, hb6⟩; obtain ⟨a6, c6, rfl⟩ := own_slice ho6; have HB6 := Lib.hid (HB5.out.trans (hb6.mono HB5.out.size)); have HX6 := Lib.hid (own_later HX5.out hb6); have HY6 := Lib.hid ho6; clear hb6 ho6))
    have HCX := Lib.hid (hits_cells HX6.out rfl)
    have HCY := Lib.hid (hits_cells HY6.out rfl)
    have HG := Lib.hid (hcs_get (hits L s))
    have hhl : (hits L s).length ≤ s.length + 1 := hitI_len L s (s.length + 1)
    have hsz : s.length = a1.size := by rw [HSEQ.out, ba_size]
    obtain ⟨k, hk⟩ : ∃ k, (hits L s).length = k := ⟨_, rfl⟩
    rw [hk] at HCX HCY HG hhl ⊢
    rw [hsz] at hhl
    clear hk hsz
    go_wp2
    go_loopw [52] (fun x wr => ∃ i : Nat, i ≤ k ∧ x = .int .i64 (i : Int) ∧ Below v6.heap.size v6 wr) (fun x _ => k - (intOf x).toNat)
    case atStart => exact ⟨0, Nat.zero_le _, rfl, Below.refl _ _⟩
    case round =>
      obtain ⟨i, hi, rfl, hb⟩ := hrel
      have hbs := hb.size
      by_cases hlt : i < k
      · obtain ⟨x, y, h1, h2⟩ := HG.out i hlt
        obtain ⟨g, rfl, c1, c2⟩ := HCX.out _ hb i hlt x y h1 h2
        obtain ⟨g2, rfl, d1, d2⟩ := HCY.out _ hb i hlt x y h1 h2
        have hi0 : (0 : Int) ≤ (i : Int) := by omega
        have hik : (i : Int) < (k : Int) := by omega
        clear h1 h2
        go_wp2
        go_quiet (fail)
        go_wp2
        go_roundw
        case rel => exact ⟨i + 1, by omega, by go_num, hb.trans (Lo.below_drewN _ _ hbs)⟩
        case measure => simp [intOf]; omega
      · obtain rfl : i = k := by omega
        have HB7 := Lib.hid (HB6.out.trans (hb.mono HB6.out.size))
        go_wp2_with (go_at_call 15; (with_reducible refine (HW.out _).mono ?_); rintro e v8 ⟨rfl, hb8⟩; have HB8 := Lib.hid (HB7.out.trans (hb8.mono HB7.out.size)); clear hb8)
        go_ret
        exact ⟨rfl, HB8.out⟩
theorem own : ownKnob Try.prog.godebug = none := by kernel_rfl
theorem laidOut : laidOutB Try.prog = true := by kernel_rfl

set_option maxRecDepth 100000 in
theorem lifted (os : Os) (started : os.Started) (H : Type) (enc : TypeId × Value → H) :
    ReturnsInHanded {} Try.checked os 4 .any (Rows.loudsFindsSpec.pre6 enc Try.prog Try.f4 Rows.loudsFindsRow.domain false) (Rows.loudsFindsSpec.post enc Try.prog Try.f4 false true false false) := by
  refine returnsInHanded_of_change_shaped (C := Try.checked) own started (by kernel_rfl) Try.func4
    (ChangeSpec.witness6 (enc := enc) (C := Try.checked) false ⟨#[], #[.slice none 0 0, .string ByteArray.empty], []⟩ 8 (by kernel_rfl) (by kernel_rfl) (by kernel_rfl) (by kernel_rfl)) ?_
  intro W base args ds gs before hval0 hW hcnd hsz0 hsh _
  have hval : ∀ (j : Nat) t v, Try.f4.params[j]? = some t → args[j]? = some v → Value.okWide Try.prog W .any base t v := hval0
  have hW' := hW
  obtain ⟨p, q, hA0, hV, rfl, hfz, hnd⟩ := hW
  have hA : DataW.TrodAll enc Try.prog W 0 (fun _ => true) true Try.f4.params.toList args.toList ds p := hA0
  rw [Try.params4] at hA hval
  obtain ⟨v0, vs0, d0, ds0, p0, q0, hargs, rfl, rfl, h0, r0⟩ := trodAll_cons hA
  obtain ⟨v1, vs1, d1, ds1, p1, q1, rfl, rfl, rfl, h1, r1⟩ := trodAll_cons r0
  obtain ⟨rfl, rfl, rfl⟩ := trodAll_nil r1
  obtain rfl : args = #[v0, v1] := by cases args; simp_all
  obtain ⟨rfl, rfl⟩ := trodVars_none hV
  obtain ⟨a0, len0, cap0, rfl⟩ := okWide_slice Try.underlying22 (hval 0 22 v0 rfl rfl)
  have k0 := h0
  have lt0 : ∀ x ∈ p0, x.block < W.heap.size := by obtain ⟨m, hm⟩ := k0; exact DataW.trod_lt m _ _ _ hm
  obtain ⟨z0, w0, n0, y0⟩ : ∃ z, Reads W (.slice a0 len0 cap0) (Lo.strs z) ∧ z.length = len0 ∧ Lo.StrsOf d0 z := by
    obtain ⟨fuel, hf⟩ := h0
    exact Lo.strs_open hf
  obtain ⟨a1, rfl, rfl, rfl, w1⟩ := open_string Try.underlying9 (hval 1 9 v1 rfl rfl) h1
  clear hA0 hval0
  have hsz : (DataW.weightsEach Try.prog (Try.f4.params.toList ++ Rows.loudsFindsSpec.plain.varTypes Try.prog) (_ ++ _)).all (· ≤ reachBytes) = true := hsz0
  rw [Try.params4] at hsz
  have sy0 := Lo.sized_strs hsz (j := 0) rfl rfl y0
  have sz1 := sized_string hsz (j := 1) (t := 9) rfl rfl
  refine (walk a0 len0 cap0 z0 a1 W w0 n0 sy0 w1 (by have := sz1; simp only [reachBytes, Array.length_toList] at this; exact this)).mono fun e W' ⟨he, bel⟩ => ?_
  subst he
  exact ⟨_, rfl, _, _, _, [], _, [], hW', trodAll_mk1 (shut_bool Try.underlying4 _), (trodAll_cons_mk (Below.trod laidOut (by kernel_rfl) (of_decide_eq_true (by kernel_rfl)) k0 bel lt0) (trodAll_cons_mk (shut_string Try.underlying9 w1) trodAll_mk0)), rfl, bel.frame _, fun h => by cases h⟩

theorem over : Rows.loudsFindsRow.holds Try.pinned (OpenSpec.ofChange Rows.loudsFindsSpec) :=
  OpenClaim.holds_of_wide 4 Try.f4 rfl rfl rfl rfl rfl rfl rfl ⟨rfl, rfl, rfl, rfl, rfl⟩ rfl rfl rfl rfl rfl (by kernel_rfl) Try.func4 (by kernel_rfl)
    (of_decide_eq_true (by kernel_rfl)) (by unfold Func.isWrapper; first | (rw [if_pos (by decide +kernel)]; kernel_rfl) | (rw [if_neg (by decide +kernel)]; exact ⟨rfl, rfl⟩))
    (fun os started H enc _ => lifted os started H enc)

theorem proved : Rows.LoudsFindsSaid := over
end Go.Proofs.Ytffljcfpofhkgaa.loudsFinds
