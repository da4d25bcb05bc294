/-
  PackedFinds returns true for every list of numbers and every number: Find returns the first number that is not less. Conditions: none.
-/
import Derived.Test.YtleegkocahobkaaPkJ
import Derived.OpenShut
import Derived.ShutString
import Derived.ChangeOld
import Derived.HandedShaped
import Derived.LaidMore
import Derived.Lay
import Derived.SizedLaws
import Derived.Deep.DeepHandedRow
import Derived.Test.YtleegkocahobkaaBvFr
set_option linter.unusedVariables false
set_option linter.unusedSimpArgs false
set_option maxRecDepth 100000
namespace Go.Proofs.Ytleegkocahobkaa.packedFinds
open Go Go.RowKit Go.ChangeShapes Go.WideShapes Go.ChangeAt Go.Proofs.Ytleegkocahobkaa Go.Proofs.Ytleegkocahobkaa.Kit Go.Proofs.Ytleegkocahobkaa.Bv
open Go.ChangeMaps (open_string shut_string)
open Go.Proofs.Ytleegkocahobkaa.Pk
/-- What the loop over the list keeps: the list and its order so far, or its first number alone. -/
def FRel (a : Option Addr) (cap : Nat) (l : List Nat) (v y : Value) : Prop :=
  ∃ k m : Nat, y = .int .i64 (k : Int) ∧ k = m + 1 ∧ k ≤ l.length + 1 ∧
    ((v = .slice a l.length cap ∧ (∀ j, j < m → l.getD j 0 ≤ l.getD (j + 1) 0) ∧ (k ≤ l.length ∨ k = 1)) ∨ (v = .slice a 1 cap ∧ 2 ≤ k ∧ 1 ≤ l.length))
set_option maxHeartbeats 4000000 in
theorem walk (a0 : Option Addr) (len0 cap0 : Nat) (z0 : List Int) (a1 : Int) (w : World) (w0 : IsRow .u64 w a0 len0 cap0 z0) (w1 : (Lit.int .u64 a1).wf = true) :
    Calls Try.prog 4 #[.slice a0 len0 cap0, .int .u64 a1] w fun e w' => e = .returned (.bool true) ∧ Below w.heap.size w w' := by
  obtain ⟨l, hR, rfl, hx⟩ := u64_of_row w0
  have h1 := wf_u64 w1
  clear w0 w1
  obtain ⟨x, rfl⟩ := Int.eq_ofNat_of_zero_le h1.1
  clear h1
  have hlen := hR.len.2
  unfold maxLen at hlen
  by_cases hl : l.length ≤ 3000
  · have HR := Lib.hid hR
    have HWK := Lib.hid works_pk
    have hlz : (l.length : Int) ≤ 3000 := by omega
    have HNEW := Lib.hid (fun (L : List Nat) (hL : L.length ≤ 3000) (hLx : U64 L) (hLa : Asc L) (W : World) (a : Option Addr) (c m : Nat) (hm : L.length = m) (h : Reads W (.slice a m c) (u64s L)) => (show Calls Try.prog 11 #[.slice a m c] W (fun e w' => ∃ p, e = .returned (.tuple #[.pointer (some ⟨p, 0, none⟩), .int .i64 0]) ∧ PkAt W.heap.size w'.heap.size w' p L ∧ Below W.heap.size W w') from by subst hm; exact pnew_at L a c W (by omega) hLx h))
    have HX := Lib.hid hx
    obtain ⟨n, hn⟩ : ∃ n, l.length = n := ⟨_, rfl⟩
    have HNN := Lib.hid hn
    rw [hn] at hlen hl hlz HR ⊢
    clear hn hR hx
    go_enter Try.func4, Try.ntmps4
    go_wp2
    go_loopw [0, 5] (fun v y wr => FRel a0 cap0 l v y ∧ Below w.heap.size w wr) (fun _ y _ => (3002 - intOf y).toNat)
    case atStart => exact ⟨⟨1, 0, rfl, rfl, by omega, .inl ⟨by rw [HNN.out], fun j hj => by omega, .inr rfl⟩⟩, Below.refl _ _⟩
    case round =>
      obtain ⟨⟨k, m, rfl, hkm, hkl, hcase⟩, hb⟩ := hrel
      rw [HNN.out] at hkl hcase
      rcases hcase with ⟨rfl, hord, hke⟩ | ⟨rfl, hk2, hl1⟩
      · by_cases hlt : k < n
        · have hmn : m < n := by omega
          have hkz : (k : Int) - 1 = (m : Int) := by omega
          obtain ⟨y1, hy1⟩ : ∃ y, l[k]? = some y := ⟨_, List.getElem?_eq_getElem (by rw [HNN.out]; exact hlt)⟩
          obtain ⟨y0, hy0⟩ : ∃ y, l[m]? = some y := ⟨_, List.getElem?_eq_getElem (by rw [HNN.out]; exact hmn)⟩
          obtain ⟨b, off, rfl, hblt, hc1⟩ := Reads.cell HR.out (u64s_get hy1)
          obtain ⟨b', off', e1, _, hc0⟩ := Reads.cell HR.out (u64s_get hy0)
          cases e1
          rw [← hb.cell (p := ⟨b, off + k, none⟩) hblt] at hc1
          rw [← hb.cell (p := ⟨b, off + m, none⟩) hblt] at hc0
          have hklz : (k : Int) < (n : Int) := by omega
          have hmlz : (m : Int) < (n : Int) := by omega
          have HORD := Lib.hid hord
          have hm1 : m + 1 = k := by omega
          have hstep : Hid (y0 ≤ y1 → ∀ j, j < m + 1 → l.getD j 0 ≤ l.getD (j + 1) 0) := Lib.hid (fun h j hj => by
            by_cases e : j = m
            · subst e; rw [getD_of hy0, hm1, getD_of hy1]; exact h
            · exact HORD.out j (by omega))
          have HKM := Lib.hid hkm
          have hk0 : (0 : Int) ≤ (k : Int) := by omega
          have hm0 : (0 : Int) ≤ (m : Int) := by omega
          clear hy1 hy0 hord hke hkm hm1 hkl
          by_cases hyy : y0 ≤ y1
          · have hyz : (y0 : Int) ≤ (y1 : Int) := by omega
            have HS := Lib.hid (hstep.out hyy)
            clear hstep
            go_wp2
            go_quiet (fail)
            go_wp2
            go_roundw
            case rel => exact ⟨⟨k + 1, m + 1, by go_num, by have := HKM.out; omega, by rw [HNN.out]; omega, .inl ⟨by rw [HNN.out], HS.out, .inl (by rw [HNN.out]; omega)⟩⟩, below_drewN hb _⟩
            case measure => simp [intOf]; omega
          · have hyz : (y1 : Int) < (y0 : Int) := by omega
            have hc1 : 1 ≤ cap0 := by omega
            clear hstep HORD
            go_wp2
            go_quiet (fail)
            go_wp2
            go_roundw
            case rel => exact ⟨⟨k + 1, m + 1, by go_num, by have := HKM.out; omega, by rw [HNN.out]; omega, .inr ⟨rfl, by have := HKM.out; omega, by rw [HNN.out]; omega⟩⟩, below_drewN hb _⟩
            case measure => simp [intOf]; omega
        · have hA : Asc l := fun i hi => hord i (by rw [HNN.out] at hi; omega)
          have HN := Lib.hid (HNEW.out l (by rw [HNN.out]; omega) HX.out hA wr a0 cap0 n HNN.out (HR.out.later hb))
          have HFD := Lib.hid (fun (B0 B1 p : Nat) (W : World) (h : PkAt B0 B1 W p l) (hB : B1 ≤ W.heap.size) => find_at h hB (by rw [HNN.out]; omega) HX.out hA x)
          have HRF := Lib.hid (fun (W : World) (hW : Below w.heap.size w W) => rfind_any l a0 cap0 x W (by rw [HNN.out]; exact HR.out.later hW))
          rw [HNN.out] at HRF
          have hkz : (n : Int) ≤ (k : Int) := by omega
          have hbs := hb.size
          clear hord hke hA
          go_wp2_with (first
            | (go_at_call 11; (with_reducible refine HN.out.mono ?_); rintro e w7 ⟨p, rfl, hv, hb7⟩; have HB7 := Lib.hid (hb.trans (hb7.mono hbs)); have HF := Lib.hid (HFD.out _ _ _ _ hv (Nat.le_refl _)); clear hv hb7)
            | (go_at_call 17; (with_reducible refine HF.out.mono ?_); rintro e w8 ⟨r, rfl, hf8, hb8⟩; have HB8 := Lib.hid (HB7.out.trans (hb8.mono HB7.out.size)); have HRF8 := Lib.hid (HRF.out _ HB8.out); have HFF := Lib.hid hf8; clear hb8 hf8)
            | (go_at_call 18; (with_reducible refine HRF8.out.mono ?_); rintro e w9 ⟨s, rfl, hs, rfl⟩; have hrs := found_unique (fun i _ => rfl) HFF.out hs; subst hrs; have hee : ((r : Int) == (r : Int)) = true := beq_self_eq_true _; clear hs)
            | (go_at_call 16; (with_reducible refine (HWK.out _).mono ?_); rintro e w10 ⟨rfl, hb10⟩; have HB10 := Lib.hid (HB8.out.trans (hb10.mono HB8.out.size)); clear hb10))
          go_ret
          exact ⟨rfl, HB10.out⟩
      · obtain ⟨L, hL⟩ : ∃ L, l.take 1 = L := ⟨_, rfl⟩
        have hLl : L.length = 1 := by rw [← hL, List.length_take, HNN.out]; omega
        have hLx : U64 L := fun y hy => HX.out y (by rw [← hL] at hy; exact List.mem_of_mem_take hy)
        have hLR : Reads w (.slice a0 1 cap0) (u64s L) := by
          have := reads_take HR.out hl1
          rw [← hL]
          unfold u64s at this ⊢
          rw [List.map_take]
          exact this
        have HLL := Lib.hid hLl
        have HLX := Lib.hid hLx
        have HLR := Lib.hid hLR
        have HN := Lib.hid (HNEW.out L (by rw [hLl]; omega) hLx (asc_one L (by omega)) wr a0 cap0 1 hLl (hLR.later hb))
        have HFD := Lib.hid (fun (B0 B1 p : Nat) (W : World) (h : PkAt B0 B1 W p L) (hB : B1 ≤ W.heap.size) => find_at h hB (by rw [HLL.out]; omega) HLX.out (asc_one L (by rw [HLL.out]; exact Nat.le_refl _)) x)
        have HRF := Lib.hid (fun (W : World) (hW : Below w.heap.size w W) => rfind_any L a0 cap0 x W (by rw [HLL.out]; exact HLR.out.later hW))
        rw [HLL.out] at HRF
        have hkz : (1 : Int) ≤ (k : Int) := by omega
        have hkz2 : ¬ (k : Int) < 1 := by omega
        have hbs := hb.size
        clear hL hLl hLx hLR hl1
        go_wp2_with (first
          | (go_at_call 11; (with_reducible refine HN.out.mono ?_); rintro e w7 ⟨p, rfl, hv, hb7⟩; have HB7 := Lib.hid (hb.trans (hb7.mono hbs)); have HF := Lib.hid (HFD.out _ _ _ _ hv (Nat.le_refl _)); clear hv hb7)
          | (go_at_call 17; (with_reducible refine HF.out.mono ?_); rintro e w8 ⟨r, rfl, hf8, hb8⟩; have HB8 := Lib.hid (HB7.out.trans (hb8.mono HB7.out.size)); have HRF8 := Lib.hid (HRF.out _ HB8.out); have HFF := Lib.hid hf8; clear hb8 hf8)
          | (go_at_call 18; (with_reducible refine HRF8.out.mono ?_); rintro e w9 ⟨s, rfl, hs, rfl⟩; have hrs := found_unique (fun i _ => rfl) HFF.out hs; subst hrs; have hee : ((r : Int) == (r : Int)) = true := beq_self_eq_true _; clear hs)
          | (go_at_call 16; (with_reducible refine (HWK.out _).mono ?_); rintro e w10 ⟨rfl, hb10⟩; have HB10 := Lib.hid (HB8.out.trans (hb10.mono HB8.out.size)); clear hb10))
        go_ret
        exact ⟨rfl, HB10.out⟩
  · have hlz : (3000 : Int) < (l.length : Int) := by omega
    clear hl hR hx
    go_enter Try.func4, Try.ntmps4
    go_wp2
    go_ret
    exact ⟨rfl, Below.refl _ _⟩
theorem own : ownKnob Try.prog.godebug = none := by kernel_rfl
theorem laidOut : laidOutB Try.prog = true := by kernel_rfl

set_option maxRecDepth 100000 in
theorem lifted (os : Os) (started : os.Started) (H : Type) (enc : TypeId × Value → H) :
    ReturnsInHanded {} Try.checked os 4 .any (Rows.packedFindsSpec.pre6 enc Try.prog Try.f4 Rows.packedFindsRow.domain false) (Rows.packedFindsSpec.post enc Try.prog Try.f4 false true false false) := by
  refine returnsInHanded_of_change_shaped (C := Try.checked) own started (by kernel_rfl) Try.func4
    (ChangeSpec.witness6 (enc := enc) (C := Try.checked) false ⟨#[], #[.slice none 0 0, .int .u64 0], []⟩ 8 (by kernel_rfl) (by kernel_rfl) (by kernel_rfl) (by kernel_rfl)) ?_
  intro W base args ds gs before hval0 hW hcnd hsz0 hsh _
  have hval : ∀ (j : Nat) t v, Try.f4.params[j]? = some t → args[j]? = some v → Value.okWide Try.prog W .any base t v := hval0
  have hW' := hW
  obtain ⟨p, q, hA0, hV, rfl, hfz, hnd⟩ := hW
  have hA : DataW.TrodAll enc Try.prog W 0 (fun _ => true) true Try.f4.params.toList args.toList ds p := hA0
  rw [Try.params4] at hA hval
  obtain ⟨v0, vs0, d0, ds0, p0, q0, hargs, rfl, rfl, h0, r0⟩ := trodAll_cons hA
  obtain ⟨v1, vs1, d1, ds1, p1, q1, rfl, rfl, rfl, h1, r1⟩ := trodAll_cons r0
  obtain ⟨rfl, rfl, rfl⟩ := trodAll_nil r1
  obtain rfl : args = #[v0, v1] := by cases args; simp_all
  obtain ⟨rfl, rfl⟩ := trodVars_none hV
  obtain ⟨a0, len0, cap0, rfl⟩ := okWide_slice Try.underlying22 (hval 0 22 v0 rfl rfl)
  have k0 := h0
  have lt0 : ∀ x ∈ p0, x.block < W.heap.size := by obtain ⟨m, hm⟩ := k0; exact DataW.trod_lt m _ _ _ hm
  obtain ⟨z0, w0⟩ : ∃ zs, IsRow .u64 W a0 len0 cap0 zs := by
    obtain ⟨fuel, hf⟩ := h0
    rcases open_ints Try.underlying22 Try.underlying27 (by kernel_rfl) hf with ⟨hcs, _⟩ | ⟨x, l, c, zs, hcs, _, hl, hm, hz, _, hcell, hwz⟩
    · simp [Value.cells] at hcs
      obtain ⟨rfl, rfl, rfl⟩ := hcs
      exact ⟨[], .inl ⟨rfl, rfl, rfl, rfl⟩⟩
    · simp [Value.cells] at hcs
      obtain ⟨rfl, rfl, rfl⟩ := hcs
      exact ⟨zs, .inr ⟨_, rfl, hl, hm, by simpa using hz, hcell, hwz⟩⟩
  obtain ⟨a1, rfl, rfl, rfl, w1⟩ := open_int Try.underlying27 (hval 1 27 v1 rfl rfl) h1
  clear hA0 hval0
  refine (walk a0 len0 cap0 z0 a1 W w0 w1).mono fun e W' ⟨he, bel⟩ => ?_
  subst he
  exact ⟨_, rfl, _, _, _, [], _, [], hW', trodAll_mk1 (shut_bool Try.underlying4 _), (trodAll_cons_mk (Below.trod laidOut (by kernel_rfl) (of_decide_eq_true (by kernel_rfl)) k0 bel lt0) (trodAll_cons_mk (shut_int Try.underlying27 w1) trodAll_mk0)), rfl, bel.frame _, fun h => by cases h⟩

theorem over : Rows.packedFindsRow.holds Try.pinned (OpenSpec.ofChange Rows.packedFindsSpec) :=
  OpenClaim.holds_of_wide 4 Try.f4 rfl rfl rfl rfl rfl rfl rfl ⟨rfl, rfl, rfl, rfl, rfl⟩ rfl rfl rfl rfl rfl (by kernel_rfl) Try.func4 (by kernel_rfl)
    (of_decide_eq_true (by kernel_rfl)) (by unfold Func.isWrapper; first | (rw [if_pos (by decide +kernel)]; kernel_rfl) | (rw [if_neg (by decide +kernel)]; exact ⟨rfl, rfl⟩))
    (fun os started H enc _ => lifted os started H enc)

theorem proved : Rows.PackedFindsSaid := over
end Go.Proofs.Ytleegkocahobkaa.packedFinds
