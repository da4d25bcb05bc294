/-
  PackedEncodes returns true for every list of numbers: the code of a sequence is what the document says, in new memory. Conditions: none.
-/
import Derived.Test.YtleegkocahobkaaPkI
import Derived.OpenShut
import Derived.ShutString
import Derived.ChangeOld
import Derived.HandedShaped
import Derived.LaidMore
import Derived.Lay
import Derived.SizedLaws
import Derived.Deep.DeepHandedRow
import Derived.Test.YtleegkocahobkaaBvFr
set_option linter.unusedVariables false
set_option linter.unusedSimpArgs false
set_option maxRecDepth 100000
namespace Go.Proofs.Ytleegkocahobkaa.packedEncodes
open Go Go.RowKit Go.ChangeShapes Go.WideShapes Go.ChangeAt Go.Proofs.Ytleegkocahobkaa Go.Proofs.Ytleegkocahobkaa.Kit Go.Proofs.Ytleegkocahobkaa.Bv
open Go.ChangeMaps (open_string shut_string)
open Go.Proofs.Ytleegkocahobkaa.Pk
set_option maxHeartbeats 4000000 in
theorem walk (a0 : Option Addr) (len0 cap0 : Nat) (z0 : List Int) (w : World) (w0 : IsRow .u64 w a0 len0 cap0 z0) :
    Calls Try.prog 5 #[.slice a0 len0 cap0] w fun e w' => e = .returned (.bool true) ∧ Below w.heap.size w w' := by
  obtain ⟨l, hR, rfl, hx⟩ := u64_of_row w0
  clear w0
  have hlen := hR.len.2
  unfold maxLen at hlen
  by_cases hl : l.length ≤ 3000
  · have HN := Lib.hid (pnew_at l a0 cap0 w (by omega) hx hR)
    have HR := Lib.hid hR
    have HWK := Lib.hid works_pk
    have hlz : (l.length : Int) ≤ 3000 := by omega
    have HENC := Lib.hid (fun (B0 B1 p : Nat) (w : World) (h : PkAt B0 B1 w p l) (hB : B1 ≤ w.heap.size) => encode_at h hB (by omega) hx)
    have HREN := Lib.hid (fun (W : World) (hW : Below w.heap.size w W) => penc_any l a0 cap0 W (by omega) hx (hR.later hW))
    have HHAS := Lib.hid (fun (B0 B1 p : Nat) (W : World) (h : PkAt B0 B1 W p l) (hB : B1 ≤ W.heap.size) (hW : Below w.heap.size w W) => has_yes h hB (by omega) hx a0 cap0 (hR.later hW))
    have hcl : (pcode l).length ≤ 30000 := by
      have h1 : l.length * wid l ≤ 3000 * 64 := Nat.mul_le_mul hl (wid_64 hx)
      unfold pcode
      rw [codeP_len]
      omega
    obtain ⟨n, hn⟩ : ∃ n, l.length = n := ⟨_, rfl⟩
    rw [hn] at hlen hl hlz HN HR HREN HHAS ⊢
    obtain ⟨cb, hcb⟩ : ∃ cb, pcode l = cb := ⟨_, rfl⟩
    rw [hcb] at HENC HREN hcl
    obtain ⟨N, hNN⟩ : ∃ N, cb.length = N := ⟨_, rfl⟩
    have HNN := Lib.hid hNN
    rw [hNN] at hcl
    clear hn hR hx hcb hNN
    go_enter Try.func5, Try.ntmps5
    go_wp2_with (first
      | (go_at_call 11; (with_reducible refine HN.out.mono ?_); rintro e w7 ⟨p, rfl, hv, hb7⟩; have HV := Lib.hid hv; have HB7 := Lib.hid hb7; have HE := Lib.hid (HENC.out _ _ _ _ hv (Nat.le_refl _)); clear hv hb7)
      | (go_at_call 19; (with_reducible refine HE.out.mono ?_); rintro e w8 ⟨a8, c8, rfl, ho8, hb8⟩; have HO8 := Lib.hid ho8; have HB8 := Lib.hid hb8; have HBW8 := Lib.hid (HB7.out.trans (hb8.mono HB7.out.size)); have HRE := Lib.hid (HREN.out _ HBW8.out); clear ho8 hb8 HE)
      | (go_at_call 21; (with_reducible refine HRE.out.mono ?_); rintro e w9 ⟨a9, c9, rfl, ho9, hb9⟩; have HB9 := Lib.hid hb9; have HSB := Lib.hid (samb_any cb cb a8 a9 c8 c9 true (decide_eq_true rfl) w9 (own_reads (own_later HO8.out hb9)) (own_reads ho9)); clear ho9 hb9 HRE)
      | (go_at_call 20; (with_reducible refine HSB.out.mono ?_); rintro e w10 ⟨rfl, hb10⟩; have HB10 := Lib.hid hb10; clear HSB hb10))
    have hs8 := HB8.out.size
    have hs9 := HB9.out.size
    have hs10 := HB10.out.size
    have ho := own_later (own_later HO8.out HB9.out) HB10.out
    have hbw := (HBW8.out.trans (HB9.out.mono HBW8.out.size)).trans (HB10.out.mono (by have := HBW8.out.size; omega))
    have hv10 := ((HV.out.below HB8.out (Nat.le_refl _)).below HB9.out hs8).below HB10.out (by omega)
    have hg8 : Hid (∀ k, (Value.slice a8 cb.length c8).ownBlock = some k → w7.heap.size ≤ k) := Lib.hid (fun k hk => by
      rcases HO8.out.2 with ⟨e1, _⟩ | ⟨g, cap, cur, e1, hb, _⟩
      · injection e1 with e1 e2 e3; subst e1; cases hk
      · injection e1 with e1 e2 e3; subst e1; cases hk; exact hb)
    rw [HNN.out] at ho hg8 ⊢
    have hz7 := HB7.out.size
    have hcb : Hid (cb.length = N) := HNN
    clear HN HO8 HENC HREN
    go_loopw [6] (fun i W => ∃ (k : Nat) (ys : List UInt8), k ≤ N ∧ i = .int .i64 (k : Int) ∧ ys.length = N ∧ W.ownsRow w7.heap.size 5 1 (.slice a8 N c8) N (u8s ys) ∧ Hid (PkAt w.heap.size w7.heap.size W p l) ∧ Below w.heap.size w W ∧ w10.heap.size ≤ W.heap.size) (fun i _ => N - (intOf i).toNat)
    case atStart => exact ⟨0, cb, Nat.zero_le _, rfl, HNN.out, ho, Lib.hid hv10, hbw, Nat.le_refl _⟩
    case round =>
      clear ho hv10 hbw
      obtain ⟨k, ys, hk, rfl, hyl, hown, hvw, hbw, hsw⟩ := hrel
      have HYL := Lib.hid hyl
      clear hyl
      by_cases hlt : k < N
      · obtain ⟨g, hge, hgb, hgw, hcs, hfr⟩ := own_cells hown (by omega)
        have hg5 : w7.heap.size ≤ g := hg8.out g (by rw [hge]; rfl)
        obtain ⟨c, hc⟩ : ∃ c, ys[k]? = some c := ⟨_, List.getElem?_eq_getElem (by rw [HYL.out]; exact hlt)⟩
        have hcell := hcs k _ (u8_get hc)
        have hf := hfr k
        have hset := own_set (by rw [hge] at hown; exact hown) hlt (.int .u8 ((UInt8.ofNat (c.toNat + 1)).toNat : Int))
        rw [← u8s_set] at hset
        have HSET := Lib.hid hset
        have hup := byte_up c
        obtain ⟨C, hC⟩ : ∃ C, (UInt8.ofNat (c.toNat + 1)) = C := ⟨_, rfl⟩
        rw [hC] at HSET hup
        have hup2 : ((c.toNat : Int) + 1) % 256 = (C.toNat : Int) := by rw [← IntKind.wrap_u8]; exact hup
        have HVS : Hid (PkAt w.heap.size w7.heap.size (wr.setCell ⟨g, k, none⟩ (.int .u8 (C.toNat : Int))) p l) := Lib.hid (hvw.out.later fun b h1 h2 => Below.heap_setCell _ _ _ _ (fun e => by have e2 : b = g := e; omega))
        have HBS := Lib.hid (hbw.setCell (p := ⟨g, k, none⟩) (by show _ ≤ g; omega) (.int .u8 (C.toNat : Int)))
        have HYS : Hid ((ys.set k C).length = N) := Lib.hid (by rw [List.length_set]; exact HYL.out)
        subst hge
        clear hset hcs hfr hc hown hgb hg5 hgw hC
        go_wp2
        go_roundw
        case rel => exact ⟨k + 1, ys.set k C, by omega, by go_num, HYS.out, HSET.out, HVS, HBS.out, by simpa using hsw⟩
        case measure => simp [intOf]; omega
      · have hkn : N ≤ k := by omega
        have HH := Lib.hid (HHAS.out _ _ _ _ hvw.out (by omega) hbw)
        have hbs := hbw.size
        clear hown
        go_wp2_with (first
          | (go_at_call 12; (with_reducible refine HH.out.mono ?_); rintro e w12 ⟨rfl, hb12⟩; have HB12 := Lib.hid (hbw.trans (hb12.mono hbs)); clear hb12)
          | (go_at_call 16; (with_reducible refine (HWK.out _).mono ?_); rintro e w13 ⟨rfl, hb13⟩; have HB13 := Lib.hid (HB12.out.trans (hb13.mono HB12.out.size)); clear hb13))
        go_ret
        exact ⟨rfl, HB13.out⟩
  · have hlz : (3000 : Int) < (l.length : Int) := by omega
    clear hl hR hx
    go_enter Try.func5, Try.ntmps5
    go_wp2
    go_ret
    exact ⟨rfl, Below.refl _ _⟩
theorem own : ownKnob Try.prog.godebug = none := by kernel_rfl
theorem laidOut : laidOutB Try.prog = true := by kernel_rfl

set_option maxRecDepth 100000 in
theorem lifted (os : Os) (started : os.Started) (H : Type) (enc : TypeId × Value → H) :
    ReturnsInHanded {} Try.checked os 5 .any (Rows.packedEncodesSpec.pre6 enc Try.prog Try.f5 Rows.packedEncodesRow.domain false) (Rows.packedEncodesSpec.post enc Try.prog Try.f5 false true false false) := by
  refine returnsInHanded_of_change_shaped (C := Try.checked) own started (by kernel_rfl) Try.func5
    (ChangeSpec.witness6 (enc := enc) (C := Try.checked) false ⟨#[], #[.slice none 0 0], []⟩ 8 (by kernel_rfl) (by kernel_rfl) (by kernel_rfl) (by kernel_rfl)) ?_
  intro W base args ds gs before hval0 hW hcnd hsz0 hsh _
  have hval : ∀ (j : Nat) t v, Try.f5.params[j]? = some t → args[j]? = some v → Value.okWide Try.prog W .any base t v := hval0
  have hW' := hW
  obtain ⟨p, q, hA0, hV, rfl, hfz, hnd⟩ := hW
  have hA : DataW.TrodAll enc Try.prog W 0 (fun _ => true) true Try.f5.params.toList args.toList ds p := hA0
  rw [Try.params5] at hA hval
  obtain ⟨v0, vs0, d0, ds0, p0, q0, hargs, rfl, rfl, h0, r0⟩ := trodAll_cons hA
  obtain ⟨rfl, rfl, rfl⟩ := trodAll_nil r0
  obtain rfl : args = #[v0] := by cases args; simp_all
  obtain ⟨rfl, rfl⟩ := trodVars_none hV
  obtain ⟨a0, len0, cap0, rfl⟩ := okWide_slice Try.underlying22 (hval 0 22 v0 rfl rfl)
  have k0 := h0
  have lt0 : ∀ x ∈ p0, x.block < W.heap.size := by obtain ⟨m, hm⟩ := k0; exact DataW.trod_lt m _ _ _ hm
  obtain ⟨z0, w0⟩ : ∃ zs, IsRow .u64 W a0 len0 cap0 zs := by
    obtain ⟨fuel, hf⟩ := h0
    rcases open_ints Try.underlying22 Try.underlying27 (by kernel_rfl) hf with ⟨hcs, _⟩ | ⟨x, l, c, zs, hcs, _, hl, hm, hz, _, hcell, hwz⟩
    · simp [Value.cells] at hcs
      obtain ⟨rfl, rfl, rfl⟩ := hcs
      exact ⟨[], .inl ⟨rfl, rfl, rfl, rfl⟩⟩
    · simp [Value.cells] at hcs
      obtain ⟨rfl, rfl, rfl⟩ := hcs
      exact ⟨zs, .inr ⟨_, rfl, hl, hm, by simpa using hz, hcell, hwz⟩⟩
  clear hA0 hval0
  refine (walk a0 len0 cap0 z0 W w0).mono fun e W' ⟨he, bel⟩ => ?_
  subst he
  exact ⟨_, rfl, _, _, _, [], _, [], hW', trodAll_mk1 (shut_bool Try.underlying4 _), (trodAll_cons_mk (Below.trod laidOut (by kernel_rfl) (of_decide_eq_true (by kernel_rfl)) k0 bel lt0) trodAll_mk0), rfl, bel.frame _, fun h => by cases h⟩

theorem over : Rows.packedEncodesRow.holds Try.pinned (OpenSpec.ofChange Rows.packedEncodesSpec) :=
  OpenClaim.holds_of_wide 5 Try.f5 rfl rfl rfl rfl rfl rfl rfl ⟨rfl, rfl, rfl, rfl, rfl⟩ rfl rfl rfl rfl rfl (by kernel_rfl) Try.func5 (by kernel_rfl)
    (of_decide_eq_true (by kernel_rfl)) (by unfold Func.isWrapper; first | (rw [if_pos (by decide +kernel)]; kernel_rfl) | (rw [if_neg (by decide +kernel)]; exact ⟨rfl, rfl⟩))
    (fun os started H enc _ => lifted os started H enc)

theorem proved : Rows.PackedEncodesSaid := over
end Go.Proofs.Ytleegkocahobkaa.packedEncodes
