/-
  PackedDecodes returns true for all bytes: exactly the codes of sequences are decoded. Conditions: none.
-/
import Derived.Test.YtleegkocahobkaaPkN
import Derived.Test.YtleegkocahobkaaBvFr
import Derived.OpenShut
import Derived.ShutString
import Derived.ChangeOld
import Derived.HandedShaped
import Derived.LaidMore
import Derived.Lay
import Derived.SizedLaws
import Derived.Deep.DeepHandedRow
import Derived.Test.YtleegkocahobkaaBvFr
set_option linter.unusedVariables false
set_option linter.unusedSimpArgs false
set_option maxRecDepth 100000
namespace Go.Proofs.Ytleegkocahobkaa.packedDecodes
open Go Go.RowKit Go.ChangeShapes Go.WideShapes Go.ChangeAt Go.Proofs.Ytleegkocahobkaa Go.Proofs.Ytleegkocahobkaa.Kit Go.Proofs.Ytleegkocahobkaa.Bv
open Go.ChangeMaps (open_string shut_string)
open Go.Proofs.Ytleegkocahobkaa.Pk
set_option maxHeartbeats 4000000 in
theorem walk (a0 : Option Addr) (len0 cap0 : Nat) (z0 : List UInt8) (w : World) (w0 : Reads w (.slice a0 len0 cap0) (u8s z0)) (n0 : z0.length = len0) :
    Calls Try.prog 6 #[.slice a0 len0 cap0] w fun e w' => e = .returned (.bool true) ∧ Below w.heap.size w w' := by
  have hlen := w0.len.2
  unfold maxLen at hlen
  subst n0
  by_cases hl : z0.length ≤ 3000
  · obtain ⟨i0, hi, hz0, hz1, hz2⟩ := info_parts info_u8
    have HR := Lib.hid w0
    have HWK := Lib.hid works_pk
    have hlz : (z0.length : Int) ≤ 3000 := by omega
    have HDEC := Lib.hid (fun (W : World) (a : Option Addr) (c : Nat) (h : Reads W (.slice a z0.length c) (u8s z0)) => pdec_any z0 a c W h (by omega))
    have HRDEC := Lib.hid (fun (W : World) (hW : Below w.heap.size w W) => rdec_any z0 a0 cap0 W (w0.later hW) (by omega))
    have hml : (u8s z0).length = z0.length := u8s_len z0
    have HML := Lib.hid hml
    have HDS := Lib.hid (fun l (h : decP z0 = some l) => decP_some h)
    obtain ⟨o, ho⟩ : ∃ o, decP z0 = o := ⟨_, rfl⟩
    rw [ho] at HDEC HRDEC HDS
    obtain ⟨n, hn⟩ : ∃ n, z0.length = n := ⟨_, rfl⟩
    have HNN := Lib.hid hn
    rw [hn] at hlen hl hlz HR HDEC HRDEC HML ⊢
    have HOWE := Lib.hid (own_empty w 5 w.heap.size w.heap.size 1 rfl (Nat.le_refl _))
    have HRE : Hid (Reads (w.alloc (.cells #[] 5)) (.slice a0 n cap0) (u8s z0)) := Lib.hid (HR.out.later ((Below.refl _ w).alloc (Nat.le_refl _) _))
    have HBE : Hid (Below w.heap.size w (w.alloc (.cells #[] 5))) := Lib.hid ((Below.refl _ w).alloc (Nat.le_refl _) _)
    clear hn w0 hml ho
    go_enter Try.func6, Try.ntmps6
    go_wp2_with (at_builtin; refine wpList_append_reads rfl _ _ _ rfl w.heap.size 5 i0 (.int .u8 0) 1 Try.underlying38 hi hz0 hz1 hz2 rfl _ 0 [] rfl HOWE.out _ n (u8s z0) rfl HRE.out HML.out (u8s_oneCell z0) ?c3 ?c4 ?c5 ?_)
    case c3 => unfold maxLen; omega
    case c4 => omega
    case c5 => simp
    intro v' w5 hown5 hg5
    have HB5 : Hid (Below w.heap.size w w5) := Lib.hid (below_own HBE.out HOWE.out (Nat.le_refl _) (by simp) hg5)
    obtain ⟨am, cm, hvm⟩ := own_is hown5
    subst hvm
    have HOW := Lib.hid hown5
    have HN := Lib.hid (HDEC.out w5 am cm (own_reads hown5))
    clear hown5 hg5 HOWE HRE HBE
    have hg8 : Hid (∀ k, (Value.slice am n cm).ownBlock = some k → k < w5.heap.size ∧ w.heap.size ≤ k) := Lib.hid (fun k hk => by
      refine ⟨own_row_lt HOW.out k hk, ?_⟩
      rcases HOW.out.2 with ⟨e1, _⟩ | ⟨g, cap, cur, e1, hb, _⟩
      · injection e1 with e1 e2 e3; subst e1; cases hk
      · injection e1 with e1 e2 e3; subst e1; cases hk; exact hb)
    have hs5 := HB5.out.size
    cases o with
    | none =>
      go_wp2_with (go_at_call 22; (with_reducible refine HN.out.mono ?_); rintro e w7 ⟨rfl, hb7⟩; have HB7 := Lib.hid hb7; clear hb7)
      have ho := own_later HOW.out HB7.out
      have hbw := HB5.out.trans (HB7.out.mono HB5.out.size)
      have hs7 := HB7.out.size
      clear HN HOW HDEC HDS
      go_loopw [6] (fun i W => ∃ (k : Nat) (ys : List UInt8), k ≤ n ∧ i = .int .i64 (k : Int) ∧ ys.length = n ∧ W.ownsRow w.heap.size 5 1 (.slice am n cm) n (u8s ys) ∧ Below w.heap.size w W ∧ w7.heap.size ≤ W.heap.size) (fun i _ => n - (intOf i).toNat)
      case atStart => exact ⟨0, z0, Nat.zero_le _, rfl, HNN.out, ho, hbw, Nat.le_refl _⟩
      case round =>
        clear ho hbw
        obtain ⟨k, ys, hk, rfl, hyl, hown, hbw, hsw⟩ := hrel
        have HYL := Lib.hid hyl
        clear hyl
        by_cases hlt : k < n
        · obtain ⟨g, hge, hgb, hgw, hcs, hfr⟩ := own_cells hown (by omega)
          have hg5 := hg8.out g (by rw [hge]; rfl)
          obtain ⟨c, hc⟩ : ∃ c, ys[k]? = some c := ⟨_, List.getElem?_eq_getElem (by rw [HYL.out]; exact hlt)⟩
          have hcell := hcs k _ (u8_get hc)
          have hf := hfr k
          have hset := own_set (by rw [hge] at hown; exact hown) hlt (.int .u8 ((UInt8.ofNat (c.toNat + 1)).toNat : Int))
          rw [← Pk.u8s_set] at hset
          have HSET := Lib.hid hset
          have hup := byte_up c
          obtain ⟨C, hC⟩ : ∃ C, (UInt8.ofNat (c.toNat + 1)) = C := ⟨_, rfl⟩
          rw [hC] at HSET hup
          have hup2 : ((c.toNat : Int) + 1) % 256 = (C.toNat : Int) := by rw [← IntKind.wrap_u8]; exact hup
          have HBS := Lib.hid (hbw.setCell (p := ⟨g, k, none⟩) (by show _ ≤ g; omega) (.int .u8 (C.toNat : Int)))
          have HYS : Hid ((ys.set k C).length = n) := Lib.hid (by rw [List.length_set]; exact HYL.out)
          subst hge
          clear hset hcs hfr hc hown hgb hg5 hgw hC
          go_wp2
          go_roundw
          case rel => exact ⟨k + 1, ys.set k C, by omega, by go_num, HYS.out, HSET.out, HBS.out, by simpa using hsw⟩
          case measure => simp [intOf]; omega
        · have hkn : n ≤ k := by omega
          have HRD := Lib.hid (HRDEC.out _ hbw)
          have HBW := Lib.hid hbw
          clear hown hbw
          go_wp2_with (first
            | (go_at_call 23; (with_reducible refine HRD.out.mono ?_); rintro e w12 ⟨a12, n12, c12, rfl, hb12⟩; have HB12 := Lib.hid (HBW.out.trans (hb12.mono HBW.out.size)); clear hb12)
            | (go_at_call 16; (with_reducible refine (HWK.out _).mono ?_); rintro e w13 ⟨rfl, hb13⟩; have HB13 := Lib.hid (HB12.out.trans (hb13.mono HB12.out.size)); clear hb13))
          go_ret
          exact ⟨rfl, HB13.out⟩
    | some l =>
      obtain ⟨_, hll, hlx⟩ := HDS.out l rfl
      have HLL := Lib.hid hll
      have HLX := Lib.hid hlx
      clear hll hlx
      go_wp2_with (go_at_call 22; (with_reducible refine HN.out.mono ?_); rintro e w7 ⟨p, rfl, hv, hb7⟩; have HV := Lib.hid hv; have HB7 := Lib.hid hb7; clear hv hb7)
      have ho := own_later HOW.out HB7.out
      have hbw := HB5.out.trans (HB7.out.mono HB5.out.size)
      have hs7 := HB7.out.size
      have HV7 := HV
      clear HN HOW HDEC HDS
      go_loopw [6] (fun i W => ∃ (k : Nat) (ys : List UInt8), k ≤ n ∧ i = .int .i64 (k : Int) ∧ ys.length = n ∧ W.ownsRow w.heap.size 5 1 (.slice am n cm) n (u8s ys) ∧ Hid (PkAt w5.heap.size w7.heap.size W p l) ∧ Below w.heap.size w W ∧ w7.heap.size ≤ W.heap.size) (fun i _ => n - (intOf i).toNat)
      case atStart => exact ⟨0, z0, Nat.zero_le _, rfl, HNN.out, ho, HV7, hbw, Nat.le_refl _⟩
      case round =>
        clear ho hbw HV7
        obtain ⟨k, ys, hk, rfl, hyl, hown, hvw, hbw, hsw⟩ := hrel
        have HYL := Lib.hid hyl
        clear hyl
        by_cases hlt : k < n
        · obtain ⟨g, hge, hgb, hgw, hcs, hfr⟩ := own_cells hown (by omega)
          have hg5 := hg8.out g (by rw [hge]; rfl)
          obtain ⟨c, hc⟩ : ∃ c, ys[k]? = some c := ⟨_, List.getElem?_eq_getElem (by rw [HYL.out]; exact hlt)⟩
          have hcell := hcs k _ (u8_get hc)
          have hf := hfr k
          have hset := own_set (by rw [hge] at hown; exact hown) hlt (.int .u8 ((UInt8.ofNat (c.toNat + 1)).toNat : Int))
          rw [← Pk.u8s_set] at hset
          have HSET := Lib.hid hset
          have hup := byte_up c
          obtain ⟨C, hC⟩ : ∃ C, (UInt8.ofNat (c.toNat + 1)) = C := ⟨_, rfl⟩
          rw [hC] at HSET hup
          have hup2 : ((c.toNat : Int) + 1) % 256 = (C.toNat : Int) := by rw [← IntKind.wrap_u8]; exact hup
          have HVS : Hid (PkAt w5.heap.size w7.heap.size (wr.setCell ⟨g, k, none⟩ (.int .u8 (C.toNat : Int))) p l) := Lib.hid (hvw.out.later fun b h1 h2 => Below.heap_setCell _ _ _ _ (fun e => by have e2 : b = g := e; omega))
          have HBS := Lib.hid (hbw.setCell (p := ⟨g, k, none⟩) (by show _ ≤ g; omega) (.int .u8 (C.toNat : Int)))
          have HYS : Hid ((ys.set k C).length = n) := Lib.hid (by rw [List.length_set]; exact HYL.out)
          subst hge
          clear hset hcs hfr hc hown hgb hg5 hgw hC
          go_wp2
          go_roundw
          case rel => exact ⟨k + 1, ys.set k C, by omega, by go_num, HYS.out, HSET.out, HVS, HBS.out, by simpa using hsw⟩
          case measure => simp [intOf]; omega
        · have hkn : n ≤ k := by omega
          have HRD := Lib.hid (HRDEC.out _ hbw)
          have HBW := Lib.hid hbw
          clear hown hbw
          go_wp2_with (first
            | (go_at_call 23; (with_reducible refine HRD.out.mono ?_); rintro e w12 ⟨a12, c12, rfl, hr12, hb12⟩; have HB12 := Lib.hid (HBW.out.trans (hb12.mono HBW.out.size)); have hs12 := hb12.size; have HH := Lib.hid (has_yes (hvw.out.below hb12 hsw) (by omega) (by have := HLL.out; omega) HLX.out a12 c12 hr12); clear hb12 hr12 HRD)
            | (go_at_call 12; (with_reducible refine HH.out.mono ?_); rintro e w13 ⟨rfl, hb13⟩; have HB13 := Lib.hid (HB12.out.trans (hb13.mono HB12.out.size)); clear hb13)
            | (go_at_call 16; (with_reducible refine (HWK.out _).mono ?_); rintro e w14 ⟨rfl, hb14⟩; have HB14 := Lib.hid (HB13.out.trans (hb14.mono HB13.out.size)); clear hb14))
          go_ret
          exact ⟨rfl, HB14.out⟩
  · have hlz : (3000 : Int) < (z0.length : Int) := by omega
    clear hl w0
    go_enter Try.func6, Try.ntmps6
    go_wp2
    go_ret
    exact ⟨rfl, Below.refl _ _⟩
theorem own : ownKnob Try.prog.godebug = none := by kernel_rfl
theorem laidOut : laidOutB Try.prog = true := by kernel_rfl

set_option maxRecDepth 100000 in
theorem lifted (os : Os) (started : os.Started) (H : Type) (enc : TypeId × Value → H) :
    ReturnsInHanded {} Try.checked os 6 .any (Rows.packedDecodesSpec.pre6 enc Try.prog Try.f6 Rows.packedDecodesRow.domain false) (Rows.packedDecodesSpec.post enc Try.prog Try.f6 false true false false) := by
  refine returnsInHanded_of_change_shaped (C := Try.checked) own started (by kernel_rfl) Try.func6
    (ChangeSpec.witness6 (enc := enc) (C := Try.checked) false ⟨#[], #[.slice none 0 0], []⟩ 8 (by kernel_rfl) (by kernel_rfl) (by kernel_rfl) (by kernel_rfl)) ?_
  intro W base args ds gs before hval0 hW hcnd hsz0 hsh _
  have hval : ∀ (j : Nat) t v, Try.f6.params[j]? = some t → args[j]? = some v → Value.okWide Try.prog W .any base t v := hval0
  have hW' := hW
  obtain ⟨p, q, hA0, hV, rfl, hfz, hnd⟩ := hW
  have hA : DataW.TrodAll enc Try.prog W 0 (fun _ => true) true Try.f6.params.toList args.toList ds p := hA0
  rw [Try.params6] at hA hval
  obtain ⟨v0, vs0, d0, ds0, p0, q0, hargs, rfl, rfl, h0, r0⟩ := trodAll_cons hA
  obtain ⟨rfl, rfl, rfl⟩ := trodAll_nil r0
  obtain rfl : args = #[v0] := by cases args; simp_all
  obtain ⟨rfl, rfl⟩ := trodVars_none hV
  obtain ⟨a0, len0, cap0, rfl⟩ := okWide_slice Try.underlying38 (hval 0 38 v0 rfl rfl)
  have k0 := h0
  have lt0 : ∀ x ∈ p0, x.block < W.heap.size := by obtain ⟨m, hm⟩ := k0; exact DataW.trod_lt m _ _ _ hm
  obtain ⟨z0, w0, n0⟩ : ∃ z, Reads W (.slice a0 len0 cap0) (u8s z) ∧ z.length = len0 := by
    obtain ⟨fuel, hf⟩ := h0
    exact bytes_open hf
  clear hA0 hval0
  refine (walk a0 len0 cap0 z0 W w0 n0).mono fun e W' ⟨he, bel⟩ => ?_
  subst he
  exact ⟨_, rfl, _, _, _, [], _, [], hW', trodAll_mk1 (shut_bool Try.underlying4 _), (trodAll_cons_mk (Below.trod laidOut (by kernel_rfl) (of_decide_eq_true (by kernel_rfl)) k0 bel lt0) trodAll_mk0), rfl, bel.frame _, fun h => by cases h⟩

theorem over : Rows.packedDecodesRow.holds Try.pinned (OpenSpec.ofChange Rows.packedDecodesSpec) :=
  OpenClaim.holds_of_wide 6 Try.f6 rfl rfl rfl rfl rfl rfl rfl ⟨rfl, rfl, rfl, rfl, rfl⟩ rfl rfl rfl rfl rfl (by kernel_rfl) Try.func6 (by kernel_rfl)
    (of_decide_eq_true (by kernel_rfl)) (by unfold Func.isWrapper; first | (rw [if_pos (by decide +kernel)]; kernel_rfl) | (rw [if_neg (by decide +kernel)]; exact ⟨rfl, rfl⟩))
    (fun os started H enc _ => lifted os started H enc)

theorem proved : Rows.PackedDecodesSaid := over
end Go.Proofs.Ytleegkocahobkaa.packedDecodes
