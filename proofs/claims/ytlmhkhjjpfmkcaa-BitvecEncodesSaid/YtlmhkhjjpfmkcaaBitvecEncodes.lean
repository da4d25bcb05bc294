/-
  BitvecEncodes returns true for every list of bits: the code of a vector is what the document says, in new memory each time. Conditions: none.
-/
import Derived.Test.YtlmhkhjjpfmkcaaBvK
import Derived.Test.YtlmhkhjjpfmkcaaBvFr
import Derived.Deep.RegionLaw
import Derived.OpenShut
import Derived.ShutString
import Derived.ChangeOld
import Derived.HandedShaped
import Derived.LaidMore
import Derived.Lay
import Derived.SizedLaws
import Derived.Deep.DeepHandedRow
import Derived.Test.YtlmhkhjjpfmkcaaBvFr
set_option linter.unusedVariables false
set_option linter.unusedSimpArgs false
set_option maxRecDepth 100000
namespace Go.Proofs.Ytlmhkhjjpfmkcaa.bitvecEncodes
open Go Go.RowKit Go.ChangeShapes Go.WideShapes Go.ChangeAt Go.Proofs.Ytlmhkhjjpfmkcaa Go.Proofs.Ytlmhkhjjpfmkcaa.Kit Go.Proofs.Ytlmhkhjjpfmkcaa.Bv
open Go.ChangeMaps (open_string shut_string)
theorem u8s_get {l : List UInt8} {i : Nat} {b : UInt8} (h : l[i]? = some b) : (u8s l)[i]? = some (.int .u8 (b.toNat : Int)) := by
  unfold u8s; rw [List.getElem?_map, h]; rfl
theorem u8s_set (l : List UInt8) (i : Nat) (b : UInt8) : u8s (l.set i b) = (u8s l).set i (.int .u8 (b.toNat : Int)) := by simp [u8s, List.map_set]
theorem byte_up (b : UInt8) : IntKind.u8.wrap ((b.toNat : Int) + 1) = ((UInt8.ofNat (b.toNat + 1)).toNat : Int) := by
  rw [IntKind.wrap_u8, UInt8.toNat_ofNat']; omega
set_option maxHeartbeats 4000000 in
theorem walk (a0 : Option Addr) (len0 cap0 : Nat) (z0 : List Bool) (w : World) (w0 : Reads w (.slice a0 len0 cap0) (bls z0)) (n0 : z0.length = len0) :
    Calls Try.prog 6 #[.slice a0 len0 cap0] w fun e w' => e = .returned (.bool true) ∧ Below w.heap.size w w' := by
  have hlen := w0.len.2
  unfold maxLen at hlen
  subst n0
  by_cases hl : z0.length ≤ 3000
  · have HN := Lib.hid (new_ok z0 a0 cap0 w (by omega) w0)
    have H0 := Lib.hid w0
    have HWK := Lib.hid works_any
    have hlz : (z0.length : Int) ≤ 3000 := by omega
    have hl3 : z0.length ≤ 1048576 := by omega
    have HL3 := Lib.hid hl3
    have hcl : (code z0).length ≤ 100000 := by rw [code_len]; unfold nw nc; omega
    have HENC := Lib.hid (fun (B0 B1 p : Nat) (w : World) (h : VecAt B0 B1 w p z0) (hB : B1 ≤ w.heap.size) => encode_any h hB hl3)
    have HREN := Lib.hid (fun (W : World) (hW : Below w.heap.size w W) => rencode_any z0 a0 cap0 W (w0.later hW) hl3)
    have HBIT := Lib.hid (fun (B0 B1 p : Nat) (w : World) (h : VecAt B0 B1 w p z0) (hB : B1 ≤ w.heap.size) => bits_any h hB (by omega))
    have HSAM := Lib.hid (fun (a : Option Addr) (c : Nat) (W : World) (h : Reads W (.slice a z0.length c) (bls z0)) (hW : Below w.heap.size w W) => same_yes z0 a a0 c cap0 W h (w0.later hW))
    obtain ⟨n, hn⟩ : ∃ n, z0.length = n := ⟨_, rfl⟩
    rw [hn] at hlen hl hlz H0 HN HREN HBIT HSAM ⊢
    obtain ⟨cb, hcb⟩ : ∃ cb, code z0 = cb := ⟨_, rfl⟩
    rw [hcb] at hcl HENC HREN
    obtain ⟨N, hNN⟩ : ∃ N, cb.length = N := ⟨_, rfl⟩
    have HNN := Lib.hid hNN
    clear hn w0 hl3 hcb hNN
    have hs := beq_self_eq_true (⟨cb.toArray⟩ : ByteArray).toList
    go_enter Try.func6, Try.ntmps6
    go_wp2_with (first
      | (go_at_call 12; (with_reducible refine HN.out.mono ?_); rintro e w7 ⟨p, rfl, hv, hb7⟩; have HV := Lib.hid hv; have HB7 := Lib.hid hb7; have HE := Lib.hid (HENC.out _ _ _ _ hv (Nat.le_refl _)); clear hv hb7)
      | (go_at_call 23; (with_reducible refine HE.out.mono ?_); rintro e w8 ⟨a8, c8, rfl, ho8, hb8⟩; have HO8 := Lib.hid ho8; have HB8 := Lib.hid hb8; have HBW8 := Lib.hid (HB7.out.trans (hb8.mono HB7.out.size)); have HR := Lib.hid (HREN.out _ HBW8.out); clear ho8 hb8 HE)
      | (go_at_call 24; (with_reducible refine HR.out.mono ?_); rintro e w9 ⟨a9, c9, rfl, ho9, hb9⟩; have hcv8 := conv_row (own_later HO8.out hb9); have hcv9 := conv_row ho9; have HO9 := Lib.hid ho9; have HB9 := Lib.hid hb9; clear ho9 hb9 HR))
    have ho := own_later HO8.out HB9.out
    have hbw := HBW8.out.trans (HB9.out.mono HBW8.out.size)
    have hs9 := HB9.out.size
    have hs8 := HB8.out.size
    have hv9 := (HV.out.below HB8.out (Nat.le_refl _)).below HB9.out hs8
    have hg8 : Hid (∀ k, (Value.slice a8 cb.length c8).ownBlock = some k → k < w8.heap.size) := Lib.hid (own_row_lt HO8.out)
    have hN1 : N ≤ 100000 := by rw [← HNN.out]; exact hcl
    rw [HNN.out] at ho hg8 ⊢
    go_loopw [7] (fun i W => ∃ (k : Nat) (ys : List UInt8), k ≤ N ∧ i = .int .i64 (k : Int) ∧ ys.length = N ∧ W.ownsRow w7.heap.size 5 1 (.slice a8 N c8) N (u8s ys) ∧ Hid (VecAt w.heap.size w7.heap.size W p z0) ∧ Hid (W.ownsRow w8.heap.size 5 1 (.slice a9 N c9) N (u8s cb)) ∧ Below w.heap.size w W ∧ w9.heap.size ≤ W.heap.size) (fun i _ => N - (intOf i).toNat)
    case atStart => exact ⟨0, cb, Nat.zero_le _, rfl, HNN.out, ho, Lib.hid hv9, Lib.hid (by have := HO9.out; rw [HNN.out] at this; exact this), hbw, Nat.le_refl _⟩
    case round =>
      clear ho hv9 hbw
      obtain ⟨k, ys, hk, rfl, hyl, hown, hvw, how, hbw, hsw⟩ := hrel
      have HYL := Lib.hid hyl
      clear hyl
      by_cases hlt : k < N
      · obtain ⟨g, hge, hgb, hgw, hcs, hfr⟩ := own_cells hown (by omega)
        have hg5 : g < w8.heap.size := hg8.out g (by rw [hge]; rfl)
        obtain ⟨c, hc⟩ : ∃ c, ys[k]? = some c := ⟨_, List.getElem?_eq_getElem (by rw [HYL.out]; exact hlt)⟩
        have hcell := hcs k _ (u8s_get hc)
        have hf := hfr k
        have hset := own_set (by rw [hge] at hown; exact hown) hlt (.int .u8 ((UInt8.ofNat (c.toNat + 1)).toNat : Int))
        rw [← u8s_set] at hset
        have HSET := Lib.hid hset
        have hup := byte_up c
        obtain ⟨C, hC⟩ : ∃ C, (UInt8.ofNat (c.toNat + 1)) = C := ⟨_, rfl⟩
        rw [hC] at HSET hup
        have hup2 : ((c.toNat : Int) + 1) % 256 = (C.toNat : Int) := by rw [← IntKind.wrap_u8]; exact hup
        have HVS : Hid (VecAt w.heap.size w7.heap.size (wr.setCell ⟨g, k, none⟩ (.int .u8 (C.toNat : Int))) p z0) := Lib.hid (hvw.out.later fun b h1 h2 => Below.heap_setCell _ _ _ _ (fun e => by have e2 : b = g := e; omega))
        have HOS : Hid ((wr.setCell ⟨g, k, none⟩ (.int .u8 (C.toNat : Int))).ownsRow w8.heap.size 5 1 (.slice a9 N c9) N (u8s cb)) := Lib.hid (ownsRow_setCell_below how.out hg5 _)
        have HBS := Lib.hid (hbw.setCell (p := ⟨g, k, none⟩) (by have := HB7.out.size; show _ ≤ g; omega) (.int .u8 (C.toNat : Int)))
        have HYS : Hid ((ys.set k C).length = N) := Lib.hid (by rw [List.length_set]; exact HYL.out)
        subst hge
        clear hset hcs hfr hc hown hgb hg5 hgw hC hcv8 hcv9
        go_wp2
        go_roundw
        case rel => exact ⟨k + 1, ys.set k C, by omega, by go_num, HYS.out, HSET.out, HVS, HOS, HBS.out, by simpa using hsw⟩
        case measure => simp [intOf]; omega
      · have hkn : N ≤ k := by omega
        have hcv := conv_row how.out
        have hcvd : (convert 35 9 (.slice a9 N c9)).run Try.prog wr.drew = .ok (.string ⟨cb.toArray⟩) wr.drew := conv_row (w := wr.drew) how.out
        have hsz7 : w7.heap.size ≤ wr.heap.size := by omega
        have HE2 := Lib.hid (fun W (hW : Below wr.heap.size wr W) => HENC.out _ _ _ _ (hvw.out.below hW hsz7) (by have := hW.size; omega))
        have HBT := Lib.hid (fun W (hW : Below wr.heap.size wr W) => HBIT.out _ _ _ _ (hvw.out.below hW hsz7) (by have := hW.size; omega))
        have HBW := Lib.hid hbw
        clear hown hcv8 hcv9 hs8 hs9 hg8
        go_wp2
        go_region_law (first
          | (go_simp; go_at_call 23; (with_reducible refine (HE2.out _ (by first | exact Below.refl _ _ | exact (Below.refl _ _).drew | exact ((Below.refl _ _).drew).drew)).mono ?_); rintro e w10 ⟨a10, c10, rfl, ho10, hb10⟩; have hbw10 : Below wr.heap.size wr w10 := (by first | exact hb10 | exact ((Below.refl _ _).drew).trans hb10 | exact (((Below.refl _ _).drew).drew).trans hb10); have q1 := conv_row ho10; have q1d : (convert 35 9 (.slice a10 cb.length c10)).run Try.prog w10.drew = .ok (.string ⟨cb.toArray⟩) w10.drew := conv_row (w := w10.drew) ho10; have q2 := conv_row (own_later how.out (hbw10.mono (Nat.le_refl _))); have q2d : (convert 35 9 (.slice a9 N c9)).run Try.prog w10.drew = .ok (.string ⟨cb.toArray⟩) w10.drew := conv_row (w := w10.drew) (own_later how.out hbw10.drew); clear hb10 ho10)
          | (go_simp; go_at_call 15; (with_reducible refine (HBT.out _ (by first | exact hbw10 | exact hbw10.drew | exact hbw10.drew.drew)).mono ?_); rintro e w11 ⟨a11, c11, rfl, ho11, hb11⟩; have hbw11 : Below wr.heap.size wr w11 := (by first | exact hbw10.trans (hb11.mono hbw10.size) | exact hbw10.drew.trans (hb11.mono hbw10.size) | exact hbw10.drew.drew.trans (hb11.mono hbw10.size)); have HBW11 := Lib.hid (HBW.out.trans (hbw11.mono HBW.out.size)); have HR11 := Lib.hid (own_reads ho11); clear hb11 ho11)
          | (go_simp; go_at_call 13; (with_reducible refine (HSAM.out _ _ _ (by first | exact HR11.out | exact HR11.out.drewN 1) (by first | exact HBW11.out | exact HBW11.out.drew)).mono ?_); rintro e w12 ⟨rfl, hb12⟩; have HBW12 : Hid (Below w.heap.size w w12) := Lib.hid (by first | exact HBW11.out.trans (hb12.mono HBW11.out.size) | exact HBW11.out.drew.trans (hb12.mono HBW11.out.size)); clear hb12)
          | (go_simp; go_at_call 18; (with_reducible refine (HWK.out _).mono ?_); rintro e w13 ⟨rfl, hb13⟩; have HBW13 : Hid (Below w.heap.size w w13) := Lib.hid (by first | exact HBW12.out.trans (hb13.mono HBW12.out.size) | exact HBW12.out.drew.trans (hb13.mono HBW12.out.size)); clear hb13))
        all_goals go_wp2
        all_goals go_ret
        all_goals first | exact ⟨rfl, HBW13.out⟩ | exact ⟨rfl, HBW13.out.drew⟩
  · have hlz : (3000 : Int) < (z0.length : Int) := by omega
    clear hl w0
    go_enter Try.func6, Try.ntmps6
    go_wp2
    go_ret
    exact ⟨rfl, Below.refl _ _⟩
theorem own : ownKnob Try.prog.godebug = none := by kernel_rfl
theorem laidOut : laidOutB Try.prog = true := by kernel_rfl

set_option maxRecDepth 100000 in
theorem lifted (os : Os) (started : os.Started) (H : Type) (enc : TypeId × Value → H) :
    ReturnsInHanded {} Try.checked os 6 .any (Rows.bitvecEncodesSpec.pre6 enc Try.prog Try.f6 Rows.bitvecEncodesRow.domain false) (Rows.bitvecEncodesSpec.post enc Try.prog Try.f6 false true false false) := by
  refine returnsInHanded_of_change_shaped (C := Try.checked) own started (by kernel_rfl) Try.func6
    (ChangeSpec.witness6 (enc := enc) (C := Try.checked) false ⟨#[], #[.slice none 0 0], []⟩ 8 (by kernel_rfl) (by kernel_rfl) (by kernel_rfl) (by kernel_rfl)) ?_
  intro W base args ds gs before hval0 hW hcnd hsz0 hsh _
  have hval : ∀ (j : Nat) t v, Try.f6.params[j]? = some t → args[j]? = some v → Value.okWide Try.prog W .any base t v := hval0
  have hW' := hW
  obtain ⟨p, q, hA0, hV, rfl, hfz, hnd⟩ := hW
  have hA : DataW.TrodAll enc Try.prog W 0 (fun _ => true) true Try.f6.params.toList args.toList ds p := hA0
  rw [Try.params6] at hA hval
  obtain ⟨v0, vs0, d0, ds0, p0, q0, hargs, rfl, rfl, h0, r0⟩ := trodAll_cons hA
  obtain ⟨rfl, rfl, rfl⟩ := trodAll_nil r0
  obtain rfl : args = #[v0] := by cases args; simp_all
  obtain ⟨rfl, rfl⟩ := trodVars_none hV
  obtain ⟨a0, len0, cap0, rfl⟩ := okWide_slice Try.underlying22 (hval 0 22 v0 rfl rfl)
  have k0 := h0
  have lt0 : ∀ x ∈ p0, x.block < W.heap.size := by obtain ⟨m, hm⟩ := k0; exact DataW.trod_lt m _ _ _ hm
  obtain ⟨z0, w0, n0⟩ : ∃ z, Reads W (.slice a0 len0 cap0) (bls z) ∧ z.length = len0 := by
    obtain ⟨fuel, hf⟩ := h0
    exact bools_open hf
  clear hA0 hval0
  refine (walk a0 len0 cap0 z0 W w0 n0).mono fun e W' ⟨he, bel⟩ => ?_
  subst he
  exact ⟨_, rfl, _, _, _, [], _, [], hW', trodAll_mk1 (shut_bool Try.underlying4 _), (trodAll_cons_mk (Below.trod laidOut (by kernel_rfl) (of_decide_eq_true (by kernel_rfl)) k0 bel lt0) trodAll_mk0), rfl, bel.frame _, fun h => by cases h⟩

theorem over : Rows.bitvecEncodesRow.holds Try.pinned (OpenSpec.ofChange Rows.bitvecEncodesSpec) :=
  OpenClaim.holds_of_wide 6 Try.f6 rfl rfl rfl rfl rfl rfl rfl ⟨rfl, rfl, rfl, rfl, rfl⟩ rfl rfl rfl rfl rfl (by kernel_rfl) Try.func6 (by kernel_rfl)
    (of_decide_eq_true (by kernel_rfl)) (by unfold Func.isWrapper; first | (rw [if_pos (by decide +kernel)]; kernel_rfl) | (rw [if_neg (by decide +kernel)]; exact ⟨rfl, rfl⟩))
    (fun os started H enc _ => lifted os started H enc)

theorem proved : Rows.BitvecEncodesSaid := over
end Go.Proofs.Ytlmhkhjjpfmkcaa.bitvecEncodes
