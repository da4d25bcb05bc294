/-
  BitvecHolds returns true for every list of bits and every number: a vector has the bits that it was made of, and keeps them when the list is changed. Conditions: none.
-/
import Derived.Test.YtlmhkhjjpfmkcaaBvK
import Derived.Test.YtlmhkhjjpfmkcaaBvFr
import Derived.Laws.AppendOwnNone
import Derived.OpenShut
import Derived.ShutString
import Derived.ChangeOld
import Derived.HandedShaped
import Derived.LaidMore
import Derived.Lay
import Derived.SizedLaws
import Derived.Deep.DeepHandedRow
import Derived.Test.YtlmhkhjjpfmkcaaBvFr
set_option linter.unusedVariables false
set_option linter.unusedSimpArgs false
set_option maxRecDepth 100000
namespace Go.Proofs.Ytlmhkhjjpfmkcaa.bitvecHolds
open Go Go.RowKit Go.ChangeShapes Go.WideShapes Go.ChangeAt Go.Proofs.Ytlmhkhjjpfmkcaa Go.Proofs.Ytlmhkhjjpfmkcaa.Kit Go.Proofs.Ytlmhkhjjpfmkcaa.Bv
open Go.ChangeMaps (open_string shut_string)
theorem Reads.news {w w' : World} {x : Addr} {n cap : Nat} {xs : List Value} (h : Reads w (.slice (some x) n cap) xs) (hb : Below w.heap.size w w') : ∀ j u, xs[j]? = some u → w'.cell? (x.add j) = some u := by
  intro j u hu
  obtain ⟨b, off, e, hlt, hc⟩ := Reads.cell h hu
  cases e
  rw [Addr.add_lit, hb.cell (p := ⟨b, off + j, none⟩) hlt]
  exact hc
theorem bls_oneCell (l : List Bool) : ∀ u ∈ bls l, u.oneCell' = true := by
  intro u hu
  obtain ⟨b, _, rfl⟩ := List.mem_map.1 hu
  rfl
theorem bls_set (l : List Bool) (i : Nat) (b : Bool) : bls (l.set i b) = (bls l).set i (.bool b) := by simp [bls, List.map_set]
set_option maxHeartbeats 4000000 in
theorem walk (a0 : Option Addr) (len0 cap0 : Nat) (z0 : List Bool) (a1 : Int) (w : World) (w0 : Reads w (.slice a0 len0 cap0) (bls z0)) (n0 : z0.length = len0) (w1 : (Lit.int .i64 a1).wf = true) :
    Calls Try.prog 3 #[.slice a0 len0 cap0, .int .i64 a1] w fun e w' => e = .returned (.bool true) ∧ Below w.heap.size w w' := by
  have hlen := w0.len.2
  unfold maxLen at hlen
  subst n0
  clear w1
  by_cases hl : z0.length ≤ 3000
  · obtain ⟨i0, hi, hz0, hz1, hz2⟩ := info_parts info_bool
    have H0 := Lib.hid w0
    have HWK := Lib.hid works_any
    have hlz : (z0.length : Int) ≤ 3000 := by omega
    have hl3 : z0.length ≤ 1048576 := by omega
    have HL3 := Lib.hid hl3
    have hown0 := own_empty w 4 w.heap.size w.heap.size 1 rfl (Nat.le_refl _)
    have hb0 : Below w.heap.size w (w.alloc (.cells #[] 4)) := (Below.refl _ _).alloc (Nat.le_refl _) _
    have HNEW := Lib.hid (fun (W : World) (v : Option Addr) (c : Nat) (h : W.ownsRow w.heap.size 4 1 (.slice v z0.length c) z0.length (bls z0)) => new_ok z0 v c W hl3 (own_reads h))
    have hbl : (bls z0).length = z0.length := bls_len z0
    have HBO := Lib.hid (bls_oneCell z0)
    obtain ⟨n, hn⟩ : ∃ n, z0.length = n := ⟨_, rfl⟩
    have HNN := Lib.hid hn
    rw [hn] at hlen hl H0 hlz HNEW hbl ⊢
    clear hn hl3 w0
    cases a0 with
    | none =>
      have hn0 : n = 0 := by
        obtain ⟨a, len, cap, e, _, _, _, h⟩ := H0.out
        cases e
        rcases h with ⟨_, h, _⟩ | ⟨y, h, _⟩ | ⟨b, off, h, _⟩
        · exact h
        · cases h
        · cases h
      subst hn0
      have hz0' : z0 = [] := List.eq_nil_of_length_eq_zero HNN.out
      obtain ⟨w5, hw5⟩ : ∃ w5, w.alloc (.cells #[] 4) = w5 := ⟨_, rfl⟩
      have HW5 := Lib.hid hw5
      have hown6 : w5.ownsRow w.heap.size 4 1 (.slice (some ⟨w.heap.size, 0, none⟩) 0 0) 0 (bls z0) := by rw [hz0', ← hw5]; exact hown0
      have hcap : cap0 = 0 := by
        obtain ⟨a, len, cap, e, _, _, _, h⟩ := H0.out
        cases e
        rcases h with ⟨_, _, h⟩ | ⟨y, h, _⟩ | ⟨b, off, h, _⟩
        · exact h
        · cases h
        · cases h
      subst hcap
      have HN := Lib.hid (HNEW.out _ _ _ hown6)
      have HO6 := Lib.hid hown6
      have HB5 : Hid (Below w.heap.size w w5) := Lib.hid (by rw [← hw5]; exact hb0)
      clear hown6 hz0' hw5
      go_enter Try.func3, Try.ntmps3
      go_wp2_with (at_builtin; refine wpList_append_own_none rfl _ _ _ rfl w.heap.size 4 i0 1 Try.underlying22 hi _ 0 [] rfl hown0 rfl ?_)
      rw [HW5.out]
      clear hown0 hb0 HW5
      have hgl : Hid (∀ k, (Value.slice (some ⟨w.heap.size, 0, none⟩) 0 0).ownBlock = some k → k < w5.heap.size) := Lib.hid (own_row_lt HO6.out)
      go_wp2_with (first
        | (go_at_call 12; (with_reducible refine HN.out.mono ?_); rintro e w7 ⟨p, rfl, hv, hb7⟩; have HV := Lib.hid hv; have hs7 := hb7.size; have HO7 := Lib.hid (own_later HO6.out hb7); have HB7 := Lib.hid (HB5.out.trans (hb7.mono HB5.out.size)); have HSM := Lib.hid (same_yes z0 (some ⟨w.heap.size, 0, none⟩) none 0 0 w7 (by rw [HNN.out]; exact own_reads HO7.out) (by rw [HNN.out]; exact H0.out.later HB7.out)); rw [HNN.out] at HSM; clear hv hb7)
        | (go_at_call 13; (with_reducible refine HSM.out.mono ?_); rintro e w8 ⟨rfl, hb8⟩; clear HSM))
      have hv8 := HV.out.below hb8 (Nat.le_refl _)
      have ho8 := own_later HO7.out hb8
      have hbw8 := HB7.out.trans (hb8.mono HB7.out.size)
      have hs8 := hb8.size
      clear hb8
      go_loopw [8] (fun i W => ∃ (k : Nat) (ys : List Bool), k ≤ 0 ∧ i = .int .i64 (k : Int) ∧ ys.length = 0 ∧ W.ownsRow w.heap.size 4 1 (.slice (some ⟨w.heap.size, 0, none⟩) 0 0) 0 (bls ys) ∧ Hid (VecAt w5.heap.size w7.heap.size W p z0) ∧ Below w.heap.size w W ∧ w7.heap.size ≤ W.heap.size) (fun i _ => 0 - (intOf i).toNat)
      case atStart => exact ⟨0, z0, Nat.zero_le _, rfl, HNN.out, ho8, Lib.hid hv8, hbw8, hs8⟩
      case round =>
        clear hv8 ho8 hbw8 hs8
        obtain ⟨k, ys, hk, rfl, hyl, hown, hvw, hbw, hsw⟩ := hrel
        have HYL := Lib.hid hyl
        clear hyl
        by_cases hlt : k < 0
        · exact absurd hlt (Nat.not_lt_zero _)
        · have hkn : 0 ≤ k := by omega
          have hv := hvw.out
          have HL := Lib.hid (len_any hv)
          have HBT := Lib.hid (bits_any hv hsw (by rw [HNN.out]; omega))
          have HGT := Lib.hid (fun W (hW : Below wr.heap.size wr W) => get_any (hv.below hW hsw) HL3.out a1)
          have HRG := Lib.hid (fun W (hW : Below w.heap.size w W) => rget_any z0 none 0 W (by rw [HNN.out]; exact H0.out.later hW) a1)
          rw [HNN.out] at HL HBT HRG
          obtain ⟨c, hc⟩ : ∃ c, gt z0 a1 = c := ⟨_, rfl⟩
          rw [hc] at HGT HRG
          have hcc : (c == c) = true := beq_self_eq_true c
          clear hc hv hown
          go_wp2_with (first
            | (go_at_call 14; (with_reducible refine HL.out.mono ?_); rintro e w4 ⟨rfl, rfl⟩)
            | (go_at_call 15; (with_reducible refine HBT.out.mono ?_); rintro e w9 ⟨a9, c9, rfl, hown9, hb9⟩; clear HBT; have hbw9 := hbw.trans (hb9.mono hbw.size); have HSM := Lib.hid (same_yes z0 a9 none c9 0 w9 (by rw [HNN.out]; exact own_reads hown9) (by rw [HNN.out]; exact H0.out.later hbw9)); rw [HNN.out] at HSM; clear hown9)
            | (go_at_call 13; (with_reducible refine HSM.out.mono ?_); rintro e w10 ⟨rfl, hb10⟩; have hbw10 := hbw9.trans (hb10.mono hbw9.size); have HG10 := Lib.hid (HGT.out _ (hb9.trans (hb10.mono hb9.size))); have HR10 := Lib.hid (HRG.out _ hbw10); clear hb10 HSM)
            | (go_at_call 16; (with_reducible refine HG10.out.mono ?_); rintro e w4 ⟨rfl, rfl⟩)
            | (go_at_call 17; (with_reducible refine HR10.out.mono ?_); rintro e w4 ⟨rfl, rfl⟩)
            | (go_at_call 18; (with_reducible refine (HWK.out _).mono ?_); rintro e w6 ⟨rfl, hb6⟩))
          go_ret
          exact ⟨rfl, hbw10.trans (hb6.mono hbw10.size)⟩
    | some x =>
      have HNS := Lib.hid (fun W (hW : Below w.heap.size w W) => Reads.news H0.out hW)
      go_enter Try.func3, Try.ntmps3
      go_wp2_with (at_builtin; refine wpList_append_own _ rfl _ _ _ rfl w.heap.size 4 i0 (.bool false) 1 1 Try.underlying22 hi hz0 hz1 hz2 rfl (by decide) _ 0 [] rfl hown0 x n cap0 (bls z0) rfl (by rw [hbl]; omega) (HNS.out _ hb0) ?c2 ?c3 ?c4 ?c5 ?_)
      case c2 => exact HBO.out
      case c3 => unfold maxLen; omega
      case c4 => omega
      case c5 => simp
      intro v' w5 hown5 hg5 _
      have hb5 := below_own hb0 hown0 (Nat.le_refl _) (by simp) hg5
      have hown6 : w5.ownsRow w.heap.size 4 1 v' n (bls z0) := by simpa using hown5
      obtain ⟨ai, ci, rfl⟩ := own_is hown6
      have HN := Lib.hid (HNEW.out _ _ _ hown6)
      have HO6 := Lib.hid hown6
      have HB5 := Lib.hid hb5
      clear hown5 hown6 hg5 hb5 hown0 hb0
      have hgl : Hid (∀ k, (Value.slice ai n ci).ownBlock = some k → k < w5.heap.size) := Lib.hid (own_row_lt HO6.out)
      go_wp2_with (first
        | (go_at_call 12; (with_reducible refine HN.out.mono ?_); rintro e w7 ⟨p, rfl, hv, hb7⟩; have HV := Lib.hid hv; have hs7 := hb7.size; have HO7 := Lib.hid (own_later HO6.out hb7); have HB7 := Lib.hid (HB5.out.trans (hb7.mono HB5.out.size)); have HSM := Lib.hid (same_yes z0 ai (some x) ci cap0 w7 (by rw [HNN.out]; exact own_reads HO7.out) (by rw [HNN.out]; exact H0.out.later HB7.out)); rw [HNN.out] at HSM; clear hv hb7)
        | (go_at_call 13; (with_reducible refine HSM.out.mono ?_); rintro e w8 ⟨rfl, hb8⟩; clear HSM))
      have hv8 := HV.out.below hb8 (Nat.le_refl _)
      have ho8 := own_later HO7.out hb8
      have hbw8 := HB7.out.trans (hb8.mono HB7.out.size)
      have hs8 := hb8.size
      clear hb8
      go_loopw [8] (fun i W => ∃ (k : Nat) (ys : List Bool), k ≤ n ∧ i = .int .i64 (k : Int) ∧ ys.length = n ∧ W.ownsRow w.heap.size 4 1 (.slice ai n ci) n (bls ys) ∧ Hid (VecAt w5.heap.size w7.heap.size W p z0) ∧ Below w.heap.size w W ∧ w7.heap.size ≤ W.heap.size) (fun i _ => n - (intOf i).toNat)
      case atStart => exact ⟨0, z0, Nat.zero_le _, rfl, HNN.out, ho8, Lib.hid hv8, hbw8, hs8⟩
      case round =>
        clear hv8 ho8 hbw8 hs8
        obtain ⟨k, ys, hk, rfl, hyl, hown, hvw, hbw, hsw⟩ := hrel
        have HYL := Lib.hid hyl
        clear hyl
        by_cases hlt : k < n
        · obtain ⟨g, hge, hgb, hgw, hcs, hfr⟩ := own_cells hown (by omega)
          have hg5 : g < w5.heap.size := hgl.out g (by rw [hge]; rfl)
          obtain ⟨c, hc⟩ : ∃ c, bt ys k = c := ⟨_, rfl⟩
          have hcell := hcs k (.bool c) (by rw [bls_get (by rw [HYL.out]; exact hlt), hc])
          have hf := hfr k
          have hset := own_set (by rw [hge] at hown; exact hown) hlt (.bool (!c))
          rw [← bls_set] at hset
          have HSET := Lib.hid hset
          have HVS : Hid (VecAt w5.heap.size w7.heap.size (wr.setCell ⟨g, k, none⟩ (.bool (!c))) p z0) := Lib.hid (hvw.out.later fun b h1 h2 => Below.heap_setCell _ _ _ _ (fun e => by have e2 : b = g := e; omega))
          have HBS := Lib.hid (hbw.setCell (p := ⟨g, k, none⟩) hgb (.bool (!c)))
          have HYS : Hid ((ys.set k (!c)).length = n) := Lib.hid (by rw [List.length_set]; exact HYL.out)
          subst hge
          clear hset hcs hfr hc hown hgb hg5 hgw
          go_wp2
          go_roundw
          case rel => exact ⟨k + 1, ys.set k (!c), by omega, by go_num, HYS.out, HSET.out, HVS, HBS.out, by simpa using hsw⟩
          case measure => simp [intOf]; omega
        · have hkn : n ≤ k := by omega
          have hv := hvw.out
          have HL := Lib.hid (len_any hv)
          have HBT := Lib.hid (bits_any hv hsw (by rw [HNN.out]; omega))
          have HGT := Lib.hid (fun W (hW : Below wr.heap.size wr W) => get_any (hv.below hW hsw) HL3.out a1)
          have HRG := Lib.hid (fun W (hW : Below w.heap.size w W) => rget_any z0 (some x) cap0 W (by rw [HNN.out]; exact H0.out.later hW) a1)
          rw [HNN.out] at HL HBT HRG
          obtain ⟨c, hc⟩ : ∃ c, gt z0 a1 = c := ⟨_, rfl⟩
          rw [hc] at HGT HRG
          have hcc : (c == c) = true := beq_self_eq_true c
          clear hc hv hown
          go_wp2_with (first
            | (go_at_call 14; (with_reducible refine HL.out.mono ?_); rintro e w4 ⟨rfl, rfl⟩)
            | (go_at_call 15; (with_reducible refine HBT.out.mono ?_); rintro e w9 ⟨a9, c9, rfl, hown9, hb9⟩; clear HBT; have hbw9 := hbw.trans (hb9.mono hbw.size); have HSM := Lib.hid (same_yes z0 a9 (some x) c9 cap0 w9 (by rw [HNN.out]; exact own_reads hown9) (by rw [HNN.out]; exact H0.out.later hbw9)); rw [HNN.out] at HSM; clear hown9)
            | (go_at_call 13; (with_reducible refine HSM.out.mono ?_); rintro e w10 ⟨rfl, hb10⟩; have hbw10 := hbw9.trans (hb10.mono hbw9.size); have HG10 := Lib.hid (HGT.out _ (hb9.trans (hb10.mono hb9.size))); have HR10 := Lib.hid (HRG.out _ hbw10); clear hb10 HSM)
            | (go_at_call 16; (with_reducible refine HG10.out.mono ?_); rintro e w4 ⟨rfl, rfl⟩)
            | (go_at_call 17; (with_reducible refine HR10.out.mono ?_); rintro e w4 ⟨rfl, rfl⟩)
            | (go_at_call 18; (with_reducible refine (HWK.out _).mono ?_); rintro e w6 ⟨rfl, hb6⟩))
          go_ret
          exact ⟨rfl, hbw10.trans (hb6.mono hbw10.size)⟩
  · have hlz : (3000 : Int) < (z0.length : Int) := by omega
    clear hl w0
    go_enter Try.func3, Try.ntmps3
    go_wp2
    go_ret
    exact ⟨rfl, Below.refl _ _⟩
theorem own : ownKnob Try.prog.godebug = none := by kernel_rfl
theorem laidOut : laidOutB Try.prog = true := by kernel_rfl

set_option maxRecDepth 100000 in
theorem lifted (os : Os) (started : os.Started) (H : Type) (enc : TypeId × Value → H) :
    ReturnsInHanded {} Try.checked os 3 .any (Rows.bitvecHoldsSpec.pre6 enc Try.prog Try.f3 Rows.bitvecHoldsRow.domain false) (Rows.bitvecHoldsSpec.post enc Try.prog Try.f3 false true false false) := by
  refine returnsInHanded_of_change_shaped (C := Try.checked) own started (by kernel_rfl) Try.func3
    (ChangeSpec.witness6 (enc := enc) (C := Try.checked) false ⟨#[], #[.slice none 0 0, .int .i64 0], []⟩ 8 (by kernel_rfl) (by kernel_rfl) (by kernel_rfl) (by kernel_rfl)) ?_
  intro W base args ds gs before hval0 hW hcnd hsz0 hsh _
  have hval : ∀ (j : Nat) t v, Try.f3.params[j]? = some t → args[j]? = some v → Value.okWide Try.prog W .any base t v := hval0
  have hW' := hW
  obtain ⟨p, q, hA0, hV, rfl, hfz, hnd⟩ := hW
  have hA : DataW.TrodAll enc Try.prog W 0 (fun _ => true) true Try.f3.params.toList args.toList ds p := hA0
  rw [Try.params3] at hA hval
  obtain ⟨v0, vs0, d0, ds0, p0, q0, hargs, rfl, rfl, h0, r0⟩ := trodAll_cons hA
  obtain ⟨v1, vs1, d1, ds1, p1, q1, rfl, rfl, rfl, h1, r1⟩ := trodAll_cons r0
  obtain ⟨rfl, rfl, rfl⟩ := trodAll_nil r1
  obtain rfl : args = #[v0, v1] := by cases args; simp_all
  obtain ⟨rfl, rfl⟩ := trodVars_none hV
  obtain ⟨a0, len0, cap0, rfl⟩ := okWide_slice Try.underlying22 (hval 0 22 v0 rfl rfl)
  have k0 := h0
  have lt0 : ∀ x ∈ p0, x.block < W.heap.size := by obtain ⟨m, hm⟩ := k0; exact DataW.trod_lt m _ _ _ hm
  obtain ⟨z0, w0, n0⟩ : ∃ z, Reads W (.slice a0 len0 cap0) (bls z) ∧ z.length = len0 := by
    obtain ⟨fuel, hf⟩ := h0
    exact bools_open hf
  obtain ⟨a1, rfl, rfl, rfl, w1⟩ := open_int Try.underlying3 (hval 1 3 v1 rfl rfl) h1
  clear hA0 hval0
  refine (walk a0 len0 cap0 z0 a1 W w0 n0 w1).mono fun e W' ⟨he, bel⟩ => ?_
  subst he
  exact ⟨_, rfl, _, _, _, [], _, [], hW', trodAll_mk1 (shut_bool Try.underlying4 _), (trodAll_cons_mk (Below.trod laidOut (by kernel_rfl) (of_decide_eq_true (by kernel_rfl)) k0 bel lt0) (trodAll_cons_mk (shut_int Try.underlying3 w1) trodAll_mk0)), rfl, bel.frame _, fun h => by cases h⟩

theorem over : Rows.bitvecHoldsRow.holds Try.pinned (OpenSpec.ofChange Rows.bitvecHoldsSpec) :=
  OpenClaim.holds_of_wide 3 Try.f3 rfl rfl rfl rfl rfl rfl rfl ⟨rfl, rfl, rfl, rfl, rfl⟩ rfl rfl rfl rfl rfl (by kernel_rfl) Try.func3 (by kernel_rfl)
    (of_decide_eq_true (by kernel_rfl)) (by unfold Func.isWrapper; first | (rw [if_pos (by decide +kernel)]; kernel_rfl) | (rw [if_neg (by decide +kernel)]; exact ⟨rfl, rfl⟩))
    (fun os started H enc _ => lifted os started H enc)

theorem proved : Rows.BitvecHoldsSaid := over
end Go.Proofs.Ytlmhkhjjpfmkcaa.bitvecHolds
