/-
  PackedKeeps returns true for every list of numbers and every index: a sequence has the numbers of which it was made, and its width. Conditions: none.
-/
import Derived.Test.YtleegkocahobkaaPkI
import Derived.OpenShut
import Derived.ShutString
import Derived.ChangeOld
import Derived.HandedShaped
import Derived.LaidMore
import Derived.Lay
import Derived.SizedLaws
import Derived.Deep.DeepHandedRow
import Derived.Test.YtleegkocahobkaaBvFr
set_option linter.unusedVariables false
set_option linter.unusedSimpArgs false
set_option maxRecDepth 100000
namespace Go.Proofs.Ytleegkocahobkaa.packedKeeps
open Go Go.RowKit Go.ChangeShapes Go.WideShapes Go.ChangeAt Go.Proofs.Ytleegkocahobkaa Go.Proofs.Ytleegkocahobkaa.Kit Go.Proofs.Ytleegkocahobkaa.Bv
open Go.ChangeMaps (open_string shut_string)
open Go.Proofs.Ytleegkocahobkaa.Pk
theorem up_u64 (x : Nat) : IntKind.u64.wrap ((x : Int) + 1) = (((x + 1) % 18446744073709551616 : Nat) : Int) := by rw [IntKind.wrap_u64]; omega
set_option maxHeartbeats 4000000 in
theorem walk (a0 : Option Addr) (len0 cap0 : Nat) (z0 : List Int) (a1 : Int) (w : World) (w0 : IsRow .u64 w a0 len0 cap0 z0) (w1 : (Lit.int .i64 a1).wf = true) :
    Calls Try.prog 3 #[.slice a0 len0 cap0, .int .i64 a1] w fun e w' => e = .returned (.bool true) ∧ Below w.heap.size w w' := by
  obtain ⟨l, hR, rfl, hx⟩ := u64_of_row w0
  clear w0 w1
  have hlen := hR.len.2
  unfold maxLen at hlen
  by_cases hl : l.length ≤ 3000
  · obtain ⟨i0, hi, hz0, hz1, hz2⟩ := info_parts info_u64
    have HR := Lib.hid hR
    have HWK := Lib.hid works_pk
    have hlz : (l.length : Int) ≤ 3000 := by omega
    have HL3 := Lib.hid hl
    have HX := Lib.hid hx
    have HNEW := Lib.hid (fun (W : World) (a : Option Addr) (c : Nat) (h : Reads W (.slice a l.length c) (u64s l)) => pnew_at l a c W (by omega) hx h)
    have HRW := Lib.hid (fun (W : World) (hW : Below w.heap.size w W) => rwid_any l a0 cap0 W hx (hR.later hW))
    have HHAS := Lib.hid (fun (B0 B1 p : Nat) (W : World) (h : PkAt B0 B1 W p l) (hB : B1 ≤ W.heap.size) (hW : Below w.heap.size w W) => has_yes h hB (by omega) hx a0 cap0 (hR.later hW))
    have hml : (u64s l).length = l.length := u64s_len l
    have HML := Lib.hid hml
    obtain ⟨n, hn⟩ : ∃ n, l.length = n := ⟨_, rfl⟩
    have HNN := Lib.hid hn
    rw [hn] at hlen hl hlz HR HNEW HRW HHAS HML ⊢
    have HOWE := Lib.hid (own_empty w 27 w.heap.size w.heap.size 1 rfl (Nat.le_refl _))
    have HRE : Hid (Reads (w.alloc (.cells #[] 27)) (.slice a0 n cap0) (u64s l)) := Lib.hid (HR.out.later ((Below.refl _ w).alloc (Nat.le_refl _) _))
    have HBE : Hid (Below w.heap.size w (w.alloc (.cells #[] 27))) := Lib.hid ((Below.refl _ w).alloc (Nat.le_refl _) _)
    clear hn hR hx hml
    go_enter Try.func3, Try.ntmps3
    go_wp2_with (at_builtin; refine wpList_append_reads rfl _ _ _ rfl w.heap.size 27 i0 (.int .u64 0) 8 Try.underlying22 hi hz0 hz1 hz2 rfl _ 0 [] rfl HOWE.out _ n (u64s l) rfl HRE.out HML.out (u64s_oneCell l) ?c3 ?c4 ?c5 ?_)
    case c3 => unfold maxLen; omega
    case c4 => omega
    case c5 => simp
    intro v' w5 hown5 hg5
    have HB5 : Hid (Below w.heap.size w w5) := Lib.hid (below_own HBE.out HOWE.out (Nat.le_refl _) (by simp) hg5)
    obtain ⟨am, cm, hvm⟩ := own_is hown5
    subst hvm
    have HOW := Lib.hid hown5
    have HN := Lib.hid (HNEW.out w5 am cm (own_reads hown5))
    clear hown5 hg5 HOWE HRE HBE
    go_wp2_with (go_at_call 11; (with_reducible refine HN.out.mono ?_); rintro e w7 ⟨p, rfl, hv, hb7⟩; have HV := Lib.hid hv; have HB7 := Lib.hid hb7; clear hv hb7)
    have ho := own_later HOW.out HB7.out
    have hbw := HB5.out.trans (HB7.out.mono HB5.out.size)
    have hg8 : Hid (∀ k, (Value.slice am n cm).ownBlock = some k → k < w5.heap.size ∧ w.heap.size ≤ k) := Lib.hid (fun k hk => by
      refine ⟨own_row_lt HOW.out k hk, ?_⟩
      rcases HOW.out.2 with ⟨e1, _⟩ | ⟨g, cap, cur, e1, hb, _⟩
      · injection e1 with e1 e2 e3; subst e1; cases hk
      · injection e1 with e1 e2 e3; subst e1; cases hk; exact hb)
    have hs7 := HB7.out.size
    have hs5 := HB5.out.size
    have HV7 := HV
    clear HN HOW HNEW
    go_loopw [8] (fun i W => ∃ (k : Nat) (ys : List Nat), k ≤ n ∧ i = .int .i64 (k : Int) ∧ ys.length = n ∧ W.ownsRow w.heap.size 27 1 (.slice am n cm) n (u64s ys) ∧ Hid (PkAt w5.heap.size w7.heap.size W p l) ∧ Below w.heap.size w W ∧ w7.heap.size ≤ W.heap.size) (fun i _ => n - (intOf i).toNat)
    case atStart => exact ⟨0, l, Nat.zero_le _, rfl, HNN.out, ho, HV7, hbw, Nat.le_refl _⟩
    case round =>
      clear ho hbw HV7
      obtain ⟨k, ys, hk, rfl, hyl, hown, hvw, hbw, hsw⟩ := hrel
      have HYL := Lib.hid hyl
      clear hyl
      by_cases hlt : k < n
      · obtain ⟨g, hge, hgb, hgw, hcs, hfr⟩ := own_cells hown (by omega)
        have hg5 := hg8.out g (by rw [hge]; rfl)
        obtain ⟨c, hc⟩ : ∃ c, ys[k]? = some c := ⟨_, List.getElem?_eq_getElem (by rw [HYL.out]; exact hlt)⟩
        have hcell := hcs k _ (u64s_get hc)
        have hf := hfr k
        have hset := own_set (by rw [hge] at hown; exact hown) hlt (.int .u64 (((c + 1) % 18446744073709551616 : Nat) : Int))
        rw [← u64s_set] at hset
        have hup := up_u64 c
        obtain ⟨C, hC⟩ : ∃ C, (c + 1) % 18446744073709551616 = C := ⟨_, rfl⟩
        rw [hC] at hset hup
        have HSET := Lib.hid hset
        have hup2 : ((c : Int) + 1) % 18446744073709551616 = (C : Int) := by rw [← IntKind.wrap_u64]; exact hup
        have HVS : Hid (PkAt w5.heap.size w7.heap.size (wr.setCell ⟨g, k, none⟩ (.int .u64 (C : Int))) p l) := Lib.hid (hvw.out.later fun b h1 h2 => Below.heap_setCell _ _ _ _ (fun e => by have e2 : b = g := e; omega))
        have HBS := Lib.hid (hbw.setCell (p := ⟨g, k, none⟩) (by show _ ≤ g; omega) (.int .u64 (C : Int)))
        have HYS : Hid ((ys.set k C).length = n) := Lib.hid (by rw [List.length_set]; exact HYL.out)
        subst hge
        clear hset hcs hfr hc hown hgb hg5 hgw hC
        go_wp2
        go_roundw
        case rel => exact ⟨k + 1, ys.set k C, by omega, by go_num, HYS.out, HSET.out, HVS, HBS.out, by simpa using hsw⟩
        case measure => simp [intOf]; omega
      · have hkn : n ≤ k := by omega
        have HH := Lib.hid (HHAS.out _ _ _ _ hvw.out (by omega) hbw)
        have hbs := hbw.size
        obtain ⟨V, hV⟩ : ∃ V, wid l = V := ⟨_, rfl⟩
        have HVV := Lib.hid hV
        have hVd : ((V : Int) != (V : Int)) = false := by rw [bne_eq_false_iff_eq]
        rw [hV] at HRW
        clear hown hV
        go_wp2_with (first
          | (go_at_call 12; (with_reducible refine HH.out.mono ?_); rintro e w12 ⟨rfl, hb12⟩; have HB12 := Lib.hid (hbw.trans (hb12.mono hbs)); have HV12 := Lib.hid (hvw.out.below hb12 (by omega)); have HS12 : Hid (w7.heap.size ≤ w12.heap.size) := Lib.hid (by have := hb12.size; omega); have HWI := Lib.hid (wid_pk HV12.out); rw [HVV.out] at HWI; have HRW2 := Lib.hid (HRW.out _ HB12.out); clear hb12)
          | (go_at_call 13; (with_reducible refine HWI.out.mono ?_); rintro e w13 ⟨rfl, rfl⟩)
          | (go_at_call 14; (with_reducible refine HRW2.out.mono ?_); rintro e w13 ⟨rfl, rfl⟩))
        have HVZ := Lib.hid (HV12.out)
        have hs12 := HS12.out
        by_cases hin : 0 ≤ a1 ∧ a1 < (n : Int)
        · obtain ⟨h0, h1⟩ := hin
          obtain ⟨j, rfl⟩ := Int.eq_ofNat_of_zero_le h0
          obtain ⟨x, hxj⟩ : ∃ x, l[j]? = some x := ⟨_, List.getElem?_eq_getElem (by rw [HNN.out]; omega)⟩
          have HG := Lib.hid (Pk.get_at HVZ.out hs12 (by have := HL3.out; omega) HX.out hxj)
          obtain ⟨b, off, rfl, hblt, hc0⟩ := Reads.cell HR.out (u64s_get hxj)
          have hxx : ((x : Int) == (x : Int)) = true := beq_self_eq_true _
          clear hxj
          go_wp2_with (first
            | (go_at_call 15; (with_reducible refine HG.out.mono ?_); rintro e w14 ⟨rfl, hb14⟩; have HB14 := Lib.hid (HB12.out.trans (hb14.mono HB12.out.size)); have hcell : w14.cell? ⟨b, off + j, none⟩ = some (.int .u64 (x : Int)) := (by rw [HB14.out.cell (p := ⟨b, off + j, none⟩) hblt]; exact hc0); clear hb14)
            | (go_at_call 16; (with_reducible refine (HWK.out _).mono ?_); rintro e w15 ⟨rfl, hb15⟩; have HB15 := Lib.hid (HB14.out.trans (hb15.mono HB14.out.size)); clear hb15))
          go_ret
          exact ⟨rfl, HB15.out⟩
        · have hout : a1 < 0 ∨ (n : Int) ≤ a1 := by omega
          have HG := Lib.hid (get_out HVZ.out a1 (by rw [HNN.out]; exact hout))
          by_cases h0 : a1 < 0
          · clear hin hout
            go_wp2_with (first
              | (go_at_call 15; (with_reducible refine HG.out.mono ?_); rintro e w14 ⟨rfl, rfl⟩)
              | (go_at_call 16; (with_reducible refine (HWK.out _).mono ?_); rintro e w15 ⟨rfl, hb15⟩; have HB15 := Lib.hid (HB12.out.trans (hb15.mono HB12.out.size)); clear hb15))
            go_ret
            exact ⟨rfl, HB15.out⟩
          · have h1 : (n : Int) ≤ a1 := by omega
            have h2 : 0 ≤ a1 := by omega
            clear hin hout h0
            go_wp2_with (first
              | (go_at_call 15; (with_reducible refine HG.out.mono ?_); rintro e w14 ⟨rfl, rfl⟩)
              | (go_at_call 16; (with_reducible refine (HWK.out _).mono ?_); rintro e w15 ⟨rfl, hb15⟩; have HB15 := Lib.hid (HB12.out.trans (hb15.mono HB12.out.size)); clear hb15))
            go_ret
            exact ⟨rfl, HB15.out⟩
  · have hlz : (3000 : Int) < (l.length : Int) := by omega
    clear hl hR hx
    go_enter Try.func3, Try.ntmps3
    go_wp2
    go_ret
    exact ⟨rfl, Below.refl _ _⟩
theorem own : ownKnob Try.prog.godebug = none := by kernel_rfl
theorem laidOut : laidOutB Try.prog = true := by kernel_rfl

set_option maxRecDepth 100000 in
theorem lifted (os : Os) (started : os.Started) (H : Type) (enc : TypeId × Value → H) :
    ReturnsInHanded {} Try.checked os 3 .any (Rows.packedKeepsSpec.pre6 enc Try.prog Try.f3 Rows.packedKeepsRow.domain false) (Rows.packedKeepsSpec.post enc Try.prog Try.f3 false true false false) := by
  refine returnsInHanded_of_change_shaped (C := Try.checked) own started (by kernel_rfl) Try.func3
    (ChangeSpec.witness6 (enc := enc) (C := Try.checked) false ⟨#[], #[.slice none 0 0, .int .i64 0], []⟩ 8 (by kernel_rfl) (by kernel_rfl) (by kernel_rfl) (by kernel_rfl)) ?_
  intro W base args ds gs before hval0 hW hcnd hsz0 hsh _
  have hval : ∀ (j : Nat) t v, Try.f3.params[j]? = some t → args[j]? = some v → Value.okWide Try.prog W .any base t v := hval0
  have hW' := hW
  obtain ⟨p, q, hA0, hV, rfl, hfz, hnd⟩ := hW
  have hA : DataW.TrodAll enc Try.prog W 0 (fun _ => true) true Try.f3.params.toList args.toList ds p := hA0
  rw [Try.params3] at hA hval
  obtain ⟨v0, vs0, d0, ds0, p0, q0, hargs, rfl, rfl, h0, r0⟩ := trodAll_cons hA
  obtain ⟨v1, vs1, d1, ds1, p1, q1, rfl, rfl, rfl, h1, r1⟩ := trodAll_cons r0
  obtain ⟨rfl, rfl, rfl⟩ := trodAll_nil r1
  obtain rfl : args = #[v0, v1] := by cases args; simp_all
  obtain ⟨rfl, rfl⟩ := trodVars_none hV
  obtain ⟨a0, len0, cap0, rfl⟩ := okWide_slice Try.underlying22 (hval 0 22 v0 rfl rfl)
  have k0 := h0
  have lt0 : ∀ x ∈ p0, x.block < W.heap.size := by obtain ⟨m, hm⟩ := k0; exact DataW.trod_lt m _ _ _ hm
  obtain ⟨z0, w0⟩ : ∃ zs, IsRow .u64 W a0 len0 cap0 zs := by
    obtain ⟨fuel, hf⟩ := h0
    rcases open_ints Try.underlying22 Try.underlying27 (by kernel_rfl) hf with ⟨hcs, _⟩ | ⟨x, l, c, zs, hcs, _, hl, hm, hz, _, hcell, hwz⟩
    · simp [Value.cells] at hcs
      obtain ⟨rfl, rfl, rfl⟩ := hcs
      exact ⟨[], .inl ⟨rfl, rfl, rfl, rfl⟩⟩
    · simp [Value.cells] at hcs
      obtain ⟨rfl, rfl, rfl⟩ := hcs
      exact ⟨zs, .inr ⟨_, rfl, hl, hm, by simpa using hz, hcell, hwz⟩⟩
  obtain ⟨a1, rfl, rfl, rfl, w1⟩ := open_int Try.underlying3 (hval 1 3 v1 rfl rfl) h1
  clear hA0 hval0
  refine (walk a0 len0 cap0 z0 a1 W w0 w1).mono fun e W' ⟨he, bel⟩ => ?_
  subst he
  exact ⟨_, rfl, _, _, _, [], _, [], hW', trodAll_mk1 (shut_bool Try.underlying4 _), (trodAll_cons_mk (Below.trod laidOut (by kernel_rfl) (of_decide_eq_true (by kernel_rfl)) k0 bel lt0) (trodAll_cons_mk (shut_int Try.underlying3 w1) trodAll_mk0)), rfl, bel.frame _, fun h => by cases h⟩

theorem over : Rows.packedKeepsRow.holds Try.pinned (OpenSpec.ofChange Rows.packedKeepsSpec) :=
  OpenClaim.holds_of_wide 3 Try.f3 rfl rfl rfl rfl rfl rfl rfl ⟨rfl, rfl, rfl, rfl, rfl⟩ rfl rfl rfl rfl rfl (by kernel_rfl) Try.func3 (by kernel_rfl)
    (of_decide_eq_true (by kernel_rfl)) (by unfold Func.isWrapper; first | (rw [if_pos (by decide +kernel)]; kernel_rfl) | (rw [if_neg (by decide +kernel)]; exact ⟨rfl, rfl⟩))
    (fun os started H enc _ => lifted os started H enc)

theorem proved : Rows.PackedKeepsSaid := over
end Go.Proofs.Ytleegkocahobkaa.packedKeeps
