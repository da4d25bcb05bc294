/-
  Buffers are valid as the document says; their texts and keys are those of the document.
-/
import Derived.Test.YtlmbbpppfghcbaaM14
import Derived.OpenShut
import Derived.ShutString
import Derived.ChangeOld
import Derived.HandedShaped
import Derived.LaidMore
import Derived.Lay
import Derived.SizedLaws
import Derived.Deep.DeepHandedRow
import Derived.Test.YtlmbbpppfghcbaaM15
set_option linter.unusedVariables false
set_option linter.unusedSimpArgs false
namespace Go.Proofs.Ytlmbbpppfghcbaa.composeChecks
open Go Go.RowKit Go.ChangeShapes Go.WideShapes Go.ChangeAt Go.Proofs.Ytlmbbpppfghcbaa Go.Proofs.Ytlmbbpppfghcbaa.Kit Go.Proofs.Ytlmbbpppfghcbaa.Utf Go.Proofs.Ytlmbbpppfghcbaa.Rom Go.Proofs.Ytlmbbpppfghcbaa.Aut Go.Proofs.Ytlmbbpppfghcbaa.Cmp
open Go.ChangeMaps (open_string shut_string)
set_option maxHeartbeats 4000000 in
theorem walk (a : Option Addr) (len cap : Nat) (b : Bf) (w : World) (hI : ItR w (.slice a len cap) b.is) (hwf : (Lit.int .i64 b.c).wf = true) (hsh : Sh b) :
    Calls Try.prog 3 #[.agg #[.slice a len cap, .int .i64 b.c, .string b.p]] w fun e w' => e = .returned (.bool true) ∧ Below w.heap.size w w' := by
  have hn : b.is.length ≤ 1000000000 := by have := hsh.2.2; omega
  have HG := Lib.hid (fun (W : World) (h : Below w.heap.size w W) => given_any b (.slice a len cap) W (hI.later h (Nat.le_refl _)) hn)
  have HV := Lib.hid (fun (s : Value) (W : World) (h : ItR W s b.is) => rvalid_any b s W h hsh)
  have HC := Lib.hid (fun (W : World) (h : Below w.heap.size w W) => check_any b (.agg #[.slice a len cap, .int .i64 b.c, .string b.p]) W ⟨_, rfl, hI.later h (Nat.le_refl _)⟩ hsh)
  have HT := Lib.hid (fun (W : World) (h : Below w.heap.size w W) => text_buf b (.agg #[.slice a len cap, .int .i64 b.c, .string b.p]) W ⟨_, rfl, hI.later h (Nat.le_refl _)⟩ hsh)
  have HU := Lib.hid (fun (s : Value) (W : World) (h : ItR W s b.is) => rtext_buf b (.agg #[s, .int .i64 b.c, .string b.p]) W ⟨_, rfl, h⟩ hsh)
  have HR := Lib.hid (fun (W : World) (h : Below w.heap.size w W) => raw_buf b (.agg #[.slice a len cap, .int .i64 b.c, .string b.p]) W ⟨_, rfl, hI.later h (Nat.le_refl _)⟩ hsh)
  have HQ := Lib.hid (fun (s : Value) (W : World) (h : ItR W s b.is) => rraw_buf b (.agg #[s, .int .i64 b.c, .string b.p]) W ⟨_, rfl, h⟩ hsh)
  have HS : Hid (∀ (s : Value) (W : World), ItR W s b.is → Below w.heap.size w W → Calls Try.prog 16 #[.agg #[.slice a len cap, .int .i64 b.c, .string b.p], .agg #[s, .int .i64 b.c, .string b.p]] W fun e w' => e = .returned (.bool true) ∧ Below W.heap.size W w') := Lib.hid (fun s W h h2 => by
    have := same_any b b (.agg #[.slice a len cap, .int .i64 b.c, .string b.p]) (.agg #[s, .int .i64 b.c, .string b.p]) W ⟨_, rfl, hI.later h2 (Nat.le_refl _)⟩ ⟨_, rfl, h⟩ hn
    rwa [decide_eq_true rfl] at this)
  have HK := Lib.hid works_any
  generalize texB b = T at HT HU
  obtain ⟨T1, T2, T3⟩ := T
  generalize rawB b = R at HR HQ
  unfold chkB at HC
  generalize val b = V at HV HC
  clear hI hsh hn
  obtain ⟨is, c, p⟩ := b
  simp only at *
  cases V <;> simp only [if_true, if_false, Bool.false_eq_true] at HC
  all_goals
    go_enter Try.func3, Try.ntmps3
    go_wp2_with (first
      | (go_at_call 9; (with_reducible refine (HG.out _ ((Below.refl _ _).alloc (Nat.le_refl _) _)).mono ?_); rintro e w2 ⟨v2, rfl, ho2, hb2⟩; obtain ⟨a2, m2, k2, rfl⟩ := slice_of_own ho2; have HI2 := Lib.hid (fun o => (items_of_own ho2).1.later ((Below.refl w2.heap.size w2).alloc (Nat.le_refl _) o) (Nat.le_refl _)); have hbx1 := (hb2.block w.heap.size (by simp)).trans (heap_alloc_new w _); have hbw2 : Below w.heap.size w w2 := ((Below.refl w.heap.size w).alloc (Nat.le_refl _) _).trans (hb2.mono (by simp)); have hs2 := hb2.size; simp at hs2; clear ho2)
      | (go_at_call 10
         obtain ⟨W3, hW3⟩ : ∃ W3, w2.alloc (Obj.cells #[.slice a2 m2 k2, .int .i64 c, .string p] 27) = W3 := ⟨_, rfl⟩
         rw [hW3]
         have f1 := box_alloc hbx1 hW3
         obtain ⟨f2, hs3, hn3⟩ := box_new hW3
         have hB3 := hbw2.trans (hn3 w.heap.size (by omega))
         have HI3 := HI2.out (Obj.cells #[.slice a2 m2 k2, .int .i64 c, .string p] 27)
         rw [hW3] at HI3
         clear hW3 hbx1 HI2 hb2 hbw2
         (with_reducible refine (HV.out _ _ HI3).mono ?_)
         rintro e w4 ⟨rfl, hb4⟩
         have g1 := (hb4.block w.heap.size (by omega)).trans f1
         have g2 := (hb4.block w2.heap.size (by omega)).trans f2
         obtain ⟨b0, b1, b2, _⟩ := box_facts g1
         have hB4 := hB3.trans (hb4.mono (by omega))
         have HI4 := HI3.later hb4 (Nat.le_refl _)
         have hs4 := hb4.size
         clear f1 f2 hB3 HI3 HV hb4)
      | (go_at_call 11
         (with_reducible refine (HT.out _ hB4).mono ?_)
         rintro e w5 ⟨rfl, hb5⟩
         have g3 := (hb5.block w.heap.size (by omega)).trans g1
         have g4 := (hb5.block w2.heap.size (by omega)).trans g2
         clear b0 b1 b2 g1 g2
         obtain ⟨d0, d1, d2, _⟩ := box_facts g4
         have hB5 := hB4.trans (hb5.mono (by omega))
         have HI5 := HI4.later hb5 (Nat.le_refl _)
         have hs5 := hb5.size
         clear hB4 HI4 HT hb5)
      | (go_at_call 12
         (with_reducible refine (HU.out _ _ HI5).mono ?_)
         rintro e w6 ⟨rfl, hb6⟩
         have g5 := (hb6.block w.heap.size (by omega)).trans g3
         have g6 := (hb6.block w2.heap.size (by omega)).trans g4
         clear d0 d1 d2 g3 g4
         obtain ⟨b0, b1, b2, _⟩ := box_facts g5
         obtain ⟨d0, d1, d2, _⟩ := box_facts g6
         have hB6 := hB5.trans (hb6.mono (by omega))
         have HI6 := HI5.later hb6 (Nat.le_refl _)
         have hs6 := hb6.size
         clear hB5 HI5 HU hb6))
    clear g5 g6
    go_region_held3 (fun w' => w'.cell? ⟨w.heap.size, 0, none⟩ = some (.slice a len cap) ∧ w'.cell? ⟨w.heap.size, 1, none⟩ = some (.int .i64 c) ∧ w'.cell? ⟨w.heap.size, 2, none⟩ = some (.string p) ∧ w'.cell? ⟨w2.heap.size, 0, none⟩ = some (.slice a2 m2 k2) ∧ w'.cell? ⟨w2.heap.size, 1, none⟩ = some (.int .i64 c) ∧ w'.cell? ⟨w2.heap.size, 2, none⟩ = some (.string p) ∧ ItR w' (.slice a2 m2 k2) is ∧ Below w.heap.size w w' ∧ w2.heap.size + 1 ≤ w'.heap.size)
      (first
        | exact ⟨b0, b1, b2, d0, d1, d2, HI6.later ((Below.refl _ _).drew) (Nat.le_refl _), hB6.drew, by simp; omega⟩
        | (go_split_ands
           refine ⟨?_, ?_, ?_, ?_, ?_, ?_, ?_, ?_, ?_⟩
           · (rw [hb.cell (by simp; omega)]; assumption)
           · (rw [hb.cell (by simp; omega)]; assumption)
           · (rw [hb.cell (by simp; omega)]; assumption)
           · (rw [hb.cell (by simp; omega)]; assumption)
           · (rw [hb.cell (by simp; omega)]; assumption)
           · (rw [hb.cell (by simp; omega)]; assumption)
           · exact ItR.later (by assumption) hb (Nat.le_refl _)
           · exact Below.trans (by assumption) (hb.mono (by omega))
           · exact Nat.le_trans (by assumption) hb.size))
      (first
        | (go_at_call 13; go_split_ands; (with_reducible refine (HC.out _ (by assumption)).mono ?_); rintro e w7 ⟨rfl, hb⟩)
        | (go_at_call 14; go_split_ands; (with_reducible refine (HR.out _ (by assumption)).mono ?_); rintro e w7 ⟨rfl, hb⟩)
        | (go_at_call 15; go_split_ands; (with_reducible refine (HQ.out _ _ (by assumption)).mono ?_); rintro e w7 ⟨rfl, hb⟩)
        | (go_at_call 16; go_split_ands; (with_reducible refine (HS.out _ _ (by assumption) (by assumption)).mono ?_); rintro e w7 ⟨rfl, hb⟩)
        | (go_at_call 17; go_split_ands; (with_reducible refine (HK.out _).mono ?_); rintro e w7 ⟨rfl, hb⟩))
    all_goals
      rename_i hHeld
      obtain ⟨_, _, _, _, _, _, _, hB, _⟩ := hHeld
      go_wp2
      go_ret
      exact ⟨rfl, hB⟩
theorem own : ownKnob Try.prog.godebug = none := by kernel_rfl
theorem laidOut : laidOutB Try.prog = true := by kernel_rfl

/-- What the bound gives: a text's length. -/
theorem part_short {H : Type} {s : ByteArray} {l : List (DataW H)} (hk : Rows.uptoSmall H l = true) (hm : DataW.lit (.string s.data.toList) ∈ l) : s.size ≤ 1048576 := by
  obtain ⟨B, hB⟩ : ∃ B : Nat, B = 1048576 := ⟨_, rfl⟩
  have h : Rows.uptoBulkAll l ≤ B := by rw [hB]; exact of_decide_eq_true hk
  rw [← hB]
  clear hB hk
  have e : s.data.toList.length = s.size := by rw [Array.length_toList]; rfl
  induction l with
  | nil => cases hm
  | cons x r ih =>
    simp only [Rows.uptoBulkAll] at h
    rcases List.mem_cons.1 hm with rfl | hr
    · simp only [Rows.uptoBulk] at h; omega
    · exact ih hr (by omega)

theorem part_bulk {H : Type} {d : DataW H} {l : List (DataW H)} (hk : Rows.uptoSmall H l = true) (hm : d ∈ l) : Rows.uptoBulk d ≤ 1048576 := by
  obtain ⟨B, hB⟩ : ∃ B : Nat, B = 1048576 := ⟨_, rfl⟩
  have h : Rows.uptoBulkAll l ≤ B := by rw [hB]; exact of_decide_eq_true hk
  rw [← hB]
  exact Nat.le_trans (bulk_mem hm) h

set_option maxRecDepth 100000 in
theorem contract (H : Type) (enc : TypeId × Value → H) (W : World) (base : Nat) (args : Array Value) (ds gs : List (DataW H)) (before : List MemPlace)
    (hval0 : ∀ (j : Nat) t v, Try.f3.params[j]? = some t → args[j]? = some v → Value.okWide Try.prog W .any base t v)
    (hW : DataW.Whole enc Try.prog Try.f3.params.toList Rows.composeChecksSpec.vars false W args.toList ds gs before) (hk : Rows.uptoSmall H (ds ++ gs) = true) (hsh : W.ShapedOpen Try.prog) :
    Calls Try.prog 3 args W fun e W' => ∃ v, e = .returned v ∧ Rows.composeChecksSpec.post enc Try.prog Try.f3 false true false false W args v W' := by
  have hval : ∀ (j : Nat) t v, Try.f3.params[j]? = some t → args[j]? = some v → Value.okWide Try.prog W .any base t v := hval0
  have hW' := hW
  obtain ⟨p, q, hA0, hV, rfl, hfz, hnd⟩ := hW
  have hA : DataW.TrodAll enc Try.prog W 0 (fun _ => true) true Try.f3.params.toList args.toList ds p := hA0
  rw [Try.params3] at hA hval
  obtain ⟨v0, vs0, d0, ds0, p0, q0, hargs, rfl, rfl, h0, r0⟩ := trodAll_cons hA
  obtain ⟨rfl, rfl, rfl⟩ := trodAll_nil r0
  obtain rfl : args = #[v0] := by cases args; simp_all
  obtain ⟨rfl, rfl⟩ := trodVars_none hV
  obtain ⟨cs0, rfl, hcs0⟩ := okWide_struct Try.underlying24 (hval 0 24 v0 rfl rfl)
  have k0 := h0
  have lt0 : ∀ x ∈ p0, x.block < W.heap.size := by obtain ⟨m, hm⟩ := k0; exact DataW.trod_lt m _ _ _ hm
  obtain ⟨a0, len0, cap0, z0, rfl, w0, n0, bk0⟩ := buf_open hcs0 h0
  clear hA0 hval0
  simp only [List.append_nil] at hk
  have u0 := bk0 (part_bulk hk (.head _))
  refine (walk a0 len0 cap0 z0 W w0 n0 u0).mono fun e W' ⟨he, bel⟩ => ?_
  subst he
  exact ⟨_, rfl, _, _, _, [], _, [], hW', trodAll_mk1 (shut_bool Try.underlying4 _), (trodAll_cons_mk (Below.trod laidOut (by kernel_rfl) (of_decide_eq_true (by kernel_rfl)) k0 bel lt0) trodAll_mk0), rfl, bel.frame _, fun h => by cases h⟩

/-- THAT THERE IS AN INPUT THAT FITS, out of a world that is laid whole. -/
theorem witness_row_shaped {H : Type} {enc : TypeId × Value → H} {C : Checked} {os : Os} {f : FuncId} {fn : Func} {s : OpenSpec} {conds : List PathCond} {apart : Bool} {laid : List (String × DataW Unit)} (modest : Bool) (w0 : World) (args : Array Value) (hos : w0.os = os)
    (hsh : (w0.forCall (fun _ _ => 0) ⟨#[], args, []⟩).Shaped C.prog)
    (hok : Input.okWideB C.prog (w0.forCall (fun _ _ => 0) ⟨#[], args, []⟩) f ⟨#[], args, []⟩ = true)
    (hrow : s.preRow enc C.prog fn conds apart laid (w0.forCall (fun _ _ => 0) ⟨#[], args, []⟩).memory args) :
    ∃ (w : World) (tape : Tape) (i : Input), w.os = os ∧ (w.forCall tape i).Shaped C.prog ∧ i.vars = [] ∧ Input.okWide C.prog (w.forCall tape i) .any w.heap.size f i ∧
      s.preRow enc C.prog fn conds apart laid (w.forCall tape i).memory i.args ∧ ({ modest := modest } : Assume).holds C.prog (lone (Frame.enter C.prog f i.args .normal) [] (w.forCall tape i)) :=
  ⟨w0, fun _ _ => 0, ⟨#[], args, []⟩, hos, hsh, (Input.okWide_of_okWideB (base := 0) hok).1, (Input.okWide_of_okWideB hok).2, hrow, by
    simp only [Assume.holds]
    exact ⟨by simp, by simp, fun _ => Modest.zero, by simp, by simp⟩⟩

set_option maxRecDepth 100000 in
theorem lifted (os : Os) (started : os.Started) (H : Type) (enc : TypeId × Value → H) (F : Stop.Interp) :
    ReturnsInHanded {} Try.checked os 3 .any ((Rows.OpenSpec.upto Rows.composeChecksSpec).preRow enc Try.prog Try.f3 Rows.composeChecksUptoRow.domain false Rows.composeChecksUptoRow.laid) (((Rows.OpenSpec.upto Rows.composeChecksSpec).at F).post enc Try.prog Try.f3 false true false false) := by
  refine returnsInHanded_of_row (C := Try.checked) (s := Rows.OpenSpec.upto Rows.composeChecksSpec) own started (by kernel_rfl) Try.func3
    (witness_row_shaped (enc := enc) (C := Try.checked) (os := os) false (World.laidAll Try.prog os Rows.composeChecksUptoRow.laid) #[.agg #[.slice none 0 0, .int .i64 0, .string ByteArray.empty]] (World.laidAll_os _ _ _)
      (World.shaped_of_ZipB (by kernel_rfl) (by kernel_rfl)) (by kernel_rfl)
      (OpenSpec.preRow_of_cond 8 (x := ([.agg [.nil, .lit (.int .i64 0), .lit (.string [])]], [], [])) (by kernel_rfl) (by kernel_rfl) (fun k hk => by cases hk; kernel_rfl) (by kernel_rfl)
        (by rw [MakeChecks.laidMetH_plain _ _ _ (by kernel_rfl)]; exact laidMet_laidAll _ (by kernel_rfl) (by kernel_rfl)))) ?_
  intro W base args ds gs before hval hW _ hcond _ hL hsh _
  exact contract H enc W base args ds gs before hval hW (hcond _ rfl) hsh

theorem over : Rows.composeChecksUptoRow.holds Try.pinned (Rows.OpenSpec.upto Rows.composeChecksSpec) :=
  OpenClaim.holds_of_cond 3 Try.f3 rfl rfl rfl rfl rfl rfl rfl ⟨rfl, rfl, rfl, rfl, rfl⟩ rfl rfl rfl rfl rfl (by kernel_rfl) Try.func3 (by kernel_rfl)
    (of_decide_eq_true (by kernel_rfl)) (by unfold Func.isWrapper; first | (rw [if_pos (by decide +kernel)]; kernel_rfl) | (rw [if_neg (by decide +kernel)]; exact ⟨rfl, rfl⟩))
    (fun os started H enc _ F => by rw [OpenClaim.pre_eq_preRow]; exact lifted os started H enc F)

theorem proved : Rows.ComposeChecksUptoSaid := over
end Go.Proofs.Ytlmbbpppfghcbaa.composeChecks
