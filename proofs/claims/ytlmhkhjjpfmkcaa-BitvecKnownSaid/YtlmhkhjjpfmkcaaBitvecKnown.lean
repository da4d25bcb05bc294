/-
  BitvecKnown returns true: the examples of the chapter, and a nil vector. Conditions: none.
-/
import Derived.Test.YtlmhkhjjpfmkcaaBvM
import Derived.Test.YtlmhkhjjpfmkcaaBvFr
import Derived.Lib.ConvBytes
import Derived.Lib.SmallJoins
import Derived.OpenShut
import Derived.ShutString
import Derived.ChangeOld
import Derived.HandedShaped
import Derived.LaidMore
import Derived.Lay
import Derived.SizedLaws
import Derived.Deep.DeepHandedRow
import Derived.Test.YtlmhkhjjpfmkcaaBvFr
set_option linter.unusedVariables false
set_option linter.unusedSimpArgs false
set_option maxRecDepth 100000
namespace Go.Proofs.Ytlmhkhjjpfmkcaa.bitvecKnown
open Go Go.RowKit Go.ChangeShapes Go.WideShapes Go.ChangeAt Go.Proofs.Ytlmhkhjjpfmkcaa Go.Proofs.Ytlmhkhjjpfmkcaa.Kit Go.Proofs.Ytlmhkhjjpfmkcaa.Bv
open Go.ChangeMaps (open_string shut_string)
def bad : List (List UInt8) := [[], [0, 0, 0, 0, 0], [4, 0, 0, 0, 13, 0, 0, 0, 0, 0, 0, 0, 1, 0, 0, 0], [4, 0, 0, 0, 29, 0, 0, 0, 0, 0, 0, 0, 0, 0, 0, 0], [4, 0, 0, 0, 13, 0, 0, 0, 0, 0, 0, 0, 0, 0, 0], [65, 0, 0, 0, 0, 0, 0, 0, 0, 0, 0, 0, 0, 0, 0, 0], [1, 0, 0, 0, 0, 0, 0, 0, 0, 0, 0, 0, 1, 0, 0, 0], [255, 255, 255, 255]]
theorem bad_none : ∀ bs ∈ bad, decL bs = none := by decide +kernel
theorem bad_len : ∀ bs ∈ bad, bs.length ≤ 16 := by decide +kernel
theorem code_nil : code [] = [0, 0, 0, 0] := by decide +kernel
def badV : List Value := bad.map fun bs => Value.string ⟨bs.toArray⟩
theorem badV_get {k : Nat} (h : k < 8) : ∃ bs ∈ bad, badV[k]? = some (.string ⟨bs.toArray⟩) := by
  have hl : k < bad.length := h
  refine ⟨bad[k], List.getElem_mem hl, ?_⟩
  unfold badV
  rw [List.getElem?_map, List.getElem?_eq_getElem hl]; rfl
/-- A string made a slice of bytes. -/
theorem conv_string (bs : List UInt8) (hl : bs.length ≤ 1000) (w : World) : ∃ (cap : Nat) (W : World), (convert 9 35 (.string ⟨bs.toArray⟩)).run Try.prog w = .ok (.slice (some ⟨w.heap.size, 0, none⟩) bs.length cap) W ∧ Reads W (.slice (some ⟨w.heap.size, 0, none⟩) bs.length cap) (u8s bs) ∧ Below w.heap.size w W := by
  have hsz : (⟨bs.toArray⟩ : ByteArray).size = bs.length := by show bs.toArray.size = _; simp
  refine ⟨grownCap w bs.length 0 5, Lib.bytesWorld w 5 ⟨bs.toArray⟩, ?_, ?_, Go.Joins.below_bytesWorld _ _ _ _ (Nat.le_refl _)⟩
  · have h := Lib.run_convert_string_bytes (P := Try.prog) w 9 35 5 ⟨bs.toArray⟩ Try.underlying9 Try.underlying35 Try.underlying5
    rw [hsz] at h
    exact h
  · refine ⟨_, _, _, rfl, by rw [u8s_len], grownCap_ge _ _ _ _, grownCap_le_maxLen _ _ _ _ (by unfold maxLen; omega), .inr (.inr ⟨w.heap.size, 0, rfl, by rw [Lib.bytesWorld_size]; omega, fun i x hi => ?_⟩)⟩
    rw [Nat.zero_add]
    unfold u8s at hi
    rw [List.getElem?_map] at hi
    by_cases hil : i < bs.length
    · rw [Lib.bytesWorld_cell _ _ _ i (by rw [hsz]; exact hil)]
      rw [List.getElem?_eq_getElem hil] at hi
      simp only [Option.map_some, Option.some.injEq] at hi
      rw [← hi, List.getD_eq_getElem?_getD]
      simp [hil]
    · rw [List.getElem?_eq_none (by omega)] at hi
      cases hi
set_option maxHeartbeats 4000000 in
theorem walk (w : World) :
    Calls Try.prog 11 #[] w fun e w' => e = .returned (.bool true) ∧ Below w.heap.size w w' := by
  have HLN := Lib.hid len_nil
  have HGN := Lib.hid get_nil
  have HRN := Lib.hid rank_nil
  have HSN := Lib.hid select_nil
  have HEN := Lib.hid encode_nil
  have HWK := Lib.hid works_any
  have HNW : Hid (∀ W, Calls Try.prog 12 #[.slice none 0 0] W (NewPost [] W)) := Lib.hid (fun W => new_ok [] none 0 W (by decide) ⟨none, 0, 0, rfl, rfl, Nat.le_refl _, Nat.zero_le _, .inl ⟨rfl, rfl, rfl⟩⟩)
  obtain ⟨cb, hcb⟩ : ∃ cb, code [] = cb := ⟨_, rfl⟩
  have HCC := Lib.hid hcb
  have HCB : Hid (Value.string ⟨cb.toArray⟩ = Value.string { data := #[0, 0, 0, 0] }) := Lib.hid (by rw [← hcb, code_nil])
  clear hcb
  go_enter Try.func11, Try.ntmps11
  go_wp2_with (first
    | (go_at_call 12; (with_reducible refine (HNW.out _).mono ?_); rintro e w4 ⟨p, rfl, hv, hb4⟩; have HV := Lib.hid hv; have HB4 := Lib.hid (HB3.out.trans (hb4.mono HB3.out.size)); have HE := Lib.hid (encode_any hv (Nat.le_refl _) (by decide)); rw [HCC.out] at HE; clear hv hb4)
    | (go_at_call 23; (with_reducible refine HE.out.mono ?_); rintro e w5 ⟨a5, c5, rfl, ho5, hb5⟩; have HB5 := Lib.hid (HB4.out.trans (hb5.mono HB4.out.size)); have HL5 := Lib.hid (len_any (HV.out.below hb5 (Nat.le_refl _))); have hcv := conv_row ho5; rw [HCB.out] at hcv; clear ho5 hb5)
    | (go_at_call 14; (with_reducible refine HL5.out.mono ?_); rintro e w6 ⟨rfl, rfl⟩)
    | (go_at_call 14; (with_reducible refine (HLN.out _).mono ?_); rintro e w1 ⟨rfl, rfl⟩)
    | (go_at_call 16; (with_reducible refine (HGN.out _ _).mono ?_); rintro e w1 ⟨rfl, rfl⟩)
    | (go_at_call 19; (with_reducible refine (HRN.out _ _ _).mono ?_); rintro e w1 ⟨rfl, rfl⟩)
    | (go_at_call 21; (with_reducible refine (HSN.out _ _ _).mono ?_); rintro e w3 ⟨rfl, hb3⟩; have HB3 := Lib.hid hb3; clear hb3)
    | (go_at_call 23; (with_reducible refine (HEN.out _).mono ?_); rintro e w1 ⟨rfl, rfl⟩))
  have HR6 : Hid (Reads (w5.alloc (.cells badV.toArray 9)) (.slice (some ⟨w5.heap.size, 0, none⟩) 8 8) badV) := Lib.hid (by
    have h := reads_lit w5 badV.toArray 9 w5.heap.size 8 rfl rfl (by simp [maxLen])
    rw [List.toList_toArray] at h
    exact h)
  have HB6 : Hid (Below w.heap.size w (w5.alloc (.cells badV.toArray 9))) := Lib.hid (HB5.out.alloc HB5.out.size _)
  have hbv : badV.toArray = #[.string { data := #[] }, .string { data := #[0, 0, 0, 0, 0] }, .string { data := #[4, 0, 0, 0, 13, 0, 0, 0, 0, 0, 0, 0, 1, 0, 0, 0] }, .string { data := #[4, 0, 0, 0, 29, 0, 0, 0, 0, 0, 0, 0, 0, 0, 0, 0] }, .string { data := #[4, 0, 0, 0, 13, 0, 0, 0, 0, 0, 0, 0, 0, 0, 0] }, .string { data := #[65, 0, 0, 0, 0, 0, 0, 0, 0, 0, 0, 0, 0, 0, 0, 0] }, .string { data := #[1, 0, 0, 0, 0, 0, 0, 0, 0, 0, 0, 0, 1, 0, 0, 0] }, .string { data := #[255, 255, 255, 255] }] := rfl
  rw [← hbv]
  obtain ⟨w6, hw6⟩ : ∃ w6, w5.alloc (.cells badV.toArray 9) = w6 := ⟨_, rfl⟩
  rw [hw6] at HR6 HB6 ⊢
  clear hbv hw6 hcv
  go_loopw [6] (fun i W => ∃ k : Nat, k ≤ 8 ∧ i = .int .i64 (k : Int) ∧ Below w6.heap.size w6 W) (fun i _ => 8 - (intOf i).toNat)
  case atStart => exact ⟨0, by omega, rfl, Below.refl _ _⟩
  case round =>
    obtain ⟨k, hk, rfl, hb⟩ := hrel
    by_cases hlt : k < 8
    · obtain ⟨bs, hbm, hbg⟩ := badV_get hlt
      obtain ⟨b, off, e, hbl, hc0⟩ := Reads.cell HR6.out hbg
      cases e
      rw [Nat.zero_add] at hc0
      have hcell : wr.cell? ⟨w5.heap.size, k, none⟩ = some (.string ⟨bs.toArray⟩) := by rw [hb.cell (p := ⟨w5.heap.size, k, none⟩) hbl]; exact hc0
      have hn := bad_none bs hbm
      have hl := bad_len bs hbm
      obtain ⟨cap, W, hcv, hr, hbW⟩ := conv_string bs (by omega) wr
      have HD := Lib.hid (decode_any bs _ cap W hr (by omega))
      rw [hn] at HD
      have hb7 := hb.trans (hbW.mono hb.size)
      obtain ⟨s, hs⟩ : ∃ s, (⟨bs.toArray⟩ : ByteArray) = s := ⟨_, rfl⟩
      rw [hs] at hcell hcv
      obtain ⟨m, hm⟩ : ∃ m, bs.length = m := ⟨_, rfl⟩
      rw [hm] at hcv HD
      clear hn hl hr hs hm hbm hbg hc0
      go_wp2_with (go_at_call 25; (with_reducible refine HD.out.mono ?_); rintro e w8 ⟨rfl, hb8⟩; have hb9 := hb7.trans (hb8.mono hb7.size); clear hb8)
      go_roundw
      case rel => exact ⟨k + 1, by omega, by go_num, hb9⟩
      case measure => simp [intOf]; omega
    · obtain rfl : k = 8 := by omega
      have hbw := HB6.out.trans (hb.mono HB6.out.size)
      go_wp2_with (go_at_call 18; (with_reducible refine (HWK.out _).mono ?_); rintro e w9 ⟨rfl, hb9⟩)
      go_ret
      exact ⟨rfl, hbw.trans (hb9.mono hbw.size)⟩
theorem own : ownKnob Try.prog.godebug = none := by kernel_rfl
theorem laidOut : laidOutB Try.prog = true := by kernel_rfl

set_option maxRecDepth 100000 in
theorem lifted (os : Os) (started : os.Started) (H : Type) (enc : TypeId × Value → H) :
    ReturnsInHanded {} Try.checked os 11 .any (Rows.bitvecKnownSpec.pre6 enc Try.prog Try.f11 Rows.bitvecKnownRow.domain false) (Rows.bitvecKnownSpec.post enc Try.prog Try.f11 false true false false) := by
  refine returnsInHanded_of_change_shaped (C := Try.checked) own started (by kernel_rfl) Try.func11
    (ChangeSpec.witness6 (enc := enc) (C := Try.checked) false ⟨#[], #[], []⟩ 8 (by kernel_rfl) (by kernel_rfl) (by kernel_rfl) (by kernel_rfl)) ?_
  intro W base args ds gs before hval0 hW hcnd hsz0 hsh _
  have hval : ∀ (j : Nat) t v, Try.f11.params[j]? = some t → args[j]? = some v → Value.okWide Try.prog W .any base t v := hval0
  have hW' := hW
  obtain ⟨p, q, hA0, hV, rfl, hfz, hnd⟩ := hW
  have hA : DataW.TrodAll enc Try.prog W 0 (fun _ => true) true Try.f11.params.toList args.toList ds p := hA0
  rw [Try.params11] at hA hval
  obtain ⟨rfl, rfl, rfl⟩ := trodAll_none hA
  obtain ⟨rfl, rfl⟩ := trodVars_none hV
  clear hA0 hval0
  refine (walk W).mono fun e W' ⟨he, bel⟩ => ?_
  subst he
  exact ⟨_, rfl, _, _, _, [], _, [], hW', trodAll_mk1 (shut_bool Try.underlying4 _), trodAll_mk0, rfl, bel.frame _, fun h => by cases h⟩

theorem over : Rows.bitvecKnownRow.holds Try.pinned (OpenSpec.ofChange Rows.bitvecKnownSpec) :=
  OpenClaim.holds_of_wide 11 Try.f11 rfl rfl rfl rfl rfl rfl rfl ⟨rfl, rfl, rfl, rfl, rfl⟩ rfl rfl rfl rfl rfl (by kernel_rfl) Try.func11 (by kernel_rfl)
    (of_decide_eq_true (by kernel_rfl)) (by unfold Func.isWrapper; first | (rw [if_pos (by decide +kernel)]; kernel_rfl) | (rw [if_neg (by decide +kernel)]; exact ⟨rfl, rfl⟩))
    (fun os started H enc _ => lifted os started H enc)

theorem proved : Rows.BitvecKnownSaid := over
end Go.Proofs.Ytlmhkhjjpfmkcaa.bitvecKnown
