/-
  Contracts of the laws' bits and works.
-/
import Derived.Test.YtlmhkhjjpfmkcaaBvJ
set_option linter.unusedVariables false
set_option linter.unusedSimpArgs false
set_option maxRecDepth 100000
namespace Go.Proofs.Ytlmhkhjjpfmkcaa.Bv
open Go Go.RowKit Go.Proofs.Ytlmhkhjjpfmkcaa.Kit

theorem bls_take {l : List Bool} {k : Nat} (h : k < l.length) : bls (l.take (k + 1)) = bls (l.take k) ++ [.bool (bt l k)] := by
  unfold bls
  rw [List.take_add_one, bt_lt h, List.map_append]; rfl

set_option maxHeartbeats 2000000 in
theorem bits_any {B0 B1 : Nat} {l : List Bool} {p : Nat} {w : World} (h : VecAt B0 B1 w p l) (hB : B1 ≤ w.heap.size) (hl : l.length ≤ 8000) :
    Calls Try.prog 15 #[.pointer (some ⟨p, 0, none⟩)] w fun e w' => ∃ a c, e = .returned (.slice a l.length c) ∧ w'.ownsRow w.heap.size 4 1 (.slice a l.length c) l.length (bls l) ∧ Below w.heap.size w w' := by
  obtain ⟨i0, hi, hz0, hz1, hz2⟩ := info_parts info_bool
  have HV := Lib.hid h
  have HLE := Lib.hid (fun W (hW : Below w.heap.size w W) => len_any (h.below hW hB))
  have HGE := Lib.hid (fun W (hW : Below w.heap.size w W) (i : Nat) (hi : i < l.length) => get_in (h.below hW hB) (by omega) i hi)
  have HT := Lib.hid (fun k hk => @bls_take l k hk)
  have hall : Hid (bls (l.take l.length) = bls l) := Lib.hid (by rw [List.take_length])
  have hn0 := own_nil w w.heap.size 4 1
  clear h
  obtain ⟨n, hn⟩ : ∃ n, l.length = n := ⟨_, rfl⟩
  rw [hn] at HLE HGE HT hall hl ⊢
  clear hn
  go_enter Try.func15, Try.ntmps15
  go_wp2
  go_loopw [3, 4] (fun x i W => ∃ k : Nat, k ≤ n ∧ i = .int .i64 (k : Int) ∧ W.ownsRow w.heap.size 4 1 x k (bls (l.take k)) ∧ Below w.heap.size w W) (fun _ i _ => n - (intOf i).toNat)
  case atStart => exact ⟨0, Nat.zero_le _, rfl, by rw [List.take_zero]; exact hn0, Below.refl _ _⟩
  case round =>
    clear hn0
    obtain ⟨k, hk, rfl, hown, hb⟩ := hrel
    by_cases hlt : k < n
    · have HL1 := Lib.hid (HLE.out _ hb)
      have HG1 := Lib.hid (HGE.out _ hb k hlt)
      have HT1 := Lib.hid (HT.out k hlt)
      obtain ⟨c, hc⟩ : ∃ c, bt l k = c := ⟨_, rfl⟩
      rw [hc] at HG1 HT1
      clear hc
      go_wp2_with (first
        | (go_at_call 14; (with_reducible refine HL1.out.mono ?_); rintro e w1 ⟨rfl, rfl⟩)
        | (go_at_call 16; (with_reducible refine HG1.out.mono ?_); rintro e w1 ⟨rfl, rfl⟩)
        | (at_builtin; refine wpList_append_own _ rfl _ _ _ rfl w.heap.size 4 i0 (.bool false) 1 1 Try.underlying22 hi hz0 hz1 hz2 rfl (by decide) _ k (bls (l.take k)) rfl (hown.alloc _) ⟨_, 0, none⟩ 1 1 [.bool c] rfl rfl (cell_one_new _ _ _) ?c2 ?c3 ?c4 ?c5 ?_))
      case c2 => simp [Value.oneCell']
      case c3 => unfold maxLen; omega
      case c4 => omega
      case c5 => have := hb.size; simp; omega
      intro v' w5 hown5 hg5 _
      have hb5 := below_own (hb.alloc (by have := hb.size; omega) _) (hown.alloc _) (Nat.le_refl _) (by have := hb.size; simp; omega) hg5
      rw [← HT1.out] at hown5
      clear hown hg5
      go_wp2
      go_roundw
      case rel => exact ⟨k + 1, by omega, by go_num, hown5, hb5⟩
      case measure => simp [intOf]; omega
    · obtain rfl : k = n := by omega
      have HL1 := Lib.hid (HLE.out _ hb)
      rw [hall.out] at hown
      obtain ⟨a5, c5, h5⟩ := own_is hown
      subst h5
      go_wp2_with (go_at_call 14; (with_reducible refine HL1.out.mono ?_); rintro e w1 ⟨rfl, rfl⟩)
      go_ret
      exact ⟨a5, c5, rfl, hown, hb⟩

def l0 : List Bool := [true, false, true, true]
theorem code0 : code l0 = [4, 0, 0, 0, 13, 0, 0, 0, 0, 0, 0, 0, 0, 0, 0, 0] := by decide +kernel
theorem conv_row {w : World} {base : Nat} {v : Value} {n : Nat} {l : List UInt8} (h : w.ownsRow base 5 1 v n (u8s l)) : (convert 35 9 v).run Try.prog w = .ok (.string ⟨l.toArray⟩) w :=
  conv_bytes h Try.underlying35 Try.underlying5 Try.underlying9

set_option maxHeartbeats 4000000 in
theorem works_any (w : World) : Calls Try.prog 18 #[] w fun e w' => e = .returned (.bool true) ∧ Below w.heap.size w w' := by
  obtain ⟨W1, hW1⟩ : ∃ W1, w.alloc (.cells #[.bool true, .bool false, .bool true, .bool true] 4) = W1 := ⟨_, rfl⟩
  have hs1 : W1.heap.size = w.heap.size + 1 := by rw [← hW1]; simp
  have hb1 : Below w.heap.size w W1 := by rw [← hW1]; exact (Below.refl _ w).alloc (Nat.le_refl _) _
  have hr1 : Reads W1 (.slice (some ⟨w.heap.size, 0, none⟩) 4 4) (bls l0) := by
    rw [← hW1]; exact reads_lit w #[.bool true, .bool false, .bool true, .bool true] 4 w.heap.size 4 rfl rfl (by simp [maxLen])
  have H1 := Lib.hid (new_ok l0 (some ⟨w.heap.size, 0, none⟩) 4 W1 (by decide) hr1)
  have HW1 := Lib.hid hW1
  have HB1 := Lib.hid hb1
  have HS1 := Lib.hid hs1
  have r1 : Hid (rank l0 true 3 = 2) := Lib.hid (by decide +kernel)
  have r2 : Hid (rank l0 false 9 = 1) := Lib.hid (by decide +kernel)
  have r3 : Hid (sel l0 true 1 = 2) := Lib.hid (by decide +kernel)
  have r4 : Hid (sel l0 true 3 = -1) := Lib.hid (by decide +kernel)
  have r5 : Hid (sel l0 false (-1) = -1) := Lib.hid (by decide +kernel)
  obtain ⟨cb, hcb⟩ : ∃ cb, code l0 = cb := ⟨_, rfl⟩
  have HCB : Hid (Value.string ⟨cb.toArray⟩ = Value.string { data := #[4, 0, 0, 0, 13, 0, 0, 0, 0, 0, 0, 0, 0, 0, 0, 0] }) := Lib.hid (by rw [← hcb, code0])
  have HCC := Lib.hid hcb
  clear hW1 hb1 hs1 hr1 hcb
  go_enter Try.func18, Try.ntmps18
  go_wp2_with fail
  rw [HW1.out]
  refine H1.out.mono ?_
  rintro e W2 ⟨p, rfl, hv, hb2⟩
  have hbw : Below w.heap.size w W2 := HB1.out.trans (hb2.mono (by have := HS1.out; omega))
  have HL := Lib.hid (len_any hv)
  have HR1 := Lib.hid (rank_any hv (by decide) true 3)
  have HR2 := Lib.hid (rank_any hv (by decide) false 9)
  have HSA := Lib.hid (select_any hv (Nat.le_refl _) (by decide) true 1)
  rw [r1.out] at HR1
  rw [r2.out] at HR2
  rw [r3.out] at HSA
  have HV := Lib.hid hv
  have HBW := Lib.hid hbw
  clear hv hb2 hbw r1 r2 r3 H1 HW1 HB1 HS1
  go_wp2_with (first
    | (go_at_call 14; (with_reducible refine HL.out.mono ?_); rintro e w1 ⟨rfl, rfl⟩)
    | (go_at_call 19; (with_reducible refine HR1.out.mono ?_); rintro e w1 ⟨rfl, rfl⟩; clear HR1)
    | (go_at_call 19; (with_reducible refine HR2.out.mono ?_); rintro e w1 ⟨rfl, rfl⟩; clear HR2)
    | (go_at_call 21; (with_reducible refine HSA.out.mono ?_); rintro e w3 ⟨rfl, hb3⟩; clear HSA; have HB3 := Lib.hid (HBW.out.trans (hb3.mono HBW.out.size)); have HSB := Lib.hid (select_any (HV.out.below hb3 (Nat.le_refl _)) hb3.size (by decide) true 3); rw [r4.out] at HSB; have HV3 := Lib.hid (HV.out.below hb3 (Nat.le_refl _)); have hz3 := hb3.size; clear HV)
    | (go_at_call 21; (with_reducible refine HSB.out.mono ?_); rintro e w4 ⟨rfl, hb4⟩; clear HSB; have HB4 := Lib.hid (HB3.out.trans (hb4.mono HB3.out.size)); have HV4 := Lib.hid (HV3.out.below hb4 hz3); have hz4 := hb4.size; have HSC := Lib.hid (select_any HV4.out (by omega) (by decide) false (-1)); rw [r5.out] at HSC; clear HV3)
    | (go_at_call 21; (with_reducible refine HSC.out.mono ?_); rintro e w5 ⟨rfl, hb5⟩; clear HSC; have HB5 := Lib.hid (HB4.out.trans (hb5.mono HB4.out.size)); have HV5 := Lib.hid (HV4.out.below hb5 (by omega)); have hz5 := hb5.size; have HEN := Lib.hid (encode_any HV5.out (by omega) (by decide)); rw [HCC.out] at HEN; clear HV4)
    | (go_at_call 23; (with_reducible refine HEN.out.mono ?_); rintro e w6 ⟨a6, c6, rfl, hown6, hb6⟩; clear HEN; have HB6 := Lib.hid (HB5.out.trans (hb6.mono HB5.out.size)); have hcv := conv_row hown6; rw [HCB.out] at hcv))
  go_ret
  exact ⟨rfl, HB6.out⟩
end Go.Proofs.Ytlmhkhjjpfmkcaa.Bv
