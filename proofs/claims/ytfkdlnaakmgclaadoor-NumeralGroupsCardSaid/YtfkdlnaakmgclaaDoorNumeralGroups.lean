/-
  NumeralGroups returns true for every three numbers: a number is written group by group. Conditions: the tables of package numeral as start-up code lays them.
-/
import Derived.Test.YtfkdlnaakmgclaaDoorNumT
import Derived.OpenShut
import Derived.ShutString
import Derived.ChangeOld
import Derived.LaidMore
import Derived.Lay
import Derived.SevenTiedAt
import Derived.SizedLaws
import Derived.Test.YtfkdlnaakmgclaaDoorCards
import Derived.Test.YtfkdlnaakmgclaaDoorTie
import Derived.Test.YtfkdlnaakmgclaaDoorNumO
set_option linter.unusedVariables false
set_option linter.unusedSimpArgs false
namespace Go.Proofs.YtfkdlnaakmgclaaDoor.numeralGroups
open Go Go.RowKit Go.ChangeShapes Go.WideShapes Go.ChangeAt Go.Proofs.YtfkdlnaakmgclaaDoor Go.Proofs.YtfkdlnaakmgclaaDoor.Kit
open Go.ChangeMaps (open_string shut_string)
open Go.Proofs.YtfkdlnaakmgclaaDoor.Num Go.Proofs.YtfkdlnaakmgclaaDoor.Utf

theorem wf_u16 {n : Int} (h : (Lit.int .u16 n).wf = true) : 0 ≤ n ∧ n ≤ 65535 := by
  simp [Lit.wf, IntKind.min, IntKind.max, IntKind.signed, IntKind.bits] at h; omega
theorem cut_zeros : ∀ m : Nat, m ≤ 3 → (({ data := #[48, 48, 48] } : ByteArray).extract 0 m) = dg (List.replicate m 0) := by decide
theorem kanji_w (ds : List Nat) : kanjiC ds = if ds = [0] then [38646] else units kp false ds := rfl
theorem form_w (ds : List Nat) : formC ds = if ds = [0] then [38646] else units fp false ds := rfl
theorem add_dg (a b : List Nat) (h : a.length + b.length ≤ 100) : ∀ w, (Op.stringOp .add (dg a) (dg b)).run Tryd.prog w = .ok (.string (dg (a ++ b))) w := fun w => by
  rw [← dg_append]
  exact run_string_add_sum (P := Tryd.prog) (w := w) _ _ (by rw [dg_size, dg_size]; omega)

theorem below_alloc_drewN (w : World) (o : Obj) (n : Nat) : Below w.heap.size w ((w.alloc o).drewN n) := by
  have h1 : Below w.heap.size w (w.alloc o) := (Below.refl w.heap.size w).alloc (Nat.le_refl _) o
  exact Below.trans h1 (Below.mono (Go.Proofs.YtfkdlnaakmgclaaDoor.Num.below_drewN (w.alloc o) n) h1.size)

set_option maxRecDepth 100000 in
set_option maxHeartbeats 4000000 in
theorem walk (z0 z1 z2 : Int) (w : World) (w0 : (Lit.int .u16 z0).wf = true) (w1 : (Lit.int .u16 z1).wf = true) (w2 : (Lit.int .u8 z2).wf = true) (hL : Laid w) :
    Calls Tryd.prog 8 #[.int .u16 z0, .int .u16 z1, .int .u8 z2] w fun e w' => e = .returned (.bool true) ∧ Below w.heap.size w w' := by
  have b0 := wf_u16 w0
  have b1 := wf_u16 w1
  have b2 := wf_u8 w2
  obtain ⟨n0, hn0⟩ : ∃ n0 : Nat, z0.tmod 9999 = (n0 : Int) := ⟨(z0.tmod 9999).toNat, by rw [Int.tmod_eq_emod_of_nonneg b0.1]; omega⟩
  obtain ⟨m, hm⟩ : ∃ m : Nat, z1.tmod 10000 = (m : Int) := ⟨(z1.tmod 10000).toNat, by rw [Int.tmod_eq_emod_of_nonneg b1.1]; omega⟩
  obtain ⟨k, hk⟩ : ∃ k : Nat, z2.tmod 5 = (k : Int) := ⟨(z2.tmod 5).toNat, by rw [Int.tmod_eq_emod_of_nonneg b2.1]; omega⟩
  have hn0' : n0 ≤ 9998 := by rw [Int.tmod_eq_emod_of_nonneg b0.1] at hn0; omega
  have hm' : m < 10000 := by rw [Int.tmod_eq_emod_of_nonneg b1.1] at hm; omega
  have hk4 : k ≤ 4 := by rw [Int.tmod_eq_emod_of_nonneg b2.1] at hk; omega
  have hn0e : z0 % 9999 = (n0 : Int) := by rw [Int.tmod_eq_emod_of_nonneg b0.1] at hn0; exact hn0
  have hme : z1 % 10000 = (m : Int) := by rw [Int.tmod_eq_emod_of_nonneg b1.1] at hm; exact hm
  have hke : z2 % 5 = (k : Int) := by rw [Int.tmod_eq_emod_of_nonneg b2.1] at hk; exact hk
  have b00 := b0.1
  have b10 := b1.1
  have b20 := b2.1
  have hB : Below w.heap.size w w := Below.refl _ _
  have HS := Lib.hid (digits_any (1 + n0) (by omega) (1 + (n0 : Int)) (by omega))
  have HT := Lib.hid (digits_any m hm' (m : Int) rfl)
  have hS := dn4_ds (1 + n0) (by omega)
  have hT := dn4_ds m hm'
  have hSZ := ds_app (n := 1 + n0) (by omega) (by omega) (List.replicate (4 * k) 0) (fun d hd => by rw [List.eq_of_mem_replicate hd]; omega) (by simp; omega)
  have hTl := dn4_len m
  have hSl := dn4_len (1 + n0)
  have hST : DS ((dn4 (1 + n0) ++ List.replicate (4 - (dn4 m).length) 0) ++ dn4 m) := by
    rw [List.append_assoc]
    exact ds_app (by omega) (by omega) _ (fun d hd => by
      rcases List.mem_append.1 hd with hd | hd
      · rw [List.eq_of_mem_replicate hd]; omega
      · exact hT.2.2.1 d hd) (by simp; omega)
  have k1 := group_zeros kp kanjiC kanji_w (n := 1 + n0) (by omega) (by omega) k
  have k2 := group_next kp kanjiC kanji_w (n := 1 + n0) (m := m) (by omega) (by omega) hm'
  have f1 := group_zeros fp formC form_w (n := 1 + n0) (by omega) (by omega) k
  have f2 := group_next fp formC form_w (n := 1 + n0) (m := m) (by omega) (by omega) hm'
  have sk := size_kanji hS
  have sf := size_form hS
  have tk := size_kanji hT
  have tf := size_form hT
  rw [tx_size] at sk sf tk tf
  have gl := len_gu k hk4
  have l0 : (encs ([] : List Int)).length = 0 := rfl
  have lm : (encs [19975]).length = 3 := by decide
  have hstep : ∀ i : Nat, dn4 (1 + n0) ++ List.replicate (4 * (i + 1)) 0 = (dn4 (1 + n0) ++ List.replicate (4 * i) 0) ++ [0, 0, 0, 0] := fun i => by
    rw [List.append_assoc]
    congr 1
    rw [show 4 * (i + 1) = 4 * i + 4 by omega, ← List.replicate_append_replicate]; rfl
  have hTne : (dn4 m = [0]) ∨ ¬ (dn4 m = [0]) := Classical.em _
  have hTt := dg_head hT.2.2.1
  rw [ByteArray.toList_eq (bs := { data := #[48] })] at hTt
  have KT := Lib.hid hTt
  clear hTt
  obtain ⟨S, hSe⟩ : ∃ S, dn4 (1 + n0) = S := ⟨_, rfl⟩
  obtain ⟨T, hTe⟩ : ∃ T, dn4 m = T := ⟨_, rfl⟩
  rw [hSe] at HS hS hSZ hST k1 k2 f1 f2 sk sf hSl hstep
  rw [hTe] at HT hT hST k2 f2 tk tf hTl hTne KT
  have hpos : kanjiC S = kanjiC S := rfl
  have a1 := add_tx (kanjiC S) (gu k) (by omega)
  have a2 := add_tx (formC S) (gu k) (by omega)
  have a3 := add_tx (kanjiC S) [19975] (by omega)
  have a4 := add_tx (formC S) [19975] (by omega)
  have a5 := add_tx (kanjiC S ++ [19975]) (kanjiC T) (by rw [encs_append, List.length_append]; omega)
  have a6 := add_tx (formC S ++ [19975]) (formC T) (by rw [encs_append, List.length_append]; omega)
  have a7 := add_tx (kanjiC S ++ [19975]) [] (by rw [encs_append, List.length_append]; omega)
  have a8 := add_tx (formC S ++ [19975]) [] (by rw [encs_append, List.length_append]; omega)
  have e0 : tx [19975] = { data := #[228, 184, 135] } := by kernel_rfl
  have e1 : tx [] = { data := #[] } := rfl
  rw [e0] at a3 a4
  rw [e1] at a7 a8
  have p1 := add_dg S (List.replicate (4 - T.length) 0) (by simp; omega)
  have p2 := add_dg (S ++ List.replicate (4 - T.length) 0) T (by simp; omega)
  have hzs : ∀ w, (Instr.slice 9 (.string { data := #[48, 48, 48] }) none (some (.int .i64 (4 - (T.length : Int)))) none).run Tryd.prog w = .ok (.string (dg (List.replicate (4 - T.length) 0))) w := fun w => by
    have h1 := run_slice_string_h (P := Tryd.prog) (w := w) (s := { data := #[48, 48, 48] }) (t := 9) Tryd.underlying9 .i64 (4 - (T.length : Int)) (by omega) (by show (4 - (T.length : Int)) ≤ 3; omega)
    rw [show (4 - (T.length : Int)).toNat = 4 - T.length by omega, cut_zeros _ (by omega)] at h1
    exact h1
  obtain ⟨Lf, hLf⟩ : ∃ Lf : Nat → List Nat, ∀ i, Lf i = S ++ List.replicate (4 * i) 0 := ⟨_, fun _ => rfl⟩
  have hLf0 : Lf 0 = S := by rw [hLf, Nat.mul_zero, List.replicate_zero, List.append_nil]
  have hla : ∀ i, i ≤ 3 → ∀ w, (Op.stringOp .add (dg (Lf i)) { data := #[48, 48, 48, 48] }).run Tryd.prog w = .ok (.string (dg (Lf (i + 1)))) w := fun i hi w => by
    rw [hLf, hLf, hstep i]; exact add_dg _ [0, 0, 0, 0] (by simp; omega) w
  rw [← hLf] at hSZ k1 f1
  obtain ⟨ZZ, hZZ⟩ : ∃ ZZ, List.replicate (4 - T.length) 0 = ZZ := ⟨_, rfl⟩
  rw [hZZ] at hST k2 f2 p1 p2 hzs
  obtain ⟨SZ, hSZe⟩ : ∃ SZ, S ++ ZZ = SZ := ⟨_, rfl⟩
  rw [hSZe] at hST k2 f2 p1 p2
  obtain ⟨SZT, hSZTe⟩ : ∃ SZT, SZ ++ T = SZT := ⟨_, rfl⟩
  rw [hSZTe] at hST k2 f2 p2
  obtain ⟨KG, hKG⟩ : ∃ KG, kanjiC S ++ gu k = KG := ⟨_, rfl⟩
  obtain ⟨FG, hFG⟩ : ∃ FG, formC S ++ gu k = FG := ⟨_, rfl⟩
  rw [hKG] at a1 k1
  rw [hFG] at a2 f1
  obtain ⟨KM, hKM⟩ : ∃ KM, kanjiC S ++ [19975] = KM := ⟨_, rfl⟩
  obtain ⟨FM, hFM⟩ : ∃ FM, formC S ++ [19975] = FM := ⟨_, rfl⟩
  rw [hKM] at a3 a5 a7 k2
  rw [hFM] at a4 a6 a8 f2
  rw [List.append_nil] at a7 a8
  obtain ⟨KN, hKN⟩ : ∃ KN, KM ++ kanjiC T = KN := ⟨_, rfl⟩
  obtain ⟨FN, hFN⟩ : ∃ FN, FM ++ formC T = FN := ⟨_, rfl⟩
  rw [hKN] at a5
  rw [hFN] at a6
  have HSz := Lib.hid hSZ; have HST := Lib.hid hST; have HSd := Lib.hid hS; have HTd := Lib.hid hT
  have HK1 := Lib.hid k1; have HF1 := Lib.hid f1
  have HK20 := Lib.hid (fun h : T = [0] => show kanjiC SZT = KM by rw [k2, if_pos h, List.append_nil])
  have HK21 := Lib.hid (fun h : ¬ T = [0] => show kanjiC SZT = KN by rw [k2, if_neg h, hKN])
  have HF20 := Lib.hid (fun h : T = [0] => show formC SZT = FM by rw [f2, if_pos h, List.append_nil])
  have HF21 := Lib.hid (fun h : ¬ T = [0] => show formC SZT = FN by rw [f2, if_neg h, hFN])
  have HLF0 := Lib.hid hLf0
  have HLA := Lib.hid hla
  have hdT : (dg T).size = T.length := dg_size T
  clear hSZ hST hS hT k1 k2 f1 f2 hstep hSe hTe hpos e0 e1 sk sf tk tf gl l0 lm hn0' hm' hn0 hm hk b0 b1 b2 w0 w1 w2 hLf hLf0 hla hZZ hSZe hSZTe hKG hFG hKM hFM hKN hFN
  have hcu : ∀ i : Nat, i ≤ 4 → (#[.string { data := #[] }, .string { data := #[228, 184, 135] }, .string { data := #[229, 132, 132] }, .string { data := #[229, 133, 134] }, .string { data := #[228, 186, 172] }] : Array Value)[i]? = some (.string (tx (gu i))) := by
    intro i hi
    have : i = 0 ∨ i = 1 ∨ i = 2 ∨ i = 3 ∨ i = 4 := by omega
    rcases this with rfl | rfl | rfl | rfl | rfl <;> rfl
  have hck := hcu k hk4
  clear hcu
  go_enter Tryd.func8, Tryd.ntmps8
  go_wp2_with (first
    | (go_at_call 27; (with_reducible refine (HS.out _).mono ?_); rintro e w' ⟨rfl, rfl⟩)
    | (go_at_call 27; (with_reducible refine (HT.out _).mono ?_); rintro e w' ⟨rfl, rfl⟩))
  have hlz0 : (0 : Int) ≤ 4 - (T.length : Int) := by omega
  go_quiet (fail)
  go_wp2
  have hBw := below_alloc_drewN w (.cells #[.string { data := #[] }, .string { data := #[228, 184, 135] }, .string { data := #[229, 132, 132] }, .string { data := #[229, 133, 134] }, .string { data := #[228, 186, 172] }] 9) nq
  obtain ⟨W, hW⟩ : ∃ W, (w.alloc (.cells #[.string { data := #[] }, .string { data := #[228, 184, 135] }, .string { data := #[229, 132, 132] }, .string { data := #[229, 133, 134] }, .string { data := #[228, 186, 172] }] 9)).drewN nq = W := ⟨_, rfl⟩
  rw [hW] at hBw ⊢
  obtain ⟨Wsz, hWsz⟩ : ∃ n, w.heap.size = n := ⟨_, rfl⟩
  have HBW := Lib.hid hBw
  clear hW hBw hck hzs hB
  go_loopw [10, 12] (fun sv iv wr => ∃ i : Nat, iv = .int .i64 i ∧ sv = Value.string (dg (Lf i)) ∧ i ≤ k ∧ wr = W) (fun _ iv _ => k - (intOf iv).toNat)
  case atStart => exact ⟨0, rfl, by rw [HLF0.out], by omega, rfl⟩
  case round =>
    obtain ⟨i, rfl, rfl, hi, rfl⟩ := hrel
    by_cases hlt : i < k
    · have hlz : (i : Int) < (k : Int) := by omega
      have ha := HLA.out i (by omega)
      clear hWsz
      go_wp2
      go_roundw
      case rel => exact ⟨i + 1, by go_num, rfl, by omega, trivial⟩
      case measure => simp [intOf] <;> omega
    · have hik : i = k := by omega
      subst hik
      have hB := HBW.out
      have hk1 := HK1.out
      have hf1 := HF1.out
      clear hWsz hlt hlz0 hSl hTl hdT
      have s1 := same_toList (tx KG)
      have s2 := same_toList (tx FG)
      rcases hTne with hz | hz
      · have kt := KT.out
        rw [decide_eq_true hz] at kt
        have hk2 := HK20.out hz
        have hf2 := HF20.out hz
        have s3 := same_toList (tx KM)
        have s4 := same_toList (tx FM)
        clear hz
        go_wp2_with (first
        | (go_at_call 12; (with_reducible refine (writer_dg kanji_any HSd.out _ (hL.next hB)).mono ?_); rintro e w1 ⟨rfl, hb⟩; have hB := hB.trans (hb.mono hB.size); clear hb)
        | (go_at_call 12; (with_reducible refine (writer_dg kanji_any HSz.out _ (hL.next hB)).mono ?_); rintro e w1 ⟨rfl, hb⟩; have hB := hB.trans (hb.mono hB.size); clear hb)
        | (go_at_call 12; (with_reducible refine (writer_dg kanji_any HST.out _ (hL.next hB)).mono ?_); rintro e w1 ⟨rfl, hb⟩; have hB := hB.trans (hb.mono hB.size); clear hb)
        | (go_at_call 12; (with_reducible refine (writer_dg kanji_any HTd.out _ (hL.next hB)).mono ?_); rintro e w1 ⟨rfl, hb⟩; have hB := hB.trans (hb.mono hB.size); clear hb)
        | (go_at_call 16; (with_reducible refine (writer_dg formal_any HSd.out _ (hL.next hB)).mono ?_); rintro e w1 ⟨rfl, hb⟩; have hB := hB.trans (hb.mono hB.size); clear hb)
        | (go_at_call 16; (with_reducible refine (writer_dg formal_any HSz.out _ (hL.next hB)).mono ?_); rintro e w1 ⟨rfl, hb⟩; have hB := hB.trans (hb.mono hB.size); clear hb)
        | (go_at_call 16; (with_reducible refine (writer_dg formal_any HST.out _ (hL.next hB)).mono ?_); rintro e w1 ⟨rfl, hb⟩; have hB := hB.trans (hb.mono hB.size); clear hb)
        | (go_at_call 16; (with_reducible refine (writer_dg formal_any HTd.out _ (hL.next hB)).mono ?_); rintro e w1 ⟨rfl, hb⟩; have hB := hB.trans (hb.mono hB.size); clear hb)
        | (go_at_call 20; (with_reducible refine (works_any _ (hL.next hB)).mono ?_); rintro e w1 ⟨rfl, hb⟩; have hB := hB.trans (hb.mono hB.size); clear hb))
        go_ret
        exact ⟨rfl, hB⟩
      · have kt := KT.out
        rw [decide_eq_false hz] at kt
        have hk2 := HK21.out hz
        have hf2 := HF21.out hz
        have s3 := same_toList (tx KN)
        have s4 := same_toList (tx FN)
        clear hz
        go_wp2_with (first
        | (go_at_call 12; (with_reducible refine (writer_dg kanji_any HSd.out _ (hL.next hB)).mono ?_); rintro e w1 ⟨rfl, hb⟩; have hB := hB.trans (hb.mono hB.size); clear hb)
        | (go_at_call 12; (with_reducible refine (writer_dg kanji_any HSz.out _ (hL.next hB)).mono ?_); rintro e w1 ⟨rfl, hb⟩; have hB := hB.trans (hb.mono hB.size); clear hb)
        | (go_at_call 12; (with_reducible refine (writer_dg kanji_any HST.out _ (hL.next hB)).mono ?_); rintro e w1 ⟨rfl, hb⟩; have hB := hB.trans (hb.mono hB.size); clear hb)
        | (go_at_call 12; (with_reducible refine (writer_dg kanji_any HTd.out _ (hL.next hB)).mono ?_); rintro e w1 ⟨rfl, hb⟩; have hB := hB.trans (hb.mono hB.size); clear hb)
        | (go_at_call 16; (with_reducible refine (writer_dg formal_any HSd.out _ (hL.next hB)).mono ?_); rintro e w1 ⟨rfl, hb⟩; have hB := hB.trans (hb.mono hB.size); clear hb)
        | (go_at_call 16; (with_reducible refine (writer_dg formal_any HSz.out _ (hL.next hB)).mono ?_); rintro e w1 ⟨rfl, hb⟩; have hB := hB.trans (hb.mono hB.size); clear hb)
        | (go_at_call 16; (with_reducible refine (writer_dg formal_any HST.out _ (hL.next hB)).mono ?_); rintro e w1 ⟨rfl, hb⟩; have hB := hB.trans (hb.mono hB.size); clear hb)
        | (go_at_call 16; (with_reducible refine (writer_dg formal_any HTd.out _ (hL.next hB)).mono ?_); rintro e w1 ⟨rfl, hb⟩; have hB := hB.trans (hb.mono hB.size); clear hb)
        | (go_at_call 20; (with_reducible refine (works_any _ (hL.next hB)).mono ?_); rintro e w1 ⟨rfl, hb⟩; have hB := hB.trans (hb.mono hB.size); clear hb))
        go_ret
        exact ⟨rfl, hB⟩
theorem own : ownKnob Tryd.prog.godebug = none := by kernel_rfl
theorem laidOut : laidOutB Tryd.prog = true := by kernel_rfl

set_option maxRecDepth 100000 in
theorem lifted (os : Os) (started : os.Started) (H : Type) (enc : TypeId × Value → H) :
    ReturnsInHanded {} Tryd.checked os 8 .any (fun w args => (Rows.numeralGroupsSpec.pre enc Tryd.prog Tryd.f8 Rows.numeralGroupsRow.domain false w args ∧ laidMetH Tryd.prog Rows.numeralGroupsRow.laid w) ∧ sizedMet enc Tryd.prog Tryd.f8 (OpenSpec.ofChange Rows.numeralGroupsSpec) false w args)
      (Rows.numeralGroupsSpec.post enc Tryd.prog Tryd.f8 false true false false) := by
  refine returnsInHanded_of_change_and (C := Tryd.checked) (X := fun w _ => laidMetH Tryd.prog Rows.numeralGroupsRow.laid w) (fun _ _ _ hh h => h.of_heap hh) own started (by kernel_rfl) Tryd.func8
    (ChangeSpec.witness_shaped (enc := enc) (C := Tryd.checked) (os := os) (X := fun w _ => laidMetH Tryd.prog Rows.numeralGroupsRow.laid w) false (World.laidAll Tryd.prog os Rows.numeralGroupsRow.laid) #[.int .u16 0, .int .u16 0, .int .u8 0] 8 (World.laidAll_os _ _ _)
      (World.shaped_of_ZipB (by kernel_rfl) (by kernel_rfl)) (by kernel_rfl) (by kernel_rfl) (by kernel_rfl)
      (by rw [MakeChecks.laidMetH_plain _ _ _ (by kernel_rfl)]; exact laidMet_laidAll _ (by kernel_rfl) (by kernel_rfl))) ?_
  intro W base args ds gs before hval0 hW hcnd hsz0 hL _
  have hval : ∀ (j : Nat) t v, Tryd.f8.params[j]? = some t → args[j]? = some v → Value.okWide Tryd.prog W .any base t v := hval0
  have hW' := hW
  obtain ⟨p, q, hA0, hV, rfl, hfz, hnd⟩ := hW
  have hA : DataW.TrodAll enc Tryd.prog W 0 (fun _ => true) true Tryd.f8.params.toList args.toList ds p := hA0
  rw [Tryd.params8] at hA hval
  obtain ⟨v0, vs0, d0, ds0, p0, q0, hargs, rfl, rfl, h0, r0⟩ := trodAll_cons hA
  obtain ⟨v1, vs1, d1, ds1, p1, q1, rfl, rfl, rfl, h1, r1⟩ := trodAll_cons r0
  obtain ⟨v2, vs2, d2, ds2, p2, q2, rfl, rfl, rfl, h2, r2⟩ := trodAll_cons r1
  obtain ⟨rfl, rfl, rfl⟩ := trodAll_nil r2
  obtain rfl : args = #[v0, v1, v2] := by cases args; simp_all
  obtain ⟨rfl, rfl⟩ := trodVars_none hV
  obtain ⟨a0, rfl, rfl, rfl, w0⟩ := open_int Tryd.underlying33 (hval 0 33 v0 rfl rfl) h0
  obtain ⟨a1, rfl, rfl, rfl, w1⟩ := open_int Tryd.underlying33 (hval 1 33 v1 rfl rfl) h1
  obtain ⟨a2, rfl, rfl, rfl, w2⟩ := open_int Tryd.underlying5 (hval 2 5 v2 rfl rfl) h2
  have hLaid : Laid W := Laid.of hL (fun _ => MakeChecks.laidMetH_plain _ _ _ (by kernel_rfl))
    (List.mem_of_getElem? (i := 4) (by kernel_rfl)) (List.mem_of_getElem? (i := 5) (by kernel_rfl)) (List.mem_of_getElem? (i := 6) (by kernel_rfl)) (List.mem_of_getElem? (i := 7) (by kernel_rfl)) (List.mem_of_getElem? (i := 8) (by kernel_rfl))
  clear hA0 hval0
  refine (walk a0 a1 a2 W w0 w1 w2 hLaid).mono fun e W' ⟨he, bel⟩ => ?_
  subst he
  exact ⟨_, rfl, _, _, _, [], _, [], hW', trodAll_mk1 (shut_bool Tryd.underlying4 _), (trodAll_cons_mk (shut_int Tryd.underlying33 w0) (trodAll_cons_mk (shut_int Tryd.underlying33 w1) (trodAll_cons_mk (shut_int Tryd.underlying5 w2) trodAll_mk0))), rfl, bel.frame _, fun h => by cases h⟩

theorem over : Rows.numeralGroupsRow.holds Tryd.pinned (OpenSpec.ofChange Rows.numeralGroupsSpec) :=
  OpenClaim.holds_of_wide 8 Tryd.f8 rfl rfl rfl rfl rfl rfl rfl ⟨rfl, rfl, rfl, rfl, rfl⟩ rfl rfl rfl rfl rfl (by kernel_rfl) Tryd.func8 (by kernel_rfl)
    (of_decide_eq_true (by kernel_rfl)) (by unfold Func.isWrapper; first | (rw [if_pos (by decide +kernel)]; kernel_rfl) | (rw [if_neg (by decide +kernel)]; exact ⟨rfl, rfl⟩))
    (fun os started H enc _ => lifted os started H enc)

theorem proved : Rows.NumeralGroupsCardSaid :=
  Claim7.holds_tied_plain_at .later [] Rows.numeralGroupsCard.laidKinds true Rows.numeralGroupsCard.stood.harness false over (fun _ h => by cases h) (by kernel_rfl) (fun _ h => by cases h) numeralGroups_row_tie rfl ⟨rfl, rfl⟩ (by kernel_rfl) rfl
    (fun f fn hf hfn => by
      obtain rfl : f = 8 := Option.some.inj ((show Tryd.prog.funcNamed "henkan/henkanlaw03.NumeralGroups" = some 8 by kernel_rfl).symm.trans hf) |>.symm
      obtain rfl : fn = Tryd.f8 := (Option.some.inj (Tryd.func8.symm.trans hfn)).symm
      exact ⟨by kernel_rfl, fun j t ht => by
        rw [Tryd.params8] at ht
        have hm : t ∈ ([33, 33, 5] : List TypeId) := by simpa using Array.mem_of_getElem? ht
        have hall : (([33, 33, 5] : List TypeId).all fun u => !Tryd.prog.wantsStandIn u) = true := by kernel_rfl
        exact (show Tryd.prog.wantsStandIn t = false by simpa using List.all_eq_true.1 hall t hm)⟩)
    (by kernel_rfl)
end Go.Proofs.YtfkdlnaakmgclaaDoor.numeralGroups
