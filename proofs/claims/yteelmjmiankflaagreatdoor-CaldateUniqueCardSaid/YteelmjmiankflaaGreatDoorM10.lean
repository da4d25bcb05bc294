/-
  Joined texts: CalW.
-/
import Derived.Test.YteelmjmiankflaaGreatDoorM6
import Derived.Test.YteelmjmiankflaaGreatDoorM9
set_option linter.unusedVariables false
set_option linter.unusedSimpArgs false
namespace Go.Proofs.YteelmjmiankflaaGreatDoor.Cal
open Go Go.RowKit Go.Proofs.YteelmjmiankflaaGreatDoor.Kit Go.Proofs.YteelmjmiankflaaGreatDoor.Utf
open Go.Proofs.YteelmjmiankflaaGreatDoor.Num

theorem number1_at (n : Nat) (hn : n ≤ 9999) (w : World) : Calls Tryz.prog 55 #[.int .i64 n, .int .i64 1] w fun e w' => e = .returned (.string (tx (ascC (pad 1 n)))) ∧ Below w.heap.size w w' := number_at n 1 hn (by decide) (by decide) w
theorem number2_at (n : Nat) (hn : n ≤ 9999) (w : World) : Calls Tryz.prog 55 #[.int .i64 n, .int .i64 2] w fun e w' => e = .returned (.string (tx (ascC (pad 2 n)))) ∧ Below w.heap.size w w' := number_at n 2 hn (by decide) (by decide) w
theorem number4_at (n : Nat) (hn : n ≤ 9999) (w : World) : Calls Tryz.prog 55 #[.int .i64 n, .int .i64 4] w fun e w' => e = .returned (.string (tx (ascC (pad 4 n)))) ∧ Below w.heap.size w w' := number_at n 4 hn (by decide) (by decide) w

theorem rkanji_at (n : Nat) (hn : n ≤ 9999) (w : World) (hL : FLaid w) :
    Calls Tryz.prog 57 #[.int .i64 n] w fun e w' => e = .returned (.string (tx (kanjiC (digs n)))) ∧ Below w.heap.size w w' := by
  have HN := Lib.hid (number1_at n hn w)
  rw [pad_one] at HN
  have hd := digs_DS hn
  have HK := Lib.hid (fun W (hW : FLaid W) => by
    have h := rkanji_any (dg (digs n)) W (by rw [dg_size]; have := digs_len4 hn; unfold maxLen; omega) hW.num
    rw [wOut_dg _ hd, isDec_dg hd, dg_tx _ hd.2.2.1] at h
    exact h)
  generalize ascC (digs n) = D at *
  generalize kanjiC (digs n) = K at *
  clear hd hn
  go_enter Tryz.func57, Tryz.ntmps57
  go_wp2_with (first
    | (go_at_call 55; (with_reducible refine HN.out.mono ?_); rintro e w1 ⟨rfl, hb1⟩)
    | (go_at_call 80; (with_reducible refine (HK.out _ (hL.next hb1)).mono ?_); rintro e w2 ⟨rfl, hb2⟩))
  go_ret
  exact ⟨rfl, hb1.trans (hb2.mono hb1.size)⟩


set_option maxHeartbeats 4000000 in
set_option maxRecDepth 100000 in
theorem rforms_none (day : Int) (y m d : Nat) (h : IsDate day y m d) (hc : cur day 5 = none) (hb0 : -9223372036854775808 ≤ day) (w : World) (hL : FLaid w) :
    Calls Tryz.prog 36 #[.int .i64 day] w fun e w' => ∃ v, e = .returned v ∧ w'.ownsRow w.heap.size 9 1 v (allForms day y m d).length (strs (allForms day y m d)) ∧ Below w.heap.size w w' := by
  have hB : Below w.heap.size w w := Below.refl _ _
  have hr := h.range
  have hv := h.1
  obtain ⟨v1, v2, v3, v4, v5, v6⟩ := hv
  have v7 := (len_bounds y m).2
  have by1 : y ≤ 9999 := by omega
  have bm : m ≤ 9999 := by omega
  have bd : d ≤ 9999 := by omega
  have by' := by1
  have HD := Lib.hid (fun W => rdate_is day y m d h W)
  have HWd := Lib.hid (fun W => rweekday_is day hr.1 hr.2 W)
  have HE := Lib.hid (fun W => rera_at day y hr.2 (fun _ => ⟨_, _, h⟩) hb0 W)
  have e1 : tx [24180] = { data := #[229, 185, 180] } := by decide +kernel
  have e2 : tx [26376] = { data := #[230, 156, 136] } := by decide +kernel
  have e3 : tx [26085] = { data := #[230, 151, 165] } := by decide +kernel
  have e4 : tx [40] = { data := #[40] } := by decide +kernel
  have e5 : tx [41] = { data := #[41] } := by decide +kernel
  have e6 : tx [47] = { data := #[47] } := by decide +kernel
  have e7 : tx [45] = { data := #[45] } := by decide +kernel
  have e8 : tx [20803] = { data := #[229, 133, 131] } := by decide +kernel
  have hwl : (encs [wdC (day % 7).toNat]).length ≤ 4 := by
    have : (day % 7).toNat < 7 := by omega
    have hall : ∀ k, k < 7 → (encs [wdC k]).length ≤ 4 := by decide
    exact hall _ this
  have HNY1 := Lib.hid (number1_at y by1)
  have HNM1 := Lib.hid (number1_at m bm)
  have HND1 := Lib.hid (number1_at d bd)
  have HNY4 := Lib.hid (number4_at y by1)
  have HNM2 := Lib.hid (number2_at m bm)
  have HND2 := Lib.hid (number2_at d bd)
  obtain ⟨i0, hi, hz0, hz1, hz2⟩ := info_parts string_info
  obtain ⟨Y1, d_Y1⟩ : ∃ t, ascC (pad 1 y) = t := ⟨_, rfl⟩
  have l_Y1 : (encs Y1).length ≤ 4 := by rw [← d_Y1]; exact (by rw [asc_len _ (pad_le _ _)]; exact pad_len by1 (by decide))
  obtain ⟨M1, d_M1⟩ : ∃ t, ascC (pad 1 m) = t := ⟨_, rfl⟩
  have l_M1 : (encs M1).length ≤ 4 := by rw [← d_M1]; exact (by rw [asc_len _ (pad_le _ _)]; exact pad_len bm (by decide))
  obtain ⟨D1, d_D1⟩ : ∃ t, ascC (pad 1 d) = t := ⟨_, rfl⟩
  have l_D1 : (encs D1).length ≤ 4 := by rw [← d_D1]; exact (by rw [asc_len _ (pad_le _ _)]; exact pad_len bd (by decide))
  obtain ⟨Y4, d_Y4⟩ : ∃ t, ascC (pad 4 y) = t := ⟨_, rfl⟩
  have l_Y4 : (encs Y4).length ≤ 4 := by rw [← d_Y4]; exact (by rw [asc_len _ (pad_le _ _)]; exact pad_len by1 (by decide))
  obtain ⟨M2, d_M2⟩ : ∃ t, ascC (pad 2 m) = t := ⟨_, rfl⟩
  have l_M2 : (encs M2).length ≤ 4 := by rw [← d_M2]; exact (by rw [asc_len _ (pad_le _ _)]; exact pad_len bm (by decide))
  obtain ⟨D2, d_D2⟩ : ∃ t, ascC (pad 2 d) = t := ⟨_, rfl⟩
  have l_D2 : (encs D2).length ≤ 4 := by rw [← d_D2]; exact (by rw [asc_len _ (pad_le _ _)]; exact pad_len bd (by decide))
  obtain ⟨WD, d_WD⟩ : ∃ t, [wdC (day % 7).toNat] = t := ⟨_, rfl⟩
  have l_WD : (encs WD).length ≤ 4 := by rw [← d_WD]; exact hwl
  rw [d_Y1] at HNY1
  rw [d_M1] at HNM1
  rw [d_D1] at HND1
  rw [d_Y4] at HNY4
  rw [d_M2] at HNM2
  rw [d_D2] at HND2
  rw [d_WD] at HWd
  have x_L1 := add_tx M1 [26376] (Nat.le_trans (Nat.add_le_add l_M1 (by decide : (encs [26376]).length ≤ 3)) (by decide))
  rw [e2] at x_L1
  obtain ⟨L1, d_L1⟩ : ∃ t, M1 ++ [26376] = t := ⟨_, rfl⟩
  rw [d_L1] at x_L1
  have l_L1 : (encs L1).length ≤ 7 := by rw [← d_L1, encs_append, List.length_append]; exact Nat.add_le_add l_M1 (by decide : (encs [26376]).length ≤ 3)
  have x_L2 := add_tx L1 D1 (Nat.le_trans (Nat.add_le_add l_L1 l_D1) (by decide))
  obtain ⟨L2, d_L2⟩ : ∃ t, L1 ++ D1 = t := ⟨_, rfl⟩
  rw [d_L2] at x_L2
  have l_L2 : (encs L2).length ≤ 11 := by rw [← d_L2, encs_append, List.length_append]; exact Nat.add_le_add l_L1 l_D1
  have x_L := add_tx L2 [26085] (Nat.le_trans (Nat.add_le_add l_L2 (by decide : (encs [26085]).length ≤ 3)) (by decide))
  rw [e3] at x_L
  obtain ⟨L, d_L⟩ : ∃ t, L2 ++ [26085] = t := ⟨_, rfl⟩
  rw [d_L] at x_L
  have l_L : (encs L).length ≤ 14 := by rw [← d_L, encs_append, List.length_append]; exact Nat.add_le_add l_L2 (by decide : (encs [26085]).length ≤ 3)
  have x_A1 := add_tx Y1 [24180] (Nat.le_trans (Nat.add_le_add l_Y1 (by decide : (encs [24180]).length ≤ 3)) (by decide))
  rw [e1] at x_A1
  obtain ⟨A1, d_A1⟩ : ∃ t, Y1 ++ [24180] = t := ⟨_, rfl⟩
  rw [d_A1] at x_A1
  have l_A1 : (encs A1).length ≤ 7 := by rw [← d_A1, encs_append, List.length_append]; exact Nat.add_le_add l_Y1 (by decide : (encs [24180]).length ≤ 3)
  have x_A := add_tx A1 L (Nat.le_trans (Nat.add_le_add l_A1 l_L) (by decide))
  obtain ⟨A, d_A⟩ : ∃ t, A1 ++ L = t := ⟨_, rfl⟩
  rw [d_A] at x_A
  have l_A : (encs A).length ≤ 21 := by rw [← d_A, encs_append, List.length_append]; exact Nat.add_le_add l_A1 l_L
  have x_B1 := add_tx A [40] (Nat.le_trans (Nat.add_le_add l_A (by decide : (encs [40]).length ≤ 1)) (by decide))
  rw [e4] at x_B1
  obtain ⟨B1, d_B1⟩ : ∃ t, A ++ [40] = t := ⟨_, rfl⟩
  rw [d_B1] at x_B1
  have l_B1 : (encs B1).length ≤ 22 := by rw [← d_B1, encs_append, List.length_append]; exact Nat.add_le_add l_A (by decide : (encs [40]).length ≤ 1)
  have x_B2 := add_tx B1 WD (Nat.le_trans (Nat.add_le_add l_B1 l_WD) (by decide))
  obtain ⟨B2, d_B2⟩ : ∃ t, B1 ++ WD = t := ⟨_, rfl⟩
  rw [d_B2] at x_B2
  have l_B2 : (encs B2).length ≤ 26 := by rw [← d_B2, encs_append, List.length_append]; exact Nat.add_le_add l_B1 l_WD
  have x_B := add_tx B2 [41] (Nat.le_trans (Nat.add_le_add l_B2 (by decide : (encs [41]).length ≤ 1)) (by decide))
  rw [e5] at x_B
  obtain ⟨B, d_B⟩ : ∃ t, B2 ++ [41] = t := ⟨_, rfl⟩
  rw [d_B] at x_B
  have l_B : (encs B).length ≤ 27 := by rw [← d_B, encs_append, List.length_append]; exact Nat.add_le_add l_B2 (by decide : (encs [41]).length ≤ 1)
  have x_C1 := add_tx Y4 [47] (Nat.le_trans (Nat.add_le_add l_Y4 (by decide : (encs [47]).length ≤ 1)) (by decide))
  rw [e6] at x_C1
  obtain ⟨C1, d_C1⟩ : ∃ t, Y4 ++ [47] = t := ⟨_, rfl⟩
  rw [d_C1] at x_C1
  have l_C1 : (encs C1).length ≤ 5 := by rw [← d_C1, encs_append, List.length_append]; exact Nat.add_le_add l_Y4 (by decide : (encs [47]).length ≤ 1)
  have x_C2 := add_tx C1 M2 (Nat.le_trans (Nat.add_le_add l_C1 l_M2) (by decide))
  obtain ⟨C2, d_C2⟩ : ∃ t, C1 ++ M2 = t := ⟨_, rfl⟩
  rw [d_C2] at x_C2
  have l_C2 : (encs C2).length ≤ 9 := by rw [← d_C2, encs_append, List.length_append]; exact Nat.add_le_add l_C1 l_M2
  have x_C3 := add_tx C2 [47] (Nat.le_trans (Nat.add_le_add l_C2 (by decide : (encs [47]).length ≤ 1)) (by decide))
  rw [e6] at x_C3
  obtain ⟨C3, d_C3⟩ : ∃ t, C2 ++ [47] = t := ⟨_, rfl⟩
  rw [d_C3] at x_C3
  have l_C3 : (encs C3).length ≤ 10 := by rw [← d_C3, encs_append, List.length_append]; exact Nat.add_le_add l_C2 (by decide : (encs [47]).length ≤ 1)
  have x_C := add_tx C3 D2 (Nat.le_trans (Nat.add_le_add l_C3 l_D2) (by decide))
  obtain ⟨C, d_C⟩ : ∃ t, C3 ++ D2 = t := ⟨_, rfl⟩
  rw [d_C] at x_C
  have l_C : (encs C).length ≤ 14 := by rw [← d_C, encs_append, List.length_append]; exact Nat.add_le_add l_C3 l_D2
  have x_G1 := add_tx Y4 [45] (Nat.le_trans (Nat.add_le_add l_Y4 (by decide : (encs [45]).length ≤ 1)) (by decide))
  rw [e7] at x_G1
  obtain ⟨G1, d_G1⟩ : ∃ t, Y4 ++ [45] = t := ⟨_, rfl⟩
  rw [d_G1] at x_G1
  have l_G1 : (encs G1).length ≤ 5 := by rw [← d_G1, encs_append, List.length_append]; exact Nat.add_le_add l_Y4 (by decide : (encs [45]).length ≤ 1)
  have x_G2 := add_tx G1 M2 (Nat.le_trans (Nat.add_le_add l_G1 l_M2) (by decide))
  obtain ⟨G2, d_G2⟩ : ∃ t, G1 ++ M2 = t := ⟨_, rfl⟩
  rw [d_G2] at x_G2
  have l_G2 : (encs G2).length ≤ 9 := by rw [← d_G2, encs_append, List.length_append]; exact Nat.add_le_add l_G1 l_M2
  have x_G3 := add_tx G2 [45] (Nat.le_trans (Nat.add_le_add l_G2 (by decide : (encs [45]).length ≤ 1)) (by decide))
  rw [e7] at x_G3
  obtain ⟨G3, d_G3⟩ : ∃ t, G2 ++ [45] = t := ⟨_, rfl⟩
  rw [d_G3] at x_G3
  have l_G3 : (encs G3).length ≤ 10 := by rw [← d_G3, encs_append, List.length_append]; exact Nat.add_le_add l_G2 (by decide : (encs [45]).length ≤ 1)
  have x_G := add_tx G3 D2 (Nat.le_trans (Nat.add_le_add l_G3 l_D2) (by decide))
  obtain ⟨G, d_G⟩ : ∃ t, G3 ++ D2 = t := ⟨_, rfl⟩
  rw [d_G] at x_G
  have l_G : (encs G).length ≤ 14 := by rw [← d_G, encs_append, List.length_append]; exact Nat.add_le_add l_G3 l_D2
  have x_J1 := add_tx M1 [47] (Nat.le_trans (Nat.add_le_add l_M1 (by decide : (encs [47]).length ≤ 1)) (by decide))
  rw [e6] at x_J1
  obtain ⟨J1, d_J1⟩ : ∃ t, M1 ++ [47] = t := ⟨_, rfl⟩
  rw [d_J1] at x_J1
  have l_J1 : (encs J1).length ≤ 5 := by rw [← d_J1, encs_append, List.length_append]; exact Nat.add_le_add l_M1 (by decide : (encs [47]).length ≤ 1)
  have x_J := add_tx J1 D1 (Nat.le_trans (Nat.add_le_add l_J1 l_D1) (by decide))
  obtain ⟨J, d_J⟩ : ∃ t, J1 ++ D1 = t := ⟨_, rfl⟩
  rw [d_J] at x_J
  have l_J : (encs J).length ≤ 9 := by rw [← d_J, encs_append, List.length_append]; exact Nat.add_le_add l_J1 l_D1
  have HL := Lib.hid (show L = joinC decC [(m, 1, [26376]), (d, 1, [26085])] by rw [← d_L, ← d_L2, ← d_L1, ← d_M1, ← d_D1]; simp [plainF, sepF, eraF, eraC, joinC, decC, kanC, pad_one, List.append_assoc])
  have HA := Lib.hid (show A = plainF y m d by rw [← d_A, ← d_A1, ← d_L, ← d_L2, ← d_L1, ← d_Y1, ← d_M1, ← d_D1]; simp [plainF, sepF, eraF, eraC, joinC, decC, kanC, pad_one, List.append_assoc])
  have HBB := Lib.hid (show B = plainF y m d ++ [40] ++ [wdC (day % 7).toNat] ++ [41] by rw [← d_B, ← d_B2, ← d_B1, HA.out, ← d_WD])
  have HC := Lib.hid (show C = sepF 47 y m d by rw [← d_C, ← d_C3, ← d_C2, ← d_C1, ← d_Y4, ← d_M2, ← d_D2]; simp [plainF, sepF, eraF, eraC, joinC, decC, kanC, pad_one, List.append_assoc])
  have HG := Lib.hid (show G = sepF 45 y m d by rw [← d_G, ← d_G3, ← d_G2, ← d_G1, ← d_Y4, ← d_M2, ← d_D2]; simp [plainF, sepF, eraF, eraC, joinC, decC, kanC, pad_one, List.append_assoc])
  have HJ := Lib.hid (show J = joinC decC [(m, 1, [47]), (d, 1, [])] by rw [← d_J, ← d_J1, ← d_M1, ← d_D1]; simp [plainF, sepF, eraF, eraC, joinC, decC, kanC, pad_one, List.append_assoc])
  rw [hc] at HE
  have HF := Lib.hid (show strs (allForms day y m d) = [.string (tx A), .string (tx B), .string (tx C), .string (tx G)] ++ [.string (tx L), .string (tx J)] by rw [HA.out, HBB.out, HC.out, HG.out, HL.out, HJ.out]; unfold allForms yearForms; rw [hc]; rfl)
  have HFn := Lib.hid (show (allForms day y m d).length = 4 + 2 by unfold allForms yearForms; rw [hc]; rfl)
  clear e1 e2 e3 e4 e5 e6 e7 e8 hwl v6 v7 hc HA HBB HC HG HL HJ h d_L1 l_L1 d_L2 l_L2 d_L l_L d_A1 l_A1 d_A l_A d_B1 l_B1 d_B2 l_B2 d_B l_B d_C1 l_C1 d_C2 l_C2 d_C3 l_C3 d_C l_C d_G1 l_G1 d_G2 l_G2 d_G3 l_G3 d_G l_G d_J1 l_J1 d_J l_J d_Y1 l_Y1 d_M1 l_M1 d_D1 l_D1 d_Y4 l_Y4 d_M2 l_M2 d_D2 l_D2 d_WD l_WD
  go_enter Tryz.func36, Tryz.ntmps36
  go_wp2_with (first
    | (go_at_call 55; (with_reducible refine (HNY1.out _).mono ?_); rintro e w1 ⟨rfl, hb⟩; have hB := hB.trans (hb.mono hB.size); (try have ho2 := own_later ho2 hb); clear hb)
    | (go_at_call 55; (with_reducible refine (HNM1.out _).mono ?_); rintro e w1 ⟨rfl, hb⟩; have hB := hB.trans (hb.mono hB.size); (try have ho2 := own_later ho2 hb); clear hb)
    | (go_at_call 55; (with_reducible refine (HND1.out _).mono ?_); rintro e w1 ⟨rfl, hb⟩; have hB := hB.trans (hb.mono hB.size); (try have ho2 := own_later ho2 hb); clear hb)
    | (go_at_call 55; (with_reducible refine (HNY4.out _).mono ?_); rintro e w1 ⟨rfl, hb⟩; have hB := hB.trans (hb.mono hB.size); (try have ho2 := own_later ho2 hb); clear hb)
    | (go_at_call 55; (with_reducible refine (HNM2.out _).mono ?_); rintro e w1 ⟨rfl, hb⟩; have hB := hB.trans (hb.mono hB.size); (try have ho2 := own_later ho2 hb); clear hb)
    | (go_at_call 55; (with_reducible refine (HND2.out _).mono ?_); rintro e w1 ⟨rfl, hb⟩; have hB := hB.trans (hb.mono hB.size); (try have ho2 := own_later ho2 hb); clear hb)
    | (go_at_call 53; (with_reducible refine (HD.out _).mono ?_); rintro e w1 ⟨rfl, hw1⟩; obtain rfl := hw1.symm)
    | (go_at_call 54; (with_reducible refine (HWd.out _).mono ?_); rintro e w1 ⟨rfl, hb⟩; have hB := hB.trans (hb.mono hB.size); clear hb)
    | (go_at_call 56; (with_reducible refine (HE.out _).mono ?_)
       have ho1 := own_row w1 #[.string (tx A), .string (tx B), .string (tx C), .string (tx G)] 9 w.heap.size 4 rfl (by unfold maxLen; decide) hB.size
       have hB2 := hB.alloc hB.size (.cells #[.string (tx A), .string (tx B), .string (tx C), .string (tx G)] 9)
       have HO1 := Lib.hid ho1
       have HB2 := Lib.hid hB2
       clear ho1 hB2 hB
       rintro e w1 ⟨rfl, hb⟩
       have ho2 := own_later HO1.out hb
       have hB := HB2.out.trans (hb.mono HB2.out.size)
       clear hb HO1 HB2)
    | (at_builtin; refine wpList_append_own _ rfl _ _ _ rfl w.heap.size 9 i0 (.string { data := #[] }) 1 16 Tryz.underlying26 hi hz0 hz1 hz2 rfl (by decide) _ 4 ([.string (tx A), .string (tx B), .string (tx C), .string (tx G)]) rfl (ho2.alloc _) ⟨w1.heap.size, 0, none⟩ 2 2 [.string (tx L), .string (tx J)] rfl rfl (World.news_of_block (heap_alloc_new _ _)) ?c2 ?c3 ?c4 ?c5 ?_))
  case c2 => simp [Value.oneCell']
  case c3 => unfold maxLen; omega
  case c4 => omega
  case c5 => have := hB.size; rw [size_alloc]; omega
  intro v' w7 hown7 hg7 hiff
  clear hiff
  have hb8 := below_own (hB.alloc hB.size (.cells #[.string (tx L), .string (tx J)] 9)) (ho2.alloc _) (Nat.le_refl _) (by have := hB.size; rw [size_alloc]; omega) hg7
  go_wp2
  go_ret
  exact ⟨_, rfl, by rw [HFn.out, HF.out]; exact hown7, hb8⟩

set_option maxHeartbeats 4000000 in
set_option maxRecDepth 100000 in
theorem rforms_one (day : Int) (y m d : Nat) (h : IsDate day y m d) {q : Nat} (hc : cur day 5 = some q) (he : eYear q y = 1) (hb0 : -9223372036854775808 ≤ day) (w : World) (hL : FLaid w) :
    Calls Tryz.prog 36 #[.int .i64 day] w fun e w' => ∃ v, e = .returned v ∧ w'.ownsRow w.heap.size 9 1 v (allForms day y m d).length (strs (allForms day y m d)) ∧ Below w.heap.size w w' := by
  have hB : Below w.heap.size w w := Below.refl _ _
  have hr := h.range
  have hv := h.1
  obtain ⟨v1, v2, v3, v4, v5, v6⟩ := hv
  have v7 := (len_bounds y m).2
  have by1 : y ≤ 9999 := by omega
  have bm : m ≤ 9999 := by omega
  have bd : d ≤ 9999 := by omega
  have by' := by1
  have HD := Lib.hid (fun W => rdate_is day y m d h W)
  have HWd := Lib.hid (fun W => rweekday_is day hr.1 hr.2 W)
  have HE := Lib.hid (fun W => rera_at day y hr.2 (fun _ => ⟨_, _, h⟩) hb0 W)
  have e1 : tx [24180] = { data := #[229, 185, 180] } := by decide +kernel
  have e2 : tx [26376] = { data := #[230, 156, 136] } := by decide +kernel
  have e3 : tx [26085] = { data := #[230, 151, 165] } := by decide +kernel
  have e4 : tx [40] = { data := #[40] } := by decide +kernel
  have e5 : tx [41] = { data := #[41] } := by decide +kernel
  have e6 : tx [47] = { data := #[47] } := by decide +kernel
  have e7 : tx [45] = { data := #[45] } := by decide +kernel
  have e8 : tx [20803] = { data := #[229, 133, 131] } := by decide +kernel
  have hwl : (encs [wdC (day % 7).toNat]).length ≤ 4 := by
    have : (day % 7).toNat < 7 := by omega
    have hall : ∀ k, k < 7 → (encs [wdC k]).length ≤ 4 := by decide
    exact hall _ this
  have HNY1 := Lib.hid (number1_at y by1)
  have HNM1 := Lib.hid (number1_at m bm)
  have HND1 := Lib.hid (number1_at d bd)
  have HNY4 := Lib.hid (number4_at y by1)
  have HNM2 := Lib.hid (number2_at m bm)
  have HND2 := Lib.hid (number2_at d bd)
  obtain ⟨i0, hi, hz0, hz1, hz2⟩ := info_parts string_info
  obtain ⟨Y1, d_Y1⟩ : ∃ t, ascC (pad 1 y) = t := ⟨_, rfl⟩
  have l_Y1 : (encs Y1).length ≤ 4 := by rw [← d_Y1]; exact (by rw [asc_len _ (pad_le _ _)]; exact pad_len by1 (by decide))
  obtain ⟨M1, d_M1⟩ : ∃ t, ascC (pad 1 m) = t := ⟨_, rfl⟩
  have l_M1 : (encs M1).length ≤ 4 := by rw [← d_M1]; exact (by rw [asc_len _ (pad_le _ _)]; exact pad_len bm (by decide))
  obtain ⟨D1, d_D1⟩ : ∃ t, ascC (pad 1 d) = t := ⟨_, rfl⟩
  have l_D1 : (encs D1).length ≤ 4 := by rw [← d_D1]; exact (by rw [asc_len _ (pad_le _ _)]; exact pad_len bd (by decide))
  obtain ⟨Y4, d_Y4⟩ : ∃ t, ascC (pad 4 y) = t := ⟨_, rfl⟩
  have l_Y4 : (encs Y4).length ≤ 4 := by rw [← d_Y4]; exact (by rw [asc_len _ (pad_le _ _)]; exact pad_len by1 (by decide))
  obtain ⟨M2, d_M2⟩ : ∃ t, ascC (pad 2 m) = t := ⟨_, rfl⟩
  have l_M2 : (encs M2).length ≤ 4 := by rw [← d_M2]; exact (by rw [asc_len _ (pad_le _ _)]; exact pad_len bm (by decide))
  obtain ⟨D2, d_D2⟩ : ∃ t, ascC (pad 2 d) = t := ⟨_, rfl⟩
  have l_D2 : (encs D2).length ≤ 4 := by rw [← d_D2]; exact (by rw [asc_len _ (pad_le _ _)]; exact pad_len bd (by decide))
  obtain ⟨WD, d_WD⟩ : ∃ t, [wdC (day % 7).toNat] = t := ⟨_, rfl⟩
  have l_WD : (encs WD).length ≤ 4 := by rw [← d_WD]; exact hwl
  rw [d_Y1] at HNY1
  rw [d_M1] at HNM1
  rw [d_D1] at HND1
  rw [d_Y4] at HNY4
  rw [d_M2] at HNM2
  rw [d_D2] at HND2
  rw [d_WD] at HWd
  have x_L1 := add_tx M1 [26376] (Nat.le_trans (Nat.add_le_add l_M1 (by decide : (encs [26376]).length ≤ 3)) (by decide))
  rw [e2] at x_L1
  obtain ⟨L1, d_L1⟩ : ∃ t, M1 ++ [26376] = t := ⟨_, rfl⟩
  rw [d_L1] at x_L1
  have l_L1 : (encs L1).length ≤ 7 := by rw [← d_L1, encs_append, List.length_append]; exact Nat.add_le_add l_M1 (by decide : (encs [26376]).length ≤ 3)
  have x_L2 := add_tx L1 D1 (Nat.le_trans (Nat.add_le_add l_L1 l_D1) (by decide))
  obtain ⟨L2, d_L2⟩ : ∃ t, L1 ++ D1 = t := ⟨_, rfl⟩
  rw [d_L2] at x_L2
  have l_L2 : (encs L2).length ≤ 11 := by rw [← d_L2, encs_append, List.length_append]; exact Nat.add_le_add l_L1 l_D1
  have x_L := add_tx L2 [26085] (Nat.le_trans (Nat.add_le_add l_L2 (by decide : (encs [26085]).length ≤ 3)) (by decide))
  rw [e3] at x_L
  obtain ⟨L, d_L⟩ : ∃ t, L2 ++ [26085] = t := ⟨_, rfl⟩
  rw [d_L] at x_L
  have l_L : (encs L).length ≤ 14 := by rw [← d_L, encs_append, List.length_append]; exact Nat.add_le_add l_L2 (by decide : (encs [26085]).length ≤ 3)
  have x_A1 := add_tx Y1 [24180] (Nat.le_trans (Nat.add_le_add l_Y1 (by decide : (encs [24180]).length ≤ 3)) (by decide))
  rw [e1] at x_A1
  obtain ⟨A1, d_A1⟩ : ∃ t, Y1 ++ [24180] = t := ⟨_, rfl⟩
  rw [d_A1] at x_A1
  have l_A1 : (encs A1).length ≤ 7 := by rw [← d_A1, encs_append, List.length_append]; exact Nat.add_le_add l_Y1 (by decide : (encs [24180]).length ≤ 3)
  have x_A := add_tx A1 L (Nat.le_trans (Nat.add_le_add l_A1 l_L) (by decide))
  obtain ⟨A, d_A⟩ : ∃ t, A1 ++ L = t := ⟨_, rfl⟩
  rw [d_A] at x_A
  have l_A : (encs A).length ≤ 21 := by rw [← d_A, encs_append, List.length_append]; exact Nat.add_le_add l_A1 l_L
  have x_B1 := add_tx A [40] (Nat.le_trans (Nat.add_le_add l_A (by decide : (encs [40]).length ≤ 1)) (by decide))
  rw [e4] at x_B1
  obtain ⟨B1, d_B1⟩ : ∃ t, A ++ [40] = t := ⟨_, rfl⟩
  rw [d_B1] at x_B1
  have l_B1 : (encs B1).length ≤ 22 := by rw [← d_B1, encs_append, List.length_append]; exact Nat.add_le_add l_A (by decide : (encs [40]).length ≤ 1)
  have x_B2 := add_tx B1 WD (Nat.le_trans (Nat.add_le_add l_B1 l_WD) (by decide))
  obtain ⟨B2, d_B2⟩ : ∃ t, B1 ++ WD = t := ⟨_, rfl⟩
  rw [d_B2] at x_B2
  have l_B2 : (encs B2).length ≤ 26 := by rw [← d_B2, encs_append, List.length_append]; exact Nat.add_le_add l_B1 l_WD
  have x_B := add_tx B2 [41] (Nat.le_trans (Nat.add_le_add l_B2 (by decide : (encs [41]).length ≤ 1)) (by decide))
  rw [e5] at x_B
  obtain ⟨B, d_B⟩ : ∃ t, B2 ++ [41] = t := ⟨_, rfl⟩
  rw [d_B] at x_B
  have l_B : (encs B).length ≤ 27 := by rw [← d_B, encs_append, List.length_append]; exact Nat.add_le_add l_B2 (by decide : (encs [41]).length ≤ 1)
  have x_C1 := add_tx Y4 [47] (Nat.le_trans (Nat.add_le_add l_Y4 (by decide : (encs [47]).length ≤ 1)) (by decide))
  rw [e6] at x_C1
  obtain ⟨C1, d_C1⟩ : ∃ t, Y4 ++ [47] = t := ⟨_, rfl⟩
  rw [d_C1] at x_C1
  have l_C1 : (encs C1).length ≤ 5 := by rw [← d_C1, encs_append, List.length_append]; exact Nat.add_le_add l_Y4 (by decide : (encs [47]).length ≤ 1)
  have x_C2 := add_tx C1 M2 (Nat.le_trans (Nat.add_le_add l_C1 l_M2) (by decide))
  obtain ⟨C2, d_C2⟩ : ∃ t, C1 ++ M2 = t := ⟨_, rfl⟩
  rw [d_C2] at x_C2
  have l_C2 : (encs C2).length ≤ 9 := by rw [← d_C2, encs_append, List.length_append]; exact Nat.add_le_add l_C1 l_M2
  have x_C3 := add_tx C2 [47] (Nat.le_trans (Nat.add_le_add l_C2 (by decide : (encs [47]).length ≤ 1)) (by decide))
  rw [e6] at x_C3
  obtain ⟨C3, d_C3⟩ : ∃ t, C2 ++ [47] = t := ⟨_, rfl⟩
  rw [d_C3] at x_C3
  have l_C3 : (encs C3).length ≤ 10 := by rw [← d_C3, encs_append, List.length_append]; exact Nat.add_le_add l_C2 (by decide : (encs [47]).length ≤ 1)
  have x_C := add_tx C3 D2 (Nat.le_trans (Nat.add_le_add l_C3 l_D2) (by decide))
  obtain ⟨C, d_C⟩ : ∃ t, C3 ++ D2 = t := ⟨_, rfl⟩
  rw [d_C] at x_C
  have l_C : (encs C).length ≤ 14 := by rw [← d_C, encs_append, List.length_append]; exact Nat.add_le_add l_C3 l_D2
  have x_G1 := add_tx Y4 [45] (Nat.le_trans (Nat.add_le_add l_Y4 (by decide : (encs [45]).length ≤ 1)) (by decide))
  rw [e7] at x_G1
  obtain ⟨G1, d_G1⟩ : ∃ t, Y4 ++ [45] = t := ⟨_, rfl⟩
  rw [d_G1] at x_G1
  have l_G1 : (encs G1).length ≤ 5 := by rw [← d_G1, encs_append, List.length_append]; exact Nat.add_le_add l_Y4 (by decide : (encs [45]).length ≤ 1)
  have x_G2 := add_tx G1 M2 (Nat.le_trans (Nat.add_le_add l_G1 l_M2) (by decide))
  obtain ⟨G2, d_G2⟩ : ∃ t, G1 ++ M2 = t := ⟨_, rfl⟩
  rw [d_G2] at x_G2
  have l_G2 : (encs G2).length ≤ 9 := by rw [← d_G2, encs_append, List.length_append]; exact Nat.add_le_add l_G1 l_M2
  have x_G3 := add_tx G2 [45] (Nat.le_trans (Nat.add_le_add l_G2 (by decide : (encs [45]).length ≤ 1)) (by decide))
  rw [e7] at x_G3
  obtain ⟨G3, d_G3⟩ : ∃ t, G2 ++ [45] = t := ⟨_, rfl⟩
  rw [d_G3] at x_G3
  have l_G3 : (encs G3).length ≤ 10 := by rw [← d_G3, encs_append, List.length_append]; exact Nat.add_le_add l_G2 (by decide : (encs [45]).length ≤ 1)
  have x_G := add_tx G3 D2 (Nat.le_trans (Nat.add_le_add l_G3 l_D2) (by decide))
  obtain ⟨G, d_G⟩ : ∃ t, G3 ++ D2 = t := ⟨_, rfl⟩
  rw [d_G] at x_G
  have l_G : (encs G).length ≤ 14 := by rw [← d_G, encs_append, List.length_append]; exact Nat.add_le_add l_G3 l_D2
  have x_J1 := add_tx M1 [47] (Nat.le_trans (Nat.add_le_add l_M1 (by decide : (encs [47]).length ≤ 1)) (by decide))
  rw [e6] at x_J1
  obtain ⟨J1, d_J1⟩ : ∃ t, M1 ++ [47] = t := ⟨_, rfl⟩
  rw [d_J1] at x_J1
  have l_J1 : (encs J1).length ≤ 5 := by rw [← d_J1, encs_append, List.length_append]; exact Nat.add_le_add l_M1 (by decide : (encs [47]).length ≤ 1)
  have x_J := add_tx J1 D1 (Nat.le_trans (Nat.add_le_add l_J1 l_D1) (by decide))
  obtain ⟨J, d_J⟩ : ∃ t, J1 ++ D1 = t := ⟨_, rfl⟩
  rw [d_J] at x_J
  have l_J : (encs J).length ≤ 9 := by rw [← d_J, encs_append, List.length_append]; exact Nat.add_le_add l_J1 l_D1
  have HL := Lib.hid (show L = joinC decC [(m, 1, [26376]), (d, 1, [26085])] by rw [← d_L, ← d_L2, ← d_L1, ← d_M1, ← d_D1]; simp [plainF, sepF, eraF, eraC, joinC, decC, kanC, pad_one, List.append_assoc])
  have HA := Lib.hid (show A = plainF y m d by rw [← d_A, ← d_A1, ← d_L, ← d_L2, ← d_L1, ← d_Y1, ← d_M1, ← d_D1]; simp [plainF, sepF, eraF, eraC, joinC, decC, kanC, pad_one, List.append_assoc])
  have HBB := Lib.hid (show B = plainF y m d ++ [40] ++ [wdC (day % 7).toNat] ++ [41] by rw [← d_B, ← d_B2, ← d_B1, HA.out, ← d_WD])
  have HC := Lib.hid (show C = sepF 47 y m d by rw [← d_C, ← d_C3, ← d_C2, ← d_C1, ← d_Y4, ← d_M2, ← d_D2]; simp [plainF, sepF, eraF, eraC, joinC, decC, kanC, pad_one, List.append_assoc])
  have HG := Lib.hid (show G = sepF 45 y m d by rw [← d_G, ← d_G3, ← d_G2, ← d_G1, ← d_Y4, ← d_M2, ← d_D2]; simp [plainF, sepF, eraF, eraC, joinC, decC, kanC, pad_one, List.append_assoc])
  have HJ := Lib.hid (show J = joinC decC [(m, 1, [47]), (d, 1, [])] by rw [← d_J, ← d_J1, ← d_M1, ← d_D1]; simp [plainF, sepF, eraF, eraC, joinC, decC, kanC, pad_one, List.append_assoc])
  obtain ⟨ey1, ey2, ey3, ey4⟩ := era_year h hc
  have hq5 := cur_lt hc
  have hnm : nm (some q) = tx (eN q) := rfl
  rw [hc, ey2, hnm] at HE
  have HF0 := Lib.hid (show allForms day y m d = [plainF y m d, plainF y m d ++ [40] ++ [wdC (day % 7).toNat] ++ [41], sepF 47 y m d, sepF 45 y m d] ++ eraForms q (eYear q y) m d ++ lastForms m d by unfold allForms yearForms; rw [hc]; rfl)
  obtain ⟨E, hE⟩ : ∃ E, eYear q y = E := ⟨_, rfl⟩
  rw [hE] at HE HF0 he ey3 ey4
  have HNE1 := Lib.hid (number1_at E (by omega))
  have HKE := Lib.hid (fun W hW => rkanji_at E (by omega) W hW)
  obtain ⟨EN, d_EN⟩ : ∃ t, eN q = t := ⟨_, rfl⟩
  have l_EN : (encs EN).length ≤ 6 := by rw [← d_EN]; exact eN_len q hq5
  obtain ⟨E1, d_E1⟩ : ∃ t, ascC (pad 1 E) = t := ⟨_, rfl⟩
  have l_E1 : (encs E1).length ≤ 4 := by rw [← d_E1]; exact (by rw [asc_len _ (pad_le _ _)]; exact pad_len (by omega) (by decide))
  obtain ⟨KE, d_KE⟩ : ∃ t, kanjiC (digs E) = t := ⟨_, rfl⟩
  have l_KE : (encs KE).length ≤ 200 := by rw [← d_KE]; exact (by have := size_kanji (digs_DS (show E ≤ 9999 by omega)); rw [tx_size] at this; exact this)
  obtain ⟨KM, d_KM⟩ : ∃ t, kanjiC (digs m) = t := ⟨_, rfl⟩
  have l_KM : (encs KM).length ≤ 200 := by rw [← d_KM]; exact (by have := size_kanji (digs_DS (show m ≤ 9999 by omega)); rw [tx_size] at this; exact this)
  obtain ⟨KD, d_KD⟩ : ∃ t, kanjiC (digs d) = t := ⟨_, rfl⟩
  have l_KD : (encs KD).length ≤ 200 := by rw [← d_KD]; exact (by have := size_kanji (digs_DS (show d ≤ 9999 by omega)); rw [tx_size] at this; exact this)
  have HKM := Lib.hid (fun W hW => rkanji_at m bm W hW)
  have HKD := Lib.hid (fun W hW => rkanji_at d bd W hW)
  rw [d_E1] at HNE1
  rw [d_KE] at HKE
  rw [d_KM] at HKM
  rw [d_KD] at HKD
  rw [d_EN] at HE
  have x_H1 := add_tx EN [20803] (Nat.le_trans (Nat.add_le_add l_EN (by decide : (encs [20803]).length ≤ 3)) (by decide))
  rw [e8] at x_H1
  obtain ⟨H1, d_H1⟩ : ∃ t, EN ++ [20803] = t := ⟨_, rfl⟩
  rw [d_H1] at x_H1
  have l_H1 : (encs H1).length ≤ 9 := by rw [← d_H1, encs_append, List.length_append]; exact Nat.add_le_add l_EN (by decide : (encs [20803]).length ≤ 3)
  have x_H2 := add_tx H1 [24180] (Nat.le_trans (Nat.add_le_add l_H1 (by decide : (encs [24180]).length ≤ 3)) (by decide))
  rw [e1] at x_H2
  obtain ⟨H2, d_H2⟩ : ∃ t, H1 ++ [24180] = t := ⟨_, rfl⟩
  rw [d_H2] at x_H2
  have l_H2 : (encs H2).length ≤ 12 := by rw [← d_H2, encs_append, List.length_append]; exact Nat.add_le_add l_H1 (by decide : (encs [24180]).length ≤ 3)
  have x_H := add_tx H2 L (Nat.le_trans (Nat.add_le_add l_H2 l_L) (by decide))
  obtain ⟨H, d_H⟩ : ∃ t, H2 ++ L = t := ⟨_, rfl⟩
  rw [d_H] at x_H
  have l_H : (encs H).length ≤ 26 := by rw [← d_H, encs_append, List.length_append]; exact Nat.add_le_add l_H2 l_L
  have x_I3 := add_tx H2 KM (Nat.le_trans (Nat.add_le_add l_H2 l_KM) (by decide))
  obtain ⟨I3, d_I3⟩ : ∃ t, H2 ++ KM = t := ⟨_, rfl⟩
  rw [d_I3] at x_I3
  have l_I3 : (encs I3).length ≤ 212 := by rw [← d_I3, encs_append, List.length_append]; exact Nat.add_le_add l_H2 l_KM
  have x_I4 := add_tx I3 [26376] (Nat.le_trans (Nat.add_le_add l_I3 (by decide : (encs [26376]).length ≤ 3)) (by decide))
  rw [e2] at x_I4
  obtain ⟨I4, d_I4⟩ : ∃ t, I3 ++ [26376] = t := ⟨_, rfl⟩
  rw [d_I4] at x_I4
  have l_I4 : (encs I4).length ≤ 215 := by rw [← d_I4, encs_append, List.length_append]; exact Nat.add_le_add l_I3 (by decide : (encs [26376]).length ≤ 3)
  have x_I5 := add_tx I4 KD (Nat.le_trans (Nat.add_le_add l_I4 l_KD) (by decide))
  obtain ⟨I5, d_I5⟩ : ∃ t, I4 ++ KD = t := ⟨_, rfl⟩
  rw [d_I5] at x_I5
  have l_I5 : (encs I5).length ≤ 415 := by rw [← d_I5, encs_append, List.length_append]; exact Nat.add_le_add l_I4 l_KD
  have x_I := add_tx I5 [26085] (Nat.le_trans (Nat.add_le_add l_I5 (by decide : (encs [26085]).length ≤ 3)) (by decide))
  rw [e3] at x_I
  obtain ⟨I, d_I⟩ : ∃ t, I5 ++ [26085] = t := ⟨_, rfl⟩
  rw [d_I] at x_I
  have l_I : (encs I).length ≤ 418 := by rw [← d_I, encs_append, List.length_append]; exact Nat.add_le_add l_I5 (by decide : (encs [26085]).length ≤ 3)
  have HH := Lib.hid (show H = eN q ++ eraF decC E m d by rw [he, ← d_H, ← d_H2, ← d_H1, ← d_L, ← d_L2, ← d_L1, ← d_EN, ← d_M1, ← d_D1]; simp [eraF, eraC, joinC, decC, List.append_assoc])
  have HI := Lib.hid (show I = eN q ++ eraF kanC E m d by rw [he, ← d_I, ← d_I5, ← d_I4, ← d_I3, ← d_H2, ← d_H1, ← d_EN, ← d_KM, ← d_KD]; simp [eraF, eraC, joinC, kanC, List.append_assoc])
  have HF := Lib.hid (show strs (allForms day y m d) = ([.string (tx A), .string (tx B), .string (tx C), .string (tx G)] ++ [.string (tx H), .string (tx I)]) ++ [.string (tx L), .string (tx J)] by rw [HF0.out, HA.out, HBB.out, HC.out, HG.out, HL.out, HJ.out, HH.out, HI.out]; rfl)
  have HFn := Lib.hid (show (allForms day y m d).length = 4 + 2 + 2 by rw [HF0.out]; rfl)
  have hE1 : ((E : Int) == 1) = true := by simp; omega
  clear e1 e2 e3 e4 e5 e6 e7 e8 hwl v6 v7 hc he HA HBB HC HG HL HJ HH HI HF0 h hE hnm ey1 ey2 ey3 ey4 hq5 d_L1 l_L1 d_L2 l_L2 d_L l_L d_A1 l_A1 d_A l_A d_B1 l_B1 d_B2 l_B2 d_B l_B d_C1 l_C1 d_C2 l_C2 d_C3 l_C3 d_C l_C d_G1 l_G1 d_G2 l_G2 d_G3 l_G3 d_G l_G d_J1 l_J1 d_J l_J d_Y1 l_Y1 d_M1 l_M1 d_D1 l_D1 d_Y4 l_Y4 d_M2 l_M2 d_D2 l_D2 d_WD l_WD d_H1 l_H1 d_H2 l_H2 d_H l_H d_I3 l_I3 d_I4 l_I4 d_I5 l_I5 d_I l_I d_EN l_EN d_E1 l_E1 d_KE l_KE d_KM l_KM d_KD l_KD
  go_enter Tryz.func36, Tryz.ntmps36
  go_wp2_with (first
    | (go_at_call 55; (with_reducible refine (HNY1.out _).mono ?_); rintro e w1 ⟨rfl, hb⟩; have hB := hB.trans (hb.mono hB.size); (try have ho2 := own_later ho2 hb); clear hb)
    | (go_at_call 55; (with_reducible refine (HNM1.out _).mono ?_); rintro e w1 ⟨rfl, hb⟩; have hB := hB.trans (hb.mono hB.size); (try have ho2 := own_later ho2 hb); clear hb)
    | (go_at_call 55; (with_reducible refine (HND1.out _).mono ?_); rintro e w1 ⟨rfl, hb⟩; have hB := hB.trans (hb.mono hB.size); (try have ho2 := own_later ho2 hb); clear hb)
    | (go_at_call 55; (with_reducible refine (HNY4.out _).mono ?_); rintro e w1 ⟨rfl, hb⟩; have hB := hB.trans (hb.mono hB.size); (try have ho2 := own_later ho2 hb); clear hb)
    | (go_at_call 55; (with_reducible refine (HNM2.out _).mono ?_); rintro e w1 ⟨rfl, hb⟩; have hB := hB.trans (hb.mono hB.size); (try have ho2 := own_later ho2 hb); clear hb)
    | (go_at_call 55; (with_reducible refine (HND2.out _).mono ?_); rintro e w1 ⟨rfl, hb⟩; have hB := hB.trans (hb.mono hB.size); (try have ho2 := own_later ho2 hb); clear hb)
    | (go_at_call 53; (with_reducible refine (HD.out _).mono ?_); rintro e w1 ⟨rfl, hw1⟩; obtain rfl := hw1.symm)
    | (go_at_call 54; (with_reducible refine (HWd.out _).mono ?_); rintro e w1 ⟨rfl, hb⟩; have hB := hB.trans (hb.mono hB.size); clear hb)
    | (go_at_call 56; (with_reducible refine (HE.out _).mono ?_)
       have ho1 := own_row w1 #[.string (tx A), .string (tx B), .string (tx C), .string (tx G)] 9 w.heap.size 4 rfl (by unfold maxLen; decide) hB.size
       have hB2 := hB.alloc hB.size (.cells #[.string (tx A), .string (tx B), .string (tx C), .string (tx G)] 9)
       have HO1 := Lib.hid ho1
       have HB2 := Lib.hid hB2
       clear ho1 hB2 hB
       rintro e w1 ⟨rfl, hb⟩
       have ho2 := own_later HO1.out hb
       have hB := HB2.out.trans (hb.mono HB2.out.size)
       clear hb HO1 HB2)
    | (go_at_call 55; (with_reducible refine (HNE1.out _).mono ?_); rintro e w1 ⟨rfl, hb⟩; have ho2 := own_later ho2 hb; have hB := hB.trans (hb.mono hB.size); clear hb)
    | (go_at_call 57; (with_reducible refine (HKE.out _ (hL.next hB)).mono ?_); rintro e w1 ⟨rfl, hb⟩; have ho2 := own_later ho2 hb; have hB := hB.trans (hb.mono hB.size); clear hb)
    | (go_at_call 57; (with_reducible refine (HKM.out _ (hL.next hB)).mono ?_); rintro e w1 ⟨rfl, hb⟩; have ho2 := own_later ho2 hb; have hB := hB.trans (hb.mono hB.size); clear hb)
    | (go_at_call 57; (with_reducible refine (HKD.out _ (hL.next hB)).mono ?_); rintro e w1 ⟨rfl, hb⟩; have ho2 := own_later ho2 hb; have hB := hB.trans (hb.mono hB.size); clear hb)
    | (at_builtin; refine wpList_append_own _ rfl _ _ _ rfl w.heap.size 9 i0 (.string { data := #[] }) 1 16 Tryz.underlying26 hi hz0 hz1 hz2 rfl (by decide) _ 4 ([.string (tx A), .string (tx B), .string (tx C), .string (tx G)]) rfl (ho2.alloc _) ⟨w1.heap.size, 0, none⟩ 2 2 [.string (tx H), .string (tx I)] rfl rfl (World.news_of_block (heap_alloc_new _ _)) ?c2 ?c3 ?c4 ?c5 ?_))
  case c2 => simp [Value.oneCell']
  case c3 => unfold maxLen; omega
  case c4 => omega
  case c5 => have := hB.size; rw [size_alloc]; omega
  intro v' w7 hown7 hg7 hiff
  clear hiff
  have hb8 := below_own (hB.alloc hB.size (.cells #[.string (tx H), .string (tx I)] 9)) (ho2.alloc _) (Nat.le_refl _) (by have := hB.size; rw [size_alloc]; omega) hg7
  obtain ⟨a, cap, hv⟩ := own_shape hown7
  subst hv
  have ho2 := hown7
  have hB := hb8
  clear hown7 hg7 hb8
  go_wp2_with (first
    | (go_at_call 55; (with_reducible refine (HNM1.out _).mono ?_); rintro e w1 ⟨rfl, hb⟩; have ho2 := own_later ho2 hb; have hB := hB.trans (hb.mono hB.size); clear hb)
    | (go_at_call 55; (with_reducible refine (HND1.out _).mono ?_); rintro e w1 ⟨rfl, hb⟩; have ho2 := own_later ho2 hb; have hB := hB.trans (hb.mono hB.size); clear hb)
    | (at_builtin; refine wpList_append_own _ rfl _ _ _ rfl w.heap.size 9 i0 (.string { data := #[] }) 1 16 Tryz.underlying26 hi hz0 hz1 hz2 rfl (by decide) _ (4 + 2) ([.string (tx A), .string (tx B), .string (tx C), .string (tx G)] ++ [.string (tx H), .string (tx I)]) rfl (ho2.alloc _) ⟨w1.heap.size, 0, none⟩ 2 2 [.string (tx L), .string (tx J)] rfl rfl (World.news_of_block (heap_alloc_new _ _)) ?c2 ?c3 ?c4 ?c5 ?_))
  case c2 => simp [Value.oneCell']
  case c3 => unfold maxLen; omega
  case c4 => omega
  case c5 => have := hB.size; rw [size_alloc]; omega
  intro v' w8 hown8 hg8 hiff
  clear hiff
  have hb9 := below_own (hB.alloc hB.size (.cells #[.string (tx L), .string (tx J)] 9)) (ho2.alloc _) (Nat.le_refl _) (by have := hB.size; rw [size_alloc]; omega) hg8
  go_wp2
  go_ret
  exact ⟨_, rfl, by rw [HFn.out, HF.out]; exact hown8, hb9⟩

set_option maxHeartbeats 4000000 in
set_option maxRecDepth 100000 in
theorem rforms_more (day : Int) (y m d : Nat) (h : IsDate day y m d) {q : Nat} (hc : cur day 5 = some q) (he : ¬ eYear q y = 1) (hb0 : -9223372036854775808 ≤ day) (w : World) (hL : FLaid w) :
    Calls Tryz.prog 36 #[.int .i64 day] w fun e w' => ∃ v, e = .returned v ∧ w'.ownsRow w.heap.size 9 1 v (allForms day y m d).length (strs (allForms day y m d)) ∧ Below w.heap.size w w' := by
  have hB : Below w.heap.size w w := Below.refl _ _
  have hr := h.range
  have hv := h.1
  obtain ⟨v1, v2, v3, v4, v5, v6⟩ := hv
  have v7 := (len_bounds y m).2
  have by1 : y ≤ 9999 := by omega
  have bm : m ≤ 9999 := by omega
  have bd : d ≤ 9999 := by omega
  have by' := by1
  have HD := Lib.hid (fun W => rdate_is day y m d h W)
  have HWd := Lib.hid (fun W => rweekday_is day hr.1 hr.2 W)
  have HE := Lib.hid (fun W => rera_at day y hr.2 (fun _ => ⟨_, _, h⟩) hb0 W)
  have e1 : tx [24180] = { data := #[229, 185, 180] } := by decide +kernel
  have e2 : tx [26376] = { data := #[230, 156, 136] } := by decide +kernel
  have e3 : tx [26085] = { data := #[230, 151, 165] } := by decide +kernel
  have e4 : tx [40] = { data := #[40] } := by decide +kernel
  have e5 : tx [41] = { data := #[41] } := by decide +kernel
  have e6 : tx [47] = { data := #[47] } := by decide +kernel
  have e7 : tx [45] = { data := #[45] } := by decide +kernel
  have e8 : tx [20803] = { data := #[229, 133, 131] } := by decide +kernel
  have hwl : (encs [wdC (day % 7).toNat]).length ≤ 4 := by
    have : (day % 7).toNat < 7 := by omega
    have hall : ∀ k, k < 7 → (encs [wdC k]).length ≤ 4 := by decide
    exact hall _ this
  have HNY1 := Lib.hid (number1_at y by1)
  have HNM1 := Lib.hid (number1_at m bm)
  have HND1 := Lib.hid (number1_at d bd)
  have HNY4 := Lib.hid (number4_at y by1)
  have HNM2 := Lib.hid (number2_at m bm)
  have HND2 := Lib.hid (number2_at d bd)
  obtain ⟨i0, hi, hz0, hz1, hz2⟩ := info_parts string_info
  obtain ⟨Y1, d_Y1⟩ : ∃ t, ascC (pad 1 y) = t := ⟨_, rfl⟩
  have l_Y1 : (encs Y1).length ≤ 4 := by rw [← d_Y1]; exact (by rw [asc_len _ (pad_le _ _)]; exact pad_len by1 (by decide))
  obtain ⟨M1, d_M1⟩ : ∃ t, ascC (pad 1 m) = t := ⟨_, rfl⟩
  have l_M1 : (encs M1).length ≤ 4 := by rw [← d_M1]; exact (by rw [asc_len _ (pad_le _ _)]; exact pad_len bm (by decide))
  obtain ⟨D1, d_D1⟩ : ∃ t, ascC (pad 1 d) = t := ⟨_, rfl⟩
  have l_D1 : (encs D1).length ≤ 4 := by rw [← d_D1]; exact (by rw [asc_len _ (pad_le _ _)]; exact pad_len bd (by decide))
  obtain ⟨Y4, d_Y4⟩ : ∃ t, ascC (pad 4 y) = t := ⟨_, rfl⟩
  have l_Y4 : (encs Y4).length ≤ 4 := by rw [← d_Y4]; exact (by rw [asc_len _ (pad_le _ _)]; exact pad_len by1 (by decide))
  obtain ⟨M2, d_M2⟩ : ∃ t, ascC (pad 2 m) = t := ⟨_, rfl⟩
  have l_M2 : (encs M2).length ≤ 4 := by rw [← d_M2]; exact (by rw [asc_len _ (pad_le _ _)]; exact pad_len bm (by decide))
  obtain ⟨D2, d_D2⟩ : ∃ t, ascC (pad 2 d) = t := ⟨_, rfl⟩
  have l_D2 : (encs D2).length ≤ 4 := by rw [← d_D2]; exact (by rw [asc_len _ (pad_le _ _)]; exact pad_len bd (by decide))
  obtain ⟨WD, d_WD⟩ : ∃ t, [wdC (day % 7).toNat] = t := ⟨_, rfl⟩
  have l_WD : (encs WD).length ≤ 4 := by rw [← d_WD]; exact hwl
  rw [d_Y1] at HNY1
  rw [d_M1] at HNM1
  rw [d_D1] at HND1
  rw [d_Y4] at HNY4
  rw [d_M2] at HNM2
  rw [d_D2] at HND2
  rw [d_WD] at HWd
  have x_L1 := add_tx M1 [26376] (Nat.le_trans (Nat.add_le_add l_M1 (by decide : (encs [26376]).length ≤ 3)) (by decide))
  rw [e2] at x_L1
  obtain ⟨L1, d_L1⟩ : ∃ t, M1 ++ [26376] = t := ⟨_, rfl⟩
  rw [d_L1] at x_L1
  have l_L1 : (encs L1).length ≤ 7 := by rw [← d_L1, encs_append, List.length_append]; exact Nat.add_le_add l_M1 (by decide : (encs [26376]).length ≤ 3)
  have x_L2 := add_tx L1 D1 (Nat.le_trans (Nat.add_le_add l_L1 l_D1) (by decide))
  obtain ⟨L2, d_L2⟩ : ∃ t, L1 ++ D1 = t := ⟨_, rfl⟩
  rw [d_L2] at x_L2
  have l_L2 : (encs L2).length ≤ 11 := by rw [← d_L2, encs_append, List.length_append]; exact Nat.add_le_add l_L1 l_D1
  have x_L := add_tx L2 [26085] (Nat.le_trans (Nat.add_le_add l_L2 (by decide : (encs [26085]).length ≤ 3)) (by decide))
  rw [e3] at x_L
  obtain ⟨L, d_L⟩ : ∃ t, L2 ++ [26085] = t := ⟨_, rfl⟩
  rw [d_L] at x_L
  have l_L : (encs L).length ≤ 14 := by rw [← d_L, encs_append, List.length_append]; exact Nat.add_le_add l_L2 (by decide : (encs [26085]).length ≤ 3)
  have x_A1 := add_tx Y1 [24180] (Nat.le_trans (Nat.add_le_add l_Y1 (by decide : (encs [24180]).length ≤ 3)) (by decide))
  rw [e1] at x_A1
  obtain ⟨A1, d_A1⟩ : ∃ t, Y1 ++ [24180] = t := ⟨_, rfl⟩
  rw [d_A1] at x_A1
  have l_A1 : (encs A1).length ≤ 7 := by rw [← d_A1, encs_append, List.length_append]; exact Nat.add_le_add l_Y1 (by decide : (encs [24180]).length ≤ 3)
  have x_A := add_tx A1 L (Nat.le_trans (Nat.add_le_add l_A1 l_L) (by decide))
  obtain ⟨A, d_A⟩ : ∃ t, A1 ++ L = t := ⟨_, rfl⟩
  rw [d_A] at x_A
  have l_A : (encs A).length ≤ 21 := by rw [← d_A, encs_append, List.length_append]; exact Nat.add_le_add l_A1 l_L
  have x_B1 := add_tx A [40] (Nat.le_trans (Nat.add_le_add l_A (by decide : (encs [40]).length ≤ 1)) (by decide))
  rw [e4] at x_B1
  obtain ⟨B1, d_B1⟩ : ∃ t, A ++ [40] = t := ⟨_, rfl⟩
  rw [d_B1] at x_B1
  have l_B1 : (encs B1).length ≤ 22 := by rw [← d_B1, encs_append, List.length_append]; exact Nat.add_le_add l_A (by decide : (encs [40]).length ≤ 1)
  have x_B2 := add_tx B1 WD (Nat.le_trans (Nat.add_le_add l_B1 l_WD) (by decide))
  obtain ⟨B2, d_B2⟩ : ∃ t, B1 ++ WD = t := ⟨_, rfl⟩
  rw [d_B2] at x_B2
  have l_B2 : (encs B2).length ≤ 26 := by rw [← d_B2, encs_append, List.length_append]; exact Nat.add_le_add l_B1 l_WD
  have x_B := add_tx B2 [41] (Nat.le_trans (Nat.add_le_add l_B2 (by decide : (encs [41]).length ≤ 1)) (by decide))
  rw [e5] at x_B
  obtain ⟨B, d_B⟩ : ∃ t, B2 ++ [41] = t := ⟨_, rfl⟩
  rw [d_B] at x_B
  have l_B : (encs B).length ≤ 27 := by rw [← d_B, encs_append, List.length_append]; exact Nat.add_le_add l_B2 (by decide : (encs [41]).length ≤ 1)
  have x_C1 := add_tx Y4 [47] (Nat.le_trans (Nat.add_le_add l_Y4 (by decide : (encs [47]).length ≤ 1)) (by decide))
  rw [e6] at x_C1
  obtain ⟨C1, d_C1⟩ : ∃ t, Y4 ++ [47] = t := ⟨_, rfl⟩
  rw [d_C1] at x_C1
  have l_C1 : (encs C1).length ≤ 5 := by rw [← d_C1, encs_append, List.length_append]; exact Nat.add_le_add l_Y4 (by decide : (encs [47]).length ≤ 1)
  have x_C2 := add_tx C1 M2 (Nat.le_trans (Nat.add_le_add l_C1 l_M2) (by decide))
  obtain ⟨C2, d_C2⟩ : ∃ t, C1 ++ M2 = t := ⟨_, rfl⟩
  rw [d_C2] at x_C2
  have l_C2 : (encs C2).length ≤ 9 := by rw [← d_C2, encs_append, List.length_append]; exact Nat.add_le_add l_C1 l_M2
  have x_C3 := add_tx C2 [47] (Nat.le_trans (Nat.add_le_add l_C2 (by decide : (encs [47]).length ≤ 1)) (by decide))
  rw [e6] at x_C3
  obtain ⟨C3, d_C3⟩ : ∃ t, C2 ++ [47] = t := ⟨_, rfl⟩
  rw [d_C3] at x_C3
  have l_C3 : (encs C3).length ≤ 10 := by rw [← d_C3, encs_append, List.length_append]; exact Nat.add_le_add l_C2 (by decide : (encs [47]).length ≤ 1)
  have x_C := add_tx C3 D2 (Nat.le_trans (Nat.add_le_add l_C3 l_D2) (by decide))
  obtain ⟨C, d_C⟩ : ∃ t, C3 ++ D2 = t := ⟨_, rfl⟩
  rw [d_C] at x_C
  have l_C : (encs C).length ≤ 14 := by rw [← d_C, encs_append, List.length_append]; exact Nat.add_le_add l_C3 l_D2
  have x_G1 := add_tx Y4 [45] (Nat.le_trans (Nat.add_le_add l_Y4 (by decide : (encs [45]).length ≤ 1)) (by decide))
  rw [e7] at x_G1
  obtain ⟨G1, d_G1⟩ : ∃ t, Y4 ++ [45] = t := ⟨_, rfl⟩
  rw [d_G1] at x_G1
  have l_G1 : (encs G1).length ≤ 5 := by rw [← d_G1, encs_append, List.length_append]; exact Nat.add_le_add l_Y4 (by decide : (encs [45]).length ≤ 1)
  have x_G2 := add_tx G1 M2 (Nat.le_trans (Nat.add_le_add l_G1 l_M2) (by decide))
  obtain ⟨G2, d_G2⟩ : ∃ t, G1 ++ M2 = t := ⟨_, rfl⟩
  rw [d_G2] at x_G2
  have l_G2 : (encs G2).length ≤ 9 := by rw [← d_G2, encs_append, List.length_append]; exact Nat.add_le_add l_G1 l_M2
  have x_G3 := add_tx G2 [45] (Nat.le_trans (Nat.add_le_add l_G2 (by decide : (encs [45]).length ≤ 1)) (by decide))
  rw [e7] at x_G3
  obtain ⟨G3, d_G3⟩ : ∃ t, G2 ++ [45] = t := ⟨_, rfl⟩
  rw [d_G3] at x_G3
  have l_G3 : (encs G3).length ≤ 10 := by rw [← d_G3, encs_append, List.length_append]; exact Nat.add_le_add l_G2 (by decide : (encs [45]).length ≤ 1)
  have x_G := add_tx G3 D2 (Nat.le_trans (Nat.add_le_add l_G3 l_D2) (by decide))
  obtain ⟨G, d_G⟩ : ∃ t, G3 ++ D2 = t := ⟨_, rfl⟩
  rw [d_G] at x_G
  have l_G : (encs G).length ≤ 14 := by rw [← d_G, encs_append, List.length_append]; exact Nat.add_le_add l_G3 l_D2
  have x_J1 := add_tx M1 [47] (Nat.le_trans (Nat.add_le_add l_M1 (by decide : (encs [47]).length ≤ 1)) (by decide))
  rw [e6] at x_J1
  obtain ⟨J1, d_J1⟩ : ∃ t, M1 ++ [47] = t := ⟨_, rfl⟩
  rw [d_J1] at x_J1
  have l_J1 : (encs J1).length ≤ 5 := by rw [← d_J1, encs_append, List.length_append]; exact Nat.add_le_add l_M1 (by decide : (encs [47]).length ≤ 1)
  have x_J := add_tx J1 D1 (Nat.le_trans (Nat.add_le_add l_J1 l_D1) (by decide))
  obtain ⟨J, d_J⟩ : ∃ t, J1 ++ D1 = t := ⟨_, rfl⟩
  rw [d_J] at x_J
  have l_J : (encs J).length ≤ 9 := by rw [← d_J, encs_append, List.length_append]; exact Nat.add_le_add l_J1 l_D1
  have HL := Lib.hid (show L = joinC decC [(m, 1, [26376]), (d, 1, [26085])] by rw [← d_L, ← d_L2, ← d_L1, ← d_M1, ← d_D1]; simp [plainF, sepF, eraF, eraC, joinC, decC, kanC, pad_one, List.append_assoc])
  have HA := Lib.hid (show A = plainF y m d by rw [← d_A, ← d_A1, ← d_L, ← d_L2, ← d_L1, ← d_Y1, ← d_M1, ← d_D1]; simp [plainF, sepF, eraF, eraC, joinC, decC, kanC, pad_one, List.append_assoc])
  have HBB := Lib.hid (show B = plainF y m d ++ [40] ++ [wdC (day % 7).toNat] ++ [41] by rw [← d_B, ← d_B2, ← d_B1, HA.out, ← d_WD])
  have HC := Lib.hid (show C = sepF 47 y m d by rw [← d_C, ← d_C3, ← d_C2, ← d_C1, ← d_Y4, ← d_M2, ← d_D2]; simp [plainF, sepF, eraF, eraC, joinC, decC, kanC, pad_one, List.append_assoc])
  have HG := Lib.hid (show G = sepF 45 y m d by rw [← d_G, ← d_G3, ← d_G2, ← d_G1, ← d_Y4, ← d_M2, ← d_D2]; simp [plainF, sepF, eraF, eraC, joinC, decC, kanC, pad_one, List.append_assoc])
  have HJ := Lib.hid (show J = joinC decC [(m, 1, [47]), (d, 1, [])] by rw [← d_J, ← d_J1, ← d_M1, ← d_D1]; simp [plainF, sepF, eraF, eraC, joinC, decC, kanC, pad_one, List.append_assoc])
  obtain ⟨ey1, ey2, ey3, ey4⟩ := era_year h hc
  have hq5 := cur_lt hc
  have hnm : nm (some q) = tx (eN q) := rfl
  rw [hc, ey2, hnm] at HE
  have HF0 := Lib.hid (show allForms day y m d = [plainF y m d, plainF y m d ++ [40] ++ [wdC (day % 7).toNat] ++ [41], sepF 47 y m d, sepF 45 y m d] ++ eraForms q (eYear q y) m d ++ lastForms m d by unfold allForms yearForms; rw [hc]; rfl)
  obtain ⟨E, hE⟩ : ∃ E, eYear q y = E := ⟨_, rfl⟩
  rw [hE] at HE HF0 he ey3 ey4
  have HNE1 := Lib.hid (number1_at E (by omega))
  have HKE := Lib.hid (fun W hW => rkanji_at E (by omega) W hW)
  obtain ⟨EN, d_EN⟩ : ∃ t, eN q = t := ⟨_, rfl⟩
  have l_EN : (encs EN).length ≤ 6 := by rw [← d_EN]; exact eN_len q hq5
  obtain ⟨E1, d_E1⟩ : ∃ t, ascC (pad 1 E) = t := ⟨_, rfl⟩
  have l_E1 : (encs E1).length ≤ 4 := by rw [← d_E1]; exact (by rw [asc_len _ (pad_le _ _)]; exact pad_len (by omega) (by decide))
  obtain ⟨KE, d_KE⟩ : ∃ t, kanjiC (digs E) = t := ⟨_, rfl⟩
  have l_KE : (encs KE).length ≤ 200 := by rw [← d_KE]; exact (by have := size_kanji (digs_DS (show E ≤ 9999 by omega)); rw [tx_size] at this; exact this)
  obtain ⟨KM, d_KM⟩ : ∃ t, kanjiC (digs m) = t := ⟨_, rfl⟩
  have l_KM : (encs KM).length ≤ 200 := by rw [← d_KM]; exact (by have := size_kanji (digs_DS (show m ≤ 9999 by omega)); rw [tx_size] at this; exact this)
  obtain ⟨KD, d_KD⟩ : ∃ t, kanjiC (digs d) = t := ⟨_, rfl⟩
  have l_KD : (encs KD).length ≤ 200 := by rw [← d_KD]; exact (by have := size_kanji (digs_DS (show d ≤ 9999 by omega)); rw [tx_size] at this; exact this)
  have HKM := Lib.hid (fun W hW => rkanji_at m bm W hW)
  have HKD := Lib.hid (fun W hW => rkanji_at d bd W hW)
  rw [d_E1] at HNE1
  rw [d_KE] at HKE
  rw [d_KM] at HKM
  rw [d_KD] at HKD
  rw [d_EN] at HE
  have x_H1 := add_tx EN E1 (Nat.le_trans (Nat.add_le_add l_EN l_E1) (by decide))
  obtain ⟨H1, d_H1⟩ : ∃ t, EN ++ E1 = t := ⟨_, rfl⟩
  rw [d_H1] at x_H1
  have l_H1 : (encs H1).length ≤ 10 := by rw [← d_H1, encs_append, List.length_append]; exact Nat.add_le_add l_EN l_E1
  have x_H2 := add_tx H1 [24180] (Nat.le_trans (Nat.add_le_add l_H1 (by decide : (encs [24180]).length ≤ 3)) (by decide))
  rw [e1] at x_H2
  obtain ⟨H2, d_H2⟩ : ∃ t, H1 ++ [24180] = t := ⟨_, rfl⟩
  rw [d_H2] at x_H2
  have l_H2 : (encs H2).length ≤ 13 := by rw [← d_H2, encs_append, List.length_append]; exact Nat.add_le_add l_H1 (by decide : (encs [24180]).length ≤ 3)
  have x_H := add_tx H2 L (Nat.le_trans (Nat.add_le_add l_H2 l_L) (by decide))
  obtain ⟨H, d_H⟩ : ∃ t, H2 ++ L = t := ⟨_, rfl⟩
  rw [d_H] at x_H
  have l_H : (encs H).length ≤ 27 := by rw [← d_H, encs_append, List.length_append]; exact Nat.add_le_add l_H2 l_L
  have x_I1 := add_tx EN KE (Nat.le_trans (Nat.add_le_add l_EN l_KE) (by decide))
  obtain ⟨I1, d_I1⟩ : ∃ t, EN ++ KE = t := ⟨_, rfl⟩
  rw [d_I1] at x_I1
  have l_I1 : (encs I1).length ≤ 206 := by rw [← d_I1, encs_append, List.length_append]; exact Nat.add_le_add l_EN l_KE
  have x_I2 := add_tx I1 [24180] (Nat.le_trans (Nat.add_le_add l_I1 (by decide : (encs [24180]).length ≤ 3)) (by decide))
  rw [e1] at x_I2
  obtain ⟨I2, d_I2⟩ : ∃ t, I1 ++ [24180] = t := ⟨_, rfl⟩
  rw [d_I2] at x_I2
  have l_I2 : (encs I2).length ≤ 209 := by rw [← d_I2, encs_append, List.length_append]; exact Nat.add_le_add l_I1 (by decide : (encs [24180]).length ≤ 3)
  have x_I3 := add_tx I2 KM (Nat.le_trans (Nat.add_le_add l_I2 l_KM) (by decide))
  obtain ⟨I3, d_I3⟩ : ∃ t, I2 ++ KM = t := ⟨_, rfl⟩
  rw [d_I3] at x_I3
  have l_I3 : (encs I3).length ≤ 409 := by rw [← d_I3, encs_append, List.length_append]; exact Nat.add_le_add l_I2 l_KM
  have x_I4 := add_tx I3 [26376] (Nat.le_trans (Nat.add_le_add l_I3 (by decide : (encs [26376]).length ≤ 3)) (by decide))
  rw [e2] at x_I4
  obtain ⟨I4, d_I4⟩ : ∃ t, I3 ++ [26376] = t := ⟨_, rfl⟩
  rw [d_I4] at x_I4
  have l_I4 : (encs I4).length ≤ 412 := by rw [← d_I4, encs_append, List.length_append]; exact Nat.add_le_add l_I3 (by decide : (encs [26376]).length ≤ 3)
  have x_I5 := add_tx I4 KD (Nat.le_trans (Nat.add_le_add l_I4 l_KD) (by decide))
  obtain ⟨I5, d_I5⟩ : ∃ t, I4 ++ KD = t := ⟨_, rfl⟩
  rw [d_I5] at x_I5
  have l_I5 : (encs I5).length ≤ 612 := by rw [← d_I5, encs_append, List.length_append]; exact Nat.add_le_add l_I4 l_KD
  have x_I := add_tx I5 [26085] (Nat.le_trans (Nat.add_le_add l_I5 (by decide : (encs [26085]).length ≤ 3)) (by decide))
  rw [e3] at x_I
  obtain ⟨I, d_I⟩ : ∃ t, I5 ++ [26085] = t := ⟨_, rfl⟩
  rw [d_I] at x_I
  have l_I : (encs I).length ≤ 615 := by rw [← d_I, encs_append, List.length_append]; exact Nat.add_le_add l_I5 (by decide : (encs [26085]).length ≤ 3)
  have HH := Lib.hid (show H = eN q ++ eraF decC E m d by rw [← d_H, ← d_H2, ← d_H1, ← d_L, ← d_L2, ← d_L1, ← d_EN, ← d_E1, ← d_M1, ← d_D1]; simp [eraF, eraC, he, joinC, decC, List.append_assoc])
  have HI := Lib.hid (show I = eN q ++ eraF kanC E m d by rw [← d_I, ← d_I5, ← d_I4, ← d_I3, ← d_I2, ← d_I1, ← d_EN, ← d_KE, ← d_KM, ← d_KD]; simp [eraF, eraC, he, joinC, kanC, List.append_assoc])
  have HF := Lib.hid (show strs (allForms day y m d) = ([.string (tx A), .string (tx B), .string (tx C), .string (tx G)] ++ [.string (tx H), .string (tx I)]) ++ [.string (tx L), .string (tx J)] by rw [HF0.out, HA.out, HBB.out, HC.out, HG.out, HL.out, HJ.out, HH.out, HI.out]; rfl)
  have HFn := Lib.hid (show (allForms day y m d).length = 4 + 2 + 2 by rw [HF0.out]; rfl)
  have hE1 : ((E : Int) == 1) = false := by simp; omega
  clear e1 e2 e3 e4 e5 e6 e7 e8 hwl v6 v7 hc he HA HBB HC HG HL HJ HH HI HF0 h hE hnm ey1 ey2 ey3 ey4 hq5 d_L1 l_L1 d_L2 l_L2 d_L l_L d_A1 l_A1 d_A l_A d_B1 l_B1 d_B2 l_B2 d_B l_B d_C1 l_C1 d_C2 l_C2 d_C3 l_C3 d_C l_C d_G1 l_G1 d_G2 l_G2 d_G3 l_G3 d_G l_G d_J1 l_J1 d_J l_J d_Y1 l_Y1 d_M1 l_M1 d_D1 l_D1 d_Y4 l_Y4 d_M2 l_M2 d_D2 l_D2 d_WD l_WD d_H1 l_H1 d_H2 l_H2 d_H l_H d_I1 l_I1 d_I2 l_I2 d_I3 l_I3 d_I4 l_I4 d_I5 l_I5 d_I l_I d_EN l_EN d_E1 l_E1 d_KE l_KE d_KM l_KM d_KD l_KD
  go_enter Tryz.func36, Tryz.ntmps36
  go_wp2_with (first
    | (go_at_call 55; (with_reducible refine (HNY1.out _).mono ?_); rintro e w1 ⟨rfl, hb⟩; have hB := hB.trans (hb.mono hB.size); (try have ho2 := own_later ho2 hb); clear hb)
    | (go_at_call 55; (with_reducible refine (HNM1.out _).mono ?_); rintro e w1 ⟨rfl, hb⟩; have hB := hB.trans (hb.mono hB.size); (try have ho2 := own_later ho2 hb); clear hb)
    | (go_at_call 55; (with_reducible refine (HND1.out _).mono ?_); rintro e w1 ⟨rfl, hb⟩; have hB := hB.trans (hb.mono hB.size); (try have ho2 := own_later ho2 hb); clear hb)
    | (go_at_call 55; (with_reducible refine (HNY4.out _).mono ?_); rintro e w1 ⟨rfl, hb⟩; have hB := hB.trans (hb.mono hB.size); (try have ho2 := own_later ho2 hb); clear hb)
    | (go_at_call 55; (with_reducible refine (HNM2.out _).mono ?_); rintro e w1 ⟨rfl, hb⟩; have hB := hB.trans (hb.mono hB.size); (try have ho2 := own_later ho2 hb); clear hb)
    | (go_at_call 55; (with_reducible refine (HND2.out _).mono ?_); rintro e w1 ⟨rfl, hb⟩; have hB := hB.trans (hb.mono hB.size); (try have ho2 := own_later ho2 hb); clear hb)
    | (go_at_call 53; (with_reducible refine (HD.out _).mono ?_); rintro e w1 ⟨rfl, hw1⟩; obtain rfl := hw1.symm)
    | (go_at_call 54; (with_reducible refine (HWd.out _).mono ?_); rintro e w1 ⟨rfl, hb⟩; have hB := hB.trans (hb.mono hB.size); clear hb)
    | (go_at_call 56; (with_reducible refine (HE.out _).mono ?_)
       have ho1 := own_row w1 #[.string (tx A), .string (tx B), .string (tx C), .string (tx G)] 9 w.heap.size 4 rfl (by unfold maxLen; decide) hB.size
       have hB2 := hB.alloc hB.size (.cells #[.string (tx A), .string (tx B), .string (tx C), .string (tx G)] 9)
       have HO1 := Lib.hid ho1
       have HB2 := Lib.hid hB2
       clear ho1 hB2 hB
       rintro e w1 ⟨rfl, hb⟩
       have ho2 := own_later HO1.out hb
       have hB := HB2.out.trans (hb.mono HB2.out.size)
       clear hb HO1 HB2)
    | (go_at_call 55; (with_reducible refine (HNE1.out _).mono ?_); rintro e w1 ⟨rfl, hb⟩; have ho2 := own_later ho2 hb; have hB := hB.trans (hb.mono hB.size); clear hb)
    | (go_at_call 57; (with_reducible refine (HKE.out _ (hL.next hB)).mono ?_); rintro e w1 ⟨rfl, hb⟩; have ho2 := own_later ho2 hb; have hB := hB.trans (hb.mono hB.size); clear hb)
    | (go_at_call 57; (with_reducible refine (HKM.out _ (hL.next hB)).mono ?_); rintro e w1 ⟨rfl, hb⟩; have ho2 := own_later ho2 hb; have hB := hB.trans (hb.mono hB.size); clear hb)
    | (go_at_call 57; (with_reducible refine (HKD.out _ (hL.next hB)).mono ?_); rintro e w1 ⟨rfl, hb⟩; have ho2 := own_later ho2 hb; have hB := hB.trans (hb.mono hB.size); clear hb)
    | (at_builtin; refine wpList_append_own _ rfl _ _ _ rfl w.heap.size 9 i0 (.string { data := #[] }) 1 16 Tryz.underlying26 hi hz0 hz1 hz2 rfl (by decide) _ 4 ([.string (tx A), .string (tx B), .string (tx C), .string (tx G)]) rfl (ho2.alloc _) ⟨w1.heap.size, 0, none⟩ 2 2 [.string (tx H), .string (tx I)] rfl rfl (World.news_of_block (heap_alloc_new _ _)) ?c2 ?c3 ?c4 ?c5 ?_))
  case c2 => simp [Value.oneCell']
  case c3 => unfold maxLen; omega
  case c4 => omega
  case c5 => have := hB.size; rw [size_alloc]; omega
  intro v' w7 hown7 hg7 hiff
  clear hiff
  have hb8 := below_own (hB.alloc hB.size (.cells #[.string (tx H), .string (tx I)] 9)) (ho2.alloc _) (Nat.le_refl _) (by have := hB.size; rw [size_alloc]; omega) hg7
  obtain ⟨a, cap, hv⟩ := own_shape hown7
  subst hv
  have ho2 := hown7
  have hB := hb8
  clear hown7 hg7 hb8
  go_wp2_with (first
    | (go_at_call 55; (with_reducible refine (HNM1.out _).mono ?_); rintro e w1 ⟨rfl, hb⟩; have ho2 := own_later ho2 hb; have hB := hB.trans (hb.mono hB.size); clear hb)
    | (go_at_call 55; (with_reducible refine (HND1.out _).mono ?_); rintro e w1 ⟨rfl, hb⟩; have ho2 := own_later ho2 hb; have hB := hB.trans (hb.mono hB.size); clear hb)
    | (at_builtin; refine wpList_append_own _ rfl _ _ _ rfl w.heap.size 9 i0 (.string { data := #[] }) 1 16 Tryz.underlying26 hi hz0 hz1 hz2 rfl (by decide) _ (4 + 2) ([.string (tx A), .string (tx B), .string (tx C), .string (tx G)] ++ [.string (tx H), .string (tx I)]) rfl (ho2.alloc _) ⟨w1.heap.size, 0, none⟩ 2 2 [.string (tx L), .string (tx J)] rfl rfl (World.news_of_block (heap_alloc_new _ _)) ?c2 ?c3 ?c4 ?c5 ?_))
  case c2 => simp [Value.oneCell']
  case c3 => unfold maxLen; omega
  case c4 => omega
  case c5 => have := hB.size; rw [size_alloc]; omega
  intro v' w8 hown8 hg8 hiff
  clear hiff
  have hb9 := below_own (hB.alloc hB.size (.cells #[.string (tx L), .string (tx J)] 9)) (ho2.alloc _) (Nat.le_refl _) (by have := hB.size; rw [size_alloc]; omega) hg8
  go_wp2
  go_ret
  exact ⟨_, rfl, by rw [HFn.out, HF.out]; exact hown8, hb9⟩

theorem rforms_at (day : Int) (y m d : Nat) (h : IsDate day y m d) (hb0 : -9223372036854775808 ≤ day) (w : World) (hL : FLaid w) :
    Calls Tryz.prog 36 #[.int .i64 day] w fun e w' => ∃ v, e = .returned v ∧ w'.ownsRow w.heap.size 9 1 v (allForms day y m d).length (strs (allForms day y m d)) ∧ Below w.heap.size w w' := by
  rcases hc : cur day 5 with _ | q
  · exact rforms_none day y m d h hc hb0 w hL
  · by_cases he : eYear q y = 1
    · exact rforms_one day y m d h hc he hb0 w hL
    · exact rforms_more day y m d h hc he hb0 w hL

theorem rforms_not (day : Int) (h : ¬ inR day) (w : World) :
    Calls Tryz.prog 36 #[.int .i64 day] w fun e w' => e = .returned (.slice none 0 0) ∧ w' = w := by
  have HD := Lib.hid (rdate_not day h w)
  clear h
  go_enter Tryz.func36, Tryz.ntmps36
  go_wp2_with (go_at_call 53; (with_reducible refine HD.out.mono ?_); rintro e w1 ⟨rfl, rfl⟩)
  go_ret
  exact ⟨rfl, rfl⟩

end Go.Proofs.YteelmjmiankflaaGreatDoor.Cal

