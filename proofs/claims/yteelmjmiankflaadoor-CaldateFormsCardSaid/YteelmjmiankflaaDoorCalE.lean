/-
  Contracts of the reference's Date, Weekday.
-/
import Derived.Test.YteelmjmiankflaaDoorCalD
set_option linter.unusedVariables false
set_option linter.unusedSimpArgs false
namespace Go.Proofs.YteelmjmiankflaaDoor.Cal
open Go Go.RowKit Go.Proofs.YteelmjmiankflaaDoor.Kit Go.Proofs.YteelmjmiankflaaDoor.Utf
open Go.Proofs.YteelmjmiankflaaDoor.Num (tx)

theorem rdate_is (day y m d : Int) (h : IsDate day y m d) (w : World) :
    Calls Tryd.prog 10 #[.int .i64 day] w fun e w' => e = .returned (.tuple #[.int .i64 y, .int .i64 m, .int .i64 d, .bool true]) ∧ w' = w := by
  have hr := h.range
  have hy := h.1.in_year
  have hm := h.1.in_month
  rw [← h.2] at hy hm
  obtain ⟨⟨h1, h2, h3, h4, h5, h6⟩, e0⟩ := h
  have HD := Lib.hid (fun (a b : Int) (v : Valid a b 1) W => rday_is a b 1 v W)
  have HX := Lib.hid (fun (a b : Int) (v : ¬ Valid a b 1) W => rday_not a b 1 v W)
  have HMo := Lib.hid (fun (a b : Int) (x1 : 1 ≤ a) (x2 : a ≤ b) (x3 : b ≤ 13) => bef_mono y x1 x2 x3)
  have HR := Lib.hid (fun (a b : Int) (v : Valid a b 1) => v.range)
  have HV := Lib.hid (fun (a b : Int) (x1 : 1 ≤ a) (x2 : a ≤ 9999) (x3 : 1 ≤ b) (x4 : b ≤ 12) => (⟨x1, x2, x3, x4, by omega, by have := len_bounds a b; omega⟩ : Valid a b 1))
  have HY := Lib.hid hy
  have HM := Lib.hid hm
  have H0 := Lib.hid e0
  have ed : (day - 1).tdiv 366 = (day - 1) / 366 := Int.tdiv_eq_ediv_of_nonneg (by omega)
  have hy0 : 1 ≤ (day - 1) / 366 + 1 ∧ (day - 1) / 366 + 1 ≤ y := by
    refine ⟨by omega, ?_⟩
    by_cases hc : (day - 1) / 366 + 1 ≤ y
    · exact hc
    · exfalso
      have hle := DT_mono (show y ≤ (day - 1) / 366 by omega)
      have hd : DT ((day - 1) / 366) ≤ 366 * ((day - 1) / 366) := by unfold DT; omega
      omega
  obtain ⟨y0, ey⟩ : ∃ y0, (day - 1) / 366 + 1 = y0 := ⟨_, rfl⟩
  have eq0 : (day - 1) / 366 = y0 - 1 := by omega
  rw [ey] at hy0
  rw [eq0] at ed
  obtain ⟨r1, r2⟩ := hr
  obtain ⟨hy1, hy2⟩ := hy0
  have t1 : decide (day < 1) = false := by simp; omega
  have t2 : decide (3652059 < day) = false := by simp; omega
  clear e0 h6 ey eq0 hy hm
  go_enter Tryd.func10, Tryd.ntmps10
  go_wp2
  clear ed t1 t2
  go_loopw [6] (fun Y wr => ∃ k : Int, Y = .int .i64 k ∧ 1 ≤ k ∧ k ≤ y ∧ wr = w) (fun Y _ => (y - intOf Y).toNat)
  case atStart => exact ⟨y0, rfl, hy1, hy2, rfl⟩
  case round =>
    obtain ⟨k, rfl, hk1, hky, hw⟩ := hrel
    subst hw
    by_cases hlt : k < y
    · have hv := HV.out (k + 1) 1 (by omega) (by omega) (by omega) (by omega)
      have cc := HD.out _ _ hv
      have hrr := HR.out _ _ hv
      have hnn : num (k + 1) 1 1 = DT k + 1 := by unfold num; rw [bef_one, show k + 1 - 1 = k by omega]; omega
      have hmo := DT_mono (show k ≤ y - 1 by omega)
      have hle := HY.out.1
      have hfin : ¬ day < num (k + 1) 1 1 := by omega
      generalize num (k + 1) 1 1 = NN at *
      clear hnn hmo hle hv
      go_wp2_with (go_at_call 8; (with_reducible refine (cc _).mono ?_); rintro e w1 ⟨rfl, rfl⟩)
      go_roundw
      case rel => exact ⟨k + 1, rfl, by omega, by omega, trivial⟩
      case measure => simp [intOf]; omega
    · obtain rfl : k = y := by omega
      have HD2 := Lib.hid (fun (b : Int) (x1 : 1 ≤ b) (x2 : b ≤ 12) W => HD.out k b (HV.out k b hk1 h2 x1 x2) W)
      have HN2 := Lib.hid (fun (b : Int) => show num k b 1 = DT (k - 1) + bef k b + 1 from rfl)
      have HR2 := Lib.hid (fun (b : Int) (x1 : 1 ≤ b) (x2 : b ≤ 12) => HR.out k b (HV.out k b hk1 h2 x1 x2))
      have c12 := HD2.out 12 (by omega) (by omega)
      have b12 := HR2.out 12 (by omega) (by omega)
      have hfirst : ∃ nx ok, (∀ W, Calls Tryd.prog 8 #[.int .i64 (k + 1), .int .i64 1, .int .i64 1] W fun e w' => e = .returned (.tuple #[.int .i64 nx, .bool ok]) ∧ w' = W) ∧ (ok = false ∨ (ok = true ∧ day < nx)) := by
        by_cases h99 : k + 1 ≤ 9999
        · have hv := HV.out (k + 1) 1 (by omega) h99 (by omega) (by omega)
          refine ⟨_, true, HD.out _ _ hv, .inr ⟨rfl, ?_⟩⟩
          have hnn : num (k + 1) 1 1 = DT k + 1 := by unfold num; rw [bef_one, show k + 1 - 1 = k by omega]; omega
          have := HY.out.2
          omega
        · exact ⟨0, false, HX.out _ _ (fun v => h99 v.2.1), .inl rfl⟩
      obtain ⟨nx, ok, cf, hok⟩ := hfirst
      have hN12 : ∃ N12, num k 12 1 = N12 := ⟨_, rfl⟩
      obtain ⟨wo, hwo⟩ : ∃ wo, wo = wr := ⟨_, rfl⟩
      subst hwo
      clear hlt
      rcases hok with rfl | ⟨rfl, hn⟩
      all_goals
        go_wp2_with (first
          | (go_at_call 8; (with_reducible refine (cf _).mono ?_); rintro e w1 ⟨rfl, hw1⟩; obtain rfl := hw1.symm)
          | (go_at_call 8; (with_reducible refine (c12 _).mono ?_); rintro e w1 ⟨rfl, hw1⟩; obtain rfl := hw1.symm))
        clear cf c12 b12
        go_loopw [9, 10] (fun M F wr => ∃ b : Int, M = .int .i64 b ∧ F = .int .i64 (num k b 1) ∧ m ≤ b ∧ b ≤ 12 ∧ wr = wo) (fun M _ _ => (intOf M).toNat)
        case atStart => exact ⟨12, rfl, rfl, h4, by omega, rfl⟩
        case round =>
          obtain ⟨b, rfl, rfl, hb1, hb2, hwr⟩ := hrel
          obtain rfl := hwr.symm
          have hbb := HR2.out b (by omega) hb2
          by_cases hlt2 : m < b
          · have cc := HD2.out (b - 1) (by omega) (by omega)
            have hg : day < num k b 1 := by
              have e1 := HN2.out b
              have e2 := HMo.out (m + 1) b (by omega) (by omega) (by omega)
              have e3 := HM.out.2
              omega
            have e4 : b - 1 ≤ 9223372036854775807 := by omega
            go_wp2_with (go_at_call 8; (with_reducible refine (cc _).mono ?_); rintro e w1 ⟨rfl, hw1⟩; obtain rfl := hw1.symm)
            go_roundw
            case rel => exact ⟨b - 1, rfl, rfl, by omega, by omega, trivial⟩
            case measure => simp [intOf]; omega
          · obtain rfl : b = m := by omega
            have hg : ¬ day < num k b 1 := by
              have e1 := HN2.out b
              have e3 := HM.out.1
              omega
            have HF := Lib.hid (show day - num k b 1 + 1 = d by
              have e1 := HN2.out b
              have e2 : day = DT (k - 1) + bef k b + d := H0.out
              omega)
            go_wp2
            (try simp only [Exit.inBlock, Exit.then]); refine bodyPost_ret (results_tmp4 rfl _ _ _) rfl ?_
            exact ⟨by rw [← HF.out]; rfl, rfl⟩

theorem rdate_not (day : Int) (h : ¬ (1 ≤ day ∧ day ≤ 3652059)) (w : World) :
    Calls Tryd.prog 10 #[.int .i64 day] w fun e w' => e = .returned (.tuple #[.int .i64 0, .int .i64 0, .int .i64 0, .bool false]) ∧ w' = w := by
  by_cases h1 : day < 1
  · have t1 : decide (day < 1) = true := by simp; omega
    clear h
    go_enter Tryd.func10, Tryd.ntmps10
    go_wp2
    (try simp only [Exit.inBlock, Exit.then]); refine bodyPost_ret (results_tmp4 rfl _ _ _) rfl ?_
    exact ⟨rfl, rfl⟩
  · have t1 : decide (day < 1) = false := by simp; omega
    have t2 : decide (3652059 < day) = true := by simp; omega
    clear h h1
    go_enter Tryd.func10, Tryd.ntmps10
    go_wp2
    (try simp only [Exit.inBlock, Exit.then]); refine bodyPost_ret (results_tmp4 rfl _ _ _) rfl ?_
    exact ⟨rfl, rfl⟩

theorem rweekday_is (day : Int) (h1 : 1 ≤ day) (h2 : day ≤ 3652059) (w : World) :
    Calls Tryd.prog 13 #[.int .i64 day] w fun e w' => e = .returned (.tuple #[.string (tx [wdC (day % 7).toNat]), .bool true]) ∧ Below w.heap.size w w' := by
  have hm : day.tmod 7 = day % 7 := Int.tmod_eq_emod_of_nonneg (by omega)
  have t1 : decide (day < 1) = false := by simp; omega
  have t2 : decide (3652059 < day) = false := by simp; omega
  have hr : day % 7 = 0 ∨ day % 7 = 1 ∨ day % 7 = 2 ∨ day % 7 = 3 ∨ day % 7 = 4 ∨ day % 7 = 5 ∨ day % 7 = 6 := by omega
  clear h1 h2
  rcases hr with h | h | h | h | h | h | h
  all_goals
    rw [h] at hm ⊢
    clear h
    go_enter Tryd.func13, Tryd.ntmps13
    go_wp2
    go_ret2
    exact ⟨rfl, by first | exact (Below.refl _ w).alloc (Nat.le_refl _) _ | exact below_drews ((Below.refl _ w).alloc (Nat.le_refl _) _) _⟩

theorem rweekday_not (day : Int) (h : ¬ (1 ≤ day ∧ day ≤ 3652059)) (w : World) :
    Calls Tryd.prog 13 #[.int .i64 day] w fun e w' => e = .returned (.tuple #[.string { data := #[] }, .bool false]) ∧ Below w.heap.size w w' := by
  by_cases h1 : day < 1
  · have t1 : decide (day < 1) = true := by simp; omega
    clear h
    go_enter Tryd.func13, Tryd.ntmps13
    go_wp2
    go_ret2
    exact ⟨rfl, Below.refl _ _⟩
  · have t1 : decide (day < 1) = false := by simp; omega
    have t2 : decide (3652059 < day) = true := by simp; omega
    clear h h1
    go_enter Tryd.func13, Tryd.ntmps13
    go_wp2
    go_ret2
    exact ⟨rfl, Below.refl _ _⟩

end Go.Proofs.YteelmjmiankflaaDoor.Cal
