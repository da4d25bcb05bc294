/-
  Contracts of the reference's Leap, Length, Day, Date, Weekday.
-/
import Derived.Test.YteelmjmiankflaaDoorCalC
set_option linter.unusedVariables false
set_option linter.unusedSimpArgs false
namespace Go.Proofs.YteelmjmiankflaaDoor.Cal
open Go Go.RowKit Go.Proofs.YteelmjmiankflaaDoor.Kit Go.Proofs.YteelmjmiankflaaDoor.Utf
open Go.Proofs.YteelmjmiankflaaDoor.Num (tx)

theorem lp_test (y : Int) : (lp y == 1) = (y % 4 == 0 && (!(y % 100 == 0) || y % 400 == 0)) := by
  unfold lp
  by_cases h4 : y % 4 = 0
  · by_cases h100 : y % 100 = 0
    · by_cases h400 : y % 400 = 0
      · simp [h4, h100, h400]
      · simp [h4, h100, h400]
    · simp [h4, h100]
  · simp [h4]
theorem rleap_at (y : Int) (h0 : 0 ≤ y) (w : World) :
    Calls Tryd.prog 30 #[.int .i64 y] w fun e w' => e = .returned (.bool (lp y == 1)) ∧ w' = w := by
  have e4 : y.tmod 4 = y % 4 := Int.tmod_eq_emod_of_nonneg h0
  have e100 : y.tmod 100 = y % 100 := Int.tmod_eq_emod_of_nonneg h0
  have e400 : y.tmod 400 = y % 400 := Int.tmod_eq_emod_of_nonneg h0
  have hp := lp_test y
  have b1 : 0 ≤ y % 4 ∧ y % 4 < 4 := by omega
  have b2 : 0 ≤ y % 100 ∧ y % 100 < 100 := by omega
  have b3 : 0 ≤ y % 400 ∧ y % 400 < 400 := by omega
  obtain ⟨a, ha⟩ : ∃ a, y % 4 = a := ⟨_, rfl⟩
  obtain ⟨b, hb⟩ : ∃ b, y % 100 = b := ⟨_, rfl⟩
  obtain ⟨c, hc⟩ : ∃ c, y % 400 = c := ⟨_, rfl⟩
  rw [ha] at e4 hp b1
  rw [hb] at e100 hp b2
  rw [hc] at e400 hp b3
  clear ha hb hc
  have HP := Lib.hid hp
  clear hp
  cases t1 : (a == 0)
  · go_enter Tryd.func30, Tryd.ntmps30
    go_wp2
    go_ret
    exact ⟨by rw [HP.out, t1]; rfl, rfl⟩
  · cases t2 : (b == 0)
    · go_enter Tryd.func30, Tryd.ntmps30
      have t3 : (b != 0) = true := by simp [bne, t2]
      go_wp2
      go_ret
      exact ⟨by rw [HP.out, t1, t2]; rfl, rfl⟩
    · have t3 : (b != 0) = false := by simp [bne, t2]
      cases t4 : (c == 0)
      · go_enter Tryd.func30, Tryd.ntmps30
        go_wp2
        go_ret
        exact ⟨by rw [HP.out, t1, t2, t4]; rfl, rfl⟩
      · go_enter Tryd.func30, Tryd.ntmps30
        go_wp2
        go_ret
        exact ⟨by rw [HP.out, t1, t2, t4]; rfl, rfl⟩

theorem rlength_at (y m : Int) (h0 : 0 ≤ y) (h1 : 1 ≤ m) (h2 : m ≤ 12) (w : World) :
    Calls Tryd.prog 21 #[.int .i64 y, .int .i64 m] w fun e w' => e = .returned (.int .i64 (len y m)) ∧ w' = w := by
  by_cases hm : m = 2
  · subst hm
    have c := rleap_at y h0
    have hl := lp_01 y
    have e : len y 2 = 28 + lp y := by simp [len, mlen]
    rw [e]
    cases t : (lp y == 1)
    · rw [t] at c
      have e0 : lp y = 0 := by simp at t; omega
      rw [e0]
      clear e e0 t hl
      go_enter Tryd.func21, Tryd.ntmps21
      go_wp2_with (go_at_call 30; (with_reducible refine (c _).mono ?_); rintro e w1 ⟨rfl, rfl⟩)
      go_ret
      exact ⟨rfl, rfl⟩
    · rw [t] at c
      have e0 : lp y = 1 := by simpa using t
      rw [e0]
      clear e e0 t hl
      go_enter Tryd.func21, Tryd.ntmps21
      go_wp2_with (go_at_call 30; (with_reducible refine (c _).mono ?_); rintro e w1 ⟨rfl, rfl⟩)
      go_ret
      exact ⟨rfl, rfl⟩
  · have e : len y m = mlen m := by unfold len; rw [if_neg hm]; omega
    rw [e]
    clear e
    rcases months h1 h2 with rfl | rfl | rfl | rfl | rfl | rfl | rfl | rfl | rfl | rfl | rfl | rfl <;> first | (exact absurd rfl hm) | skip
    all_goals
      go_enter Tryd.func21, Tryd.ntmps21
      go_wp2
      go_ret
      exact ⟨rfl, rfl⟩

theorem rday_is (y m d : Int) (h : Valid y m d) (w : World) :
    Calls Tryd.prog 8 #[.int .i64 y, .int .i64 m, .int .i64 d] w fun e w' => e = .returned (.tuple #[.int .i64 (num y m d), .bool true]) ∧ w' = w := by
  have hr := h.range
  obtain ⟨h1, h2, h3, h4, h5, h6⟩ := h
  have HI := Lib.hid (fun (k : Int) (hk1 : 1 ≤ k) (hk2 : k ≤ 12) W => rlength_at y k (by omega) hk1 hk2 W)
  have b2 := DT_bounds (y := y - 1) (by omega) (by omega)
  have HB3 := Lib.hid (fun (k : Int) (h : 1 ≤ k) (h' : k ≤ 13) => bef_bounds y h h')
  have hlp := lp_01 y
  have HB := Lib.hid (bef_one y)
  have HS := Lib.hid (fun (k : Int) (h : 1 ≤ k) (h' : k ≤ 12) => bef_step y h h')
  have HN := Lib.hid (fun k => len_bounds y k)
  have e4 : (y - 1).tdiv 4 = (y - 1) / 4 := Int.tdiv_eq_ediv_of_nonneg (by omega)
  have e100 : (y - 1).tdiv 100 = (y - 1) / 100 := Int.tdiv_eq_ediv_of_nonneg (by omega)
  have e400 : (y - 1).tdiv 400 = (y - 1) / 400 := Int.tdiv_eq_ediv_of_nonneg (by omega)
  have LL := len_bounds y m
  have hd31 : d ≤ 31 := by omega
  have c0 := HI.out m h3 h4
  obtain ⟨z, hz⟩ : ∃ z, y - 1 = z := ⟨_, rfl⟩
  obtain ⟨A, hA⟩ : ∃ A, DT z = A := ⟨_, rfl⟩
  have eA : 365 * z + z / 4 - z / 100 + z / 400 = A := hA
  have hzz : 0 ≤ z ∧ z ≤ 9998 := by omega
  have hnum : num y m d = A + bef y m + d := by unfold num; rw [hz, hA]
  rw [hz] at e4 e100 e400 b2
  rw [hA] at b2
  rw [hnum] at hr ⊢
  clear hnum hA
  go_enter Tryd.func8, Tryd.ntmps8
  go_wp2_with (go_at_call 21; (with_reducible refine (c0 _).mono ?_); rintro e w1 ⟨rfl, rfl⟩)
  clear e4 e100 e400 eA c0
  go_loopw [8, 9] (fun D b wr => ∃ k : Int, b = .int .i64 k ∧ 1 ≤ k ∧ k ≤ m ∧ D = .int .i64 (A + bef y k) ∧ wr = w1) (fun _ b _ => (m - intOf b).toNat)
  case atStart => exact ⟨1, rfl, Int.le_refl _, h3, by rw [HB.out, Int.add_zero], rfl⟩
  case round =>
    obtain ⟨k, rfl, hk1, hkm, rfl, rfl⟩ := hrel
    have hb := HB3.out k hk1 (by omega)
    by_cases hlt : k < m
    · have hs := Lib.hid (HS.out k hk1 (by omega))
      have hl2 := HN.out k
      have cc := HI.out k hk1 (by omega)
      go_wp2_with (go_at_call 21; (with_reducible refine (cc _).mono ?_); rintro e w1 ⟨rfl, rfl⟩)
      go_roundw
      case rel => exact ⟨k + 1, rfl, by omega, by omega, by rw [hs.out, Int.add_assoc], trivial⟩
      case measure => simp [intOf]; omega
    · obtain rfl : k = m := by omega
      go_wp2
      go_ret2
      exact ⟨rfl, rfl⟩

theorem rday_not (y m d : Int) (h : ¬ Valid y m d) (w : World) :
    Calls Tryd.prog 8 #[.int .i64 y, .int .i64 m, .int .i64 d] w fun e w' => e = .returned (.tuple #[.int .i64 0, .bool false]) ∧ w' = w := by
  by_cases h1 : y < 1
  · clear h
    go_enter Tryd.func8, Tryd.ntmps8
    go_wp2
    go_ret2
    exact ⟨rfl, rfl⟩
  by_cases h2 : 9999 < y
  · clear h
    go_enter Tryd.func8, Tryd.ntmps8
    go_wp2
    go_ret2
    exact ⟨rfl, rfl⟩
  by_cases h3 : m < 1
  · clear h
    go_enter Tryd.func8, Tryd.ntmps8
    go_wp2
    go_ret2
    exact ⟨rfl, rfl⟩
  by_cases h4 : 12 < m
  · clear h
    go_enter Tryd.func8, Tryd.ntmps8
    go_wp2
    go_ret2
    exact ⟨rfl, rfl⟩
  by_cases h5 : d < 1
  · clear h
    go_enter Tryd.func8, Tryd.ntmps8
    go_wp2
    go_ret2
    exact ⟨rfl, rfl⟩
  have h6 : len y m < d := by
    by_cases h6 : len y m < d
    · exact h6
    · exact absurd ⟨by omega, by omega, by omega, by omega, by omega, by omega⟩ h
  have c0 := fun W => rlength_at y m (by omega) (by omega) (by omega) W
  have hl := len_bounds y m
  generalize len y m = l at *
  clear h
  go_enter Tryd.func8, Tryd.ntmps8
  go_wp2_with (go_at_call 21; (with_reducible refine (c0 _).mono ?_); rintro e w1 ⟨rfl, rfl⟩)
  go_ret2
  exact ⟨rfl, rfl⟩

end Go.Proofs.YteelmjmiankflaaDoor.Cal
