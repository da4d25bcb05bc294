/-
  Contracts of caldate.exists, of sort.Search over the years, of caldate.Date.
-/
import Derived.Test.YteelmjmiankflaaDoorCalA
set_option linter.unusedVariables false
set_option linter.unusedSimpArgs false
namespace Go.Proofs.YteelmjmiankflaaDoor.Cal
open Go Go.RowKit Go.Proofs.YteelmjmiankflaaDoor.Kit Go.Proofs.YteelmjmiankflaaDoor.Utf
open Go.Proofs.YteelmjmiankflaaDoor.Num (tx)

theorem exists_yes (day : Int) (h1 : 1 ≤ day) (h2 : day ≤ 3652059) (w : World) :
    Calls Tryd.prog 22 #[.int .i64 day] w fun e w' => e = .returned (.bool true) ∧ w' = w := by
  have t1 : decide ((1 : Int) ≤ day) = true := by simpa using h1
  have t2 : decide (day ≤ 3652059) = true := by simpa using h2
  clear h1 h2
  go_enter Tryd.func22, Tryd.ntmps22
  go_wp2
  go_ret
  exact ⟨rfl, rfl⟩
theorem exists_no (day : Int) (h : ¬ (1 ≤ day ∧ day ≤ 3652059)) (w : World) :
    Calls Tryd.prog 22 #[.int .i64 day] w fun e w' => e = .returned (.bool false) ∧ w' = w := by
  by_cases h1 : 1 ≤ day
  · have t1 : decide ((1 : Int) ≤ day) = true := by simpa using h1
    have t2 : decide (day ≤ 3652059) = false := by simp; omega
    clear h1 h
    go_enter Tryd.func22, Tryd.ntmps22
    go_wp2
    go_ret
    exact ⟨rfl, rfl⟩
  · have t1 : decide ((1 : Int) ≤ day) = false := by simpa using h1
    clear h1 h
    go_enter Tryd.func22, Tryd.ntmps22
    go_wp2
    go_ret
    exact ⟨rfl, rfl⟩

/-- What is searched for: whether the year i or one before it has the day. -/
theorem date1 (day i : Int) (h0 : 0 ≤ i) (hi : i ≤ 9999) (c : Nat) (w : World) (hc : w.cell? ⟨c, 0, none⟩ = some (.int .i64 day)) (b : Bool) (hb : decide (day ≤ DT i) = b) :
    Calls Tryd.prog 24 #[.int .i64 i, .pointer (some ⟨c, 0, none⟩)] w fun e w' => e = .returned (.bool b) ∧ ∃ n, w' = w.drewN n := by
  have c1 := daysThrough_at i h0 hi
  have HB := Lib.hid hb
  generalize DT i = A at *
  clear hb
  go_enter Tryd.func24, Tryd.ntmps24
  go_wp2_with (fail)
  go_quiet (first | (go_at_call 20; with_reducible refine Calls.quiet_of_same (c1 _)))
  go_wp2
  go_ret
  exact ⟨by rw [← HB.out]; rfl, nq, rfl⟩

theorem search_at (day y : Int) (h1 : 1 ≤ y) (h2 : y ≤ 9999) (h3 : DT (y - 1) < day) (h4 : day ≤ DT y) (c : Nat) (w : World) (hc : w.cell? ⟨c, 0, none⟩ = some (.int .i64 day)) :
    Calls Tryd.prog 23 #[.int .i64 9999, .func (.func 24) #[] #[.pointer (some ⟨c, 0, none⟩)]] w fun e w' => e = .returned (.int .i64 y) ∧ ∃ n, w' = w.drewN n := by
  have eg : ∀ args w, (callFunc 24 args).run Tryd.prog w = .ok (.enter 24 args) w := fun _ _ => by kernel_rfl
  have HF := Lib.hid (fun (i : Int) (h0 : 0 ≤ i) (hi : i ≤ 9999) (n : Nat) => date1 day i h0 hi c (w.drewN n) hc (decide (y ≤ i)) (by
    by_cases h : y ≤ i
    · have := DT_mono h; simp [h]; omega
    · have := DT_mono (show i ≤ y - 1 by omega); simp [h]; omega))
  clear h3 h4 hc
  go_enter Tryd.func23, Tryd.ntmps23
  go_wp2
  go_loopw [5, 6] (fun s5 s6 wr => ∃ (lo hi : Int) (q : Nat), s5 = .int .i64 lo ∧ s6 = .int .i64 hi ∧ 0 ≤ lo ∧ lo ≤ y ∧ y ≤ hi ∧ hi ≤ 9999 ∧ wr = w.drewN q) (fun s5 s6 _ => (intOf s6 - intOf s5).toNat)
  case atStart => exact ⟨0, 9999, 0, rfl, rfl, by omega, by omega, by omega, by omega, rfl⟩
  case round =>
    obtain ⟨lo, hi, q, rfl, rfl, hlo, hly, hyh, hh, rfl⟩ := hrel
    by_cases hlt : lo < hi
    · obtain ⟨h, hh2⟩ : ∃ h, h = (lo + hi) / 2 := ⟨_, rfl⟩
      have cc := HF.out h (by omega) (by omega) q
      by_cases hp : y ≤ h
      · rw [show decide (y ≤ h) = true by simpa using hp] at cc
        rw [hh2] at cc
        go_wp2_with (go_at_fn 24; refine cc.mono ?_; rintro e w' ⟨rfl, n, rfl⟩)
        go_roundw
        case rel => exact ⟨lo, (lo + hi) / 2, q + n, rfl, rfl, hlo, hly, by omega, by omega, rfl⟩
        case measure => simp [intOf]; omega
      · rw [show decide (y ≤ h) = false by simpa using hp] at cc
        rw [hh2] at cc
        go_wp2_with (go_at_fn 24; refine cc.mono ?_; rintro e w' ⟨rfl, n, rfl⟩)
        go_roundw
        case rel => exact ⟨(lo + hi) / 2 + 1, hi, q + n, rfl, rfl, by omega, by omega, hyh, hh, rfl⟩
        case measure => simp [intOf]; omega
    · obtain rfl : lo = y := by omega
      go_wp2
      go_ret
      exact ⟨rfl, q, rfl⟩

end Go.Proofs.YteelmjmiankflaaDoor.Cal
