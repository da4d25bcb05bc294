/-
  What the package-level variables of caldate hold when a law begins; contracts of caldate.daysThrough, daysIn, Day.
-/
import Derived.Test.YteelmjmiankflaaDoorCalMath
import Derived.Test.YteelmjmiankflaaDoorNumS
import Derived.Test.YteelmjmiankflaaDoorRows
set_option linter.unusedVariables false
set_option linter.unusedSimpArgs false
namespace Go.Proofs.YteelmjmiankflaaDoor.Cal
open Go Go.RowKit Go.Proofs.YteelmjmiankflaaDoor.Kit Go.Proofs.YteelmjmiankflaaDoor.Utf
open Go.Proofs.YteelmjmiankflaaDoor.Num (tx)

/-- The weekdays' characters. -/
def wdC (d : Nat) : Int := [26085, 26376, 28779, 27700, 26408, 37329, 22303].getD d 0

/-- The tables of caldate that every law lists. -/
structure CLaid (w : World) : Prop where
  size : 3 ≤ w.heap.size
  md : ∀ m : Nat, m < 12 → w.cell? ⟨2, m, none⟩ = some (.int .i64 (mlen (m + 1)))
  wd : ∀ d : Nat, d < 7 → w.cell? ⟨0, d, none⟩ = some (.string (tx [wdC d]))

theorem CLaid.below {B : Nat} {w w' : World} (h : CLaid w) (hb : Below B w w') (hB : 3 ≤ B) : CLaid w' := by
  have c : ∀ g i, g < 3 → w'.cell? ⟨g, i, none⟩ = w.cell? ⟨g, i, none⟩ := fun g i hg => hb.cell (p := ⟨g, i, none⟩) (show g < B by omega)
  refine ⟨Nat.le_trans h.size hb.size, fun m hm => ?_, fun d hd => ?_⟩ <;> rw [c _ _ (by decide)]
  · exact h.md m hm
  · exact h.wd d hd
theorem CLaid.next {w w' : World} (h : CLaid w) (hb : Below w.heap.size w w') : CLaid w' := h.below hb h.size

theorem daysThrough_at (y : Int) (h0 : 0 ≤ y) (h : y ≤ 9999) (w : World) :
    Calls Tryd.prog 20 #[.int .i64 y] w fun e w' => e = .returned (.int .i64 (DT y)) ∧ w' = w := by
  have e4 : y.tdiv 4 = y / 4 := Int.tdiv_eq_ediv_of_nonneg h0
  have e100 : y.tdiv 100 = y / 100 := Int.tdiv_eq_ediv_of_nonneg h0
  have e400 : y.tdiv 400 = y / 400 := Int.tdiv_eq_ediv_of_nonneg h0
  go_enter Tryd.func20, Tryd.ntmps20
  go_wp2
  go_ret
  exact ⟨by unfold DT; rfl, rfl⟩

theorem daysIn_at (y m : Int) (h1 : 1 ≤ y) (h2 : y ≤ 9999) (h3 : 1 ≤ m) (h4 : m ≤ 12) (w : World) (hL : CLaid w) :
    Calls Tryd.prog 19 #[.int .i64 y, .int .i64 m] w fun e w' => e = .returned (.int .i64 (len y m)) ∧ ∃ n, w' = w.drewN n := by
  have hc := hL.md (m - 1).toNat (by omega)
  rw [show ((m - 1).toNat : Int) + 1 = m by omega] at hc
  by_cases hm : m = 2
  · subst hm
    have hc' : w.cell? ⟨2, 1, none⟩ = some (.int .i64 28) := hc
    clear hc
    have b1 := DT_bounds (y := y) (by omega) h2
    have b2 := DT_bounds (y := y - 1) (by omega) (by omega)
    have e : 28 + DT y - DT (y - 1) - 365 = len y 2 := by have := DT_step y; unfold len; simp [mlen]; omega
    have c1 := daysThrough_at y (by omega) h2
    have c2 := daysThrough_at (y - 1) (by omega) (by omega)
    generalize DT y = A at *
    generalize DT (y - 1) = B at *
    have E := Lib.hid e
    clear e
    go_enter Tryd.func19, Tryd.ntmps19
    go_wp2_with (fail)

    go_quiet (first | (go_at_call 20; with_reducible refine Calls.quiet_of_same (c1 _)) | (go_at_call 20; with_reducible refine Calls.quiet_of_same (c2 _)))
    go_wp2
    go_ret
    exact ⟨by rw [← E.out]; rfl, nq, rfl⟩
  · have hn : (m == 2) = false := by simpa using hm
    have e : mlen m = len y m := by unfold len; rw [if_neg hm]; omega
    have E := Lib.hid e
    have hb := @mlen_bounds m
    generalize mlen m = L at *
    clear hm e
    rw [show (m - 1).toNat = m.toNat - 1 by omega] at hc
    have hx0 : 0 ≤ m - 1 := by omega
    have hx1 : m - 1 < 12 := by omega
    go_enter Tryd.func19, Tryd.ntmps19
    go_wp2
    go_ret
    exact ⟨by rw [← E.out]; rfl, by first | exact ⟨0, rfl⟩ | exact ⟨1, rfl⟩⟩

theorem below_drews {B : Nat} {w w' : World} (h : Below B w w') (n : Nat) : Below B w (w'.drewN n) := h.trans ⟨rfl, rfl, rfl, Nat.le_refl _, fun _ _ => rfl⟩
theorem CLaid.drews {w : World} (h : CLaid w) (n : Nat) : CLaid (w.drewN n) := ⟨h.size, h.md, h.wd⟩

/-- The number of a day that exists. -/
theorem day_is (y m d : Int) (h : Valid y m d) (w : World) (hL : CLaid w) :
    Calls Tryd.prog 7 #[.int .i64 y, .int .i64 m, .int .i64 d] w fun e w' => e = .returned (.tuple #[.int .i64 (num y m d), .bool true]) ∧ Below w.heap.size w w' := by
  have hr := h.range
  obtain ⟨h1, h2, h3, h4, h5, h6⟩ := h
  have c0 := fun W (hW : CLaid W) => daysIn_at y m h1 h2 h3 h4 W hW
  have c1 := fun (k : Int) (hk1 : 1 ≤ k) (hk2 : k ≤ 12) W (hW : CLaid W) => daysIn_at y k h1 h2 hk1 hk2 W hW
  have c2 := daysThrough_at (y - 1) (by omega) (by omega)
  have b2 := DT_bounds (y := y - 1) (by omega) (by omega)
  have b3 := fun (k : Int) (h : 1 ≤ k) (h' : k ≤ 13) => bef_bounds y h h'
  have hlp := lp_01 y
  have hB := bef_one y
  have hS := fun (k : Int) (h : 1 ≤ k) (h' : k ≤ 12) => bef_step y h h'
  have hlb := fun k => len_bounds y k
  unfold num at hr ⊢
  generalize hA : DT (y - 1) = A at *
  generalize hl : len y m = l at *
  have LL := len_bounds y m
  rw [hl] at LL
  have t1 : decide (y < 1) = false := by simp; omega
  have t2 : decide (9999 < y) = false := by simp; omega
  have t3 : decide (m < 1) = false := by simp; omega
  have t4 : decide (12 < m) = false := by simp; omega
  have t5 : decide (d < 1) = false := by simp; omega
  have t6 : decide (l < d) = false := by simp; omega
  rw [show A + bef y m + d = A + d + bef y m by omega]
  go_enter Tryd.func7, Tryd.ntmps7
  go_wp2_with (first
    | (go_at_call 19; (with_reducible refine (c0 _ hL).mono ?_); rintro e w1 ⟨rfl, n, rfl⟩)
    | (go_at_call 20; (with_reducible refine (c2 _).mono ?_); rintro e w1 ⟨rfl, rfl⟩))
  go_loopw [8, 9] (fun D b wr => ∃ k : Int, b = .int .i64 k ∧ 1 ≤ k ∧ k ≤ m ∧ D = .int .i64 (A + d + bef y k) ∧ ∃ q, wr = w.drewN q) (fun _ b _ => (m - intOf b).toNat)
  case atStart => exact ⟨1, rfl, Int.le_refl _, h3, by rw [hB, Int.add_zero], n, rfl⟩
  case round =>
    obtain ⟨k, rfl, hk1, hkm, rfl, q, rfl⟩ := hrel
    have hb := b3 k hk1 (by omega)
    by_cases hlt : k < m
    · have hs := Lib.hid (hS k hk1 (by omega))
      have hl2 := hlb k
      have cc := c1 k hk1 (by omega)
      generalize bef y k = b at *
      generalize len y k = l2 at *
      go_wp2_with (go_at_call 19; (with_reducible refine (cc _ (hL.drews _)).mono ?_); rintro e w1 ⟨rfl, n1, rfl⟩)
      go_roundw
      case rel => exact ⟨k + 1, rfl, by omega, by omega, by rw [hs.out, Int.add_assoc], q + n1, rfl⟩
      case measure => simp [intOf]; omega
    · obtain rfl : k = m := by omega
      go_wp2
      go_ret2
      exact ⟨rfl, below_drews (Below.refl _ w) q⟩

/-- There is no such day. -/
theorem day_not (y m d : Int) (h : ¬ Valid y m d) (w : World) (hL : CLaid w) :
    Calls Tryd.prog 7 #[.int .i64 y, .int .i64 m, .int .i64 d] w fun e w' => e = .returned (.tuple #[.int .i64 0, .bool false]) ∧ Below w.heap.size w w' := by
  by_cases h1 : y < 1
  · clear h
    go_enter Tryd.func7, Tryd.ntmps7
    go_wp2
    go_ret2
    exact ⟨rfl, Below.refl _ _⟩
  by_cases h2 : 9999 < y
  · clear h
    go_enter Tryd.func7, Tryd.ntmps7
    go_wp2
    go_ret2
    exact ⟨rfl, Below.refl _ _⟩
  by_cases h3 : m < 1
  · clear h
    go_enter Tryd.func7, Tryd.ntmps7
    go_wp2
    go_ret2
    exact ⟨rfl, Below.refl _ _⟩
  by_cases h4 : 12 < m
  · clear h
    go_enter Tryd.func7, Tryd.ntmps7
    go_wp2
    go_ret2
    exact ⟨rfl, Below.refl _ _⟩
  by_cases h5 : d < 1
  · clear h
    go_enter Tryd.func7, Tryd.ntmps7
    go_wp2
    go_ret2
    exact ⟨rfl, Below.refl _ _⟩
  have h6 : len y m < d := by
    by_cases h6 : len y m < d
    · exact h6
    · exact absurd ⟨by omega, by omega, by omega, by omega, by omega, by omega⟩ h
  have c0 := fun W (hW : CLaid W) => daysIn_at y m (by omega) (by omega) (by omega) (by omega) W hW
  have hl := len_bounds y m
  generalize len y m = l at *
  clear h
  go_enter Tryd.func7, Tryd.ntmps7
  go_wp2_with (go_at_call 19; (with_reducible refine (c0 _ hL).mono ?_); rintro e w1 ⟨rfl, n, rfl⟩)
  go_ret2
  exact ⟨rfl, below_drews (Below.refl _ _) n⟩

end Go.Proofs.YteelmjmiankflaaDoor.Cal
