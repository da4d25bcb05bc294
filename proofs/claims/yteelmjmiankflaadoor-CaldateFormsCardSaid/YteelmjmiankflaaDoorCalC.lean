/-
  Contracts of caldate.Date, Weekday.
-/
import Derived.Test.YteelmjmiankflaaDoorCalB
set_option linter.unusedVariables false
set_option linter.unusedSimpArgs false
namespace Go.Proofs.YteelmjmiankflaaDoor.Cal
open Go Go.RowKit Go.Proofs.YteelmjmiankflaaDoor.Kit Go.Proofs.YteelmjmiankflaaDoor.Utf
open Go.Proofs.YteelmjmiankflaaDoor.Num (tx)

theorem cell_box (w : World) (v : Value) (t : TypeId) (n : Nat) : ((w.alloc (.cells #[v] t)).drewN n).cell? ⟨w.heap.size, 0, none⟩ = some v := by
  show (w.alloc (.cells #[v] t)).cell? ⟨w.heap.size, 0, none⟩ = some v
  rw [World.cell?_alloc_at _ _ _ _ rfl]; rfl

theorem results_tmp4 {fn : Func} {t u v x : Tmp} (h : fn.results = #[.tmp t, .tmp u, .tmp v, .tmp x]) (tmps : Array Value) (P : Program) (w : World) :
    (results fn tmps).run P w = .ok (.tuple #[tmps.getD t undef, tmps.getD u undef, tmps.getD v undef, tmps.getD x undef]) w := by
  simp [results, h]

/-- The date of a day that exists. -/
theorem date_is (day y m d : Int) (h : IsDate day y m d) (w : World) (hL : CLaid w) :
    Calls Tryd.prog 9 #[.int .i64 day] w fun e w' => e = .returned (.tuple #[.int .i64 y, .int .i64 m, .int .i64 d, .bool true]) ∧ Below w.heap.size w w' := by
  have hr := h.range
  have hy := h.1.in_year
  rw [← h.2] at hy
  obtain ⟨⟨h1, h2, h3, h4, h5, h6⟩, e0⟩ := h
  have e1 : day - DT (y - 1) = bef y m + d := by unfold num at e0; omega
  clear e0
  have HE := Lib.hid (exists_yes day hr.1 hr.2)
  have b2 := DT_bounds (y := y - 1) (by omega) (by omega)
  have HS := Lib.hid (search_at day y h1 h2 hy.1 hy.2)
  have HT := Lib.hid (daysThrough_at (y - 1) (by omega) (by omega))
  have HI := Lib.hid (fun (k : Int) (hk1 : 1 ≤ k) (hk2 : k ≤ 12) W (hW : CLaid W) => daysIn_at y k h1 h2 hk1 hk2 W hW)
  have HB := Lib.hid (bef_one y)
  have HM := Lib.hid (fun (a b : Int) (x1 : 1 ≤ a) (x2 : a ≤ b) (x3 : b ≤ 13) => bef_mono y x1 x2 x3)
  have HP := Lib.hid (fun (k : Int) (x1 : 1 ≤ k) (x2 : k ≤ 12) => bef_step y x1 x2)
  have HN := Lib.hid (fun (k : Int) => len_bounds y k)
  have b3 := bef_bounds y h3 (by omega : m ≤ 13)
  have b4 := lp_01 y
  have H6 := Lib.hid h6
  have LL := len_bounds y m
  obtain ⟨A, hA⟩ : ∃ A, DT (y - 1) = A := ⟨_, rfl⟩
  rw [hA] at HT b2 e1
  have hd31 : d ≤ 31 := by omega
  clear hA hy h6 LL
  have hW1 : CLaid (w.alloc (.cells #[.int .i64 day] 3)) := hL.next ((Below.refl _ w).alloc (Nat.le_refl _) _)
  have hb1 : Below w.heap.size w (w.alloc (.cells #[.int .i64 day] 3)) := (Below.refl _ w).alloc (Nat.le_refl _) _
  have hc1 := fun n => cell_box w (.int .i64 day) 3 n
  obtain ⟨r1, r2⟩ := hr
  go_enter Tryd.func9, Tryd.ntmps9
  go_wp2_with (first
    | (go_at_call 22; (with_reducible refine (HE.out _).mono ?_); rintro e w1 ⟨rfl, rfl⟩)
    | (go_at_call 23; refine (HS.out _ _ (hc1 0)).mono ?_; rintro e w1 ⟨rfl, n, rfl⟩))
  have hc2 := hc1 n
  have hL2 := hW1.drews n
  have hb2 := below_drews hb1 n
  obtain ⟨W, hW⟩ : ∃ W, (w.alloc (.cells #[.int .i64 day] 3)).drewN n = W := ⟨_, rfl⟩
  rw [hW] at hc2 hL2 hb2 ⊢
  clear hW hc1 hW1 hb1 hL
  go_quiet (first | (go_at_call 20; with_reducible refine Calls.quiet_of_same (HT.out _)))
  clear hc2 r1 r2 e1
  go_wp2
  go_loopw [3, 4] (fun M D wr => ∃ (k : Int) (q : Nat), M = .int .i64 k ∧ D = .int .i64 (bef y m + d - bef y k) ∧ 1 ≤ k ∧ k ≤ m ∧ wr = W.drewN q) (fun M _ _ => (m - intOf M).toNat)
  case atStart => exact ⟨1, _, rfl, by rw [HB.out, Int.sub_zero], by omega, h3, rfl⟩
  case round =>
    obtain ⟨k, q, rfl, rfl, hk1, hkm, rfl⟩ := hrel
    have cc := HI.out k hk1 (by omega)
    have hl2 := HN.out k
    have b5 := bef_bounds y hk1 (by omega : k ≤ 13)
    by_cases hlt : k < m
    · have hs := HP.out k hk1 (by omega)
      have hm := HM.out (k + 1) m (by omega) (by omega) (by omega)
      have hg : len y k < bef y m + d - bef y k := by omega
      have HS2 := Lib.hid (show bef y m + d - bef y k - len y k = bef y m + d - bef y (k + 1) by omega)
      clear hs hm
      go_wp2_with (go_at_call 19; (with_reducible refine (cc _ (hL2.drews _)).mono ?_); rintro e w1 ⟨rfl, n1, rfl⟩)
      go_roundw
      case rel => exact ⟨k + 1, _, rfl, by rw [HS2.out], by omega, by omega, rfl⟩
      case measure => simp [intOf]; omega
    · obtain rfl : k = m := by omega
      have h7 := H6.out
      have hd : bef y k + d - bef y k = d := by omega
      rw [hd]
      clear hd
      go_wp2_with (go_at_call 19; (with_reducible refine (cc _ (hL2.drews _)).mono ?_); rintro e w1 ⟨rfl, n1, rfl⟩)
      (try simp only [Exit.inBlock, Exit.then]); refine bodyPost_ret (results_tmp4 rfl _ _ _) rfl ?_
      exact ⟨rfl, below_drews hb2 _⟩

theorem date_not (day : Int) (h : ¬ (1 ≤ day ∧ day ≤ 3652059)) (w : World) :
    Calls Tryd.prog 9 #[.int .i64 day] w fun e w' => e = .returned (.tuple #[.int .i64 0, .int .i64 0, .int .i64 0, .bool false]) ∧ Below w.heap.size w w' := by
  have HE := Lib.hid (exists_no day h)
  have hb1 : Below w.heap.size w (w.alloc (.cells #[.int .i64 day] 3)) := (Below.refl _ w).alloc (Nat.le_refl _) _
  have hc1 := cell_box w (.int .i64 day) 3 0
  clear h
  go_enter Tryd.func9, Tryd.ntmps9
  go_wp2_with (go_at_call 22; (with_reducible refine (HE.out _).mono ?_); rintro e w1 ⟨rfl, rfl⟩)
  (try simp only [Exit.inBlock, Exit.then]); refine bodyPost_ret (results_tmp4 rfl _ _ _) rfl ?_
  exact ⟨rfl, hb1⟩

theorem weekday_is (day : Int) (h1 : 1 ≤ day) (h2 : day ≤ 3652059) (w : World) (hL : CLaid w) :
    Calls Tryd.prog 12 #[.int .i64 day] w fun e w' => e = .returned (.tuple #[.string (tx [wdC (day % 7).toNat]), .bool true]) ∧ Below w.heap.size w w' := by
  have HE := Lib.hid (exists_yes day h1 h2)
  have hm : day.tmod 7 = day % 7 := Int.tmod_eq_emod_of_nonneg (by omega)
  have hc := hL.wd (day % 7).toNat (by omega)
  obtain ⟨r, hr⟩ : ∃ r, day % 7 = r := ⟨_, rfl⟩
  have x0 : 0 ≤ r := by omega
  have x1 : r < 7 := by omega
  rw [hr] at hm hc ⊢
  clear hr h1 h2
  go_enter Tryd.func12, Tryd.ntmps12
  go_wp2_with (go_at_call 22; (with_reducible refine (HE.out _).mono ?_); rintro e w1 ⟨rfl, rfl⟩)
  go_ret2
  exact ⟨rfl, by first | exact Below.refl _ _ | exact below_drews (Below.refl _ _) _⟩
theorem weekday_not (day : Int) (h : ¬ (1 ≤ day ∧ day ≤ 3652059)) (w : World) :
    Calls Tryd.prog 12 #[.int .i64 day] w fun e w' => e = .returned (.tuple #[.string { data := #[] }, .bool false]) ∧ Below w.heap.size w w' := by
  have HE := Lib.hid (exists_no day h)
  clear h
  go_enter Tryd.func12, Tryd.ntmps12
  go_wp2_with (go_at_call 22; (with_reducible refine (HE.out _).mono ?_); rintro e w1 ⟨rfl, rfl⟩)
  go_ret2
  exact ⟨rfl, Below.refl _ _⟩

end Go.Proofs.YteelmjmiankflaaDoor.Cal
