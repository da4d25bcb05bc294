/-
  Joined texts: CalE, CalF, CalN, CalG, CalH.
-/
import Derived.Test.YteelmjmiankflaaGreatDoorM2
import Derived.Lib.ItoaNum
import Derived.Lib.Repeat
set_option linter.unusedVariables false
set_option linter.unusedSimpArgs false
namespace Go.Proofs.YteelmjmiankflaaGreatDoor.Cal
open Go Go.RowKit Go.Proofs.YteelmjmiankflaaGreatDoor.Kit Go.Proofs.YteelmjmiankflaaGreatDoor.Utf
open Go.Proofs.YteelmjmiankflaaGreatDoor.Num (tx)

theorem rdate_is (day y m d : Int) (h : IsDate day y m d) (w : World) :
    Calls Tryz.prog 53 #[.int .i64 day] w fun e w' => e = .returned (.tuple #[.int .i64 y, .int .i64 m, .int .i64 d, .bool true]) ∧ w' = w := by
  have hr := h.range
  have hy := h.1.in_year
  have hm := h.1.in_month
  rw [← h.2] at hy hm
  obtain ⟨⟨h1, h2, h3, h4, h5, h6⟩, e0⟩ := h
  have HD := Lib.hid (fun (a b : Int) (v : Valid a b 1) W => rday_is a b 1 v W)
  have HX := Lib.hid (fun (a b : Int) (v : ¬ Valid a b 1) W => rday_not a b 1 v W)
  have HMo := Lib.hid (fun (a b : Int) (x1 : 1 ≤ a) (x2 : a ≤ b) (x3 : b ≤ 13) => bef_mono y x1 x2 x3)
  have HR := Lib.hid (fun (a b : Int) (v : Valid a b 1) => v.range)
  have HV := Lib.hid (fun (a b : Int) (x1 : 1 ≤ a) (x2 : a ≤ 9999) (x3 : 1 ≤ b) (x4 : b ≤ 12) => (⟨x1, x2, x3, x4, by omega, by have := len_bounds a b; omega⟩ : Valid a b 1))
  have HY := Lib.hid hy
  have HM := Lib.hid hm
  have H0 := Lib.hid e0
  have ed : (day - 1).tdiv 366 = (day - 1) / 366 := Int.tdiv_eq_ediv_of_nonneg (by omega)
  have hy0 : 1 ≤ (day - 1) / 366 + 1 ∧ (day - 1) / 366 + 1 ≤ y := by
    refine ⟨by omega, ?_⟩
    by_cases hc : (day - 1) / 366 + 1 ≤ y
    · exact hc
    · exfalso
      have hle := DT_mono (show y ≤ (day - 1) / 366 by omega)
      have hd : DT ((day - 1) / 366) ≤ 366 * ((day - 1) / 366) := by unfold DT; omega
      omega
  obtain ⟨y0, ey⟩ : ∃ y0, (day - 1) / 366 + 1 = y0 := ⟨_, rfl⟩
  have eq0 : (day - 1) / 366 = y0 - 1 := by omega
  rw [ey] at hy0
  rw [eq0] at ed
  obtain ⟨r1, r2⟩ := hr
  obtain ⟨hy1, hy2⟩ := hy0
  have t1 : decide (day < 1) = false := by simp; omega
  have t2 : decide (3652059 < day) = false := by simp; omega
  clear e0 h6 ey eq0 hy hm
  go_enter Tryz.func53, Tryz.ntmps53
  go_wp2
  clear ed t1 t2
  go_loopw [6] (fun Y wr => ∃ k : Int, Y = .int .i64 k ∧ 1 ≤ k ∧ k ≤ y ∧ wr = w) (fun Y _ => (y - intOf Y).toNat)
  case atStart => exact ⟨y0, rfl, hy1, hy2, rfl⟩
  case round =>
    obtain ⟨k, rfl, hk1, hky, hw⟩ := hrel
    subst hw
    by_cases hlt : k < y
    · have hv := HV.out (k + 1) 1 (by omega) (by omega) (by omega) (by omega)
      have cc := HD.out _ _ hv
      have hrr := HR.out _ _ hv
      have hnn : num (k + 1) 1 1 = DT k + 1 := by unfold num; rw [bef_one, show k + 1 - 1 = k by omega]; omega
      have hmo := DT_mono (show k ≤ y - 1 by omega)
      have hle := HY.out.1
      have hfin : ¬ day < num (k + 1) 1 1 := by omega
      generalize num (k + 1) 1 1 = NN at *
      clear hnn hmo hle hv
      go_wp2_with (go_at_call 18; (with_reducible refine (cc _).mono ?_); rintro e w1 ⟨rfl, rfl⟩)
      go_roundw
      case rel => exact ⟨k + 1, rfl, by omega, by omega, trivial⟩
      case measure => simp [intOf]; omega
    · obtain rfl : k = y := by omega
      have HD2 := Lib.hid (fun (b : Int) (x1 : 1 ≤ b) (x2 : b ≤ 12) W => HD.out k b (HV.out k b hk1 h2 x1 x2) W)
      have HN2 := Lib.hid (fun (b : Int) => show num k b 1 = DT (k - 1) + bef k b + 1 from rfl)
      have HR2 := Lib.hid (fun (b : Int) (x1 : 1 ≤ b) (x2 : b ≤ 12) => HR.out k b (HV.out k b hk1 h2 x1 x2))
      have c12 := HD2.out 12 (by omega) (by omega)
      have b12 := HR2.out 12 (by omega) (by omega)
      have hfirst : ∃ nx ok, (∀ W, Calls Tryz.prog 18 #[.int .i64 (k + 1), .int .i64 1, .int .i64 1] W fun e w' => e = .returned (.tuple #[.int .i64 nx, .bool ok]) ∧ w' = W) ∧ (ok = false ∨ (ok = true ∧ day < nx)) := by
        by_cases h99 : k + 1 ≤ 9999
        · have hv := HV.out (k + 1) 1 (by omega) h99 (by omega) (by omega)
          refine ⟨_, true, HD.out _ _ hv, .inr ⟨rfl, ?_⟩⟩
          have hnn : num (k + 1) 1 1 = DT k + 1 := by unfold num; rw [bef_one, show k + 1 - 1 = k by omega]; omega
          have := HY.out.2
          omega
        · exact ⟨0, false, HX.out _ _ (fun v => h99 v.2.1), .inl rfl⟩
      obtain ⟨nx, ok, cf, hok⟩ := hfirst
      have hN12 : ∃ N12, num k 12 1 = N12 := ⟨_, rfl⟩
      obtain ⟨wo, hwo⟩ : ∃ wo, wo = wr := ⟨_, rfl⟩
      subst hwo
      clear hlt
      rcases hok with rfl | ⟨rfl, hn⟩
      all_goals
        go_wp2_with (first
          | (go_at_call 18; (with_reducible refine (cf _).mono ?_); rintro e w1 ⟨rfl, hw1⟩; obtain rfl := hw1.symm)
          | (go_at_call 18; (with_reducible refine (c12 _).mono ?_); rintro e w1 ⟨rfl, hw1⟩; obtain rfl := hw1.symm))
        clear cf c12 b12
        go_loopw [9, 10] (fun M F wr => ∃ b : Int, M = .int .i64 b ∧ F = .int .i64 (num k b 1) ∧ m ≤ b ∧ b ≤ 12 ∧ wr = wo) (fun M _ _ => (intOf M).toNat)
        case atStart => exact ⟨12, rfl, rfl, h4, by omega, rfl⟩
        case round =>
          obtain ⟨b, rfl, rfl, hb1, hb2, hwr⟩ := hrel
          obtain rfl := hwr.symm
          have hbb := HR2.out b (by omega) hb2
          by_cases hlt2 : m < b
          · have cc := HD2.out (b - 1) (by omega) (by omega)
            have hg : day < num k b 1 := by
              have e1 := HN2.out b
              have e2 := HMo.out (m + 1) b (by omega) (by omega) (by omega)
              have e3 := HM.out.2
              omega
            have e4 : b - 1 ≤ 9223372036854775807 := by omega
            go_wp2_with (go_at_call 18; (with_reducible refine (cc _).mono ?_); rintro e w1 ⟨rfl, hw1⟩; obtain rfl := hw1.symm)
            go_roundw
            case rel => exact ⟨b - 1, rfl, rfl, by omega, by omega, trivial⟩
            case measure => simp [intOf]; omega
          · obtain rfl : b = m := by omega
            have hg : ¬ day < num k b 1 := by
              have e1 := HN2.out b
              have e3 := HM.out.1
              omega
            have HF := Lib.hid (show day - num k b 1 + 1 = d by
              have e1 := HN2.out b
              have e2 : day = DT (k - 1) + bef k b + d := H0.out
              omega)
            go_wp2
            (try simp only [Exit.inBlock, Exit.then]); refine bodyPost_ret (results_tmp4 rfl _ _ _) rfl ?_
            exact ⟨by rw [← HF.out]; rfl, rfl⟩

theorem rdate_not (day : Int) (h : ¬ (1 ≤ day ∧ day ≤ 3652059)) (w : World) :
    Calls Tryz.prog 53 #[.int .i64 day] w fun e w' => e = .returned (.tuple #[.int .i64 0, .int .i64 0, .int .i64 0, .bool false]) ∧ w' = w := by
  by_cases h1 : day < 1
  · have t1 : decide (day < 1) = true := by simp; omega
    clear h
    go_enter Tryz.func53, Tryz.ntmps53
    go_wp2
    (try simp only [Exit.inBlock, Exit.then]); refine bodyPost_ret (results_tmp4 rfl _ _ _) rfl ?_
    exact ⟨rfl, rfl⟩
  · have t1 : decide (day < 1) = false := by simp; omega
    have t2 : decide (3652059 < day) = true := by simp; omega
    clear h h1
    go_enter Tryz.func53, Tryz.ntmps53
    go_wp2
    (try simp only [Exit.inBlock, Exit.then]); refine bodyPost_ret (results_tmp4 rfl _ _ _) rfl ?_
    exact ⟨rfl, rfl⟩

theorem rweekday_is (day : Int) (h1 : 1 ≤ day) (h2 : day ≤ 3652059) (w : World) :
    Calls Tryz.prog 54 #[.int .i64 day] w fun e w' => e = .returned (.tuple #[.string (tx [wdC (day % 7).toNat]), .bool true]) ∧ Below w.heap.size w w' := by
  have hm : day.tmod 7 = day % 7 := Int.tmod_eq_emod_of_nonneg (by omega)
  have t1 : decide (day < 1) = false := by simp; omega
  have t2 : decide (3652059 < day) = false := by simp; omega
  have hr : day % 7 = 0 ∨ day % 7 = 1 ∨ day % 7 = 2 ∨ day % 7 = 3 ∨ day % 7 = 4 ∨ day % 7 = 5 ∨ day % 7 = 6 := by omega
  clear h1 h2
  rcases hr with h | h | h | h | h | h | h
  all_goals
    rw [h] at hm ⊢
    clear h
    go_enter Tryz.func54, Tryz.ntmps54
    go_wp2
    go_ret2
    exact ⟨rfl, by first | exact (Below.refl _ w).alloc (Nat.le_refl _) _ | exact below_drews ((Below.refl _ w).alloc (Nat.le_refl _) _) _⟩

theorem rweekday_not (day : Int) (h : ¬ (1 ≤ day ∧ day ≤ 3652059)) (w : World) :
    Calls Tryz.prog 54 #[.int .i64 day] w fun e w' => e = .returned (.tuple #[.string { data := #[] }, .bool false]) ∧ Below w.heap.size w w' := by
  by_cases h1 : day < 1
  · have t1 : decide (day < 1) = true := by simp; omega
    clear h
    go_enter Tryz.func54, Tryz.ntmps54
    go_wp2
    go_ret2
    exact ⟨rfl, Below.refl _ _⟩
  · have t1 : decide (day < 1) = false := by simp; omega
    have t2 : decide (3652059 < day) = true := by simp; omega
    clear h h1
    go_enter Tryz.func54, Tryz.ntmps54
    go_wp2
    go_ret2
    exact ⟨rfl, Below.refl _ _⟩

end Go.Proofs.YteelmjmiankflaaGreatDoor.Cal

set_option linter.unusedVariables false
set_option linter.unusedSimpArgs false
namespace Go.Proofs.YteelmjmiankflaaGreatDoor.Cal
open Go Go.RowKit Go.Proofs.YteelmjmiankflaaGreatDoor.Kit Go.Proofs.YteelmjmiankflaaGreatDoor.Utf
open Go.Proofs.YteelmjmiankflaaGreatDoor.Num (tx)

/-- The eras' names, and the year, month and day of their first days. -/
def eN (k : Nat) : List Int := [[26126, 27835], [22823, 27491], [26157, 21644], [24179, 25104], [20196, 21644]].getD k []
def eY (k : Nat) : Int := [1868, 1912, 1926, 1989, 2019].getD k 0
def eM (k : Nat) : Int := [1, 7, 12, 1, 5].getD k 0
def eD (k : Nat) : Int := [25, 30, 25, 8, 1].getD k 0
def eF (k : Nat) : Int := num (eY k) (eM k) (eD k)
/-- The last one of the first k eras that has begun on a day. -/
def cur (day : Int) : Nat → Option Nat
  | 0 => none
  | k + 1 => if eF k ≤ day then some k else cur day k
def nm (o : Option Nat) : ByteArray := match o with | none => { data := #[] } | some k => tx (eN k)
def ye (y : Int) (o : Option Nat) : Int := match o with | none => 0 | some k => y - eY k + 1

theorem below5 {k : Nat} (h : k < 5) : k = 0 ∨ k = 1 ∨ k = 2 ∨ k = 3 ∨ k = 4 := by omega
theorem eF_valid : ∀ k, k < 5 → Valid (eY k) (eM k) (eD k) := by decide
theorem eY_bounds : ∀ k, k < 5 → 1868 ≤ eY k ∧ eY k ≤ 2019 := by decide
theorem eF_first : ∀ k, k < 5 → 1868 ≤ eF k := by decide
theorem cur_lt {day : Int} : ∀ {n k : Nat}, cur day n = some k → k < n
  | 0, k, h => by cases h
  | n + 1, k, h => by
    unfold cur at h
    split at h
    · cases h; omega
    · have := cur_lt h; omega

/-- The table's cells. -/
def eraA : Array Value := #[.string (tx (eN 0)), .int .i64 1868, .int .i64 1, .int .i64 25, .string (tx (eN 1)), .int .i64 1912, .int .i64 7, .int .i64 30, .string (tx (eN 2)), .int .i64 1926, .int .i64 12, .int .i64 25, .string (tx (eN 3)), .int .i64 1989, .int .i64 1, .int .i64 8, .string (tx (eN 4)), .int .i64 2019, .int .i64 5, .int .i64 1]
structure ELaid (w : World) : Prop where
  base : CLaid w
  er : ∃ t fz, w.heap[0]? = some (.cells eraA t fz)
theorem ELaid.below {B : Nat} {w w' : World} (h : ELaid w) (hb : Below B w w') (hB : 3 ≤ B) : ELaid w' := by
  refine ⟨h.base.below hb hB, ?_⟩
  obtain ⟨t, fz, e⟩ := h.er
  exact ⟨t, fz, by rw [hb.block _ (by omega)]; exact e⟩
theorem ELaid.next {w w' : World} (h : ELaid w) (hb : Below w.heap.size w w') : ELaid w' := h.below hb h.base.size

theorem info_eras : (Tryz.prog.info? 52).map (·.size) = some 20 := by kernel_rfl
theorem index_era (k : Nat) (hk : k < 5) (w : World) : (Instr.index 52 (.agg eraA) (.int .i64 k)).run Tryz.prog w = .ok (.agg #[.string (tx (eN k)), .int .i64 (eY k), .int .i64 (eM k), .int .i64 (eD k)]) w := by
  rcases below5 hk with rfl | rfl | rfl | rfl | rfl <;> kernel_rfl

theorem results_tmp3' {fn : Func} {t u v : Tmp} (h : fn.results = #[.tmp t, .tmp u, .tmp v]) (tmps : Array Value) (P : Program) (w : World) :
    (results fn tmps).run P w = .ok (.tuple #[tmps.getD t undef, tmps.getD u undef, tmps.getD v undef]) w := by
  simp [results, h]

theorem nm_ne (day : Int) (n : Nat) (hn : n ≤ 5) : (!(nm (cur day n)).toList.isEmpty) = (cur day n).isSome := by
  rcases hc : cur day n with _ | k
  · decide +kernel
  · have hk : k < 5 := by have := cur_lt hc; omega
    rcases below5 hk with rfl | rfl | rfl | rfl | rfl <;> decide +kernel

/-- The era of a day that exists, and the year in it. -/
theorem era_is (day y m d : Int) (h : IsDate day y m d) (w : World) (hL : ELaid w) :
    Calls Tryz.prog 11 #[.int .i64 day] w fun e w' => e = .returned (.tuple #[.string (nm (cur day 5)), .int .i64 (ye y (cur day 5)), .bool (cur day 5).isSome]) ∧ Below w.heap.size w w' := by
  have HD := Lib.hid (date_is day y m d h w hL.base)
  have hy1 := h.1.1
  have hy2 := h.1.2.1
  have hr := h.range
  have HF := Lib.hid (fun (k : Nat) (hk : k < 5) (W : World) (hW : CLaid W) => day_is (eY k) (eM k) (eD k) (eF_valid k hk) W hW)
  have HX := Lib.hid (fun (k : Nat) (hk : k < 5) W => index_era k hk W)
  have HY := Lib.hid eY_bounds
  have HN := Lib.hid (nm_ne day 5 (Nat.le_refl _))
  have h3 := hL.base.size
  clear h
  go_enter Tryz.func11, Tryz.ntmps11
  go_wp2_with (first
    | (go_at_call 20; (with_reducible refine HD.out.mono ?_); rintro e w1 ⟨rfl, hb1⟩
       have hL1 := hL.next hb1
       obtain ⟨te, fz, he⟩ := hL1.er
       have HE := Lib.hid he
       clear he HD)
    | (refine wpList_load_row rfl 52 (.global 0) rfl 0 rfl te eraA fz _ HE.out Tryz.underlying52 rfl info_eras ?_))
  go_loopw [2, 3, 22] (fun n v i wr => ∃ k : Nat, i = .int .i64 k ∧ k ≤ 5 ∧ n = .string (nm (cur day k)) ∧ v = .int .i64 (ye y (cur day k)) ∧ Below w.heap.size w wr) (fun _ _ i _ => 5 - (intOf i).toNat)
  case atStart => exact ⟨0, rfl, by omega, rfl, rfl, hb1⟩
  case round =>
    obtain ⟨k, rfl, hk, rfl, rfl, hb⟩ := hrel
    by_cases hk5 : k < 5
    · have HL2 := Lib.hid (hL.next hb)
      have hx := HX.out k hk5
      have hf := HF.out k hk5
      have hy := HY.out k hk5
      have hnum : num (eY k) (eM k) (eD k) = eF k := rfl
      rw [hnum] at hf
      clear hnum
      have hbW : Below wr.heap.size wr (wr.alloc (.cells #[.string (tx (eN k)), .int .i64 (eY k), .int .i64 (eM k), .int .i64 (eD k)] 51)) := (Below.refl _ wr).alloc (Nat.le_refl _) _
      have hsz : (wr.alloc (.cells #[.string (tx (eN k)), .int .i64 (eY k), .int .i64 (eM k), .int .i64 (eD k)] 51)).heap.size = wr.heap.size + 1 := by show (wr.heap.push _).size = _; simp
      have HW1 := Lib.hid (HL2.out.base.next hbW)
      have k0 : (wr.alloc (.cells #[.string (tx (eN k)), .int .i64 (eY k), .int .i64 (eM k), .int .i64 (eD k)] 51)).cell? ⟨wr.heap.size, 0, none⟩ = some (.string (tx (eN k))) := by rw [World.cell?_alloc_at _ _ _ _ rfl]; rfl
      have k1 : (wr.alloc (.cells #[.string (tx (eN k)), .int .i64 (eY k), .int .i64 (eM k), .int .i64 (eD k)] 51)).cell? ⟨wr.heap.size, 1, none⟩ = some (.int .i64 (eY k)) := by rw [World.cell?_alloc_at _ _ _ _ rfl]; rfl
      have HKK := Lib.hid (show ∀ w2, Below (wr.alloc (.cells #[.string (tx (eN k)), .int .i64 (eY k), .int .i64 (eM k), .int .i64 (eD k)] 51)).heap.size (wr.alloc (.cells #[.string (tx (eN k)), .int .i64 (eY k), .int .i64 (eM k), .int .i64 (eD k)] 51)) w2 → w2.cell? ⟨wr.heap.size, 0, none⟩ = some (.string (tx (eN k))) ∧ w2.cell? ⟨wr.heap.size, 1, none⟩ = some (.int .i64 (eY k)) ∧ Below w.heap.size w w2 by
        intro w2 h2
        refine ⟨?_, ?_, (hb.trans (hbW.mono hb.size)).trans (h2.mono (by rw [hsz]; have := hb.size; omega))⟩
        · rw [h2.cell (p := ⟨wr.heap.size, 0, none⟩) (show wr.heap.size < _ by rw [hsz]; omega)]; exact k0
        · rw [h2.cell (p := ⟨wr.heap.size, 1, none⟩) (show wr.heap.size < _ by rw [hsz]; omega)]; exact k1)
      have HS := Lib.hid (show cur day (k + 1) = if eF k ≤ day then some k else cur day k from rfl)
      clear hbW hsz k0 k1 HL2
      by_cases hle : eF k ≤ day
      · go_wp2_with (go_at_call 10; refine (hf _ HW1.out).mono ?_; rintro e w2 ⟨rfl, hb2⟩)
        obtain ⟨q0, q1, hb3⟩ := HKK.out w2 hb2
        clear hb2
        go_quiet (fail)
        go_wp2
        go_roundw
        case rel => exact ⟨k + 1, rfl, by omega, by rw [HS.out, if_pos hle]; rfl, by rw [HS.out, if_pos hle]; rfl, below_drews hb3 _⟩
        case measure => simp [intOf]; omega
      · have HLE := Lib.hid hle
        go_wp2_with (go_at_call 10; refine (hf _ HW1.out).mono ?_; rintro e w2 ⟨rfl, hb2⟩)
        obtain ⟨q0, q1, hb3⟩ := HKK.out w2 hb2
        clear hb2
        go_roundw
        case rel => exact ⟨k + 1, rfl, by omega, by rw [HS.out, if_neg (by have := HLE.out; omega)], by rw [HS.out, if_neg (by have := HLE.out; omega)], hb3⟩
        case measure => simp [intOf]; omega
    · obtain rfl : k = 5 := by omega
      have hn := HN.out
      go_wp2
      (try simp only [Exit.inBlock, Exit.then]); refine bodyPost_ret (results_tmp3' rfl _ _ _) rfl ?_
      exact ⟨rfl, hb⟩

theorem era_not (day : Int) (h : ¬ (1 ≤ day ∧ day ≤ 3652059)) (w : World) :
    Calls Tryz.prog 11 #[.int .i64 day] w fun e w' => e = .returned (.tuple #[.string { data := #[] }, .int .i64 0, .bool false]) ∧ Below w.heap.size w w' := by
  have HD := Lib.hid (date_not day h w)
  clear h
  go_enter Tryz.func11, Tryz.ntmps11
  go_wp2_with (go_at_call 20; (with_reducible refine HD.out.mono ?_); rintro e w1 ⟨rfl, hb1⟩)
  (try simp only [Exit.inBlock, Exit.then]); refine bodyPost_ret (results_tmp3' rfl _ _ _) rfl ?_
  exact ⟨rfl, hb1⟩

end Go.Proofs.YteelmjmiankflaaGreatDoor.Cal

set_option linter.unusedVariables false
set_option linter.unusedSimpArgs false
namespace Go.Proofs.YteelmjmiankflaaGreatDoor.Cal
open Go Go.RowKit Go.Proofs.YteelmjmiankflaaGreatDoor.Kit Go.Proofs.YteelmjmiankflaaGreatDoor.Utf
open Go.Proofs.YteelmjmiankflaaGreatDoor.Num

/-- The decimal digits of a number, the greatest place first. -/
def digs (u : Nat) : List Nat := if h : u < 10 then [u] else digs (u / 10) ++ [u % 10]
termination_by u
decreasing_by omega
theorem digs_small {u : Nat} (h : u < 10) : digs u = [u] := by rw [digs, dif_pos h]
theorem digs_step {u : Nat} (h : ¬ u < 10) : digs u = digs (u / 10) ++ [u % 10] := by rw [digs, dif_neg h]

theorem digs_le (u : Nat) : ∀ d ∈ digs u, d ≤ 9 := by
  induction u using Nat.strongRecOn with
  | _ u ih =>
    by_cases h : u < 10
    · rw [digs_small h]; intro d hd; rw [List.mem_singleton.1 hd]; omega
    · rw [digs_step h]
      intro d hd
      rcases List.mem_append.1 hd with hd | hd
      · exact ih (u / 10) (by omega) d hd
      · rw [List.mem_singleton.1 hd]; omega
theorem digs_ne (u : Nat) : digs u ≠ [] := by
  by_cases h : u < 10
  · rw [digs_small h]; simp
  · rw [digs_step h]; simp
theorem digs_len : ∀ (k u : Nat), 1 ≤ k → u < 10 ^ k → (digs u).length ≤ k
  | 0, _, h, _ => by omega
  | k + 1, u, _, hu => by
    by_cases h : u < 10
    · rw [digs_small h]; simp
    · rw [digs_step h, List.length_append, List.length_singleton]
      have hk : 1 ≤ k := by
        rcases Nat.eq_zero_or_pos k with e | e
        · subst e; omega
        · exact e
      have := digs_len k (u / 10) hk (by rw [Nat.div_lt_iff_lt_mul (by decide)]; rw [Nat.pow_succ] at hu; exact hu)
      omega
theorem digs_len4 {u : Nat} (h : u ≤ 9999) : (digs u).length ≤ 4 := digs_len 4 u (by decide) (by omega)
theorem digs_len_pos (u : Nat) : 1 ≤ (digs u).length := by have := digs_ne u; cases hh : digs u with | nil => exact absurd hh this | cons a l => simp
theorem digs_head (u : Nat) : (digs u).head? = some 0 → u = 0 := by
  induction u using Nat.strongRecOn with
  | _ u ih =>
    by_cases h : u < 10
    · rw [digs_small h]; intro e; simpa using e
    · rw [digs_step h, show (digs (u / 10) ++ [u % 10]).head? = (digs (u / 10)).head? by cases hh : digs (u / 10) with | nil => exact absurd hh (digs_ne _) | cons a l => rfl]
      intro e
      have := ih (u / 10) (by omega) e
      omega
theorem digs_DS {u : Nat} (h : u ≤ 9999) : DS (digs u) := by
  refine ⟨digs_len_pos u, by have := digs_len4 h; omega, digs_le u, fun e => ?_⟩
  rw [digs_head u e]; exact digs_small (by decide)
theorem digs_bytes (u : Nat) : (digs u).map (fun d => UInt8.ofNat (48 + d)) = Lib.decDigits u := by
  induction u using Nat.strongRecOn with
  | _ u ih =>
    by_cases h : u < 10
    · rw [digs_small h, Lib.decDigits, dif_pos h]; rfl
    · rw [digs_step h, Lib.decDigits, dif_neg h, List.map_append, ih (u / 10) (by omega)]; rfl
theorem dg_digs (u : Nat) : dg (digs u) = ⟨(Lib.decDigits u).toArray⟩ := by unfold dg; rw [digs_bytes]

/-- The number that digits are. -/
def valD (ds : List Nat) : Nat := ds.foldl (fun a d => 10 * a + d) 0
theorem valD_snoc (ds : List Nat) (d : Nat) : valD (ds ++ [d]) = 10 * valD ds + d := by unfold valD; rw [List.foldl_append]; rfl
theorem valD_digs (u : Nat) : valD (digs u) = u := by
  induction u using Nat.strongRecOn with
  | _ u ih =>
    by_cases h : u < 10
    · rw [digs_small h]; show 10 * 0 + u = u; omega
    · rw [digs_step h, valD_snoc, ih (u / 10) (by omega)]; omega
theorem digs_inj {a b : Nat} (h : digs a = digs b) : a = b := by rw [← valD_digs a, ← valD_digs b, h]

/-- At least k digits. -/
def pad (k u : Nat) : List Nat := List.replicate (k - (digs u).length) 0 ++ digs u
theorem pad_le (k u : Nat) : ∀ d ∈ pad k u, d ≤ 9 := by
  intro d hd
  rcases List.mem_append.1 hd with hd | hd
  · rw [(List.mem_replicate.1 hd).2]; omega
  · exact digs_le u d hd
theorem pad_one (u : Nat) : pad 1 u = digs u := by
  unfold pad
  rw [show 1 - (digs u).length = 0 by have := digs_len_pos u; omega]; rfl
theorem pad_len {k u : Nat} (h : u ≤ 9999) (hk : k ≤ 4) : (pad k u).length ≤ 4 := by
  unfold pad
  have := digs_len4 h
  rw [List.length_append, List.length_replicate]; omega
theorem valD_zeros (n : Nat) (ds : List Nat) : valD (List.replicate n 0 ++ ds) = valD ds := by
  unfold valD
  rw [List.foldl_append]
  congr 1
  induction n with
  | zero => rfl
  | succ n ih => rw [List.replicate_succ]; exact ih
theorem valD_pad (k u : Nat) : valD (pad k u) = u := by unfold pad; rw [valD_zeros, valD_digs]

theorem asc_len (ds : List Nat) (h : ∀ d ∈ ds, d ≤ 9) : (encs (ascC ds)).length = ds.length := by
  rw [← tx_size, ← dg_tx ds h, dg_size]
theorem repeat_zero (c : Nat) : (⟨(Lib.repeatL [48] c).toArray⟩ : ByteArray) = dg (List.replicate c 0) := by
  unfold dg
  congr 2
  induction c with
  | zero => rfl
  | succ c ih => rw [List.replicate_succ]; show 48 :: Lib.repeatL [48] c = _; rw [ih]; rfl

/-- A field as decimal writes it; as kanji writes it; the first year of an era. -/
def decC (n k : Nat) (u : List Int) : List Int := ascC (pad k n) ++ u
def kanC (n k : Nat) (u : List Int) : List Int := kanjiC (digs n) ++ u
def eraC (f : Nat → Nat → List Int → List Int) (n k : Nat) (u : List Int) : List Int := if n = 1 ∧ u = [24180] then [20803, 24180] else f n k u

end Go.Proofs.YteelmjmiankflaaGreatDoor.Cal

set_option linter.unusedVariables false
set_option linter.unusedSimpArgs false
namespace Go.Proofs.YteelmjmiankflaaGreatDoor.Cal
open Go Go.RowKit Go.Proofs.YteelmjmiankflaaGreatDoor.Kit Go.Proofs.YteelmjmiankflaaGreatDoor.Utf
open Go.Proofs.YteelmjmiankflaaGreatDoor.Num (tx)

theorem cur_top {day : Int} : ∀ {n i : Nat}, i < n → (∀ k, i < k → k < n → ¬ eF k ≤ day) → eF i ≤ day → cur day n = some i
  | 0, i, h, _, _ => by omega
  | n + 1, i, h, hk, hi => by
    unfold cur
    by_cases e : i = n
    · subst e; rw [if_pos hi]
    · rw [if_neg (hk n (by omega) (by omega))]
      exact cur_top (by omega) (fun k h1 h2 => hk k h1 (by omega)) hi
theorem cur_none {day : Int} : ∀ {n : Nat}, (∀ k, k < n → ¬ eF k ≤ day) → cur day n = none
  | 0, _ => rfl
  | n + 1, hk => by
    unfold cur
    rw [if_neg (hk n (by omega))]
    exact cur_none fun k h => hk k (by omega)
theorem cur_early {day : Int} (h : day < 1) : cur day 5 = none := cur_none fun k hk => by have := eF_first k hk; omega

def rN : Obj := .cells #[.string { data := #[230, 152, 142, 230, 178, 187] }, .string { data := #[229, 164, 167, 230, 173, 163] }, .string { data := #[230, 152, 173, 229, 146, 140] }, .string { data := #[229, 185, 179, 230, 136, 144] }, .string { data := #[228, 187, 164, 229, 146, 140] }] 9
def rY : Obj := .cells #[.int .i64 1868, .int .i64 1912, .int .i64 1926, .int .i64 1989, .int .i64 2019] 3
def rM : Obj := .cells #[.int .i64 1, .int .i64 7, .int .i64 12, .int .i64 1, .int .i64 5] 3
def rD : Obj := .cells #[.int .i64 25, .int .i64 30, .int .i64 25, .int .i64 8, .int .i64 1] 3
def rW (w : World) : World := ((((w.alloc rN).alloc rY).alloc rM).alloc rD)

theorem cell_old (w : World) (o : Obj) (b i : Nat) (h : b < w.heap.size) : (w.alloc o).cell? ⟨b, i, none⟩ = w.cell? ⟨b, i, none⟩ :=
  ((Below.refl w.heap.size w).alloc (Nat.le_refl _) o).cell (p := ⟨b, i, none⟩) h
theorem size_alloc (w : World) (o : Obj) : (w.alloc o).heap.size = w.heap.size + 1 := by show (w.heap.push _).size = _; simp
theorem rW_below (w : World) : Below w.heap.size w (rW w) := by
  unfold rW
  exact (((((Below.refl _ w).alloc (Nat.le_refl _) _).alloc (by simp only [size_alloc]; omega) _).alloc (by simp only [size_alloc]; omega) _).alloc (by simp only [size_alloc]; omega) _)
theorem rW_n (w : World) (k : Nat) (hk : k < 5) : (rW w).cell? ⟨w.heap.size, k, none⟩ = some (.string (tx (eN k))) := by
  unfold rW rN rY rM rD
  rw [cell_old _ _ _ _ (by simp only [size_alloc]; omega), cell_old _ _ _ _ (by simp only [size_alloc]; omega), cell_old _ _ _ _ (by simp only [size_alloc]; omega), World.cell?_alloc_at _ _ _ _ rfl]
  rcases below5 hk with rfl | rfl | rfl | rfl | rfl <;> rfl
theorem rW_y (w : World) (k : Nat) (hk : k < 5) : (rW w).cell? ⟨w.heap.size + 1, k, none⟩ = some (.int .i64 (eY k)) := by
  unfold rW rN rY rM rD
  rw [cell_old _ _ _ _ (by simp only [size_alloc]; omega), cell_old _ _ _ _ (by simp only [size_alloc]; omega), World.cell?_alloc_at _ _ _ _ (by simp only [size_alloc])]
  rcases below5 hk with rfl | rfl | rfl | rfl | rfl <;> rfl
theorem rW_m (w : World) (k : Nat) (hk : k < 5) : (rW w).cell? ⟨w.heap.size + 1 + 1, k, none⟩ = some (.int .i64 (eM k)) := by
  unfold rW rN rY rM rD
  rw [cell_old _ _ _ _ (by simp only [size_alloc]; omega), World.cell?_alloc_at _ _ _ _ (by simp only [size_alloc])]
  rcases below5 hk with rfl | rfl | rfl | rfl | rfl <;> rfl
theorem rW_d (w : World) (k : Nat) (hk : k < 5) : (rW w).cell? ⟨w.heap.size + 1 + 1 + 1, k, none⟩ = some (.int .i64 (eD k)) := by
  unfold rW rN rY rM rD
  rw [World.cell?_alloc_at _ _ _ _ (by simp only [size_alloc])]
  rcases below5 hk with rfl | rfl | rfl | rfl | rfl <;> rfl

theorem rera_at (day y : Int) (h2 : day ≤ 3652059) (hd : 1 ≤ day → ∃ m d, IsDate day y m d) (hb0 : -9223372036854775808 ≤ day) (w : World) :
    Calls Tryz.prog 56 #[.int .i64 day] w fun e w' => e = .returned (.tuple #[.string (nm (cur day 5)), .int .i64 (ye y (cur day 5)), .bool (cur day 5).isSome]) ∧ Below w.heap.size w w' := by
  have HF := Lib.hid (fun (k : Nat) (hk : k < 5) (W : World) => rday_is (eY k) (eM k) (eD k) (eF_valid k hk) W)
  have HY := Lib.hid eY_bounds
  have HDt := Lib.hid hd
  have t2 : decide (3652059 < day) = false := by simp; omega
  have HN := Lib.hid (rW_n w)
  have HYc := Lib.hid (rW_y w)
  have HM := Lib.hid (rW_m w)
  have HDc := Lib.hid (rW_d w)
  have hbel := rW_below w
  clear hd
  go_enter Tryz.func56, Tryz.ntmps56
  go_wp2
  change Code.wp _ _ _ _ (rW w)
  obtain ⟨W, hW⟩ : ∃ W, rW w = W := ⟨_, rfl⟩
  rw [hW] at HN HYc HM HDc hbel ⊢
  clear hW t2
  go_loopw [9] (fun i wr => ∃ k : Int, i = .int .i64 k ∧ -1 ≤ k ∧ k ≤ 4 ∧ (∀ j : Nat, k < j → j < 5 → day < eF j) ∧ wr.heap = W.heap ∧ Below w.heap.size w wr) (fun i _ => (intOf i + 1).toNat)
  case atStart => exact ⟨4, rfl, by omega, by omega, fun j h1 h2 => by omega, rfl, hbel⟩
  case round =>
    obtain ⟨k, rfl, hk1, hk2, hall, hheap, hb⟩ := hrel
    have hcell : ∀ a, wr.cell? a = W.cell? a := fun a => by unfold World.cell?; rw [hheap]
    have HH := Lib.hid hheap
    clear hheap
    have HA := Lib.hid hall
    clear hall
    by_cases hk0 : 0 ≤ k
    · obtain ⟨n, rfl⟩ : ∃ n : Nat, k = n := ⟨k.toNat, by omega⟩
      have hn5 : n < 5 := by omega
      have cN := HN.out n hn5
      rw [← hcell] at cN
      have cY := HYc.out n hn5
      rw [← hcell] at cY
      have cM := HM.out n hn5
      rw [← hcell] at cM
      have cD := HDc.out n hn5
      rw [← hcell] at cD
      have cF := HF.out n hn5
      have bY := HY.out n hn5
      have x0 : (0 : Int) ≤ n := hk0
      have x1 : (n : Int) < 5 := by omega
      have hnum : num (eY n) (eM n) (eD n) = eF n := rfl
      rw [hnum] at cF
      clear hnum hcell
      by_cases hle : eF n ≤ day
      · have h1 : 1 ≤ day := by have := eF_first n hn5; omega
        obtain ⟨m, d, hdt⟩ := HDt.out h1
        have HR := Lib.hid (fun W => rdate_is day y m d hdt W)
        have hy1 := hdt.1.1
        have hy2 := hdt.1.2.1
        have HC := Lib.hid (cur_top hn5 (fun j h1 h2 => by have := HA.out j (by omega) h2; omega) hle)
        have hsz := hb.size
        clear hdt HDt HA HH
        go_wp2
        go_quiet (first | (go_at_call 18; with_reducible refine Calls.quiet_of_same (cF _)))
        go_wp2_with (go_at_call 53; (with_reducible refine (HR.out _).mono ?_); rintro e w2 ⟨rfl, rfl⟩)
        go_quiet (fail)
        go_wp2
        (try simp only [Exit.inBlock, Exit.then]); refine bodyPost_ret (results_tmp3' rfl _ _ _) rfl ?_
        exact ⟨by rw [HC.out]; rfl, by first | exact below_drews hb _ | exact below_drews (below_drews hb _) _⟩
      · have HLE := Lib.hid hle
        go_wp2
        go_quiet (first | (go_at_call 18; with_reducible refine Calls.quiet_of_same (cF _)))
        go_wp2
        go_roundw
        case rel => exact ⟨(n : Int) - 1, rfl, by omega, by omega, fun j h1 h2 => by
          by_cases e : j = n
          · subst e; have := HLE.out; omega
          · exact HA.out j (by omega) h2, HH.out, below_drews hb _⟩
        case measure => simp [intOf] <;> omega
    · obtain rfl : k = -1 := by omega
      have hc : cur day 5 = none := cur_none fun j hj => by have := HA.out j (by omega) hj; omega
      have HC := Lib.hid hc
      clear hc
      go_wp2
      (try simp only [Exit.inBlock, Exit.then]); refine bodyPost_ret (results_tmp3' rfl _ _ _) rfl ?_
      exact ⟨by rw [HC.out]; rfl, hb⟩

end Go.Proofs.YteelmjmiankflaaGreatDoor.Cal

set_option linter.unusedVariables false
set_option linter.unusedSimpArgs false
namespace Go.Proofs.YteelmjmiankflaaGreatDoor.Cal
open Go Go.RowKit Go.Proofs.YteelmjmiankflaaGreatDoor.Kit Go.Proofs.YteelmjmiankflaaGreatDoor.Utf
open Go.Proofs.YteelmjmiankflaaGreatDoor.Num (tx)

/-- What Day returns. -/
def dn (y m d : Int) : Int := if Valid y m d then num y m d else 0
def dk (y m d : Int) : Bool := decide (Valid y m d)
/-- What Date returns. -/
def inR (day : Int) : Prop := 1 ≤ day ∧ day ≤ 3652059
instance (day : Int) : Decidable (inR day) := by unfold inR; infer_instance
noncomputable def dY (day : Int) : Int := @dite Int (∃ y m d, IsDate day y m d) (Classical.propDecidable _) (fun h => h.choose) (fun _ => 0)
noncomputable def dM (day : Int) : Int := @dite Int (∃ m y d, IsDate day y m d) (Classical.propDecidable _) (fun h => h.choose) (fun _ => 0)
noncomputable def dD (day : Int) : Int := @dite Int (∃ d y m, IsDate day y m d) (Classical.propDecidable _) (fun h => h.choose) (fun _ => 0)
def ok (day : Int) : Bool := decide (inR day)

theorem dY_is {day y m d : Int} (h : IsDate day y m d) : dY day = y := by
  have e : ∃ y m d, IsDate day y m d := ⟨y, m, d, h⟩
  unfold dY
  rw [dif_pos e]
  obtain ⟨m', d', h'⟩ := e.choose_spec
  exact (h'.unique h).1
theorem dM_is {day y m d : Int} (h : IsDate day y m d) : dM day = m := by
  have e : ∃ m y d, IsDate day y m d := ⟨m, y, d, h⟩
  unfold dM
  rw [dif_pos e]
  obtain ⟨m', d', h'⟩ := e.choose_spec
  exact (h'.unique h).2.1
theorem dD_is {day y m d : Int} (h : IsDate day y m d) : dD day = d := by
  have e : ∃ d y m, IsDate day y m d := ⟨d, y, m, h⟩
  unfold dD
  rw [dif_pos e]
  obtain ⟨m', d', h'⟩ := e.choose_spec
  exact (h'.unique h).2.2
theorem dates (day : Int) : (inR day ∧ IsDate day (dY day) (dM day) (dD day)) ∨ (¬ inR day ∧ dY day = 0 ∧ dM day = 0 ∧ dD day = 0) := by
  by_cases h : inR day
  · obtain ⟨y, m, d, hd⟩ := exists_date h.1 h.2
    exact .inl ⟨h, by rw [dY_is hd, dM_is hd, dD_is hd]; exact hd⟩
  · refine .inr ⟨h, ?_, ?_, ?_⟩
    · unfold dY; exact dif_neg fun ⟨y, m, d, e⟩ => h e.range
    · unfold dM; exact dif_neg fun ⟨y, m, d, e⟩ => h e.range
    · unfold dD; exact dif_neg fun ⟨y, m, d, e⟩ => h e.range

theorem day_any (y m d : Int) (w : World) (hL : CLaid w) :
    Calls Tryz.prog 10 #[.int .i64 y, .int .i64 m, .int .i64 d] w fun e w' => e = .returned (.tuple #[.int .i64 (dn y m d), .bool (dk y m d)]) ∧ Below w.heap.size w w' := by
  unfold dn dk
  by_cases h : Valid y m d
  · rw [if_pos h, decide_eq_true h]; exact day_is y m d h w hL
  · rw [if_neg h, decide_eq_false h]; exact day_not y m d h w hL
theorem rday_any (y m d : Int) (w : World) :
    Calls Tryz.prog 18 #[.int .i64 y, .int .i64 m, .int .i64 d] w fun e w' => e = .returned (.tuple #[.int .i64 (dn y m d), .bool (dk y m d)]) ∧ w' = w := by
  unfold dn dk
  by_cases h : Valid y m d
  · rw [if_pos h, decide_eq_true h]; exact rday_is y m d h w
  · rw [if_neg h, decide_eq_false h]; exact rday_not y m d h w
theorem date_any (day : Int) (w : World) (hL : CLaid w) :
    Calls Tryz.prog 20 #[.int .i64 day] w fun e w' => e = .returned (.tuple #[.int .i64 (dY day), .int .i64 (dM day), .int .i64 (dD day), .bool (ok day)]) ∧ Below w.heap.size w w' := by
  unfold ok
  rcases dates day with ⟨h, hd⟩ | ⟨h, h1, h2, h3⟩
  · rw [decide_eq_true h]; exact date_is day _ _ _ hd w hL
  · rw [decide_eq_false h, h1, h2, h3]; exact date_not day h w
theorem rdate_any (day : Int) (w : World) :
    Calls Tryz.prog 53 #[.int .i64 day] w fun e w' => e = .returned (.tuple #[.int .i64 (dY day), .int .i64 (dM day), .int .i64 (dD day), .bool (ok day)]) ∧ w' = w := by
  unfold ok
  rcases dates day with ⟨h, hd⟩ | ⟨h, h1, h2, h3⟩
  · rw [decide_eq_true h]; exact rdate_is day _ _ _ hd w
  · rw [decide_eq_false h, h1, h2, h3]; exact rdate_not day h w

/-- What Weekday and Era return. -/
def wdS (day : Int) : ByteArray := if inR day then tx [wdC (day % 7).toNat] else { data := #[] }
def eO (day : Int) : Option Nat := if inR day then cur day 5 else none
theorem weekday_any (day : Int) (w : World) (hL : CLaid w) :
    Calls Tryz.prog 21 #[.int .i64 day] w fun e w' => e = .returned (.tuple #[.string (wdS day), .bool (ok day)]) ∧ Below w.heap.size w w' := by
  unfold ok wdS
  by_cases h : inR day
  · rw [decide_eq_true h, if_pos h]; exact weekday_is day h.1 h.2 w hL
  · rw [decide_eq_false h, if_neg h]; exact weekday_not day h w
theorem rweekday_any (day : Int) (w : World) :
    Calls Tryz.prog 54 #[.int .i64 day] w fun e w' => e = .returned (.tuple #[.string (wdS day), .bool (ok day)]) ∧ Below w.heap.size w w' := by
  unfold ok wdS
  by_cases h : inR day
  · rw [decide_eq_true h, if_pos h]; exact rweekday_is day h.1 h.2 w
  · rw [decide_eq_false h, if_neg h]; exact rweekday_not day h w
theorem era_any (day : Int) (w : World) (hL : ELaid w) :
    Calls Tryz.prog 11 #[.int .i64 day] w fun e w' => e = .returned (.tuple #[.string (nm (eO day)), .int .i64 (ye (dY day) (eO day)), .bool (eO day).isSome]) ∧ Below w.heap.size w w' := by
  unfold eO
  rcases dates day with ⟨h, hd⟩ | ⟨h, h1, h2, h3⟩
  · rw [if_pos h]; exact era_is day _ _ _ hd w hL
  · rw [if_neg h]; exact era_not day h w
theorem rera_big (day : Int) (h : 3652059 < day) (w : World) :
    Calls Tryz.prog 56 #[.int .i64 day] w fun e w' => e = .returned (.tuple #[.string { data := #[] }, .int .i64 0, .bool false]) ∧ Below w.heap.size w w' := by
  have t2 : decide (3652059 < day) = true := by simpa using h
  go_enter Tryz.func56, Tryz.ntmps56
  go_wp2
  (try simp only [Exit.inBlock, Exit.then]); refine bodyPost_ret (results_tmp3' rfl _ _ _) rfl ?_
  exact ⟨rfl, Below.refl _ _⟩
theorem rera_any (day : Int) (hb0 : -9223372036854775808 ≤ day) (w : World) :
    Calls Tryz.prog 56 #[.int .i64 day] w fun e w' => e = .returned (.tuple #[.string (nm (eO day)), .int .i64 (ye (dY day) (eO day)), .bool (eO day).isSome]) ∧ Below w.heap.size w w' := by
  unfold eO
  rcases dates day with ⟨h, hd⟩ | ⟨h, h1, h2, h3⟩
  · rw [if_pos h]; exact rera_at day _ h.2 (fun _ => ⟨_, _, hd⟩) hb0 w
  · rw [if_neg h]
    by_cases hg : 3652059 < day
    · exact rera_big day hg w
    · have hlt : day < 1 := by unfold inR at h; omega
      have := rera_at day (dY day) (by omega) (fun h1 => absurd h1 (by omega)) hb0 w
      rw [cur_early hlt] at this
      exact this

theorem works_at (w : World) (hL : CLaid w) :
    Calls Tryz.prog 8 #[] w fun e w' => e = .returned (.bool true) ∧ Below w.heap.size w w' := by
  have hB : Below w.heap.size w w := Below.refl _ _
  have H1 := Lib.hid (fun W hW => day_is 2026 11 16 (by decide) W hW)
  have H2 := Lib.hid (fun W hW => date_is 739936 2026 11 16 (by decide) W hW)
  have H3 := Lib.hid (fun W hW => weekday_is 739936 (by decide) (by decide) W hW)
  have e1 : num 2026 11 16 = 739936 := by decide
  have e3 : tx [wdC ((739936 : Int) % 7).toNat] = { data := #[230, 156, 136] } := by decide +kernel
  rw [e1] at H1
  rw [e3] at H3
  clear e1 e3
  go_enter Tryz.func8, Tryz.ntmps8
  go_wp2_with (first
    | (go_at_call 10; (with_reducible refine (H1.out _ (hL.next hB)).mono ?_); rintro e w1 ⟨rfl, hb⟩; have hB := hB.trans (hb.mono hB.size); clear hb)
    | (go_at_call 20; (with_reducible refine (H2.out _ (hL.next hB)).mono ?_); rintro e w1 ⟨rfl, hb⟩; have hB := hB.trans (hb.mono hB.size); clear hb)
    | (go_at_call 21; (with_reducible refine (H3.out _ (hL.next hB)).mono ?_); rintro e w1 ⟨rfl, hb⟩; have hB := hB.trans (hb.mono hB.size); clear hb))
  go_ret
  exact ⟨rfl, hB⟩

end Go.Proofs.YteelmjmiankflaaGreatDoor.Cal
