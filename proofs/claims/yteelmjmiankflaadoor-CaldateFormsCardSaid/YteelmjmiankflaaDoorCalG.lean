/-
  Contract of the reference's Era.
-/
import Derived.Test.YteelmjmiankflaaDoorCalF
set_option linter.unusedVariables false
set_option linter.unusedSimpArgs false
namespace Go.Proofs.YteelmjmiankflaaDoor.Cal
open Go Go.RowKit Go.Proofs.YteelmjmiankflaaDoor.Kit Go.Proofs.YteelmjmiankflaaDoor.Utf
open Go.Proofs.YteelmjmiankflaaDoor.Num (tx)

theorem cur_top {day : Int} : ∀ {n i : Nat}, i < n → (∀ k, i < k → k < n → ¬ eF k ≤ day) → eF i ≤ day → cur day n = some i
  | 0, i, h, _, _ => by omega
  | n + 1, i, h, hk, hi => by
    unfold cur
    by_cases e : i = n
    · subst e; rw [if_pos hi]
    · rw [if_neg (hk n (by omega) (by omega))]
      exact cur_top (by omega) (fun k h1 h2 => hk k h1 (by omega)) hi
theorem cur_none {day : Int} : ∀ {n : Nat}, (∀ k, k < n → ¬ eF k ≤ day) → cur day n = none
  | 0, _ => rfl
  | n + 1, hk => by
    unfold cur
    rw [if_neg (hk n (by omega))]
    exact cur_none fun k h => hk k (by omega)
theorem cur_early {day : Int} (h : day < 1) : cur day 5 = none := cur_none fun k hk => by have := eF_first k hk; omega

def rN : Obj := .cells #[.string { data := #[230, 152, 142, 230, 178, 187] }, .string { data := #[229, 164, 167, 230, 173, 163] }, .string { data := #[230, 152, 173, 229, 146, 140] }, .string { data := #[229, 185, 179, 230, 136, 144] }, .string { data := #[228, 187, 164, 229, 146, 140] }] 9
def rY : Obj := .cells #[.int .i64 1868, .int .i64 1912, .int .i64 1926, .int .i64 1989, .int .i64 2019] 3
def rM : Obj := .cells #[.int .i64 1, .int .i64 7, .int .i64 12, .int .i64 1, .int .i64 5] 3
def rD : Obj := .cells #[.int .i64 25, .int .i64 30, .int .i64 25, .int .i64 8, .int .i64 1] 3
def rW (w : World) : World := ((((w.alloc rN).alloc rY).alloc rM).alloc rD)

theorem cell_old (w : World) (o : Obj) (b i : Nat) (h : b < w.heap.size) : (w.alloc o).cell? ⟨b, i, none⟩ = w.cell? ⟨b, i, none⟩ :=
  ((Below.refl w.heap.size w).alloc (Nat.le_refl _) o).cell (p := ⟨b, i, none⟩) h
theorem size_alloc (w : World) (o : Obj) : (w.alloc o).heap.size = w.heap.size + 1 := by show (w.heap.push _).size = _; simp
theorem rW_below (w : World) : Below w.heap.size w (rW w) := by
  unfold rW
  exact (((((Below.refl _ w).alloc (Nat.le_refl _) _).alloc (by simp only [size_alloc]; omega) _).alloc (by simp only [size_alloc]; omega) _).alloc (by simp only [size_alloc]; omega) _)
theorem rW_n (w : World) (k : Nat) (hk : k < 5) : (rW w).cell? ⟨w.heap.size, k, none⟩ = some (.string (tx (eN k))) := by
  unfold rW rN rY rM rD
  rw [cell_old _ _ _ _ (by simp only [size_alloc]; omega), cell_old _ _ _ _ (by simp only [size_alloc]; omega), cell_old _ _ _ _ (by simp only [size_alloc]; omega), World.cell?_alloc_at _ _ _ _ rfl]
  rcases below5 hk with rfl | rfl | rfl | rfl | rfl <;> rfl
theorem rW_y (w : World) (k : Nat) (hk : k < 5) : (rW w).cell? ⟨w.heap.size + 1, k, none⟩ = some (.int .i64 (eY k)) := by
  unfold rW rN rY rM rD
  rw [cell_old _ _ _ _ (by simp only [size_alloc]; omega), cell_old _ _ _ _ (by simp only [size_alloc]; omega), World.cell?_alloc_at _ _ _ _ (by simp only [size_alloc])]
  rcases below5 hk with rfl | rfl | rfl | rfl | rfl <;> rfl
theorem rW_m (w : World) (k : Nat) (hk : k < 5) : (rW w).cell? ⟨w.heap.size + 1 + 1, k, none⟩ = some (.int .i64 (eM k)) := by
  unfold rW rN rY rM rD
  rw [cell_old _ _ _ _ (by simp only [size_alloc]; omega), World.cell?_alloc_at _ _ _ _ (by simp only [size_alloc])]
  rcases below5 hk with rfl | rfl | rfl | rfl | rfl <;> rfl
theorem rW_d (w : World) (k : Nat) (hk : k < 5) : (rW w).cell? ⟨w.heap.size + 1 + 1 + 1, k, none⟩ = some (.int .i64 (eD k)) := by
  unfold rW rN rY rM rD
  rw [World.cell?_alloc_at _ _ _ _ (by simp only [size_alloc])]
  rcases below5 hk with rfl | rfl | rfl | rfl | rfl <;> rfl

theorem rera_at (day y : Int) (h2 : day ≤ 3652059) (hd : 1 ≤ day → ∃ m d, IsDate day y m d) (hb0 : -9223372036854775808 ≤ day) (w : World) :
    Calls Tryd.prog 15 #[.int .i64 day] w fun e w' => e = .returned (.tuple #[.string (nm (cur day 5)), .int .i64 (ye y (cur day 5)), .bool (cur day 5).isSome]) ∧ Below w.heap.size w w' := by
  have HF := Lib.hid (fun (k : Nat) (hk : k < 5) (W : World) => rday_is (eY k) (eM k) (eD k) (eF_valid k hk) W)
  have HY := Lib.hid eY_bounds
  have HDt := Lib.hid hd
  have t2 : decide (3652059 < day) = false := by simp; omega
  have HN := Lib.hid (rW_n w)
  have HYc := Lib.hid (rW_y w)
  have HM := Lib.hid (rW_m w)
  have HDc := Lib.hid (rW_d w)
  have hbel := rW_below w
  clear hd
  go_enter Tryd.func15, Tryd.ntmps15
  go_wp2
  change Code.wp _ _ _ _ (rW w)
  obtain ⟨W, hW⟩ : ∃ W, rW w = W := ⟨_, rfl⟩
  rw [hW] at HN HYc HM HDc hbel ⊢
  clear hW t2
  go_loopw [9] (fun i wr => ∃ k : Int, i = .int .i64 k ∧ -1 ≤ k ∧ k ≤ 4 ∧ (∀ j : Nat, k < j → j < 5 → day < eF j) ∧ wr.heap = W.heap ∧ Below w.heap.size w wr) (fun i _ => (intOf i + 1).toNat)
  case atStart => exact ⟨4, rfl, by omega, by omega, fun j h1 h2 => by omega, rfl, hbel⟩
  case round =>
    obtain ⟨k, rfl, hk1, hk2, hall, hheap, hb⟩ := hrel
    have hcell : ∀ a, wr.cell? a = W.cell? a := fun a => by unfold World.cell?; rw [hheap]
    have HH := Lib.hid hheap
    clear hheap
    have HA := Lib.hid hall
    clear hall
    by_cases hk0 : 0 ≤ k
    · obtain ⟨n, rfl⟩ : ∃ n : Nat, k = n := ⟨k.toNat, by omega⟩
      have hn5 : n < 5 := by omega
      have cN := HN.out n hn5
      rw [← hcell] at cN
      have cY := HYc.out n hn5
      rw [← hcell] at cY
      have cM := HM.out n hn5
      rw [← hcell] at cM
      have cD := HDc.out n hn5
      rw [← hcell] at cD
      have cF := HF.out n hn5
      have bY := HY.out n hn5
      have x0 : (0 : Int) ≤ n := hk0
      have x1 : (n : Int) < 5 := by omega
      have hnum : num (eY n) (eM n) (eD n) = eF n := rfl
      rw [hnum] at cF
      clear hnum hcell
      by_cases hle : eF n ≤ day
      · have h1 : 1 ≤ day := by have := eF_first n hn5; omega
        obtain ⟨m, d, hdt⟩ := HDt.out h1
        have HR := Lib.hid (fun W => rdate_is day y m d hdt W)
        have hy1 := hdt.1.1
        have hy2 := hdt.1.2.1
        have HC := Lib.hid (cur_top hn5 (fun j h1 h2 => by have := HA.out j (by omega) h2; omega) hle)
        have hsz := hb.size
        clear hdt HDt HA HH
        go_wp2
        go_quiet (first | (go_at_call 8; with_reducible refine Calls.quiet_of_same (cF _)))
        go_wp2_with (go_at_call 10; (with_reducible refine (HR.out _).mono ?_); rintro e w2 ⟨rfl, rfl⟩)
        go_quiet (fail)
        go_wp2
        (try simp only [Exit.inBlock, Exit.then]); refine bodyPost_ret (results_tmp3' rfl _ _ _) rfl ?_
        exact ⟨by rw [HC.out]; rfl, by first | exact below_drews hb _ | exact below_drews (below_drews hb _) _⟩
      · have HLE := Lib.hid hle
        go_wp2
        go_quiet (first | (go_at_call 8; with_reducible refine Calls.quiet_of_same (cF _)))
        go_wp2
        go_roundw
        case rel => exact ⟨(n : Int) - 1, rfl, by omega, by omega, fun j h1 h2 => by
          by_cases e : j = n
          · subst e; have := HLE.out; omega
          · exact HA.out j (by omega) h2, HH.out, below_drews hb _⟩
        case measure => simp [intOf] <;> omega
    · obtain rfl : k = -1 := by omega
      have hc : cur day 5 = none := cur_none fun j hj => by have := HA.out j (by omega) hj; omega
      have HC := Lib.hid hc
      clear hc
      go_wp2
      (try simp only [Exit.inBlock, Exit.then]); refine bodyPost_ret (results_tmp3' rfl _ _ _) rfl ?_
      exact ⟨by rw [HC.out]; rfl, hb⟩

end Go.Proofs.YteelmjmiankflaaDoor.Cal
