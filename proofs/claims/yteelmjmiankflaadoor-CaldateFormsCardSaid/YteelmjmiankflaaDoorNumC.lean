/-
  Contracts of the functions that write parts of numbers.
-/
import Derived.Test.YteelmjmiankflaaDoorNumB
set_option linter.unusedVariables false
set_option linter.unusedSimpArgs false
namespace Go.Proofs.YteelmjmiankflaaDoor.Num
open Go Go.RowKit Go.Proofs.YteelmjmiankflaaDoor.Kit Go.Proofs.YteelmjmiankflaaDoor.Utf

/-- What writes a digit other than 0 with its unit. -/
def Unit1 (F : FuncId) (h : Nat → Nat → List Int) : Prop :=
  ∀ (d u : Nat) (x y : Int) (W : World), x = d → y = u → 1 ≤ d → d ≤ 9 → u ≤ 3 → Laid W →
    Calls Tryd.prog F #[.int .i64 x, .int .i64 y] W fun e W' => e = .returned (.string (tx (h d u))) ∧ Below W.heap.size W W'

theorem below_drewN (w : World) (n : Nat) : Below w.heap.size w (w.drewN n) := by
  refine ⟨rfl, rfl, rfl, Nat.le_refl _, fun _ _ => rfl⟩

theorem add_tx (a b : List Int) (h : (encs a).length + (encs b).length ≤ 8388608) : ∀ w, (Op.stringOp .add (tx a) (tx b)).run Tryd.prog w = .ok (.string (tx (a ++ b))) w := by
  intro w
  rw [← tx_append]
  exact run_string_add_sum (P := Tryd.prog) (w := w) _ _ (by rw [tx_size, tx_size]; omega)
theorem len_pd : ∀ d, d ≤ 9 → (encs [pd d]).length = 3 := by decide
theorem len_fd : ∀ d, d ≤ 9 → (encs [fd d]).length = 3 := by decide
theorem len_pu : ∀ d, d ≤ 3 → (encs (pu d)).length ≤ 3 := by decide
theorem len_fu : ∀ d, d ≤ 3 → (encs (fu d)).length ≤ 3 := by decide
theorem len_gu : ∀ d, d ≤ 4 → (encs (gu d)).length ≤ 3 := by decide

theorem kanji1 : Unit1 50 kp := by
  intro d u x y W hx hy hd1 hd9 hu hL
  have hx1 : 1 ≤ x := by omega
  have hx9 : x ≤ 9 := by omega
  have hy0 : 0 ≤ y := by omega
  have hy3 : y ≤ 3 := by omega
  have hxa : 0 ≤ x := by omega
  have hxb : x < 10 := by omega
  have hyb : y < 4 := by omega
  have h1 : W.cell? ⟨4, x.toNat, none⟩ = some (.string (tx [pd d])) := by rw [show x.toNat = d by omega]; exact hL.pd d (by omega)
  have h2 : W.cell? ⟨3, y.toNat, none⟩ = some (.string (tx (pu u))) := by rw [show y.toNat = u by omega]; exact hL.pu u (by omega)
  have hadd := add_tx [pd d] (pu u) (by have := len_pd d hd9; have := len_pu u hu; omega)
  by_cases hc : x = 1 ∧ 0 < y
  · have hk : kp d u = pu u := by unfold kp; rw [if_pos (by omega)]
    have hk := Lib.hid hk
    obtain ⟨hc1, hc2⟩ := hc
    subst hc1
    clear hx hy hadd
    go_enter Tryd.func50, Tryd.ntmps50
    go_wp2
    go_ret
    exact ⟨by rw [hk.out]; rfl, Below.refl _ _⟩
  · have hk : kp d u = pd d :: pu u := by unfold kp; rw [if_neg (by omega)]
    have hk := Lib.hid hk
    have hcase : ((x == 1) = true ∧ decide (0 < y) = false) ∨ (x == 1) = false := by
      by_cases e : x = 1
      · left; exact ⟨by simp [e], by simp; omega⟩
      · right; simp [e]
    clear hc hx hy
    rcases hcase with ⟨e1, e2⟩ | e1
    · go_enter Tryd.func50, Tryd.ntmps50
      go_wp2
      try clear e1
      try clear e2
      go_quiet (fail)
      go_wp2
      go_ret
      exact ⟨by rw [hk.out]; rfl, by first | exact Below.refl _ _ | exact below_drewN _ _⟩
    · go_enter Tryd.func50, Tryd.ntmps50
      go_wp2
      try clear e1
      try clear e2
      go_quiet (fail)
      go_wp2
      go_ret
      exact ⟨by rw [hk.out]; rfl, by first | exact Below.refl _ _ | exact below_drewN _ _⟩

/-- strconv.Itoa at a digit. -/
theorem itoa_digit (d : Nat) (x : Int) (w : World) (hx : x = d) (hd : d ≤ 9) :
    Calls Tryd.prog 35 #[.int .i64 x] w fun e w' => e = .returned (.string (tx [48 + (d : Int)])) ∧ w' = w := by
  subst hx
  have h := Tryd.strconv_Itoa_small d (by omega) w
  rw [Lib.decDigits_one (by omega)] at h
  have e : tx [48 + (d : Int)] = ⟨[UInt8.ofNat (48 + d)].toArray⟩ := by unfold tx; rw [encs_cons, dg_enc d hd]; rfl
  rw [e]
  exact h

end Go.Proofs.YteelmjmiankflaaDoor.Num
