/-
  Contracts of Select, of the function that it makes, and of sort.Search.
-/
import Derived.Test.YtleegkocahobkaaBvF
set_option linter.unusedVariables false
set_option linter.unusedSimpArgs false
set_option maxRecDepth 100000
namespace Go.Proofs.Ytleegkocahobkaa.Bv
open Go Go.RowKit Go.Proofs.Ytleegkocahobkaa.Kit

/-- Of a search: nothing below the place is found, and at the place it is, if that is not the end. -/
def Found (n : Nat) (p : Nat → Bool) (r : Nat) : Prop := r ≤ n ∧ (∀ t, t < r → p t = false) ∧ (r < n → p r = true)
def SearchPost (n : Nat) (p : Nat → Bool) (w : World) (e : Ending) (w' : World) : Prop := ∃ r : Nat, e = .returned (.int .i64 (r : Int)) ∧ Found n p r ∧ Below w.heap.size w w'

set_option maxHeartbeats 1000000 in
theorem search_any (n : Nat) (hn : n ≤ 1048576) (F : FuncId) (caps : Array Value) (p : Nat → Bool) (w : World) (eF : ∀ args w, (callFunc F args).run Try.prog w = .ok (.enter F args) w)
    (hm : ∀ i j, i ≤ j → p i = true → p j = true)
    (hF : ∀ W, Below w.heap.size w W → ∀ i : Nat, i < n → Calls Try.prog F (#[.int .i64 (i : Int)] ++ caps) W fun e W' => e = .returned (.bool (p i)) ∧ Below w.heap.size W W') :
    Calls Try.prog 28 #[.int .i64 (n : Int), .func (.func F) #[] caps] w (SearchPost n p w) := by
  have HM := Lib.hid hm
  have HF := Lib.hid hF
  clear hm hF
  have hp0 : Hid (∀ t, t < 0 → p t = false) := Lib.hid (fun t h => by omega)
  have hpn : Hid (∀ t, n ≤ t → t < n → p t = true) := Lib.hid (fun t h1 h2 => by omega)
  go_enter Try.func28, Try.ntmps28
  go_wp2
  go_loopw [5, 6] (fun x y wr => ∃ lo hi : Nat, x = .int .i64 lo ∧ y = .int .i64 hi ∧ lo ≤ hi ∧ hi ≤ n ∧ Hid (∀ t, t < lo → p t = false) ∧ Hid (∀ t, hi ≤ t → t < n → p t = true) ∧ Below w.heap.size w wr) (fun x y _ => (intOf y - intOf x).toNat)
  case atStart => exact ⟨0, n, rfl, rfl, Nat.zero_le _, Nat.le_refl _, hp0, hpn, Below.refl _ _⟩
  case round =>
    clear hp0 hpn
    obtain ⟨lo, hi, rfl, rfl, hlh, hin, hL, hH, hb⟩ := hrel
    by_cases hlt : lo < hi
    · obtain ⟨m, hm⟩ : ∃ m, (lo + hi) / 2 = m := ⟨_, rfl⟩
      have hmz : ((lo : Int) + (hi : Int)) / 2 = (m : Int) := by omega
      have h1 : lo ≤ m := by omega
      have h2 : m < hi := by omega
      have hC := HF.out _ hb m (by omega)
      have hwm : ((lo : Int) + (hi : Int)) % 18446744073709551616 = (lo : Int) + (hi : Int) := by omega
      cases hp : p m <;> rw [hp] at hC
      · have hL2 : Hid (∀ t, t < m + 1 → p t = false) := Lib.hid (fun t ht => by
          cases hq : p t with
          | false => rfl
          | true => rw [HM.out t m (by omega) hq] at hp; cases hp)
        have HC := Lib.hid hC
        clear hC hp hm hwm
        go_wp2_with (refine (HC.out).mono ?_; rintro e w5 ⟨rfl, hb5⟩)
        go_roundw
        case rel => exact ⟨m + 1, hi, by go_num, rfl, by omega, hin, hL2, hH, hb.trans (hb5.mono (Nat.le_refl _))⟩
        case measure => simp [intOf]; omega
      · have hH2 : Hid (∀ t, m ≤ t → t < n → p t = true) := Lib.hid (fun t ht _ => HM.out m t ht hp)
        have HC := Lib.hid hC
        clear hC hp hm hwm
        go_wp2_with (refine (HC.out).mono ?_; rintro e w5 ⟨rfl, hb5⟩)
        go_roundw
        case rel => exact ⟨lo, m, rfl, rfl, h1, by omega, hL, hH2, hb.trans (hb5.mono (Nat.le_refl _))⟩
        case measure => simp [intOf]; omega
    · obtain rfl : hi = lo := by omega
      go_wp2
      go_ret
      exact ⟨hi, rfl, ⟨hin, hL.out, fun h => hH.out hi (Nat.le_refl _) h⟩, hb⟩
/-! ### Select -/
theorem rank_next {l : List Bool} (b : Bool) {t : Nat} (h : t < l.length) : rank l b ((t : Int) + 1) = rk l b (t + 1) := by
  rw [show (t : Int) + 1 = ((t + 1 : Nat) : Int) by omega, rank_nat l b (by omega)]
theorem rank_mono (l : List Bool) (b : Bool) {i j : Int} (h : i ≤ j) : rank l b i ≤ rank l b j := by
  unfold rank; exact rk_mono l b (by omega)
/-- What Select answers behind its search. -/
theorem sel_search {l : List Bool} {b : Bool} {k : Int} {r : Nat} (h : Found l.length (fun i => decide (k < (rank l b ((i : Int) + 1) : Int))) r) :
    (k < 0 → sel l b k = -1) ∧ (0 ≤ k → r = l.length → sel l b k = -1) ∧ (0 ≤ k → r < l.length → sel l b k = (r : Int)) := by
  obtain ⟨h1, h2, h3⟩ := h
  refine ⟨fun hk => sel_neg hk, fun hk hr => sel_end fun t ht => ?_, fun hk hr => sel_found hk hr (fun t ht => ?_) ?_⟩
  · have := h2 t (by omega)
    rw [decide_eq_false_iff_not, rank_next b ht] at this
    omega
  · have := h2 t ht
    rw [decide_eq_false_iff_not, rank_next b (by omega)] at this
    omega
  · have := h3 hr
    rw [decide_eq_true_iff, rank_next b hr] at this
    exact this

end Go.Proofs.Ytleegkocahobkaa.Bv
