/-
  How long what is written is.
-/
import Derived.Test.YteelmjmiankflaaDoorNumE
set_option linter.unusedVariables false
set_option linter.unusedSimpArgs false
namespace Go.Proofs.YteelmjmiankflaaDoor.Num
open Go Go.RowKit Go.Proofs.YteelmjmiankflaaDoor.Kit Go.Proofs.YteelmjmiankflaaDoor.Utf

theorem eachS_size {out : Bool → Nat → Nat → List Int} {next : Bool → Nat → Nat → Bool} {m : Nat} (h : ∀ b d a, d ≤ 9 → a ≤ 19 → (encs (out b d a)).length ≤ m) :
    ∀ (ds : List Nat) (b : Bool), (∀ d ∈ ds, d ≤ 9) → ds.length ≤ 20 → (encs (eachS out next b ds)).length ≤ m * ds.length := by
  intro ds
  induction ds with
  | nil => intro b _ _; simp [eachS, encs]
  | cons d ds ih =>
    intro b h9 hl
    simp only [List.length_cons] at hl ⊢
    unfold eachS
    rw [encs_append, List.length_append]
    have h1 := h b d ds.length (h9 d (by simp)) (by omega)
    have h2 := ih (next b d ds.length) (fun x hx => h9 x (by simp [hx])) (by omega)
    rw [Nat.mul_succ]; omega
theorem size_uo {h : Nat → Nat → List Int} (hl : ∀ d, d ≤ 9 → ∀ u, u ≤ 3 → (encs (h d u)).length ≤ 6) : ∀ b d a, d ≤ 9 → a ≤ 19 → (encs (uo h b d a)).length ≤ 9 := by
  intro b d a h9 h19
  have h1 := hl d h9 (a % 4) (by omega)
  have h2 := len_gu (a / 4) (by omega)
  have h0 : (encs ([] : List Int)).length = 0 := rfl
  unfold uo
  rw [encs_append, List.length_append]
  split <;> split <;> omega
theorem size_kanji {ds : List Nat} (hd : DS ds) : (tx (kanjiC ds)).size ≤ 200 := by
  rw [tx_size]
  unfold kanjiC
  split
  · decide
  · have := eachS_size (next := un) (size_uo len_kp) ds false hd.2.2.1 hd.2.1
    have h20 := hd.2.1
    unfold units; omega
theorem size_form {ds : List Nat} (hd : DS ds) : (tx (formC ds)).size ≤ 200 := by
  rw [tx_size]
  unfold formC
  split
  · decide
  · have := eachS_size (next := un) (size_uo len_fp) ds false hd.2.2.1 hd.2.1
    have h20 := hd.2.1
    unfold units; omega
theorem size_pos {ds : List Nat} (hd : DS ds) : (tx (posC ds)).size ≤ 200 := by
  rw [tx_size]
  have := eachS_size (out := fun _ d _ => [pd d]) (next := fun b _ _ => b) (m := 3) (fun b d a h _ => Nat.le_of_eq (len_pd d h)) ds false hd.2.2.1 hd.2.1
  have h20 := hd.2.1
  unfold posC; omega

end Go.Proofs.YteelmjmiankflaaDoor.Num
