/-
  Contracts of numeral.digitOf, unitOf and groupOf.
-/
import Derived.Test.YtfkdlnaakmgclaaDoorNumE
set_option linter.unusedVariables false
set_option linter.unusedSimpArgs false
namespace Go.Proofs.YtfkdlnaakmgclaaDoor.Num
open Go Go.RowKit Go.Proofs.YtfkdlnaakmgclaaDoor.Kit Go.Proofs.YtfkdlnaakmgclaaDoor.Utf

theorem test_tx {a b : List Int} (ha : ∀ c ∈ a, validRune c = true) (hb : ∀ c ∈ b, validRune c = true) : ((tx a).toList == (tx b).toList) = decide (a = b) := by
  rw [ByteArray.toList_eq, ByteArray.toList_eq]
  by_cases h : a = b
  · simp [h]
  · have : ¬ (tx a).data.toList = (tx b).data.toList := fun e => h (tx_inj ha hb (ba_ext e))
    rw [decide_eq_false h]; simp only [beq_eq_false_iff_ne]; exact this
theorem test_t {a b : List Int} (ha : ∀ c ∈ a, validRune c = true) (hb : ∀ c ∈ b, validRune c = true) (h : a = b) : ((tx a).toList == (tx b).toList) = true := by rw [test_tx ha hb]; simpa using h
theorem test_f {a b : List Int} (ha : ∀ c ∈ a, validRune c = true) (hb : ∀ c ∈ b, validRune c = true) (h : ¬ a = b) : ((tx a).toList == (tx b).toList) = false := by rw [test_tx ha hb]; simpa using h

theorem val_one {c : Int} (h : validRune c = true) : ∀ x ∈ [c], validRune x = true := fun x hx => by rw [List.mem_singleton.1 hx]; exact h
theorem val_pd : ∀ d, d < 10 → ∀ x ∈ [pd d], validRune x = true := by decide
theorem val_fd : ∀ d, d < 10 → ∀ x ∈ [fd d], validRune x = true := by decide
theorem val_pu : ∀ d, d < 4 → ∀ x ∈ pu d, validRune x = true := by decide
theorem val_fu : ∀ d, d < 4 → ∀ x ∈ fu d, validRune x = true := by decide
theorem val_gu : ∀ d, d < 5 → ∀ x ∈ gu d, validRune x = true := by decide

theorem find_first {n i : Nat} {p : Nat → Bool} (h : i < n) (hp : p i = true) (hj : ∀ j, j < i → p j = false) : (List.range n).find? p = some i := by
  rw [List.find?_range_eq_some]
  exact ⟨hp, by simpa using h, fun j h => by simp [hj j h]⟩
theorem find_none {n : Nat} {p : Nat → Bool} (hj : ∀ j, j < n → p j = false) : (List.range n).find? p = none := by
  rw [List.find?_eq_none]
  intro x hx
  simp [hj x (by simpa using hx)]

def found (o : Option Nat) : Value := .tuple #[.int .i64 ((o.getD 0 : Nat) : Int), .bool o.isSome]

theorem digitOf_any (c : Int) (hc : validRune c = true) (w : World) (hL : Laid w) :
    Calls Tryd.prog 55 #[.int .i32 c] w fun e w' => e = .returned (found (dgt c)) ∧ w' = w := by
  have hE : Utf8.encode c = tx [c] := tx_one c
  have HC := Lib.hid hc; clear hc
  go_enter Tryd.func55, Tryd.ntmps55
  go_wp2
  go_loopw [4, 5, 6] (fun _ _ i wr => ∃ k : Nat, i = .int .i64 k ∧ k ≤ 10 ∧ wr = w ∧ Hid (∀ j, j < k → (pd j == c || fd j == c) = false)) (fun _ _ i _ => 10 - (intOf i).toNat)
  case atStart => exact ⟨0, rfl, by omega, rfl, Lib.hid (fun j h => absurd h (Nat.not_lt_zero j))⟩
  case round =>
    obtain ⟨k, rfl, hk, rfl, hno⟩ := hrel
    by_cases hlt : k < 10
    · have h1 := hL.pd k hlt
      have h2 := hL.fd k hlt
      by_cases e1 : [c] = [pd k]
      · have t1 := test_t (val_one HC.out) (val_pd k hlt) e1
        have hr : dgt c = some k := find_first hlt (by simp at e1; simp [e1]) hno.out
        have HR := Lib.hid hr
        clear hr e1 hno h2
        go_wp2
        go_ret2
        exact ⟨by rw [HR.out]; rfl, rfl⟩
      · have t1 := test_f (val_one HC.out) (val_pd k hlt) e1
        by_cases e2 : [c] = [fd k]
        · have t2 := test_t (val_one HC.out) (val_fd k hlt) e2
          have hr : dgt c = some k := find_first hlt (by simp at e2; simp [e2]) hno.out
          have HR := Lib.hid hr
          clear hr e1 e2 hno
          go_wp2
          go_ret2
          exact ⟨by rw [HR.out]; rfl, rfl⟩
        · have t2 := test_f (val_one HC.out) (val_fd k hlt) e2
          have hno2 : ∀ j, j < k + 1 → (pd j == c || fd j == c) = false := fun j hj => by
            by_cases e : j = k
            · subst e
              simp at e1 e2
              simp only [Bool.or_eq_false_iff, beq_eq_false_iff_ne]
              exact ⟨fun e => e1 e.symm, fun e => e2 e.symm⟩
            · exact hno.out j (by omega)
          have HN := Lib.hid hno2
          clear hno2 e1 e2 hno
          go_wp2
          go_roundw
          case rel => exact ⟨k + 1, by go_num, by omega, trivial, HN⟩
          case measure => simp [intOf]; omega
    · have : k = 10 := by omega
      subst this
      have HR := Lib.hid (show dgt c = none from find_none hno.out)
      clear hno
      go_wp2
      go_ret2
      exact ⟨by rw [HR.out]; rfl, rfl⟩

theorem unitOf_any (c : Int) (hc : validRune c = true) (w : World) (hL : Laid w) :
    Calls Tryd.prog 57 #[.int .i32 c] w fun e w' => e = .returned (found (unt c)) ∧ w' = w := by
  have hE : Utf8.encode c = tx [c] := tx_one c
  have HC := Lib.hid hc; clear hc
  go_enter Tryd.func57, Tryd.ntmps57
  go_wp2
  go_loopw [4, 5, 6] (fun _ _ i wr => ∃ k : Nat, i = .int .i64 k ∧ k ≤ 4 ∧ wr = w ∧ Hid (∀ j, j < k → (pu j == [c] || fu j == [c]) = false)) (fun _ _ i _ => 4 - (intOf i).toNat)
  case atStart => exact ⟨0, rfl, by omega, rfl, Lib.hid (fun j h => absurd h (Nat.not_lt_zero j))⟩
  case round =>
    obtain ⟨k, rfl, hk, rfl, hno⟩ := hrel
    by_cases hlt : k < 4
    · have h1 := hL.pu k hlt
      have h2 := hL.fu k hlt
      by_cases e1 : [c] = pu k
      · have t1 := test_t (val_one HC.out) (val_pu k hlt) e1
        have hr : unt c = some k := find_first hlt (by rw [← e1]; simp) hno.out
        have HR := Lib.hid hr
        clear hr e1 hno h2
        go_wp2
        go_ret2
        exact ⟨by rw [HR.out]; rfl, rfl⟩
      · have t1 := test_f (val_one HC.out) (val_pu k hlt) e1
        by_cases e2 : [c] = fu k
        · have t2 := test_t (val_one HC.out) (val_fu k hlt) e2
          have hr : unt c = some k := find_first hlt (by rw [← e2]; simp) hno.out
          have HR := Lib.hid hr
          clear hr e1 e2 hno
          go_wp2
          go_ret2
          exact ⟨by rw [HR.out]; rfl, rfl⟩
        · have t2 := test_f (val_one HC.out) (val_fu k hlt) e2
          have hno2 : ∀ j, j < k + 1 → (pu j == [c] || fu j == [c]) = false := fun j hj => by
            by_cases e : j = k
            · subst e
              simp only [Bool.or_eq_false_iff, beq_eq_false_iff_ne]
              exact ⟨fun e => e1 e.symm, fun e => e2 e.symm⟩
            · exact hno.out j (by omega)
          have HN := Lib.hid hno2
          clear hno2 e1 e2 hno
          go_wp2
          go_roundw
          case rel => exact ⟨k + 1, by go_num, by omega, trivial, HN⟩
          case measure => simp [intOf]; omega
    · have : k = 4 := by omega
      subst this
      have HR := Lib.hid (show unt c = none from find_none hno.out)
      clear hno
      go_wp2
      go_ret2
      exact ⟨by rw [HR.out]; rfl, rfl⟩

theorem groupOf_any (c : Int) (hc : validRune c = true) (w : World) (hL : Laid w) :
    Calls Tryd.prog 58 #[.int .i32 c] w fun e w' => e = .returned (found (grp c)) ∧ w' = w := by
  have hE : Utf8.encode c = tx [c] := tx_one c
  have HC := Lib.hid hc; clear hc
  go_enter Tryd.func58, Tryd.ntmps58
  go_wp2
  go_loopw [4, 5] (fun _ i wr => ∃ k : Nat, i = .int .i64 k ∧ k ≤ 5 ∧ wr = w ∧ Hid (∀ j, j < k → (gu j == [c]) = false)) (fun _ i _ => 5 - (intOf i).toNat)
  case atStart => exact ⟨0, rfl, by omega, rfl, Lib.hid (fun j h => absurd h (Nat.not_lt_zero j))⟩
  case round =>
    obtain ⟨k, rfl, hk, rfl, hno⟩ := hrel
    by_cases hlt : k < 5
    · have h1 := hL.gu k hlt
      by_cases e1 : [c] = gu k
      · have t1 := test_t (val_one HC.out) (val_gu k hlt) e1
        have hr : grp c = some k := find_first hlt (by rw [← e1]; simp) hno.out
        have HR := Lib.hid hr
        clear hr e1 hno
        go_wp2
        go_ret2
        exact ⟨by rw [HR.out]; rfl, rfl⟩
      · have t1 := test_f (val_one HC.out) (val_gu k hlt) e1
        have hno2 : ∀ j, j < k + 1 → (gu j == [c]) = false := fun j hj => by
          by_cases e : j = k
          · subst e
            simp only [beq_eq_false_iff_ne]
            exact fun e => e1 e.symm
          · exact hno.out j (by omega)
        have HN := Lib.hid hno2
        clear hno2 e1 hno
        go_wp2
        go_roundw
        case rel => exact ⟨k + 1, by go_num, by omega, trivial, HN⟩
        case measure => simp [intOf]; omega
    · have : k = 5 := by omega
      subst this
      have HR := Lib.hid (show grp c = none from find_none hno.out)
      clear hno
      go_wp2
      go_ret2
      exact ⟨by rw [HR.out]; rfl, rfl⟩

end Go.Proofs.YtfkdlnaakmgclaaDoor.Num
