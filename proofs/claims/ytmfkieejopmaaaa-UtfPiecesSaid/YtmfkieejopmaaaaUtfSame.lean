/-
  Contract of the reference's Same.
-/
import Derived.Test.YtmfkieejopmaaaaUtfE
set_option linter.unusedVariables false
set_option linter.unusedSimpArgs false
namespace Go.Proofs.Ytmfkieejopmaaaa.Utf
open Go Go.RowKit Go.Proofs.Ytmfkieejopmaaaa.Kit

def same (xs ys : List Int) : Bool := decide (xs = ys)
theorem same_self (xs : List Int) : same xs xs = true := by simp [same]
theorem take_eq_of_step {xs ys : List Int} {k : Nat} (hx : k < xs.length) (hy : k < ys.length) (h : xs.take k = ys.take k) (he : xs[k] = ys[k]) : xs.take (k + 1) = ys.take (k + 1) := by
  rw [List.take_succ_eq_append_getElem hx, List.take_succ_eq_append_getElem hy, h, he]

theorem same_any (xs ys : List Int) (va vb : Value) (w : World) (ha : Reads w va (ints xs)) (hb : Reads w vb (ints ys)) :
    Calls Try.prog 13 #[va, vb] w fun e w' => e = .returned (.bool (same xs ys)) ∧ ∃ n, w' = w.drewN n := by
  obtain ⟨a, la, ca, rfl, hla, hca, hma, ha⟩ := ha
  obtain ⟨b, lb, cb, rfl, hlb, hcb, hmb, hb⟩ := hb
  rw [List.length_map] at hla hlb
  subst hla hlb
  unfold maxLen at hma hmb
  by_cases hl : xs.length = ys.length
  · have hne : ((xs.length : Int) != (ys.length : Int)) = false := by simp; omega
    have HL := Lib.hid hl; clear hl
    go_enter Try.func13, Try.ntmps13
    go_wp2
    go_loopw [5] (fun i wr => ∃ k nq : Nat, k ≤ xs.length ∧ i = .int .i64 k ∧ wr = w.drewN nq ∧ xs.take k = ys.take k) (fun i _ => xs.length - (intOf i).toNat)
    case atStart => exact ⟨0, 0, Nat.zero_le _, rfl, rfl, by simp⟩
    case round =>
      obtain ⟨k, nq, hk, rfl, rfl, hp⟩ := hrel
      by_cases hlt : k < xs.length
      · have hlt2 : k < ys.length := by have := HL.out; omega
        rcases ha with ⟨_, h0, _⟩ | ⟨_, _, h0⟩ | ⟨ba, oa, rfl, hba, hxa⟩
        · omega
        · omega
        rcases hb with ⟨_, h0, _⟩ | ⟨_, _, h0⟩ | ⟨bb, ob, rfl, hbb, hxb⟩
        · omega
        · omega
        have c1 : w.cell? ⟨ba, oa + k, none⟩ = some (.int .i32 xs[k]) := hxa k _ (by rw [List.getElem?_map, List.getElem?_eq_getElem hlt]; rfl)
        have c2 : w.cell? ⟨bb, ob + k, none⟩ = some (.int .i32 ys[k]) := hxb k _ (by rw [List.getElem?_map, List.getElem?_eq_getElem hlt2]; rfl)
        clear hxa hxb
        by_cases he : xs[k] = ys[k]
        · have hs := Lib.hid (take_eq_of_step hlt hlt2 hp he)
          clear hp
          obtain ⟨x, hx⟩ : ∃ x, xs[k] = x := ⟨_, rfl⟩
          rw [← he, hx] at c2; rw [hx] at c1
          clear he hx
          go_wp2
          go_quiet (fail)
          go_wp2
          go_roundw
          case rel => exact ⟨k + 1, _, by omega, by go_num, rfl, hs.out⟩
          case measure => simp [intOf]; omega
        · have hf : same xs ys = false := by
            unfold same; rw [decide_eq_false_iff_not]; intro e; subst e; exact he rfl
          have HF := Lib.hid hf; clear hf hp
          have hq : (xs[k] != ys[k]) = true := by simpa using he
          obtain ⟨x, hx⟩ : ∃ x, xs[k] = x := ⟨_, rfl⟩
          obtain ⟨y, hy⟩ : ∃ y, ys[k] = y := ⟨_, rfl⟩
          rw [hx] at c1; rw [hy] at c2; rw [hx, hy] at hq
          clear he hx hy
          go_wp2
          go_quiet (fail)
          go_wp2
          go_ret
          exact ⟨ret_bool HF.out.symm, _, World.drewN_drewN _ _ _⟩
      · have hf : same xs ys = true := by
          have := HL.out
          rw [List.take_of_length_le (by omega), List.take_of_length_le (by omega)] at hp
          unfold same; simpa using hp
        have HF := Lib.hid hf; clear hf hp
        go_wp2
        go_ret
        exact ⟨ret_bool HF.out.symm, _, rfl⟩
  · have hne : ((xs.length : Int) != (ys.length : Int)) = true := by simp; omega
    have hf : same xs ys = false := by
      unfold same; rw [decide_eq_false_iff_not]; intro e; subst e; exact hl rfl
    have HF := Lib.hid hf; clear hf hl
    go_enter Try.func13, Try.ntmps13
    go_wp2
    go_ret
    exact ⟨ret_bool HF.out.symm, 0, rfl⟩

end Go.Proofs.Ytmfkieejopmaaaa.Utf
