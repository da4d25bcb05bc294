/-
  Contract of the laws' sameTexts, at lists that are the same; Forms and the reference's, for whatever is asked.
-/
import Derived.Test.YteelmjmiankflaaDoorCalW
set_option linter.unusedVariables false
set_option linter.unusedSimpArgs false
namespace Go.Proofs.YteelmjmiankflaaDoor.Cal
open Go Go.RowKit Go.Proofs.YteelmjmiankflaaDoor.Kit Go.Proofs.YteelmjmiankflaaDoor.Utf
open Go.Proofs.YteelmjmiankflaaDoor.Num

theorem same_list (s : ByteArray) : (s.toList == s.toList) = true := by simp

theorem row_at {w : World} {a : Option Addr} {len cap : Nat} {l : List ByteArray} (h : Reads w (.slice a len cap) (l.map Value.string)) {i : Nat} (hi : i < l.length) :
    ∃ b off, a = some ⟨b, off, none⟩ ∧ w.cell? ⟨b, off + i, none⟩ = some (.string l[i]) := by
  obtain ⟨a', len', cap', e', h1', h2', h3', hx⟩ := h
  cases e'
  rw [List.length_map] at h1'
  rcases hx with ⟨_, h0, _⟩ | ⟨x, _, h0⟩ | ⟨b, off, e2, _, hx⟩
  · omega
  · omega
  · exact ⟨b, off, e2, hx i _ (by rw [List.getElem?_map, List.getElem?_eq_getElem hi]; rfl)⟩

theorem texts_eq (l : List ByteArray) (v1 v2 : Value) (w : World) (h1 : Reads w v1 (l.map Value.string)) (h2 : Reads w v2 (l.map Value.string)) :
    Calls Tryd.prog 16 #[v1, v2] w fun e w' => e = .returned (.bool true) ∧ Below w.heap.size w w' := by
  obtain ⟨a1, n1, c1, rfl, e1, k1, m1, _⟩ := id h1
  obtain ⟨a2, n2, c2, rfl, e2, k2, m2, _⟩ := id h2
  rw [List.length_map] at e1 e2
  obtain rfl : n1 = n2 := by omega
  obtain ⟨n, hn⟩ : ∃ n, l.length = n := ⟨_, rfl⟩
  rw [hn] at e1
  obtain rfl : n1 = n := e1
  unfold maxLen at m1 m2
  have H1 := Lib.hid (fun i (hi : i < l.length) => row_at h1 hi)
  have H2 := Lib.hid (fun i (hi : i < l.length) => row_at h2 hi)
  have HN := Lib.hid hn
  clear h1 h2 e2 hn
  go_enter Tryd.func16, Tryd.ntmps16
  go_wp2
  go_loopw [5] (fun iv wr => ∃ i : Nat, iv = .int .i64 i ∧ i ≤ n1 ∧ ∃ n, wr = w.drewN n) (fun iv _ => n1 - (intOf iv).toNat)
  case atStart => exact ⟨0, rfl, Nat.zero_le _, 0, rfl⟩
  case round =>
    obtain ⟨i, rfl, hi, m0, rfl⟩ := hrel
    by_cases hlt : i < n1
    · have hil : i < l.length := by rw [HN.out]; exact hlt
      obtain ⟨b1, o1, q1, x1⟩ := H1.out i hil
      obtain ⟨b2, o2, q2, x2⟩ := H2.out i hil
      subst q1
      subst q2
      obtain ⟨x, hx⟩ : ∃ x, l[i] = x := ⟨_, rfl⟩
      rw [hx] at x1 x2
      have hs := same_list x
      have i0 : (0 : Int) ≤ (i : Int) := by omega
      have i1 : (i : Int) < (n1 : Int) := by omega
      clear hx hil hi
      go_wp2
      go_quiet (fail)
      go_wp2
      go_roundw
      case rel => exact ⟨i + 1, by go_num, by omega, by first | exact ⟨_, rfl⟩ | exact ⟨_, World.drewN_drewN _ _ _⟩⟩
      case measure => simp [intOf] <;> omega
    · have : i = n1 := by omega
      subst this
      clear hlt
      go_wp2
      go_ret
      exact ⟨rfl, below_drews (Below.refl _ _) _⟩

theorem strs_map (l : List (List Int)) : strs l = (l.map tx).map Value.string := by unfold strs; rw [List.map_map]; rfl

/-- Both list the same. -/
theorem forms_both (day : Int) (hb0 : -9223372036854775808 ≤ day) : ∃ l : List ByteArray,
    (∀ w, FLaid w → Calls Tryd.prog 17 #[.int .i64 day] w fun e w' => ∃ v, e = .returned v ∧ Reads w' v (l.map Value.string) ∧ Below w.heap.size w w') ∧
    (∀ w, FLaid w → Calls Tryd.prog 18 #[.int .i64 day] w fun e w' => ∃ v, e = .returned v ∧ Reads w' v (l.map Value.string) ∧ Below w.heap.size w w') := by
  rcases dates day with ⟨h, hd⟩ | ⟨h, _⟩
  · obtain ⟨⟨g1, g2, g3, g4, g5, g6⟩, _⟩ := id hd
    obtain ⟨y, hy⟩ : ∃ y : Nat, dY day = y := ⟨(dY day).toNat, by omega⟩
    obtain ⟨m, hm⟩ : ∃ m : Nat, dM day = m := ⟨(dM day).toNat, by omega⟩
    obtain ⟨d, hdd⟩ : ∃ d : Nat, dD day = d := ⟨(dD day).toNat, by omega⟩
    rw [hy, hm, hdd] at hd
    refine ⟨(allForms day y m d).map tx, fun w hL => ?_, fun w hL => ?_⟩
    · refine (forms_at day y m d hd w hL).mono ?_
      rintro e w' ⟨v, rfl, ho, hb⟩
      rw [strs_map] at ho
      exact ⟨v, rfl, own_reads ho, hb⟩
    · refine (rforms_at day y m d hd hb0 w hL).mono ?_
      rintro e w' ⟨v, rfl, ho, hb⟩
      rw [strs_map] at ho
      exact ⟨v, rfl, own_reads ho, hb⟩
  · refine ⟨[], fun w hL => ?_, fun w hL => ?_⟩
    · refine (forms_not day h w).mono ?_
      rintro e w' ⟨rfl, hb⟩
      exact ⟨_, rfl, ⟨none, 0, 0, rfl, rfl, Nat.le_refl _, by simp [maxLen], .inl ⟨rfl, rfl, rfl⟩⟩, hb⟩
    · refine (rforms_not day h w).mono ?_
      rintro e w' ⟨rfl, rfl⟩
      exact ⟨_, rfl, ⟨none, 0, 0, rfl, rfl, Nat.le_refl _, by simp [maxLen], .inl ⟨rfl, rfl, rfl⟩⟩, Below.refl _ _⟩

end Go.Proofs.YteelmjmiankflaaDoor.Cal
