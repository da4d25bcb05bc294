/-
  Numbers group by group; contract of the laws' digits.
-/
import Derived.Test.YtfkdlnaakmgclaaDoorNumQ
set_option linter.unusedVariables false
set_option linter.unusedSimpArgs false
namespace Go.Proofs.YtfkdlnaakmgclaaDoor.Num
open Go Go.RowKit Go.Proofs.YtfkdlnaakmgclaaDoor.Kit Go.Proofs.YtfkdlnaakmgclaaDoor.Utf

/-- The digits of a number below 10000. -/
def dn4 (n : Nat) : List Nat := if n < 10 then [n] else if n < 100 then [n / 10, n % 10] else if n < 1000 then [n / 100, n / 10 % 10, n % 10] else [n / 1000, n / 100 % 10, n / 10 % 10, n % 10]
theorem dn4_len (n : Nat) : 1 ≤ (dn4 n).length ∧ (dn4 n).length ≤ 4 := by unfold dn4; split <;> (try split) <;> (try split) <;> simp
theorem dn4_ds (n : Nat) (h : n < 10000) : DS (dn4 n) := by
  refine ⟨(dn4_len n).1, Nat.le_trans (dn4_len n).2 (by decide), ?_, ?_⟩
  · unfold dn4; split <;> (try split) <;> (try split) <;> (intro d hd; simp at hd; omega)
  · unfold dn4; split <;> (try split) <;> (try split) <;> (intro hh; simp at hh ⊢; omega)
theorem dn4_head (n : Nat) (h0 : 1 ≤ n) (h : n < 10000) : ∃ d t, dn4 n = d :: t ∧ d ≠ 0 := by
  unfold dn4
  split
  · exact ⟨_, _, rfl, by omega⟩
  · split
    · exact ⟨_, _, rfl, by omega⟩
    · split
      · exact ⟨_, _, rfl, by omega⟩
      · exact ⟨_, _, rfl, by omega⟩

theorem digits_one (n : Nat) (h : n < 10) (x : Int) (hx : x = n) (w : World) :
    Calls Tryd.prog 27 #[.int .i64 x] w fun e w' => e = .returned (.string (dg [n])) ∧ w = w' := by
  have h0 : 0 ≤ x := by omega
  have h10 : x < 10 := by omega
  have hsl := fun w => cut_digit n (by omega) .i64 .i64 x (x + 1) hx (by omega) w
  clear hx
  go_enter Tryd.func27, Tryd.ntmps27
  go_wp2
  go_ret
  exact ⟨rfl, rfl⟩
theorem digits_more (n : Nat) (h : 10 ≤ n) (h4 : n < 10000) (l : List Nat) (hl : l.length ≤ 4) (hd : ∀ (y : Int) w, y = (n / 10 : Nat) → Calls Tryd.prog 27 #[.int .i64 y] w fun e w' => e = .returned (.string (dg l)) ∧ w = w') (x : Int) (hx : x = n) (w : World) :
    Calls Tryd.prog 27 #[.int .i64 x] w fun e w' => e = .returned (.string (dg (l ++ [n % 10]))) ∧ w = w' := by
  have h0 : 0 ≤ x := by omega
  have h10 : 10 ≤ x := by omega
  have h11 : x < 10000 := by omega
  have HD := Lib.hid (hd (x / 10) w (by omega))
  have H1 := Lib.hid (digits_one (n % 10) (by omega) (x % 10) (by omega) w)
  have hadd : ∀ w, (Op.stringOp .add (dg l) (dg [n % 10])).run Tryd.prog w = .ok (.string (dg (l ++ [n % 10]))) w := fun w => by
    rw [← dg_append]
    exact run_string_add_sum (P := Tryd.prog) (w := w) _ _ (by rw [dg_size, dg_size]; simp; omega)
  clear hx hd
  go_enter Tryd.func27, Tryd.ntmps27
  go_wp2_with (first
    | (go_at_call 27; (with_reducible refine HD.out.mono ?_); rintro e w' ⟨rfl, rfl⟩)
    | (go_at_call 27; (with_reducible refine H1.out.mono ?_); rintro e w' ⟨rfl, rfl⟩))
  go_ret
  exact ⟨rfl, rfl⟩
theorem digits_any (n : Nat) (h : n < 10000) (x : Int) (hx : x = n) (w : World) :
    Calls Tryd.prog 27 #[.int .i64 x] w fun e w' => e = .returned (.string (dg (dn4 n))) ∧ w = w' := by
  have c1 : ∀ m, m < 10 → ∀ (y : Int) w, y = (m : Nat) → Calls Tryd.prog 27 #[.int .i64 y] w fun e w' => e = .returned (.string (dg [m])) ∧ w = w' := fun m hm y w hy => digits_one m hm y hy w
  have c2 : ∀ m, 10 ≤ m → m < 100 → ∀ (y : Int) w, y = (m : Nat) → Calls Tryd.prog 27 #[.int .i64 y] w fun e w' => e = .returned (.string (dg [m / 10, m % 10])) ∧ w = w' := fun m h1 h2 y w hy => digits_more m h1 (by omega) [m / 10] (by simp) (c1 _ (by omega)) y hy w
  have c3 : ∀ m, 100 ≤ m → m < 1000 → ∀ (y : Int) w, y = (m : Nat) → Calls Tryd.prog 27 #[.int .i64 y] w fun e w' => e = .returned (.string (dg [m / 100, m / 10 % 10, m % 10])) ∧ w = w' := fun m h1 h2 y w hy => by
    have := digits_more m (by omega) (by omega) _ (by simp) (c2 (m / 10) (by omega) (by omega)) y hy w
    rw [show m / 10 / 10 = m / 100 by omega] at this
    exact this
  unfold dn4
  split
  · exact c1 n (by omega) x w hx
  · split
    · exact c2 n (by omega) (by omega) x w hx
    · split
      · exact c3 n (by omega) (by omega) x w hx
      · have := digits_more n (by omega) (by omega) _ (by simp) (c3 (n / 10) (by omega) (by omega)) x hx w
        rw [show n / 10 / 100 = n / 1000 by omega, show n / 10 / 10 % 10 = n / 100 % 10 by omega] at this
        exact this

/-! ### Groups -/
theorem units_app (h : Nat → Nat → List Int) : ∀ (ds : List Nat) (b : Bool) (es : List Nat) (k : Nat), es.length = 4 * k → 1 ≤ k → ds ≠ [] → ds.length ≤ 4 → (b = true ∨ ∃ d ∈ ds, d ≠ 0) →
    units h b (ds ++ es) = units h b ds ++ (gu k ++ units h false es) := by
  intro ds
  induction ds with
  | nil => intro b es k _ _ h0; exact absurd rfl h0
  | cons d ds ih =>
    intro b es k he hk _ hl hb
    simp only [List.length_cons] at hl
    rw [List.cons_append, units_cons, units_cons]
    by_cases hds : ds = []
    · subst hds
      have hbd : b = true ∨ d ≠ 0 := by
        rcases hb with hb | ⟨x, hx, hx0⟩
        · exact .inl hb
        · rw [List.mem_singleton.1 hx] at hx0; exact .inr hx0
      have e1 : uo h b d ([] ++ es).length = (if d = 0 then [] else h d 0) ++ gu k := by
        unfold uo
        rw [List.nil_append, he, show 4 * k % 4 = 0 by omega, show 4 * k / 4 = k by omega]
        have e0 : (if (0 : Nat) = 0 ∧ (b = true ∨ d ≠ 0) then gu k else ([] : List Int)) = gu k := if_pos ⟨rfl, hbd⟩
        rw [e0]
      have e2 : un b d ([] ++ es).length = false := by unfold un; rw [List.nil_append, he, if_pos (by omega)]
      have e3 : uo h b d ([] : List Nat).length = (if d = 0 then [] else h d 0) := by
        unfold uo
        simp [gu]
      rw [e1, e2, e3]
      simp [units, eachS]
    · have hn1 : 1 ≤ ds.length := by cases ds with
        | nil => exact absurd rfl hds
        | cons => simp
      have hm : (ds ++ es).length % 4 = ds.length % 4 := by rw [List.length_append, he]; omega
      have hm0 : ds.length % 4 ≠ 0 := by omega
      have e1 : uo h b d (ds ++ es).length = uo h b d ds.length := by
        unfold uo
        rw [hm]
        simp only [hm0, false_and, if_false]
      have e2 : un b d (ds ++ es).length = un b d ds.length := by unfold un; rw [hm]
      rw [e1, e2, ih _ es k he hk hds (by omega) ?_, List.append_assoc]
      unfold un
      rw [if_neg hm0]
      rcases hb with hb | ⟨x, hx, hx0⟩
      · left; rw [hb]; rfl
      · rcases List.mem_cons.1 hx with e | hx
        · left; subst e; cases b <;> simp [hx0]
        · right; exact ⟨x, hx, hx0⟩
theorem units_zero (h : Nat → Nat → List Int) (t : List Nat) : units h false (0 :: t) = units h false t := by
  rw [units_cons]
  have e1 : uo h false 0 t.length = [] := by unfold uo; simp
  have e2 : un false 0 t.length = false := by unfold un; split <;> rfl
  rw [e1, e2]; rfl
theorem units_lead (h : Nat → Nat → List Int) (m : Nat) (t : List Nat) : units h false (List.replicate m 0 ++ t) = units h false t := by
  induction m with
  | zero => rfl
  | succ m ih => rw [List.replicate_succ, List.cons_append, units_zero, ih]

theorem ds_app {n : Nat} (h0 : 1 ≤ n) (h : n < 10000) (es : List Nat) (h9 : ∀ d ∈ es, d ≤ 9) (hl : es.length ≤ 16) : DS (dn4 n ++ es) := by
  obtain ⟨d, t, e, hd⟩ := dn4_head n h0 h
  have hds := dn4_ds n h
  have h4 := (dn4_len n).2
  refine ⟨by have := hds.1; rw [List.length_append]; omega, by rw [List.length_append]; omega, ?_, ?_⟩
  · intro x hx
    rcases List.mem_append.1 hx with hx | hx
    · exact hds.2.2.1 x hx
    · exact h9 x hx
  · rw [e]; intro hh; simp at hh; exact absurd hh hd
theorem group_units (h : Nat → Nat → List Int) {n : Nat} (h0 : 1 ≤ n) (hn : n < 10000) (es : List Nat) (k : Nat) (he : es.length = 4 * k) (hk : 1 ≤ k) : units h false (dn4 n ++ es) = units h false (dn4 n) ++ (gu k ++ units h false es) := by
  obtain ⟨d, t, e, hd⟩ := dn4_head n h0 hn
  exact units_app h (dn4 n) false es k he hk (by rw [e]; simp) (dn4_len n).2 (.inr ⟨d, by rw [e]; simp, hd⟩)
theorem not_zero {n : Nat} (h0 : 1 ≤ n) (hn : n < 10000) (es : List Nat) : dn4 n ++ es ≠ [0] := by
  obtain ⟨d, t, e, hd⟩ := dn4_head n h0 hn
  rw [e]; intro hh; simp at hh; exact hd hh.1
/-- P3.9 for a writer with units: zeros behind, and a group behind. -/
theorem group_zeros (h : Nat → Nat → List Int) (W : List Nat → List Int) (hW : ∀ ds, W ds = if ds = [0] then [38646] else units h false ds) {n : Nat} (h0 : 1 ≤ n) (hn : n < 10000) (k : Nat) :
    W (dn4 n ++ List.replicate (4 * k) 0) = W (dn4 n) ++ gu k := by
  have e1 := not_zero h0 hn (List.replicate (4 * k) 0)
  have e2 := not_zero h0 hn []
  rw [List.append_nil] at e2
  rw [hW, hW, if_neg e1, if_neg e2]
  by_cases hk : k = 0
  · subst hk; simp [gu]
  · rw [group_units h h0 hn _ k (by simp) (by omega)]
    have := units_lead h (4 * k) []
    rw [List.append_nil] at this
    rw [this]; simp [units, eachS]
theorem group_next (h : Nat → Nat → List Int) (W : List Nat → List Int) (hW : ∀ ds, W ds = if ds = [0] then [38646] else units h false ds) {n m : Nat} (h0 : 1 ≤ n) (hn : n < 10000) (hm : m < 10000) :
    W ((dn4 n ++ List.replicate (4 - (dn4 m).length) 0) ++ dn4 m) = (W (dn4 n) ++ [19975]) ++ (if dn4 m = [0] then [] else W (dn4 m)) := by
  have e1 := not_zero h0 hn (List.replicate (4 - (dn4 m).length) 0 ++ dn4 m)
  have e2 := not_zero h0 hn []
  rw [List.append_nil] at e2
  rw [List.append_assoc, hW, hW, if_neg e1, if_neg e2]
  have hl := dn4_len m
  rw [group_units h h0 hn _ 1 (by simp; omega) (by omega), units_lead, List.append_assoc]
  congr 1
  show [19975] ++ _ = [19975] ++ _
  congr 1
  by_cases hz : dn4 m = [0]
  · rw [if_pos hz, hz, units_zero]; rfl
  · rw [if_neg hz, hW, if_neg hz]

end Go.Proofs.YtfkdlnaakmgclaaDoor.Num
