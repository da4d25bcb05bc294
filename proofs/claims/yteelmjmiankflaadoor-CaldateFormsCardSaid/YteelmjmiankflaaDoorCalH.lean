/-
  Day, Date, Weekday, Era and the reference's, for whatever is asked; the laws' works.
-/
import Derived.Test.YteelmjmiankflaaDoorCalG
set_option linter.unusedVariables false
set_option linter.unusedSimpArgs false
namespace Go.Proofs.YteelmjmiankflaaDoor.Cal
open Go Go.RowKit Go.Proofs.YteelmjmiankflaaDoor.Kit Go.Proofs.YteelmjmiankflaaDoor.Utf
open Go.Proofs.YteelmjmiankflaaDoor.Num (tx)

/-- What Day returns. -/
def dn (y m d : Int) : Int := if Valid y m d then num y m d else 0
def dk (y m d : Int) : Bool := decide (Valid y m d)
/-- What Date returns. -/
def inR (day : Int) : Prop := 1 ≤ day ∧ day ≤ 3652059
instance (day : Int) : Decidable (inR day) := by unfold inR; infer_instance
noncomputable def dY (day : Int) : Int := @dite Int (∃ y m d, IsDate day y m d) (Classical.propDecidable _) (fun h => h.choose) (fun _ => 0)
noncomputable def dM (day : Int) : Int := @dite Int (∃ m y d, IsDate day y m d) (Classical.propDecidable _) (fun h => h.choose) (fun _ => 0)
noncomputable def dD (day : Int) : Int := @dite Int (∃ d y m, IsDate day y m d) (Classical.propDecidable _) (fun h => h.choose) (fun _ => 0)
def ok (day : Int) : Bool := decide (inR day)

theorem dY_is {day y m d : Int} (h : IsDate day y m d) : dY day = y := by
  have e : ∃ y m d, IsDate day y m d := ⟨y, m, d, h⟩
  unfold dY
  rw [dif_pos e]
  obtain ⟨m', d', h'⟩ := e.choose_spec
  exact (h'.unique h).1
theorem dM_is {day y m d : Int} (h : IsDate day y m d) : dM day = m := by
  have e : ∃ m y d, IsDate day y m d := ⟨m, y, d, h⟩
  unfold dM
  rw [dif_pos e]
  obtain ⟨m', d', h'⟩ := e.choose_spec
  exact (h'.unique h).2.1
theorem dD_is {day y m d : Int} (h : IsDate day y m d) : dD day = d := by
  have e : ∃ d y m, IsDate day y m d := ⟨d, y, m, h⟩
  unfold dD
  rw [dif_pos e]
  obtain ⟨m', d', h'⟩ := e.choose_spec
  exact (h'.unique h).2.2
theorem dates (day : Int) : (inR day ∧ IsDate day (dY day) (dM day) (dD day)) ∨ (¬ inR day ∧ dY day = 0 ∧ dM day = 0 ∧ dD day = 0) := by
  by_cases h : inR day
  · obtain ⟨y, m, d, hd⟩ := exists_date h.1 h.2
    exact .inl ⟨h, by rw [dY_is hd, dM_is hd, dD_is hd]; exact hd⟩
  · refine .inr ⟨h, ?_, ?_, ?_⟩
    · unfold dY; exact dif_neg fun ⟨y, m, d, e⟩ => h e.range
    · unfold dM; exact dif_neg fun ⟨y, m, d, e⟩ => h e.range
    · unfold dD; exact dif_neg fun ⟨y, m, d, e⟩ => h e.range

theorem day_any (y m d : Int) (w : World) (hL : CLaid w) :
    Calls Tryd.prog 7 #[.int .i64 y, .int .i64 m, .int .i64 d] w fun e w' => e = .returned (.tuple #[.int .i64 (dn y m d), .bool (dk y m d)]) ∧ Below w.heap.size w w' := by
  unfold dn dk
  by_cases h : Valid y m d
  · rw [if_pos h, decide_eq_true h]; exact day_is y m d h w hL
  · rw [if_neg h, decide_eq_false h]; exact day_not y m d h w hL
theorem rday_any (y m d : Int) (w : World) :
    Calls Tryd.prog 8 #[.int .i64 y, .int .i64 m, .int .i64 d] w fun e w' => e = .returned (.tuple #[.int .i64 (dn y m d), .bool (dk y m d)]) ∧ w' = w := by
  unfold dn dk
  by_cases h : Valid y m d
  · rw [if_pos h, decide_eq_true h]; exact rday_is y m d h w
  · rw [if_neg h, decide_eq_false h]; exact rday_not y m d h w
theorem date_any (day : Int) (w : World) (hL : CLaid w) :
    Calls Tryd.prog 9 #[.int .i64 day] w fun e w' => e = .returned (.tuple #[.int .i64 (dY day), .int .i64 (dM day), .int .i64 (dD day), .bool (ok day)]) ∧ Below w.heap.size w w' := by
  unfold ok
  rcases dates day with ⟨h, hd⟩ | ⟨h, h1, h2, h3⟩
  · rw [decide_eq_true h]; exact date_is day _ _ _ hd w hL
  · rw [decide_eq_false h, h1, h2, h3]; exact date_not day h w
theorem rdate_any (day : Int) (w : World) :
    Calls Tryd.prog 10 #[.int .i64 day] w fun e w' => e = .returned (.tuple #[.int .i64 (dY day), .int .i64 (dM day), .int .i64 (dD day), .bool (ok day)]) ∧ w' = w := by
  unfold ok
  rcases dates day with ⟨h, hd⟩ | ⟨h, h1, h2, h3⟩
  · rw [decide_eq_true h]; exact rdate_is day _ _ _ hd w
  · rw [decide_eq_false h, h1, h2, h3]; exact rdate_not day h w

/-- What Weekday and Era return. -/
def wdS (day : Int) : ByteArray := if inR day then tx [wdC (day % 7).toNat] else { data := #[] }
def eO (day : Int) : Option Nat := if inR day then cur day 5 else none
theorem weekday_any (day : Int) (w : World) (hL : CLaid w) :
    Calls Tryd.prog 12 #[.int .i64 day] w fun e w' => e = .returned (.tuple #[.string (wdS day), .bool (ok day)]) ∧ Below w.heap.size w w' := by
  unfold ok wdS
  by_cases h : inR day
  · rw [decide_eq_true h, if_pos h]; exact weekday_is day h.1 h.2 w hL
  · rw [decide_eq_false h, if_neg h]; exact weekday_not day h w
theorem rweekday_any (day : Int) (w : World) :
    Calls Tryd.prog 13 #[.int .i64 day] w fun e w' => e = .returned (.tuple #[.string (wdS day), .bool (ok day)]) ∧ Below w.heap.size w w' := by
  unfold ok wdS
  by_cases h : inR day
  · rw [decide_eq_true h, if_pos h]; exact rweekday_is day h.1 h.2 w
  · rw [decide_eq_false h, if_neg h]; exact rweekday_not day h w
theorem era_any (day : Int) (w : World) (hL : ELaid w) :
    Calls Tryd.prog 14 #[.int .i64 day] w fun e w' => e = .returned (.tuple #[.string (nm (eO day)), .int .i64 (ye (dY day) (eO day)), .bool (eO day).isSome]) ∧ Below w.heap.size w w' := by
  unfold eO
  rcases dates day with ⟨h, hd⟩ | ⟨h, h1, h2, h3⟩
  · rw [if_pos h]; exact era_is day _ _ _ hd w hL
  · rw [if_neg h]; exact era_not day h w
theorem rera_big (day : Int) (h : 3652059 < day) (w : World) :
    Calls Tryd.prog 15 #[.int .i64 day] w fun e w' => e = .returned (.tuple #[.string { data := #[] }, .int .i64 0, .bool false]) ∧ Below w.heap.size w w' := by
  have t2 : decide (3652059 < day) = true := by simpa using h
  go_enter Tryd.func15, Tryd.ntmps15
  go_wp2
  (try simp only [Exit.inBlock, Exit.then]); refine bodyPost_ret (results_tmp3' rfl _ _ _) rfl ?_
  exact ⟨rfl, Below.refl _ _⟩
theorem rera_any (day : Int) (hb0 : -9223372036854775808 ≤ day) (w : World) :
    Calls Tryd.prog 15 #[.int .i64 day] w fun e w' => e = .returned (.tuple #[.string (nm (eO day)), .int .i64 (ye (dY day) (eO day)), .bool (eO day).isSome]) ∧ Below w.heap.size w w' := by
  unfold eO
  rcases dates day with ⟨h, hd⟩ | ⟨h, h1, h2, h3⟩
  · rw [if_pos h]; exact rera_at day _ h.2 (fun _ => ⟨_, _, hd⟩) hb0 w
  · rw [if_neg h]
    by_cases hg : 3652059 < day
    · exact rera_big day hg w
    · have hlt : day < 1 := by unfold inR at h; omega
      have := rera_at day (dY day) (by omega) (fun h1 => absurd h1 (by omega)) hb0 w
      rw [cur_early hlt] at this
      exact this

theorem works_at (w : World) (hL : CLaid w) :
    Calls Tryd.prog 11 #[] w fun e w' => e = .returned (.bool true) ∧ Below w.heap.size w w' := by
  have hB : Below w.heap.size w w := Below.refl _ _
  have H1 := Lib.hid (fun W hW => day_is 2026 11 16 (by decide) W hW)
  have H2 := Lib.hid (fun W hW => date_is 739936 2026 11 16 (by decide) W hW)
  have H3 := Lib.hid (fun W hW => weekday_is 739936 (by decide) (by decide) W hW)
  have e1 : num 2026 11 16 = 739936 := by decide
  have e3 : tx [wdC ((739936 : Int) % 7).toNat] = { data := #[230, 156, 136] } := by decide +kernel
  rw [e1] at H1
  rw [e3] at H3
  clear e1 e3
  go_enter Tryd.func11, Tryd.ntmps11
  go_wp2_with (first
    | (go_at_call 7; (with_reducible refine (H1.out _ (hL.next hB)).mono ?_); rintro e w1 ⟨rfl, hb⟩; have hB := hB.trans (hb.mono hB.size); clear hb)
    | (go_at_call 9; (with_reducible refine (H2.out _ (hL.next hB)).mono ?_); rintro e w1 ⟨rfl, hb⟩; have hB := hB.trans (hb.mono hB.size); clear hb)
    | (go_at_call 12; (with_reducible refine (H3.out _ (hL.next hB)).mono ?_); rintro e w1 ⟨rfl, hb⟩; have hB := hB.trans (hb.mono hB.size); clear hb))
  go_ret
  exact ⟨rfl, hB⟩

end Go.Proofs.YteelmjmiankflaaDoor.Cal
