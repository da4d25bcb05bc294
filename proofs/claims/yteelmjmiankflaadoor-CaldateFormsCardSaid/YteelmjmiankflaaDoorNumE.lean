/-
  Contracts of numeral.Kanji, Positional, Formal, Commas, ascii and wide.
-/
import Derived.Test.YteelmjmiankflaaDoorNumD
set_option linter.unusedVariables false
set_option linter.unusedSimpArgs false
namespace Go.Proofs.YteelmjmiankflaaDoor.Num
open Go Go.RowKit Go.Proofs.YteelmjmiankflaaDoor.Kit Go.Proofs.YteelmjmiankflaaDoor.Utf

/-- A function that writes decimal digits as f says. -/
def Writer (F : FuncId) (f : List Nat → List Int) : Prop :=
  ∀ (s : ByteArray) (w : World), s.size ≤ maxLen → Laid w → Calls Tryd.prog F #[.string s] w fun e w' => e = .returned (.tuple #[.string (wOut f s), .bool (isDec s)]) ∧ Below w.heap.size w w'

theorem each_any (F : FuncId) (out : Bool → Nat → Nat → List Int) (eF : ∀ args w, (callFunc F args).run Tryd.prog w = .ok (.enter F args) w)
    (h : ∀ (d a : Nat) (x y : Int) (W : World), x = d → y = a → d ≤ 9 → a ≤ 19 → Laid W → Calls Tryd.prog F #[.int .i64 x, .int .i64 y] W fun e W' => e = .returned (.string (tx (out false d a))) ∧ Below W.heap.size W W')
    (hl : ∀ b d a, d ≤ 9 → a ≤ 19 → (encs (out b d a)).length ≤ 100) (s : ByteArray) (w : World) (hs : s.size ≤ maxLen) (hL : Laid w) :
    Calls Tryd.prog 58 #[.string s, .func (.func F) #[] #[]] w fun e w' => e = .returned (.tuple #[.string (wOut (eachS out (fun b _ _ => b) false) s), .bool (isDec s)]) ∧ Below w.heap.size w w' := by
  cases hd : isDec s with
  | false => rw [wOut_bad _ hd]; exact writeEach_bad s _ w hs hd
  | true =>
    obtain ⟨hds, hsd⟩ := (isDec_iff s).1 hd
    have := writeEach_good (ofDg s) s F #[] out (fun b _ _ => b) w.heap.size (fun b _ => b = false) w hds hsd eF (Nat.le_refl _) hL.size hL rfl (fun b W W' h _ _ => h) (Parts.plain h _) hl
    have e : wOut (eachS out (fun b _ _ => b) false) s = tx (eachS out (fun b _ _ => b) false (ofDg s)) := by unfold wOut; rw [hd]; rfl
    rw [e]
    exact this

theorem len_asc : ∀ d : Nat, d ≤ 9 → (encs [48 + (d : Int)]).length ≤ 3 := by decide
theorem len_comma : ∀ d : Nat, d ≤ 9 → (encs [48 + (d : Int), 44]).length ≤ 3 := by decide
theorem len_wide : ∀ d : Nat, d ≤ 9 → (encs [65296 + (d : Int)]).length ≤ 3 := by decide

theorem kanji_any : Writer 38 kanjiC := by
  intro s w hs hL
  have H := Lib.hid (withUnits_any 50 kp kanji1 (fun _ _ => by kernel_rfl) len_kp s w hs hL)
  go_enter Tryd.func38, Tryd.ntmps38
  go_wp2_with (go_at_call 49; refine H.out.mono ?_; rintro e w1 ⟨rfl, hb1⟩)
  go_ret2
  exact ⟨rfl, hb1⟩

end Go.Proofs.YteelmjmiankflaaDoor.Num
