/-
  Contracts of numeral.Kanji, Positional, Formal, Commas, ascii and wide.
-/
import Derived.Test.YtfkdlnaakmgclaaDoorNumD
set_option linter.unusedVariables false
set_option linter.unusedSimpArgs false
namespace Go.Proofs.YtfkdlnaakmgclaaDoor.Num
open Go Go.RowKit Go.Proofs.YtfkdlnaakmgclaaDoor.Kit Go.Proofs.YtfkdlnaakmgclaaDoor.Utf

/-- A function that writes decimal digits as f says. -/
def Writer (F : FuncId) (f : List Nat → List Int) : Prop :=
  ∀ (s : ByteArray) (w : World), s.size ≤ maxLen → Laid w → Calls Tryd.prog F #[.string s] w fun e w' => e = .returned (.tuple #[.string (wOut f s), .bool (isDec s)]) ∧ Below w.heap.size w w'

theorem each_any (F : FuncId) (out : Bool → Nat → Nat → List Int) (eF : ∀ args w, (callFunc F args).run Tryd.prog w = .ok (.enter F args) w)
    (h : ∀ (d a : Nat) (x y : Int) (W : World), x = d → y = a → d ≤ 9 → a ≤ 19 → Laid W → Calls Tryd.prog F #[.int .i64 x, .int .i64 y] W fun e W' => e = .returned (.string (tx (out false d a))) ∧ Below W.heap.size W W')
    (hl : ∀ b d a, d ≤ 9 → a ≤ 19 → (encs (out b d a)).length ≤ 100) (s : ByteArray) (w : World) (hs : s.size ≤ maxLen) (hL : Laid w) :
    Calls Tryd.prog 34 #[.string s, .func (.func F) #[] #[]] w fun e w' => e = .returned (.tuple #[.string (wOut (eachS out (fun b _ _ => b) false) s), .bool (isDec s)]) ∧ Below w.heap.size w w' := by
  cases hd : isDec s with
  | false => rw [wOut_bad _ hd]; exact writeEach_bad s _ w hs hd
  | true =>
    obtain ⟨hds, hsd⟩ := (isDec_iff s).1 hd
    have := writeEach_good (ofDg s) s F #[] out (fun b _ _ => b) w.heap.size (fun b _ => b = false) w hds hsd eF (Nat.le_refl _) hL.size hL rfl (fun b W W' h _ _ => h) (Parts.plain h _) hl
    have e : wOut (eachS out (fun b _ _ => b) false) s = tx (eachS out (fun b _ _ => b) false (ofDg s)) := by unfold wOut; rw [hd]; rfl
    rw [e]
    exact this

theorem len_asc : ∀ d : Nat, d ≤ 9 → (encs [48 + (d : Int)]).length ≤ 3 := by decide
theorem len_comma : ∀ d : Nat, d ≤ 9 → (encs [48 + (d : Int), 44]).length ≤ 3 := by decide
theorem len_wide : ∀ d : Nat, d ≤ 9 → (encs [65296 + (d : Int)]).length ≤ 3 := by decide

theorem kanji_any : Writer 12 kanjiC := by
  intro s w hs hL
  have H := Lib.hid (withUnits_any 30 kp kanji1 (fun _ _ => by kernel_rfl) len_kp s w hs hL)
  go_enter Tryd.func12, Tryd.ntmps12
  go_wp2_with (go_at_call 29; refine H.out.mono ?_; rintro e w1 ⟨rfl, hb1⟩)
  go_ret2
  exact ⟨rfl, hb1⟩

theorem formal_any : Writer 16 formC := by
  intro s w hs hL
  have H := Lib.hid (withUnits_any 36 fp formal1 (fun _ _ => by kernel_rfl) len_fp s w hs hL)
  go_enter Tryd.func16, Tryd.ntmps16
  go_wp2_with (go_at_call 29; refine H.out.mono ?_; rintro e w1 ⟨rfl, hb1⟩)
  go_ret2
  exact ⟨rfl, hb1⟩

theorem pos_any : Writer 14 posC := by
  intro s w hs hL
  have H := Lib.hid (each_any 35 (fun _ d _ => [pd d]) (fun _ _ => by kernel_rfl) pos1 (fun b d a h _ => by have := len_pd d h; show (encs [pd d]).length ≤ 100; omega) s w hs hL)
  go_enter Tryd.func14, Tryd.ntmps14
  go_wp2_with (go_at_call 34; refine H.out.mono ?_; rintro e w1 ⟨rfl, hb1⟩)
  go_ret2
  exact ⟨rfl, hb1⟩

theorem commas_any : Writer 18 commaC := by
  intro s w hs hL
  have H := Lib.hid (each_any 38 (fun _ d a => (48 + d : Int) :: (if 0 < a ∧ a % 3 = 0 then [44] else [])) (fun _ _ => by kernel_rfl) commas1 (fun b d a h _ => by
    have h1 := len_asc d h
    have h2 := len_comma d h
    show (encs ((48 + d : Int) :: (if 0 < a ∧ a % 3 = 0 then [44] else []))).length ≤ 100
    split <;> omega) s w hs hL)
  go_enter Tryd.func18, Tryd.ntmps18
  go_wp2_with (go_at_call 34; refine H.out.mono ?_; rintro e w1 ⟨rfl, hb1⟩)
  go_ret2
  exact ⟨rfl, hb1⟩

theorem ascii_any : Writer 45 ascC := by
  intro s w hs hL
  have H := Lib.hid (each_any 64 (fun _ d _ => [(48 + d : Int)]) (fun _ _ => by kernel_rfl) ascii1 (fun b d a h _ => by have := len_asc d h; show (encs [(48 + d : Int)]).length ≤ 100; omega) s w hs hL)
  go_enter Tryd.func45, Tryd.ntmps45
  go_wp2_with (go_at_call 34; refine H.out.mono ?_; rintro e w1 ⟨rfl, hb1⟩)
  go_ret2
  exact ⟨rfl, hb1⟩

theorem wide_any : Writer 46 wideC := by
  intro s w hs hL
  have H := Lib.hid (each_any 65 (fun _ d _ => [(65296 + d : Int)]) (fun _ _ => by kernel_rfl) wide1 (fun b d a h _ => by have := len_wide d h; show (encs [(65296 + d : Int)]).length ≤ 100; omega) s w hs hL)
  go_enter Tryd.func46, Tryd.ntmps46
  go_wp2_with (go_at_call 34; refine H.out.mono ?_; rintro e w1 ⟨rfl, hb1⟩)
  go_ret2
  exact ⟨rfl, hb1⟩

end Go.Proofs.YtfkdlnaakmgclaaDoor.Num
