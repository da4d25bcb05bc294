/-
  Contracts of the reference's Digits, of its lists and of written.
-/
import Derived.Test.YteelmjmiankflaaDoorNumP
set_option linter.unusedVariables false
set_option linter.unusedSimpArgs false
namespace Go.Proofs.YteelmjmiankflaaDoor.Num
open Go Go.RowKit Go.Proofs.YteelmjmiankflaaDoor.Kit Go.Proofs.YteelmjmiankflaaDoor.Utf

theorem rdigits_any (s : ByteArray) (w : World) (hs : s.size ≤ maxLen) :
    Calls Tryd.prog 46 #[.string s] w fun e w' => e = .returned (.bool (isDec s)) ∧ w = w' := by
  unfold maxLen at hs
  have HS : Hid (s.size ≤ 2 ^ 63 - 1) := Lib.hid hs
  go_enter Tryd.func46, Tryd.ntmps46
  go_wp2
  go_loopw [3] (fun iv wr => ∃ i : Nat, iv = .int .i64 i ∧ i ≤ s.size ∧ Hid (∀ j (h : j < s.size), j < i → 48 ≤ (s[j]'h).toNat ∧ (s[j]'h).toNat ≤ 57) ∧ wr = w) (fun iv _ => s.size - (intOf iv).toNat)
  case atStart => exact ⟨0, rfl, Nat.zero_le _, Lib.hid (fun j _ h => absurd h (Nat.not_lt_zero j)), rfl⟩
  case round =>
    obtain ⟨i, rfl, hi, hall, rfl⟩ := hrel
    by_cases hp : i < s.size
    · by_cases hr : 48 ≤ (s[i]'hp).toNat ∧ (s[i]'hp).toNat ≤ 57
      · have hall2 := Lib.hid (show ∀ j (h : j < s.size), j < i + 1 → 48 ≤ (s[j]'h).toNat ∧ (s[j]'h).toNat ≤ 57 from fun j h hj => by
          by_cases e : j = i
          · subst e; exact hr
          · exact hall.out j h (by omega))
        have hr1 := hr.1
        have hr2 := hr.2
        clear hr hall
        go_wp2
        go_roundw
        case rel => exact ⟨i + 1, by go_num, by omega, hall2, trivial⟩
        case measure => simp [intOf] <;> omega
      · have hv := Lib.hid (isDec_byte hp hr)
        have hc : (s[i]'hp).toNat < 48 ∨ 57 < (s[i]'hp).toNat := by omega
        clear hr hall
        rcases hc with hc | hc
        · go_wp2
          go_ret
          exact ⟨by rw [hv.out]; rfl, rfl⟩
        · go_wp2
          go_ret
          exact ⟨by rw [hv.out]; rfl, rfl⟩
    · by_cases h0 : s.size = 0
      · have hv := Lib.hid (isDec_empty h0)
        have z1 : decide ((1 : Int) ≤ s.size) = false := by simp; omega
        clear h0 hall
        go_wp2
        go_ret
        exact ⟨by rw [hv.out]; rfl, rfl⟩
      · have hp0 : 0 < s.size := by omega
        have z1 : decide ((1 : Int) ≤ s.size) = true := by simp; omega
        by_cases h20 : 20 < s.size
        · have hv := Lib.hid (isDec_len h20)
          have z2 : decide ((s.size : Int) ≤ 20) = false := by simp; omega
          clear hall
          go_wp2
          go_ret
          exact ⟨by rw [hv.out]; rfl, rfl⟩
        · have z2 : decide ((s.size : Int) ≤ 20) = true := by simp; omega
          by_cases hb : (s[0]'hp0).toNat = 48
          · have b1 : (((s[0]'hp0).toNat : Int) != 48) = false := by simp [hb]
            by_cases h1 : s.size = 1
            · have hv := Lib.hid (isDec_all hp0 (by omega) (.inl h1) (fun j h => hall.out j h (by omega)))
              have z3 : ((s.size : Int) == 1) = true := by simp; omega
              clear hall hb h1
              go_wp2
              go_ret
              exact ⟨by rw [hv.out]; rfl, rfl⟩
            · have hv := Lib.hid (isDec_lead hp0 (by omega) (by apply UInt8.toNat_inj.1; rw [hb]; rfl))
              have z3 : ((s.size : Int) == 1) = false := by simp; omega
              clear hall hb h1
              go_wp2
              go_ret
              exact ⟨by rw [hv.out]; rfl, rfl⟩
          · have b1 : (((s[0]'hp0).toNat : Int) != 48) = true := by simp; omega
            have hv := Lib.hid (isDec_all hp0 (by omega) (.inr (fun e => hb (by rw [e]; rfl))) (fun j h => hall.out j h (by omega)))
            clear hall hb
            go_wp2
            go_ret
            exact ⟨by rw [hv.out]; rfl, rfl⟩

/-- The strings of a list of the reference's. -/
def strs (l : List (List UInt8)) : Array Value := (l.map fun b => Value.string ⟨b.toArray⟩).toArray
theorem strs_get {l : List (List UInt8)} {i : Nat} {b : List UInt8} (h : l[i]? = some b) : (strs l)[i]? = some (.string ⟨b.toArray⟩) := by
  unfold strs; simp [h]

/-- A list in memory: a block of strings. -/
def AtStrs (w : World) (g : Nat) (l : List (List UInt8)) : Prop := w.heap[g]? = some (.cells (strs l) 9 (0, 0))
theorem AtStrs.cell {w : World} {g : Nat} {l : List (List UInt8)} (h : AtStrs w g l) {i : Nat} {b : List UInt8} (hb : l[i]? = some b) : w.cell? ⟨g, i, none⟩ = some (.string ⟨b.toArray⟩) := by
  rw [cell_of_row w g i _ _ _ h]; exact strs_get hb
theorem AtStrs.below {w w' : World} {B g : Nat} {l : List (List UInt8)} (h : AtStrs w g l) (hb : Below B w w') (hg : g < B) : AtStrs w' g l := by
  unfold AtStrs; rw [hb.block g hg]; exact h
theorem AtStrs.lt {w : World} {g : Nat} {l : List (List UInt8)} (h : AtStrs w g l) : g < w.heap.size := (Array.getElem?_eq_some_iff.1 h).1

/-- What a function that makes a list returns. -/
def Lists (F : FuncId) (n : Nat) (l : List (List UInt8)) : Prop :=
  ∀ w : World, Calls Tryd.prog F #[] w fun e w' => e = .returned (.slice (some ⟨w.heap.size, 0, none⟩) n n) ∧ AtStrs w' w.heap.size l ∧ Below w.heap.size w w'

def lPd : List (List UInt8) := (List.range 10).map fun i => encs [pd i]
def lFd : List (List UInt8) := (List.range 10).map fun i => encs [fd i]
def lPu : List (List UInt8) := (List.range 4).map fun i => encs (pu i)
def lFu : List (List UInt8) := (List.range 4).map fun i => encs (fu i)
def lGu : List (List UInt8) := (List.range 5).map fun i => encs (gu i)
theorem range_get (n : Nat) (f : Nat → List UInt8) (i : Nat) (hi : i < n) : ((List.range n).map f)[i]? = some (f i) := by
  rw [List.getElem?_map, List.getElem?_range hi]; rfl

theorem plain_any : Lists 48 10 lPd := by
  intro w
  have h0 : AtStrs (w.alloc (.cells #[.string { data := #[227, 128, 135] }, .string { data := #[228, 184, 128] }, .string { data := #[228, 186, 140] }, .string { data := #[228, 184, 137] }, .string { data := #[229, 155, 155] }, .string { data := #[228, 186, 148] }, .string { data := #[229, 133, 173] }, .string { data := #[228, 184, 131] }, .string { data := #[229, 133, 171] }, .string { data := #[228, 185, 157] }] 9)) w.heap.size lPd := (heap_last w _).trans (congrArg (fun a => some (Obj.cells a 9 (0, 0))) (by kernel_rfl))
  have H := Lib.hid h0; clear h0
  go_enter Tryd.func48, Tryd.ntmps48
  go_wp2
  go_ret
  exact ⟨rfl, H.out, (Below.refl _ w).alloc (Nat.le_refl _) _⟩
theorem units_any : Lists 57 5 lGu := by
  intro w
  have h0 : AtStrs (w.alloc (.cells #[.string { data := #[] }, .string { data := #[228, 184, 135] }, .string { data := #[229, 132, 132] }, .string { data := #[229, 133, 134] }, .string { data := #[228, 186, 172] }] 9)) w.heap.size lGu := (heap_last w _).trans (congrArg (fun a => some (Obj.cells a 9 (0, 0))) (by kernel_rfl))
  have H := Lib.hid h0; clear h0
  go_enter Tryd.func57, Tryd.ntmps57
  go_wp2
  go_ret
  exact ⟨rfl, H.out, (Below.refl _ w).alloc (Nat.le_refl _) _⟩

end Go.Proofs.YteelmjmiankflaaDoor.Num
