/-
  Contract of the laws' number: decimal digits out of any bytes.
-/
import Derived.Test.YteelmjmiankflaaDoorNumK
set_option linter.unusedVariables false
set_option linter.unusedSimpArgs false
namespace Go.Proofs.YteelmjmiankflaaDoor.Num
open Go Go.RowKit Go.Proofs.YteelmjmiankflaaDoor.Kit Go.Proofs.YteelmjmiankflaaDoor.Utf

theorem tenth : ∀ r : Nat, r ≤ 9 → (({ data := #[48, 49, 50, 51, 52, 53, 54, 55, 56, 57] } : ByteArray).extract r (r + 1)) = dg [r] := by decide

theorem cut_digit (r : Nat) (h : r ≤ 9) (k k' : IntKind) (x y : Int) (hx : x = r) (hy : y = (r : Int) + 1) (w : World) :
    (Instr.slice 9 (.string { data := #[48, 49, 50, 51, 52, 53, 54, 55, 56, 57] }) (some (.int k x)) (some (.int k' y)) none).run Tryd.prog w = .ok (.string (dg [r])) w := by
  subst hx hy
  have e1 : ((r : Int)).toNat = r := by omega
  have e2 : ((r : Int) + 1).toNat = r + 1 := by omega
  rw [run_slice_string_if w 9 _ k k' _ _ Tryd.underlying9, e1, e2, tenth r h]
  have hsz : (({ data := #[48, 49, 50, 51, 52, 53, 54, 55, 56, 57] } : ByteArray).size : Int) = 10 := rfl
  rw [if_pos (by rw [hsz]; omega), if_pos (by omega)]

theorem dg_one (r : Nat) (h : r ≤ 9) : dg [r] = tx [48 + (r : Int)] := by
  rw [dg_tx _ (by intro d hd; rw [List.mem_singleton.1 hd]; exact h)]; rfl
theorem dg_append (a b : List Nat) : dg a ++ dg b = dg (a ++ b) := by
  apply ba_ext
  show (dg a ++ dg b).data.toList = bs (dg (a ++ b))
  rw [bs_dg, ByteArray.data_append, Array.toList_append, List.map_append]
  show bs (dg a) ++ bs (dg b) = _
  rw [bs_dg, bs_dg]

/-- What number returns: some decimal digits. -/
def NumPost (w : World) (e : Ending) (w' : World) : Prop := ∃ ds, DS ds ∧ e = .returned (.string (dg ds)) ∧ Below w.heap.size w w'

theorem dg_head {ds : List Nat} (h9 : ∀ d ∈ ds, d ≤ 9) : ((dg ds).toList == ({ data := #[48] } : ByteArray).toList) = decide (ds = [0]) := by
  rw [ByteArray.toList_eq, ByteArray.toList_eq]
  by_cases e : ds = [0]
  · subst e; rfl
  · rw [decide_eq_false e]
    simp only [beq_eq_false_iff_ne]
    intro h
    have h2 : dg ds = dg [0] := ba_ext h
    have := ofDg_dg ds h9
    rw [h2, ofDg_dg [0] (by decide)] at this
    exact e this.symm

/-- What number keeps: nothing yet, or decimal digits. -/
def Sofar (ds : List Nat) (i : Nat) : Prop := ds.length ≤ i ∧ (ds = [] ∨ DS ds)

end Go.Proofs.YteelmjmiankflaaDoor.Num
