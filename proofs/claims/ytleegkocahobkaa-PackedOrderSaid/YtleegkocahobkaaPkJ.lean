/-
  Lists in order; Find at a list.
-/
import Derived.Test.YtleegkocahobkaaPkI
set_option linter.unusedVariables false
set_option linter.unusedSimpArgs false
set_option maxRecDepth 100000
namespace Go.Proofs.Ytleegkocahobkaa.Pk
open Go Go.RowKit Go.Proofs.Ytleegkocahobkaa.Kit Go.Proofs.Ytleegkocahobkaa.Bv

/-- In order. -/
def Asc (l : List Nat) : Prop := ∀ i, i + 1 < l.length → l.getD i 0 ≤ l.getD (i + 1) 0
theorem asc_le {l : List Nat} (h : Asc l) {i : Nat} : ∀ d, i + d < l.length → l.getD i 0 ≤ l.getD (i + d) 0 := by
  intro d
  induction d with
  | zero => intro _; exact Nat.le_refl _
  | succ d ih => intro hd; exact Nat.le_trans (ih (by omega)) (h (i + d) (by omega))
theorem asc_one (l : List Nat) (h : l.length ≤ 1) : Asc l := fun i hi => by omega
theorem gv_getD {l : List Nat} (hx : U64 l) {i : Nat} (hi : i < l.length) : gv (dg (wid l) l) (wid l) i = l.getD i 0 := by
  rw [List.getD_eq_getElem?_getD, List.getElem?_eq_getElem hi]
  exact gv_list hx (List.getElem?_eq_getElem hi)
theorem find_at {B0 B1 p : Nat} {w : World} {l : List Nat} (h : PkAt B0 B1 w p l) (hB : B1 ≤ w.heap.size) (hl : l.length ≤ 1048576) (hx : U64 l) (ha : Asc l) (x : Nat) :
    Calls Try.prog 17 #[.pointer (some ⟨p, 0, none⟩), .int .u64 (x : Int)] w fun e w' => ∃ r : Nat, e = .returned (.int .i64 (r : Int)) ∧ Bv.Found l.length (fl l x) r ∧ Below w.heap.size w w' := by
  refine (find_pk h hB hl (by have := wid_64 hx; omega) x (fun i j hij hj hi => ?_)).mono ?_
  · rw [gv_getD hx hj]
    rw [gv_getD hx (by omega)] at hi
    have := asc_le ha (j - i) (i := i) (by omega)
    rw [show i + (j - i) = j by omega] at this
    omega
  · rintro e w' ⟨r, rfl, hf, hb⟩
    refine ⟨r, rfl, ?_, hb⟩
    have e : ∀ i, i < l.length → fp (dg (wid l) l) (wid l) l.length x i = fl l x i := fun i hi => by
      unfold fp fl
      rw [gv_getD hx hi]
    obtain ⟨h1, h2, h3⟩ := hf
    exact ⟨h1, fun t ht => by rw [← e t (by omega)]; exact h2 t ht, fun hr => by rw [← e r hr]; exact h3 hr⟩

end Go.Proofs.Ytleegkocahobkaa.Pk
