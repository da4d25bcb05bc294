/-
  The examples of the chapter, and a nil automaton.
-/
import Derived.Test.YtlmbbpppfghcbaaM14
import Derived.Handy
import Derived.OpenShut
import Derived.ShutString
import Derived.ChangeOld
import Derived.HandedShaped
import Derived.LaidMore
import Derived.Lay
import Derived.SizedLaws
import Derived.Deep.DeepHandedRow
import Derived.Test.YtlmbbpppfghcbaaM15
set_option linter.unusedVariables false
set_option linter.unusedSimpArgs false
namespace Go.Proofs.Ytlmbbpppfghcbaa.composeKnown
open Go Go.RowKit Go.ChangeShapes Go.WideShapes Go.ChangeAt Go.Proofs.Ytlmbbpppfghcbaa Go.Proofs.Ytlmbbpppfghcbaa.Kit Go.Proofs.Ytlmbbpppfghcbaa.Utf Go.Proofs.Ytlmbbpppfghcbaa.Rom Go.Proofs.Ytlmbbpppfghcbaa.Aut Go.Proofs.Ytlmbbpppfghcbaa.Cmp
open Go.ChangeMaps (open_string shut_string)
def kI1 : List It := [⟨ba [107, 97], ba [227, 129, 139]⟩]
def kI5 : List It := [⟨ba [115, 104, 105], ba [227, 129, 151]⟩, ⟨ba [107, 97], ba [227, 129, 139]⟩]
def kID : List It := [⟨ba [107], ba [227, 129, 163]⟩]
def k1 : Bf := ⟨kI1, 1, ba []⟩
def k2 : Bf := ⟨kI1, 0, ba []⟩
def k3 : Bf := ⟨kI1, 0, ba [115]⟩
def k4 : Bf := ⟨kI1, 0, ba [115, 104]⟩
def k5 : Bf := ⟨kI5, 1, ba []⟩
def kd : Bf := ⟨kID, 1, ba [107]⟩
def kf : Bf := ⟨kID, 1, ba []⟩
theorem e1 : typO defL noB [107, 97] = some k1 := by decide +kernel
theorem e2 : movB k1 (-1) = k2 := by decide +kernel
theorem e3 : keyO defL k2 115 = some k3 := by decide +kernel
theorem e4 : keyO defL k3 104 = some k4 := by decide +kernel
theorem e5 : keyO defL k4 105 = some k5 := by decide +kernel
theorem e6 : typO defL noB [107, 107] = some kd := by decide +kernel
theorem e7 : bacB kd = kf := by decide +kernel
theorem e8 : bacB kf = noB := by decide +kernel
theorem e9 : putB kd ⟨#[]⟩ ⟨#[120]⟩ = (noB, 8) := by decide +kernel
theorem t5 : texB k5 = (ba [227, 129, 151], ba [], ba [227, 129, 139]) := by decide +kernel
theorem td : texB kd = (ba [227, 129, 163], ba [107], ba []) := by decide +kernel
theorem tf : texB kf = (ba [227, 129, 163], ba [], ba []) := by decide +kernel
theorem tn : texB noB = (ba [], ba [], ba []) := by decide +kernel
theorem r5 : rawB k5 = ba [115, 104, 105, 107, 97] := by decide +kernel
theorem shI {b : Bf} (h : ∀ i ∈ b.is, i.r.size ≤ 8 ∧ i.o.size ≤ 8) (hp : b.p.size ≤ 8) (hl : b.is.length ≤ 8) : Sh b := ⟨fun i hi => ⟨by have := (h i hi).1; omega, by have := (h i hi).2; omega⟩, by omega, by omega⟩
theorem s1 : Sh k1 := shI (by decide +kernel) (by decide +kernel) (by decide +kernel)
theorem s2 : Sh k2 := shI (by decide +kernel) (by decide +kernel) (by decide +kernel)
theorem s3 : Sh k3 := shI (by decide +kernel) (by decide +kernel) (by decide +kernel)
theorem s4 : Sh k4 := shI (by decide +kernel) (by decide +kernel) (by decide +kernel)
theorem s5 : Sh k5 := shI (by decide +kernel) (by decide +kernel) (by decide +kernel)
theorem sd : Sh kd := shI (by decide +kernel) (by decide +kernel) (by decide +kernel)
theorem sf : Sh kf := shI (by decide +kernel) (by decide +kernel) (by decide +kernel)

abbrev own (B : Nat) (w : World) (s : Value) (is : List It) : Prop := w.ownsRow B 65 2 s is.length (ic is)
theorem calls_alloc {F : FuncId} {args : Array Value} {w : World} {o : Obj} {K} (h : ∀ W, w.alloc o = W → Calls Try.prog F args W K) : Calls Try.prog F args (w.alloc o) K := h _ rfl
theorem calls_alloc2 {F : FuncId} {args : Array Value} {w : World} {o o2 : Obj} {K} (h : ∀ W1 W, w.alloc o = W1 → W1.alloc o2 = W → Calls Try.prog F args W K) : Calls Try.prog F args ((w.alloc o).alloc o2) K := h _ _ rfl rfl

theorem mark_shi (w : World) (g : Nat) (hg : g = w.heap.size) : ∃ W, (convert 51 51 (.slice (some ⟨g, 0, none⟩) 3 3)).run Try.prog (w.alloc (.cells #[.int .u8 115, .int .u8 104, .int .u8 105] 5)) = .ok (.slice (some ⟨g, 0, none⟩) 3 3) W ∧
    (∃ f, W.heap[g]? = some (Obj.cells #[.int .u8 115, .int .u8 104, .int .u8 105] 5 f)) ∧ Below w.heap.size w W ∧ W.heap.size = w.heap.size + 1 := by
  subst hg
  refine ⟨(w.alloc (.cells #[.int .u8 115, .int .u8 104, .int .u8 105] 5)).freeze ⟨w.heap.size, 3, none⟩ 1, ?_, ?_, ?_, ?_⟩
  · have hsh : (w.alloc (.cells #[.int .u8 115, .int .u8 104, .int .u8 105] 5)).shape? w.heap.size = some (5, 3) := by
      simp [World.shape?, World.alloc, -World.alloc_eq]
    obtain ⟨W, hW⟩ : ∃ W, w.alloc (.cells #[.int .u8 115, .int .u8 104, .int .u8 105] 5) = W := ⟨_, rfl⟩
    rw [hW] at hsh ⊢
    simp [convert, run_underlying Try.underlying51, run_underlying Try.underlying5, markStringish, hsh, Result.andThen]
  · refine ⟨(3, 4), ?_⟩
    simp [World.freeze, World.alloc, -World.alloc_eq]
    rw [Array.getElem_modify_self]
    simp
  · refine ⟨rfl, rfl, rfl, by simp [World.freeze, World.alloc, -World.alloc_eq], fun k hk => ?_⟩
    have h1 : w.heap.size ≠ k := by omega
    simp [World.freeze, World.alloc, -World.alloc_eq, Array.getElem?_modify, Array.getElem?_push, h1, Ne.symm h1]
  · simp [World.freeze, World.alloc, -World.alloc_eq]
theorem calls_set3 {F : FuncId} {args : Array Value} {w : World} {p0 p1 p2 : Addr} {x y z : Value} {K} (h : ∀ W, ((w.setCell p0 x).setCell p1 y).setCell p2 z = W → Calls Try.prog F args W K) : Calls Try.prog F args (((w.setCell p0 x).setCell p1 y).setCell p2 z) K := h _ rfl
theorem set3 {w W : World} {g : Nat} {x y z x' y' z' : Value} {t : TypeId} (h : w.heap[g]? = some (Obj.cells #[x, y, z] t)) (hW : ((w.setCell ⟨g, 0, none⟩ x').setCell ⟨g, 1, none⟩ y').setCell ⟨g, 2, none⟩ z' = W) :
    W.heap[g]? = some (Obj.cells #[x', y', z'] t) ∧ (∀ k o, k ≠ g → w.heap[k]? = some o → W.heap[k]? = some o) ∧ (∀ B s is, own B w s is → g < B → ItR W s is) ∧ Below g w W ∧ W.heap.size = w.heap.size := by
  subst hW
  refine ⟨box_set3 h, fun k o hk ho => ?_, fun B s is ho hB => ?_, ?_, by simp⟩
  · rw [heap_setCell_other _ _ _ _ (by show k ≠ g; exact hk), heap_setCell_other _ _ _ _ (by show k ≠ g; exact hk), heap_setCell_other _ _ _ _ (by show k ≠ g; exact hk)]; exact ho
  · exact (items_of_own (ownsRow_setCell_below (ownsRow_setCell_below (ownsRow_setCell_below ho (a := ⟨g, 0, none⟩) hB x') (a := ⟨g, 1, none⟩) hB y') (a := ⟨g, 2, none⟩) hB z')).1
  · exact Below.setCell (Below.setCell (Below.setCell (Below.refl g w) (p := ⟨g, 0, none⟩) (Nat.le_refl _) x') (p := ⟨g, 1, none⟩) (Nat.le_refl _) y') (p := ⟨g, 2, none⟩) (Nat.le_refl _) z'
theorem row3 {W : World} {g : Nat} {f} (h : W.heap[g]? = some (Obj.cells #[.int .u8 115, .int .u8 104, .int .u8 105] 5 f)) : W.cell? ⟨g, 0, none⟩ = some (.int .u8 115) ∧ W.cell? ⟨g, 1, none⟩ = some (.int .u8 104) ∧ W.cell? ⟨g, 2, none⟩ = some (.int .u8 105) := by
  refine ⟨?_, ?_, ?_⟩
  · rw [cell_of_row _ _ 0 _ _ _ h]; rfl
  · rw [cell_of_row _ _ 1 _ _ _ h]; rfl
  · rw [cell_of_row _ _ 2 _ _ _ h]; rfl

theorem own : ownKnob Try.prog.godebug = none := by kernel_rfl
theorem laidOut : laidOutB Try.prog = true := by kernel_rfl

end Go.Proofs.Ytlmbbpppfghcbaa.composeKnown
