/-
  Contract of the function that readUnits makes: the end of a group.
-/
import Derived.Test.YtfkdlnaakmgclaaDoorNumF
import Derived.RegionTactic
import Derived.ChangeAlike
import Derived.Laws.CopyRow
import Derived.Laws.CopyOwn
set_option linter.unusedVariables false
set_option linter.unusedSimpArgs false
namespace Go.Proofs.YtfkdlnaakmgclaaDoor.Num
open Go Go.RowKit Go.Proofs.YtfkdlnaakmgclaaDoor.Kit Go.Proofs.YtfkdlnaakmgclaaDoor.Utf

def numA (f : Nat → Nat) : Array Value := #[.int .i64 (f 0), .int .i64 (f 1), .int .i64 (f 2), .int .i64 (f 3), .int .i64 (f 4), .int .i64 (f 5), .int .i64 (f 6), .int .i64 (f 7), .int .i64 (f 8), .int .i64 (f 9), .int .i64 (f 10), .int .i64 (f 11), .int .i64 (f 12), .int .i64 (f 13), .int .i64 (f 14), .int .i64 (f 15), .int .i64 (f 16), .int .i64 (f 17), .int .i64 (f 18), .int .i64 (f 19)]
def grpA (f : Nat → Nat) : Array Value := #[.int .i64 (f 0), .int .i64 (f 1), .int .i64 (f 2), .int .i64 (f 3)]

/-- What readUnits keeps: the digits by their places, those of the group, the digit. -/
def RU (s : St) (n : Nat) (W : World) : Prop :=
  W.heap[n]? = some (.cells (numA s.1) 59 (0, 0)) ∧ W.heap[n + 1]? = some (.cells (grpA s.2.1) 60 (0, 0)) ∧ W.heap[n + 2]? = some (.cells #[.int .i64 s.2.2] 3 (0, 0))

theorem info_int : (Tryd.prog.info? 3).map (·.size) = some 1 := by kernel_rfl

/-- What the copy of a group into the number leaves. -/
structure Copied (s : St) (p n : Nat) (W X : World) : Prop where
  num : X.heap[n]? = some (.cells (numA (endG s p).1) 59 (0, 0))
  grp : X.heap[n + 1]? = some (.cells #[.int .i64 s.2.2, .int .i64 (s.2.1 1), .int .i64 (s.2.1 2), .int .i64 (s.2.1 3)] 60 (0, 0))
  dig : X.heap[n + 2]? = some (.cells #[.int .i64 s.2.2] 3 (0, 0))
  below : Below n W X
  rest : ∀ k, n + 3 ≤ k → X.heap[k]? = W.heap[k]?

theorem copied (s : St) (p n : Nat) (hp : p ≤ 4) (W : World) (h : RU s n W) : ∃ X, (Builtin.copy_ #[61, 61] 3 #[.slice (some ⟨n, 4 * p, none⟩) (20 - 4 * p) (20 - 4 * p), .slice (some ⟨n + 1, 0, none⟩) 4 4]).run Tryd.prog (W.setCell ⟨n + 1, 0, none⟩ (.int .i64 s.2.2)).drew = .ok (.int .i64 4) X ∧ Copied s p n W X := by
  obtain ⟨h1, h2, h3⟩ := h
  have g2 : (W.setCell ⟨n + 1, 0, none⟩ (.int .i64 s.2.2)).drew.heap[n + 1]? = some (.cells #[.int .i64 s.2.2, .int .i64 (s.2.1 1), .int .i64 (s.2.1 2), .int .i64 (s.2.1 3)] 60 (0, 0)) :=
    (heap_setCell_same W (n + 1) 0 _ _ (.int .i64 s.2.2) h2).trans rfl
  have g1 : (W.setCell ⟨n + 1, 0, none⟩ (.int .i64 s.2.2)).drew.heap[n]? = some (.cells (numA s.1) 59 (0, 0)) := by
    refine Eq.trans (Below.heap_setCell _ _ _ _ (fun e => by have : n = n + 1 := e; omega)) h1
  have g3 : (W.setCell ⟨n + 1, 0, none⟩ (.int .i64 s.2.2)).drew.heap[n + 2]? = some (.cells #[.int .i64 s.2.2] 3 (0, 0)) := by
    refine Eq.trans (Below.heap_setCell _ _ _ _ (fun e => by have : n + 2 = n + 1 := e; omega)) h3
  have hrest : ∀ k, n + 3 ≤ k → (W.setCell ⟨n + 1, 0, none⟩ (.int .i64 s.2.2)).drew.heap[k]? = W.heap[k]? := fun k hk =>
    Below.heap_setCell _ _ _ _ (fun e => by have : k = n + 1 := e; omega)
  have hb : Below n W (W.setCell ⟨n + 1, 0, none⟩ (.int .i64 s.2.2)).drew := ((Below.refl n W).setCell (p := ⟨n + 1, 0, none⟩) (Nat.le_succ n) _).drew
  obtain ⟨W1, hW1⟩ : ∃ W1, (W.setCell ⟨n + 1, 0, none⟩ (.int .i64 s.2.2)).drew = W1 := ⟨_, rfl⟩
  rw [hW1] at g1 g2 g3 hrest hb ⊢
  clear hW1
  have hrun := run_copy_row (P := Tryd.prog) W1 61 61 3 3 n (4 * p) (20 - 4 * p) (20 - 4 * p) ⟨n + 1, 0, none⟩ 4 4 (numA s.1) 59 [.int .i64 s.2.2, .int .i64 (s.2.1 1), .int .i64 (s.2.1 2), .int .i64 (s.2.1 3)]
    Tryd.underlying61 info_int g1 (by show 4 = min 4 (20 - 4 * p); omega)
    (fun j v hj => by
      have : W1.cell? ⟨n + 1, j, none⟩ = _ := cell_of_row W1 (n + 1) j _ _ (0, 0) g2
      have e : (⟨n + 1, 0, none⟩ : Addr).add j = ⟨n + 1, j, none⟩ := by simp [Addr.add]; omega
      rw [e, this]
      match j, hj with
      | 0, hj => exact hj
      | 1, hj => exact hj
      | 2, hj => exact hj
      | 3, hj => exact hj
      | j + 4, hj => simp at hj)
    (by show 4 * p + 4 ≤ 20; omega) (by intro v hv; simp at hv; rcases hv with rfl | rfl | rfl | rfl <;> rfl)
  refine ⟨_, hrun, ?_, ?_, ?_, ?_, ?_⟩
  · rw [setRow_heap _ n _ _ _ _ g1]
    have : p = 0 ∨ p = 1 ∨ p = 2 ∨ p = 3 ∨ p = 4 := by omega
    rcases this with rfl | rfl | rfl | rfl | rfl <;> rfl
  · rw [setRow_other _ n (n + 1) _ (by omega)]
    exact g2
  · rw [setRow_other _ n (n + 2) _ (by omega)]
    exact g3
  · exact hb.trans (below_setRow (Below.refl n _) (Nat.le_refl n) _)
  · intro k hk
    rw [setRow_other _ n k _ (by omega)]
    exact hrest k hk

theorem finished (s : St) (p n : Nat) (W X : World) (h : Copied s p n W X) :
    RU (endG s p) n (((((X.setCell ⟨n + 1, 0, none⟩ (.int .i64 0)).setCell ⟨n + 1, 1, none⟩ (.int .i64 0)).setCell ⟨n + 1, 2, none⟩ (.int .i64 0)).setCell ⟨n + 1, 3, none⟩ (.int .i64 0)).setCell ⟨n + 2, 0, none⟩ (.int .i64 0)) ∧
    Below n W (((((X.setCell ⟨n + 1, 0, none⟩ (.int .i64 0)).setCell ⟨n + 1, 1, none⟩ (.int .i64 0)).setCell ⟨n + 1, 2, none⟩ (.int .i64 0)).setCell ⟨n + 1, 3, none⟩ (.int .i64 0)).setCell ⟨n + 2, 0, none⟩ (.int .i64 0)) ∧
    ∀ k, n + 3 ≤ k → (((((X.setCell ⟨n + 1, 0, none⟩ (.int .i64 0)).setCell ⟨n + 1, 1, none⟩ (.int .i64 0)).setCell ⟨n + 1, 2, none⟩ (.int .i64 0)).setCell ⟨n + 1, 3, none⟩ (.int .i64 0)).setCell ⟨n + 2, 0, none⟩ (.int .i64 0)).heap[k]? = W.heap[k]? := by
  have other : ∀ (w : World) (g o k : Nat) (v : Value), k ≠ g → (w.setCell ⟨g, o, none⟩ v).heap[k]? = w.heap[k]? := fun w g o k v hne => Below.heap_setCell _ _ _ _ hne
  have a1 := heap_setCell_same X (n + 1) 0 _ _ (.int .i64 0) h.grp
  have a2 := heap_setCell_same _ (n + 1) 1 _ _ (.int .i64 0) a1
  have a3 := heap_setCell_same _ (n + 1) 2 _ _ (.int .i64 0) a2
  have a4 := heap_setCell_same _ (n + 1) 3 _ _ (.int .i64 0) a3
  have b1 := (other X (n + 1) 0 (n + 2) (.int .i64 0) (by omega)).trans h.dig
  have b2 := (other _ (n + 1) 1 (n + 2) (.int .i64 0) (by omega)).trans b1
  have b3 := (other _ (n + 1) 2 (n + 2) (.int .i64 0) (by omega)).trans b2
  have b4 := (other _ (n + 1) 3 (n + 2) (.int .i64 0) (by omega)).trans b3
  have b5 := heap_setCell_same _ (n + 2) 0 _ _ (.int .i64 0) b4
  refine ⟨⟨?_, ?_, ?_⟩, ?_, fun k hk => ?_⟩
  · rw [other _ _ _ _ _ (by omega), other _ _ _ _ _ (by omega), other _ _ _ _ _ (by omega), other _ _ _ _ _ (by omega), other _ _ _ _ _ (by omega)]; exact h.num
  · rw [other _ _ _ _ _ (by omega), a4]; rfl
  · rw [b5]; rfl
  · exact ((((h.below.setCell (p := ⟨n + 1, 0, none⟩) (Nat.le_succ n) _).setCell (p := ⟨n + 1, 1, none⟩) (Nat.le_succ n) _).setCell (p := ⟨n + 1, 2, none⟩) (Nat.le_succ n) _).setCell (p := ⟨n + 1, 3, none⟩) (Nat.le_succ n) _).setCell (p := ⟨n + 2, 0, none⟩) (by show n ≤ n + 2; omega) _
  · rw [other _ _ _ _ _ (by omega), other _ _ _ _ _ (by omega), other _ _ _ _ _ (by omega), other _ _ _ _ _ (by omega), other _ _ _ _ _ (by omega)]; exact h.rest k hk

theorem endGroup_0 (s : St) (n : Nat) (W : World) (h : RU s n W) :
    Calls Tryd.prog 56 #[.int .i64 0, .pointer (some ⟨n + 2, 0, none⟩), .pointer (some ⟨n + 1, 0, none⟩), .pointer (some ⟨n, 0, none⟩)] W fun e W' => e = .returned (.tuple #[]) ∧ RU (endG s 0) n W' ∧ Below n W W' ∧ ∀ k, n + 3 ≤ k → W'.heap[k]? = W.heap[k]? := by
  obtain ⟨X, hcopy0, hX⟩ := copied s 0 n (by decide) W h
  have hcopy : (Builtin.copy_ #[61, 61] 3 #[.slice (some ⟨n, 0, none⟩) 20 20, .slice (some ⟨n + 1, 0, none⟩) 4 4]).run Tryd.prog (W.setCell ⟨n + 1, 0, none⟩ (.int .i64 s.2.2)).drew = .ok (.int .i64 4) X := hcopy0
  clear hcopy0
  obtain ⟨h1, h2, h3⟩ := h
  have c3 : W.cell? ⟨n + 2, 0, none⟩ = some (.int .i64 s.2.2) := by simp [World.cell?, h3]
  have c2 : W.cell? ⟨n + 1, 0, none⟩ = some (.int .i64 (s.2.1 0)) := by simp [World.cell?, h2, grpA]
  have f2 : W.frozen? ⟨n + 1, 0, none⟩ = false := by simp [World.frozen?, h2]
  have f3 : W.frozen? ⟨n + 2, 0, none⟩ = false := by simp [World.frozen?, h3]
  clear h1 h2 h3
  have x3 : X.cell? ⟨n + 2, 0, none⟩ = some (.int .i64 s.2.2) := by simp [World.cell?, hX.dig]
  have xf3 : X.frozen? ⟨n + 2, 0, none⟩ = false := by simp [World.frozen?, hX.dig]
  have x20 : X.cell? ⟨n + 1, 0, none⟩ = some (.int .i64 s.2.2) := by simp [World.cell?, hX.grp]
  have x21 : X.cell? ⟨n + 1, 1, none⟩ = some (.int .i64 (s.2.1 1)) := by simp [World.cell?, hX.grp]
  have x22 : X.cell? ⟨n + 1, 2, none⟩ = some (.int .i64 (s.2.1 2)) := by simp [World.cell?, hX.grp]
  have x23 : X.cell? ⟨n + 1, 3, none⟩ = some (.int .i64 (s.2.1 3)) := by simp [World.cell?, hX.grp]
  have xf20 : X.frozen? ⟨n + 1, 0, none⟩ = false := by simp [World.frozen?, hX.grp]
  have xf21 : X.frozen? ⟨n + 1, 1, none⟩ = false := by simp [World.frozen?, hX.grp]
  have xf22 : X.frozen? ⟨n + 1, 2, none⟩ = false := by simp [World.frozen?, hX.grp]
  have xf23 : X.frozen? ⟨n + 1, 3, none⟩ = false := by simp [World.frozen?, hX.grp]
  have HX := Lib.hid hX; clear hX
  go_enter Tryd.func56, Tryd.ntmps56
  go_wp2
  go_region
  all_goals go_wp2
  go_end0
  exact ⟨rfl, finished s 0 n W X HX.out⟩

theorem endGroup_1 (s : St) (n : Nat) (W : World) (h : RU s n W) :
    Calls Tryd.prog 56 #[.int .i64 1, .pointer (some ⟨n + 2, 0, none⟩), .pointer (some ⟨n + 1, 0, none⟩), .pointer (some ⟨n, 0, none⟩)] W fun e W' => e = .returned (.tuple #[]) ∧ RU (endG s 1) n W' ∧ Below n W W' ∧ ∀ k, n + 3 ≤ k → W'.heap[k]? = W.heap[k]? := by
  obtain ⟨X, hcopy0, hX⟩ := copied s 1 n (by decide) W h
  have hcopy : (Builtin.copy_ #[61, 61] 3 #[.slice (some ⟨n, 4, none⟩) 16 16, .slice (some ⟨n + 1, 0, none⟩) 4 4]).run Tryd.prog (W.setCell ⟨n + 1, 0, none⟩ (.int .i64 s.2.2)).drew = .ok (.int .i64 4) X := hcopy0
  clear hcopy0
  obtain ⟨h1, h2, h3⟩ := h
  have c3 : W.cell? ⟨n + 2, 0, none⟩ = some (.int .i64 s.2.2) := by simp [World.cell?, h3]
  have c2 : W.cell? ⟨n + 1, 0, none⟩ = some (.int .i64 (s.2.1 0)) := by simp [World.cell?, h2, grpA]
  have f2 : W.frozen? ⟨n + 1, 0, none⟩ = false := by simp [World.frozen?, h2]
  have f3 : W.frozen? ⟨n + 2, 0, none⟩ = false := by simp [World.frozen?, h3]
  clear h1 h2 h3
  have x3 : X.cell? ⟨n + 2, 0, none⟩ = some (.int .i64 s.2.2) := by simp [World.cell?, hX.dig]
  have xf3 : X.frozen? ⟨n + 2, 0, none⟩ = false := by simp [World.frozen?, hX.dig]
  have x20 : X.cell? ⟨n + 1, 0, none⟩ = some (.int .i64 s.2.2) := by simp [World.cell?, hX.grp]
  have x21 : X.cell? ⟨n + 1, 1, none⟩ = some (.int .i64 (s.2.1 1)) := by simp [World.cell?, hX.grp]
  have x22 : X.cell? ⟨n + 1, 2, none⟩ = some (.int .i64 (s.2.1 2)) := by simp [World.cell?, hX.grp]
  have x23 : X.cell? ⟨n + 1, 3, none⟩ = some (.int .i64 (s.2.1 3)) := by simp [World.cell?, hX.grp]
  have xf20 : X.frozen? ⟨n + 1, 0, none⟩ = false := by simp [World.frozen?, hX.grp]
  have xf21 : X.frozen? ⟨n + 1, 1, none⟩ = false := by simp [World.frozen?, hX.grp]
  have xf22 : X.frozen? ⟨n + 1, 2, none⟩ = false := by simp [World.frozen?, hX.grp]
  have xf23 : X.frozen? ⟨n + 1, 3, none⟩ = false := by simp [World.frozen?, hX.grp]
  have HX := Lib.hid hX; clear hX
  go_enter Tryd.func56, Tryd.ntmps56
  go_wp2
  go_region
  all_goals go_wp2
  go_end0
  exact ⟨rfl, finished s 1 n W X HX.out⟩

theorem endGroup_2 (s : St) (n : Nat) (W : World) (h : RU s n W) :
    Calls Tryd.prog 56 #[.int .i64 2, .pointer (some ⟨n + 2, 0, none⟩), .pointer (some ⟨n + 1, 0, none⟩), .pointer (some ⟨n, 0, none⟩)] W fun e W' => e = .returned (.tuple #[]) ∧ RU (endG s 2) n W' ∧ Below n W W' ∧ ∀ k, n + 3 ≤ k → W'.heap[k]? = W.heap[k]? := by
  obtain ⟨X, hcopy0, hX⟩ := copied s 2 n (by decide) W h
  have hcopy : (Builtin.copy_ #[61, 61] 3 #[.slice (some ⟨n, 8, none⟩) 12 12, .slice (some ⟨n + 1, 0, none⟩) 4 4]).run Tryd.prog (W.setCell ⟨n + 1, 0, none⟩ (.int .i64 s.2.2)).drew = .ok (.int .i64 4) X := hcopy0
  clear hcopy0
  obtain ⟨h1, h2, h3⟩ := h
  have c3 : W.cell? ⟨n + 2, 0, none⟩ = some (.int .i64 s.2.2) := by simp [World.cell?, h3]
  have c2 : W.cell? ⟨n + 1, 0, none⟩ = some (.int .i64 (s.2.1 0)) := by simp [World.cell?, h2, grpA]
  have f2 : W.frozen? ⟨n + 1, 0, none⟩ = false := by simp [World.frozen?, h2]
  have f3 : W.frozen? ⟨n + 2, 0, none⟩ = false := by simp [World.frozen?, h3]
  clear h1 h2 h3
  have x3 : X.cell? ⟨n + 2, 0, none⟩ = some (.int .i64 s.2.2) := by simp [World.cell?, hX.dig]
  have xf3 : X.frozen? ⟨n + 2, 0, none⟩ = false := by simp [World.frozen?, hX.dig]
  have x20 : X.cell? ⟨n + 1, 0, none⟩ = some (.int .i64 s.2.2) := by simp [World.cell?, hX.grp]
  have x21 : X.cell? ⟨n + 1, 1, none⟩ = some (.int .i64 (s.2.1 1)) := by simp [World.cell?, hX.grp]
  have x22 : X.cell? ⟨n + 1, 2, none⟩ = some (.int .i64 (s.2.1 2)) := by simp [World.cell?, hX.grp]
  have x23 : X.cell? ⟨n + 1, 3, none⟩ = some (.int .i64 (s.2.1 3)) := by simp [World.cell?, hX.grp]
  have xf20 : X.frozen? ⟨n + 1, 0, none⟩ = false := by simp [World.frozen?, hX.grp]
  have xf21 : X.frozen? ⟨n + 1, 1, none⟩ = false := by simp [World.frozen?, hX.grp]
  have xf22 : X.frozen? ⟨n + 1, 2, none⟩ = false := by simp [World.frozen?, hX.grp]
  have xf23 : X.frozen? ⟨n + 1, 3, none⟩ = false := by simp [World.frozen?, hX.grp]
  have HX := Lib.hid hX; clear hX
  go_enter Tryd.func56, Tryd.ntmps56
  go_wp2
  go_region
  all_goals go_wp2
  go_end0
  exact ⟨rfl, finished s 2 n W X HX.out⟩

theorem endGroup_3 (s : St) (n : Nat) (W : World) (h : RU s n W) :
    Calls Tryd.prog 56 #[.int .i64 3, .pointer (some ⟨n + 2, 0, none⟩), .pointer (some ⟨n + 1, 0, none⟩), .pointer (some ⟨n, 0, none⟩)] W fun e W' => e = .returned (.tuple #[]) ∧ RU (endG s 3) n W' ∧ Below n W W' ∧ ∀ k, n + 3 ≤ k → W'.heap[k]? = W.heap[k]? := by
  obtain ⟨X, hcopy0, hX⟩ := copied s 3 n (by decide) W h
  have hcopy : (Builtin.copy_ #[61, 61] 3 #[.slice (some ⟨n, 12, none⟩) 8 8, .slice (some ⟨n + 1, 0, none⟩) 4 4]).run Tryd.prog (W.setCell ⟨n + 1, 0, none⟩ (.int .i64 s.2.2)).drew = .ok (.int .i64 4) X := hcopy0
  clear hcopy0
  obtain ⟨h1, h2, h3⟩ := h
  have c3 : W.cell? ⟨n + 2, 0, none⟩ = some (.int .i64 s.2.2) := by simp [World.cell?, h3]
  have c2 : W.cell? ⟨n + 1, 0, none⟩ = some (.int .i64 (s.2.1 0)) := by simp [World.cell?, h2, grpA]
  have f2 : W.frozen? ⟨n + 1, 0, none⟩ = false := by simp [World.frozen?, h2]
  have f3 : W.frozen? ⟨n + 2, 0, none⟩ = false := by simp [World.frozen?, h3]
  clear h1 h2 h3
  have x3 : X.cell? ⟨n + 2, 0, none⟩ = some (.int .i64 s.2.2) := by simp [World.cell?, hX.dig]
  have xf3 : X.frozen? ⟨n + 2, 0, none⟩ = false := by simp [World.frozen?, hX.dig]
  have x20 : X.cell? ⟨n + 1, 0, none⟩ = some (.int .i64 s.2.2) := by simp [World.cell?, hX.grp]
  have x21 : X.cell? ⟨n + 1, 1, none⟩ = some (.int .i64 (s.2.1 1)) := by simp [World.cell?, hX.grp]
  have x22 : X.cell? ⟨n + 1, 2, none⟩ = some (.int .i64 (s.2.1 2)) := by simp [World.cell?, hX.grp]
  have x23 : X.cell? ⟨n + 1, 3, none⟩ = some (.int .i64 (s.2.1 3)) := by simp [World.cell?, hX.grp]
  have xf20 : X.frozen? ⟨n + 1, 0, none⟩ = false := by simp [World.frozen?, hX.grp]
  have xf21 : X.frozen? ⟨n + 1, 1, none⟩ = false := by simp [World.frozen?, hX.grp]
  have xf22 : X.frozen? ⟨n + 1, 2, none⟩ = false := by simp [World.frozen?, hX.grp]
  have xf23 : X.frozen? ⟨n + 1, 3, none⟩ = false := by simp [World.frozen?, hX.grp]
  have HX := Lib.hid hX; clear hX
  go_enter Tryd.func56, Tryd.ntmps56
  go_wp2
  go_region
  all_goals go_wp2
  go_end0
  exact ⟨rfl, finished s 3 n W X HX.out⟩

theorem endGroup_4 (s : St) (n : Nat) (W : World) (h : RU s n W) :
    Calls Tryd.prog 56 #[.int .i64 4, .pointer (some ⟨n + 2, 0, none⟩), .pointer (some ⟨n + 1, 0, none⟩), .pointer (some ⟨n, 0, none⟩)] W fun e W' => e = .returned (.tuple #[]) ∧ RU (endG s 4) n W' ∧ Below n W W' ∧ ∀ k, n + 3 ≤ k → W'.heap[k]? = W.heap[k]? := by
  obtain ⟨X, hcopy0, hX⟩ := copied s 4 n (by decide) W h
  have hcopy : (Builtin.copy_ #[61, 61] 3 #[.slice (some ⟨n, 16, none⟩) 4 4, .slice (some ⟨n + 1, 0, none⟩) 4 4]).run Tryd.prog (W.setCell ⟨n + 1, 0, none⟩ (.int .i64 s.2.2)).drew = .ok (.int .i64 4) X := hcopy0
  clear hcopy0
  obtain ⟨h1, h2, h3⟩ := h
  have c3 : W.cell? ⟨n + 2, 0, none⟩ = some (.int .i64 s.2.2) := by simp [World.cell?, h3]
  have c2 : W.cell? ⟨n + 1, 0, none⟩ = some (.int .i64 (s.2.1 0)) := by simp [World.cell?, h2, grpA]
  have f2 : W.frozen? ⟨n + 1, 0, none⟩ = false := by simp [World.frozen?, h2]
  have f3 : W.frozen? ⟨n + 2, 0, none⟩ = false := by simp [World.frozen?, h3]
  clear h1 h2 h3
  have x3 : X.cell? ⟨n + 2, 0, none⟩ = some (.int .i64 s.2.2) := by simp [World.cell?, hX.dig]
  have xf3 : X.frozen? ⟨n + 2, 0, none⟩ = false := by simp [World.frozen?, hX.dig]
  have x20 : X.cell? ⟨n + 1, 0, none⟩ = some (.int .i64 s.2.2) := by simp [World.cell?, hX.grp]
  have x21 : X.cell? ⟨n + 1, 1, none⟩ = some (.int .i64 (s.2.1 1)) := by simp [World.cell?, hX.grp]
  have x22 : X.cell? ⟨n + 1, 2, none⟩ = some (.int .i64 (s.2.1 2)) := by simp [World.cell?, hX.grp]
  have x23 : X.cell? ⟨n + 1, 3, none⟩ = some (.int .i64 (s.2.1 3)) := by simp [World.cell?, hX.grp]
  have xf20 : X.frozen? ⟨n + 1, 0, none⟩ = false := by simp [World.frozen?, hX.grp]
  have xf21 : X.frozen? ⟨n + 1, 1, none⟩ = false := by simp [World.frozen?, hX.grp]
  have xf22 : X.frozen? ⟨n + 1, 2, none⟩ = false := by simp [World.frozen?, hX.grp]
  have xf23 : X.frozen? ⟨n + 1, 3, none⟩ = false := by simp [World.frozen?, hX.grp]
  have HX := Lib.hid hX; clear hX
  go_enter Tryd.func56, Tryd.ntmps56
  go_wp2
  go_region
  all_goals go_wp2
  go_end0
  exact ⟨rfl, finished s 4 n W X HX.out⟩

theorem endGroup_at (s : St) (p n : Nat) (hp : p ≤ 4) (W : World) (h : RU s n W) :
    Calls Tryd.prog 56 #[.int .i64 (p : Nat), .pointer (some ⟨n + 2, 0, none⟩), .pointer (some ⟨n + 1, 0, none⟩), .pointer (some ⟨n, 0, none⟩)] W fun e W' => e = .returned (.tuple #[]) ∧ RU (endG s p) n W' ∧ Below n W W' ∧ ∀ k, n + 3 ≤ k → W'.heap[k]? = W.heap[k]? := by
  have : p = 0 ∨ p = 1 ∨ p = 2 ∨ p = 3 ∨ p = 4 := by omega
  rcases this with rfl | rfl | rfl | rfl | rfl
  · exact endGroup_0 s n W h
  · exact endGroup_1 s n W h
  · exact endGroup_2 s n W h
  · exact endGroup_3 s n W h
  · exact endGroup_4 s n W h

end Go.Proofs.YtfkdlnaakmgclaaDoor.Num
