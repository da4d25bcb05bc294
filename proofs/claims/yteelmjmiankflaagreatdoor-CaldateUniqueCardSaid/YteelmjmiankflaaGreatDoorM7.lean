/-
  Joined texts: NumG, NumH, NumI.
-/
import Derived.Test.YteelmjmiankflaaGreatDoorM6
import Derived.RegionTactic
import Derived.ChangeAlike
import Derived.Laws.CopyRow
import Derived.Laws.CopyOwn
import Derived.Lib.TrimByte
set_option linter.unusedVariables false
set_option linter.unusedSimpArgs false
namespace Go.Proofs.YteelmjmiankflaaGreatDoor.Num
open Go Go.RowKit Go.Proofs.YteelmjmiankflaaGreatDoor.Kit Go.Proofs.YteelmjmiankflaaGreatDoor.Utf

def numA (f : Nat → Nat) : Array Value := #[.int .i64 (f 0), .int .i64 (f 1), .int .i64 (f 2), .int .i64 (f 3), .int .i64 (f 4), .int .i64 (f 5), .int .i64 (f 6), .int .i64 (f 7), .int .i64 (f 8), .int .i64 (f 9), .int .i64 (f 10), .int .i64 (f 11), .int .i64 (f 12), .int .i64 (f 13), .int .i64 (f 14), .int .i64 (f 15), .int .i64 (f 16), .int .i64 (f 17), .int .i64 (f 18), .int .i64 (f 19)]
def grpA (f : Nat → Nat) : Array Value := #[.int .i64 (f 0), .int .i64 (f 1), .int .i64 (f 2), .int .i64 (f 3)]

/-- What readUnits keeps: the digits by their places, those of the group, the digit. -/
def RU (s : St) (n : Nat) (W : World) : Prop :=
  W.heap[n]? = some (.cells (numA s.1) 108 (0, 0)) ∧ W.heap[n + 1]? = some (.cells (grpA s.2.1) 109 (0, 0)) ∧ W.heap[n + 2]? = some (.cells #[.int .i64 s.2.2] 3 (0, 0))

theorem info_int : (Tryz.prog.info? 3).map (·.size) = some 1 := by kernel_rfl

/-- What the copy of a group into the number leaves. -/
structure Copied (s : St) (p n : Nat) (W X : World) : Prop where
  num : X.heap[n]? = some (.cells (numA (endG s p).1) 108 (0, 0))
  grp : X.heap[n + 1]? = some (.cells #[.int .i64 s.2.2, .int .i64 (s.2.1 1), .int .i64 (s.2.1 2), .int .i64 (s.2.1 3)] 109 (0, 0))
  dig : X.heap[n + 2]? = some (.cells #[.int .i64 s.2.2] 3 (0, 0))
  below : Below n W X
  rest : ∀ k, n + 3 ≤ k → X.heap[k]? = W.heap[k]?

theorem copied (s : St) (p n : Nat) (hp : p ≤ 4) (W : World) (h : RU s n W) : ∃ X, (Builtin.copy_ #[36, 36] 3 #[.slice (some ⟨n, 4 * p, none⟩) (20 - 4 * p) (20 - 4 * p), .slice (some ⟨n + 1, 0, none⟩) 4 4]).run Tryz.prog (W.setCell ⟨n + 1, 0, none⟩ (.int .i64 s.2.2)).drew = .ok (.int .i64 4) X ∧ Copied s p n W X := by
  obtain ⟨h1, h2, h3⟩ := h
  have g2 : (W.setCell ⟨n + 1, 0, none⟩ (.int .i64 s.2.2)).drew.heap[n + 1]? = some (.cells #[.int .i64 s.2.2, .int .i64 (s.2.1 1), .int .i64 (s.2.1 2), .int .i64 (s.2.1 3)] 109 (0, 0)) :=
    (heap_setCell_same W (n + 1) 0 _ _ (.int .i64 s.2.2) h2).trans rfl
  have g1 : (W.setCell ⟨n + 1, 0, none⟩ (.int .i64 s.2.2)).drew.heap[n]? = some (.cells (numA s.1) 108 (0, 0)) := by
    refine Eq.trans (Below.heap_setCell _ _ _ _ (fun e => by have : n = n + 1 := e; omega)) h1
  have g3 : (W.setCell ⟨n + 1, 0, none⟩ (.int .i64 s.2.2)).drew.heap[n + 2]? = some (.cells #[.int .i64 s.2.2] 3 (0, 0)) := by
    refine Eq.trans (Below.heap_setCell _ _ _ _ (fun e => by have : n + 2 = n + 1 := e; omega)) h3
  have hrest : ∀ k, n + 3 ≤ k → (W.setCell ⟨n + 1, 0, none⟩ (.int .i64 s.2.2)).drew.heap[k]? = W.heap[k]? := fun k hk =>
    Below.heap_setCell _ _ _ _ (fun e => by have : k = n + 1 := e; omega)
  have hb : Below n W (W.setCell ⟨n + 1, 0, none⟩ (.int .i64 s.2.2)).drew := ((Below.refl n W).setCell (p := ⟨n + 1, 0, none⟩) (Nat.le_succ n) _).drew
  obtain ⟨W1, hW1⟩ : ∃ W1, (W.setCell ⟨n + 1, 0, none⟩ (.int .i64 s.2.2)).drew = W1 := ⟨_, rfl⟩
  rw [hW1] at g1 g2 g3 hrest hb ⊢
  clear hW1
  have hrun := run_copy_row (P := Tryz.prog) W1 36 36 3 3 n (4 * p) (20 - 4 * p) (20 - 4 * p) ⟨n + 1, 0, none⟩ 4 4 (numA s.1) 108 [.int .i64 s.2.2, .int .i64 (s.2.1 1), .int .i64 (s.2.1 2), .int .i64 (s.2.1 3)]
    Tryz.underlying36 info_int g1 (by show 4 = min 4 (20 - 4 * p); omega)
    (fun j v hj => by
      have : W1.cell? ⟨n + 1, j, none⟩ = _ := cell_of_row W1 (n + 1) j _ _ (0, 0) g2
      have e : (⟨n + 1, 0, none⟩ : Addr).add j = ⟨n + 1, j, none⟩ := by simp [Addr.add]; omega
      rw [e, this]
      match j, hj with
      | 0, hj => exact hj
      | 1, hj => exact hj
      | 2, hj => exact hj
      | 3, hj => exact hj
      | j + 4, hj => simp at hj)
    (by show 4 * p + 4 ≤ 20; omega) (by intro v hv; simp at hv; rcases hv with rfl | rfl | rfl | rfl <;> rfl)
  refine ⟨_, hrun, ?_, ?_, ?_, ?_, ?_⟩
  · rw [setRow_heap _ n _ _ _ _ g1]
    have : p = 0 ∨ p = 1 ∨ p = 2 ∨ p = 3 ∨ p = 4 := by omega
    rcases this with rfl | rfl | rfl | rfl | rfl <;> rfl
  · rw [setRow_other _ n (n + 1) _ (by omega)]
    exact g2
  · rw [setRow_other _ n (n + 2) _ (by omega)]
    exact g3
  · exact hb.trans (below_setRow (Below.refl n _) (Nat.le_refl n) _)
  · intro k hk
    rw [setRow_other _ n k _ (by omega)]
    exact hrest k hk

theorem finished (s : St) (p n : Nat) (W X : World) (h : Copied s p n W X) :
    RU (endG s p) n (((((X.setCell ⟨n + 1, 0, none⟩ (.int .i64 0)).setCell ⟨n + 1, 1, none⟩ (.int .i64 0)).setCell ⟨n + 1, 2, none⟩ (.int .i64 0)).setCell ⟨n + 1, 3, none⟩ (.int .i64 0)).setCell ⟨n + 2, 0, none⟩ (.int .i64 0)) ∧
    Below n W (((((X.setCell ⟨n + 1, 0, none⟩ (.int .i64 0)).setCell ⟨n + 1, 1, none⟩ (.int .i64 0)).setCell ⟨n + 1, 2, none⟩ (.int .i64 0)).setCell ⟨n + 1, 3, none⟩ (.int .i64 0)).setCell ⟨n + 2, 0, none⟩ (.int .i64 0)) ∧
    ∀ k, n + 3 ≤ k → (((((X.setCell ⟨n + 1, 0, none⟩ (.int .i64 0)).setCell ⟨n + 1, 1, none⟩ (.int .i64 0)).setCell ⟨n + 1, 2, none⟩ (.int .i64 0)).setCell ⟨n + 1, 3, none⟩ (.int .i64 0)).setCell ⟨n + 2, 0, none⟩ (.int .i64 0)).heap[k]? = W.heap[k]? := by
  have other : ∀ (w : World) (g o k : Nat) (v : Value), k ≠ g → (w.setCell ⟨g, o, none⟩ v).heap[k]? = w.heap[k]? := fun w g o k v hne => Below.heap_setCell _ _ _ _ hne
  have a1 := heap_setCell_same X (n + 1) 0 _ _ (.int .i64 0) h.grp
  have a2 := heap_setCell_same _ (n + 1) 1 _ _ (.int .i64 0) a1
  have a3 := heap_setCell_same _ (n + 1) 2 _ _ (.int .i64 0) a2
  have a4 := heap_setCell_same _ (n + 1) 3 _ _ (.int .i64 0) a3
  have b1 := (other X (n + 1) 0 (n + 2) (.int .i64 0) (by omega)).trans h.dig
  have b2 := (other _ (n + 1) 1 (n + 2) (.int .i64 0) (by omega)).trans b1
  have b3 := (other _ (n + 1) 2 (n + 2) (.int .i64 0) (by omega)).trans b2
  have b4 := (other _ (n + 1) 3 (n + 2) (.int .i64 0) (by omega)).trans b3
  have b5 := heap_setCell_same _ (n + 2) 0 _ _ (.int .i64 0) b4
  refine ⟨⟨?_, ?_, ?_⟩, ?_, fun k hk => ?_⟩
  · rw [other _ _ _ _ _ (by omega), other _ _ _ _ _ (by omega), other _ _ _ _ _ (by omega), other _ _ _ _ _ (by omega), other _ _ _ _ _ (by omega)]; exact h.num
  · rw [other _ _ _ _ _ (by omega), a4]; rfl
  · rw [b5]; rfl
  · exact ((((h.below.setCell (p := ⟨n + 1, 0, none⟩) (Nat.le_succ n) _).setCell (p := ⟨n + 1, 1, none⟩) (Nat.le_succ n) _).setCell (p := ⟨n + 1, 2, none⟩) (Nat.le_succ n) _).setCell (p := ⟨n + 1, 3, none⟩) (Nat.le_succ n) _).setCell (p := ⟨n + 2, 0, none⟩) (by show n ≤ n + 2; omega) _
  · rw [other _ _ _ _ _ (by omega), other _ _ _ _ _ (by omega), other _ _ _ _ _ (by omega), other _ _ _ _ _ (by omega), other _ _ _ _ _ (by omega)]; exact h.rest k hk

theorem endGroup_0 (s : St) (n : Nat) (W : World) (h : RU s n W) :
    Calls Tryz.prog 89 #[.int .i64 0, .pointer (some ⟨n + 2, 0, none⟩), .pointer (some ⟨n + 1, 0, none⟩), .pointer (some ⟨n, 0, none⟩)] W fun e W' => e = .returned (.tuple #[]) ∧ RU (endG s 0) n W' ∧ Below n W W' ∧ ∀ k, n + 3 ≤ k → W'.heap[k]? = W.heap[k]? := by
  obtain ⟨X, hcopy0, hX⟩ := copied s 0 n (by decide) W h
  have hcopy : (Builtin.copy_ #[36, 36] 3 #[.slice (some ⟨n, 0, none⟩) 20 20, .slice (some ⟨n + 1, 0, none⟩) 4 4]).run Tryz.prog (W.setCell ⟨n + 1, 0, none⟩ (.int .i64 s.2.2)).drew = .ok (.int .i64 4) X := hcopy0
  clear hcopy0
  obtain ⟨h1, h2, h3⟩ := h
  have c3 : W.cell? ⟨n + 2, 0, none⟩ = some (.int .i64 s.2.2) := by simp [World.cell?, h3]
  have c2 : W.cell? ⟨n + 1, 0, none⟩ = some (.int .i64 (s.2.1 0)) := by simp [World.cell?, h2, grpA]
  have f2 : W.frozen? ⟨n + 1, 0, none⟩ = false := by simp [World.frozen?, h2]
  have f3 : W.frozen? ⟨n + 2, 0, none⟩ = false := by simp [World.frozen?, h3]
  clear h1 h2 h3
  have x3 : X.cell? ⟨n + 2, 0, none⟩ = some (.int .i64 s.2.2) := by simp [World.cell?, hX.dig]
  have xf3 : X.frozen? ⟨n + 2, 0, none⟩ = false := by simp [World.frozen?, hX.dig]
  have x20 : X.cell? ⟨n + 1, 0, none⟩ = some (.int .i64 s.2.2) := by simp [World.cell?, hX.grp]
  have x21 : X.cell? ⟨n + 1, 1, none⟩ = some (.int .i64 (s.2.1 1)) := by simp [World.cell?, hX.grp]
  have x22 : X.cell? ⟨n + 1, 2, none⟩ = some (.int .i64 (s.2.1 2)) := by simp [World.cell?, hX.grp]
  have x23 : X.cell? ⟨n + 1, 3, none⟩ = some (.int .i64 (s.2.1 3)) := by simp [World.cell?, hX.grp]
  have xf20 : X.frozen? ⟨n + 1, 0, none⟩ = false := by simp [World.frozen?, hX.grp]
  have xf21 : X.frozen? ⟨n + 1, 1, none⟩ = false := by simp [World.frozen?, hX.grp]
  have xf22 : X.frozen? ⟨n + 1, 2, none⟩ = false := by simp [World.frozen?, hX.grp]
  have xf23 : X.frozen? ⟨n + 1, 3, none⟩ = false := by simp [World.frozen?, hX.grp]
  have HX := Lib.hid hX; clear hX
  go_enter Tryz.func89, Tryz.ntmps89
  go_wp2
  go_region
  all_goals go_wp2
  go_end0
  exact ⟨rfl, finished s 0 n W X HX.out⟩

theorem endGroup_1 (s : St) (n : Nat) (W : World) (h : RU s n W) :
    Calls Tryz.prog 89 #[.int .i64 1, .pointer (some ⟨n + 2, 0, none⟩), .pointer (some ⟨n + 1, 0, none⟩), .pointer (some ⟨n, 0, none⟩)] W fun e W' => e = .returned (.tuple #[]) ∧ RU (endG s 1) n W' ∧ Below n W W' ∧ ∀ k, n + 3 ≤ k → W'.heap[k]? = W.heap[k]? := by
  obtain ⟨X, hcopy0, hX⟩ := copied s 1 n (by decide) W h
  have hcopy : (Builtin.copy_ #[36, 36] 3 #[.slice (some ⟨n, 4, none⟩) 16 16, .slice (some ⟨n + 1, 0, none⟩) 4 4]).run Tryz.prog (W.setCell ⟨n + 1, 0, none⟩ (.int .i64 s.2.2)).drew = .ok (.int .i64 4) X := hcopy0
  clear hcopy0
  obtain ⟨h1, h2, h3⟩ := h
  have c3 : W.cell? ⟨n + 2, 0, none⟩ = some (.int .i64 s.2.2) := by simp [World.cell?, h3]
  have c2 : W.cell? ⟨n + 1, 0, none⟩ = some (.int .i64 (s.2.1 0)) := by simp [World.cell?, h2, grpA]
  have f2 : W.frozen? ⟨n + 1, 0, none⟩ = false := by simp [World.frozen?, h2]
  have f3 : W.frozen? ⟨n + 2, 0, none⟩ = false := by simp [World.frozen?, h3]
  clear h1 h2 h3
  have x3 : X.cell? ⟨n + 2, 0, none⟩ = some (.int .i64 s.2.2) := by simp [World.cell?, hX.dig]
  have xf3 : X.frozen? ⟨n + 2, 0, none⟩ = false := by simp [World.frozen?, hX.dig]
  have x20 : X.cell? ⟨n + 1, 0, none⟩ = some (.int .i64 s.2.2) := by simp [World.cell?, hX.grp]
  have x21 : X.cell? ⟨n + 1, 1, none⟩ = some (.int .i64 (s.2.1 1)) := by simp [World.cell?, hX.grp]
  have x22 : X.cell? ⟨n + 1, 2, none⟩ = some (.int .i64 (s.2.1 2)) := by simp [World.cell?, hX.grp]
  have x23 : X.cell? ⟨n + 1, 3, none⟩ = some (.int .i64 (s.2.1 3)) := by simp [World.cell?, hX.grp]
  have xf20 : X.frozen? ⟨n + 1, 0, none⟩ = false := by simp [World.frozen?, hX.grp]
  have xf21 : X.frozen? ⟨n + 1, 1, none⟩ = false := by simp [World.frozen?, hX.grp]
  have xf22 : X.frozen? ⟨n + 1, 2, none⟩ = false := by simp [World.frozen?, hX.grp]
  have xf23 : X.frozen? ⟨n + 1, 3, none⟩ = false := by simp [World.frozen?, hX.grp]
  have HX := Lib.hid hX; clear hX
  go_enter Tryz.func89, Tryz.ntmps89
  go_wp2
  go_region
  all_goals go_wp2
  go_end0
  exact ⟨rfl, finished s 1 n W X HX.out⟩

theorem endGroup_2 (s : St) (n : Nat) (W : World) (h : RU s n W) :
    Calls Tryz.prog 89 #[.int .i64 2, .pointer (some ⟨n + 2, 0, none⟩), .pointer (some ⟨n + 1, 0, none⟩), .pointer (some ⟨n, 0, none⟩)] W fun e W' => e = .returned (.tuple #[]) ∧ RU (endG s 2) n W' ∧ Below n W W' ∧ ∀ k, n + 3 ≤ k → W'.heap[k]? = W.heap[k]? := by
  obtain ⟨X, hcopy0, hX⟩ := copied s 2 n (by decide) W h
  have hcopy : (Builtin.copy_ #[36, 36] 3 #[.slice (some ⟨n, 8, none⟩) 12 12, .slice (some ⟨n + 1, 0, none⟩) 4 4]).run Tryz.prog (W.setCell ⟨n + 1, 0, none⟩ (.int .i64 s.2.2)).drew = .ok (.int .i64 4) X := hcopy0
  clear hcopy0
  obtain ⟨h1, h2, h3⟩ := h
  have c3 : W.cell? ⟨n + 2, 0, none⟩ = some (.int .i64 s.2.2) := by simp [World.cell?, h3]
  have c2 : W.cell? ⟨n + 1, 0, none⟩ = some (.int .i64 (s.2.1 0)) := by simp [World.cell?, h2, grpA]
  have f2 : W.frozen? ⟨n + 1, 0, none⟩ = false := by simp [World.frozen?, h2]
  have f3 : W.frozen? ⟨n + 2, 0, none⟩ = false := by simp [World.frozen?, h3]
  clear h1 h2 h3
  have x3 : X.cell? ⟨n + 2, 0, none⟩ = some (.int .i64 s.2.2) := by simp [World.cell?, hX.dig]
  have xf3 : X.frozen? ⟨n + 2, 0, none⟩ = false := by simp [World.frozen?, hX.dig]
  have x20 : X.cell? ⟨n + 1, 0, none⟩ = some (.int .i64 s.2.2) := by simp [World.cell?, hX.grp]
  have x21 : X.cell? ⟨n + 1, 1, none⟩ = some (.int .i64 (s.2.1 1)) := by simp [World.cell?, hX.grp]
  have x22 : X.cell? ⟨n + 1, 2, none⟩ = some (.int .i64 (s.2.1 2)) := by simp [World.cell?, hX.grp]
  have x23 : X.cell? ⟨n + 1, 3, none⟩ = some (.int .i64 (s.2.1 3)) := by simp [World.cell?, hX.grp]
  have xf20 : X.frozen? ⟨n + 1, 0, none⟩ = false := by simp [World.frozen?, hX.grp]
  have xf21 : X.frozen? ⟨n + 1, 1, none⟩ = false := by simp [World.frozen?, hX.grp]
  have xf22 : X.frozen? ⟨n + 1, 2, none⟩ = false := by simp [World.frozen?, hX.grp]
  have xf23 : X.frozen? ⟨n + 1, 3, none⟩ = false := by simp [World.frozen?, hX.grp]
  have HX := Lib.hid hX; clear hX
  go_enter Tryz.func89, Tryz.ntmps89
  go_wp2
  go_region
  all_goals go_wp2
  go_end0
  exact ⟨rfl, finished s 2 n W X HX.out⟩

theorem endGroup_3 (s : St) (n : Nat) (W : World) (h : RU s n W) :
    Calls Tryz.prog 89 #[.int .i64 3, .pointer (some ⟨n + 2, 0, none⟩), .pointer (some ⟨n + 1, 0, none⟩), .pointer (some ⟨n, 0, none⟩)] W fun e W' => e = .returned (.tuple #[]) ∧ RU (endG s 3) n W' ∧ Below n W W' ∧ ∀ k, n + 3 ≤ k → W'.heap[k]? = W.heap[k]? := by
  obtain ⟨X, hcopy0, hX⟩ := copied s 3 n (by decide) W h
  have hcopy : (Builtin.copy_ #[36, 36] 3 #[.slice (some ⟨n, 12, none⟩) 8 8, .slice (some ⟨n + 1, 0, none⟩) 4 4]).run Tryz.prog (W.setCell ⟨n + 1, 0, none⟩ (.int .i64 s.2.2)).drew = .ok (.int .i64 4) X := hcopy0
  clear hcopy0
  obtain ⟨h1, h2, h3⟩ := h
  have c3 : W.cell? ⟨n + 2, 0, none⟩ = some (.int .i64 s.2.2) := by simp [World.cell?, h3]
  have c2 : W.cell? ⟨n + 1, 0, none⟩ = some (.int .i64 (s.2.1 0)) := by simp [World.cell?, h2, grpA]
  have f2 : W.frozen? ⟨n + 1, 0, none⟩ = false := by simp [World.frozen?, h2]
  have f3 : W.frozen? ⟨n + 2, 0, none⟩ = false := by simp [World.frozen?, h3]
  clear h1 h2 h3
  have x3 : X.cell? ⟨n + 2, 0, none⟩ = some (.int .i64 s.2.2) := by simp [World.cell?, hX.dig]
  have xf3 : X.frozen? ⟨n + 2, 0, none⟩ = false := by simp [World.frozen?, hX.dig]
  have x20 : X.cell? ⟨n + 1, 0, none⟩ = some (.int .i64 s.2.2) := by simp [World.cell?, hX.grp]
  have x21 : X.cell? ⟨n + 1, 1, none⟩ = some (.int .i64 (s.2.1 1)) := by simp [World.cell?, hX.grp]
  have x22 : X.cell? ⟨n + 1, 2, none⟩ = some (.int .i64 (s.2.1 2)) := by simp [World.cell?, hX.grp]
  have x23 : X.cell? ⟨n + 1, 3, none⟩ = some (.int .i64 (s.2.1 3)) := by simp [World.cell?, hX.grp]
  have xf20 : X.frozen? ⟨n + 1, 0, none⟩ = false := by simp [World.frozen?, hX.grp]
  have xf21 : X.frozen? ⟨n + 1, 1, none⟩ = false := by simp [World.frozen?, hX.grp]
  have xf22 : X.frozen? ⟨n + 1, 2, none⟩ = false := by simp [World.frozen?, hX.grp]
  have xf23 : X.frozen? ⟨n + 1, 3, none⟩ = false := by simp [World.frozen?, hX.grp]
  have HX := Lib.hid hX; clear hX
  go_enter Tryz.func89, Tryz.ntmps89
  go_wp2
  go_region
  all_goals go_wp2
  go_end0
  exact ⟨rfl, finished s 3 n W X HX.out⟩

theorem endGroup_4 (s : St) (n : Nat) (W : World) (h : RU s n W) :
    Calls Tryz.prog 89 #[.int .i64 4, .pointer (some ⟨n + 2, 0, none⟩), .pointer (some ⟨n + 1, 0, none⟩), .pointer (some ⟨n, 0, none⟩)] W fun e W' => e = .returned (.tuple #[]) ∧ RU (endG s 4) n W' ∧ Below n W W' ∧ ∀ k, n + 3 ≤ k → W'.heap[k]? = W.heap[k]? := by
  obtain ⟨X, hcopy0, hX⟩ := copied s 4 n (by decide) W h
  have hcopy : (Builtin.copy_ #[36, 36] 3 #[.slice (some ⟨n, 16, none⟩) 4 4, .slice (some ⟨n + 1, 0, none⟩) 4 4]).run Tryz.prog (W.setCell ⟨n + 1, 0, none⟩ (.int .i64 s.2.2)).drew = .ok (.int .i64 4) X := hcopy0
  clear hcopy0
  obtain ⟨h1, h2, h3⟩ := h
  have c3 : W.cell? ⟨n + 2, 0, none⟩ = some (.int .i64 s.2.2) := by simp [World.cell?, h3]
  have c2 : W.cell? ⟨n + 1, 0, none⟩ = some (.int .i64 (s.2.1 0)) := by simp [World.cell?, h2, grpA]
  have f2 : W.frozen? ⟨n + 1, 0, none⟩ = false := by simp [World.frozen?, h2]
  have f3 : W.frozen? ⟨n + 2, 0, none⟩ = false := by simp [World.frozen?, h3]
  clear h1 h2 h3
  have x3 : X.cell? ⟨n + 2, 0, none⟩ = some (.int .i64 s.2.2) := by simp [World.cell?, hX.dig]
  have xf3 : X.frozen? ⟨n + 2, 0, none⟩ = false := by simp [World.frozen?, hX.dig]
  have x20 : X.cell? ⟨n + 1, 0, none⟩ = some (.int .i64 s.2.2) := by simp [World.cell?, hX.grp]
  have x21 : X.cell? ⟨n + 1, 1, none⟩ = some (.int .i64 (s.2.1 1)) := by simp [World.cell?, hX.grp]
  have x22 : X.cell? ⟨n + 1, 2, none⟩ = some (.int .i64 (s.2.1 2)) := by simp [World.cell?, hX.grp]
  have x23 : X.cell? ⟨n + 1, 3, none⟩ = some (.int .i64 (s.2.1 3)) := by simp [World.cell?, hX.grp]
  have xf20 : X.frozen? ⟨n + 1, 0, none⟩ = false := by simp [World.frozen?, hX.grp]
  have xf21 : X.frozen? ⟨n + 1, 1, none⟩ = false := by simp [World.frozen?, hX.grp]
  have xf22 : X.frozen? ⟨n + 1, 2, none⟩ = false := by simp [World.frozen?, hX.grp]
  have xf23 : X.frozen? ⟨n + 1, 3, none⟩ = false := by simp [World.frozen?, hX.grp]
  have HX := Lib.hid hX; clear hX
  go_enter Tryz.func89, Tryz.ntmps89
  go_wp2
  go_region
  all_goals go_wp2
  go_end0
  exact ⟨rfl, finished s 4 n W X HX.out⟩

theorem endGroup_at (s : St) (p n : Nat) (hp : p ≤ 4) (W : World) (h : RU s n W) :
    Calls Tryz.prog 89 #[.int .i64 (p : Nat), .pointer (some ⟨n + 2, 0, none⟩), .pointer (some ⟨n + 1, 0, none⟩), .pointer (some ⟨n, 0, none⟩)] W fun e W' => e = .returned (.tuple #[]) ∧ RU (endG s p) n W' ∧ Below n W W' ∧ ∀ k, n + 3 ≤ k → W'.heap[k]? = W.heap[k]? := by
  have : p = 0 ∨ p = 1 ∨ p = 2 ∨ p = 3 ∨ p = 4 := by omega
  rcases this with rfl | rfl | rfl | rfl | rfl
  · exact endGroup_0 s n W h
  · exact endGroup_1 s n W h
  · exact endGroup_2 s n W h
  · exact endGroup_3 s n W h
  · exact endGroup_4 s n W h

end Go.Proofs.YteelmjmiankflaaGreatDoor.Num

set_option linter.unusedVariables false
set_option linter.unusedSimpArgs false
namespace Go.Proofs.YteelmjmiankflaaGreatDoor.Num
open Go Go.RowKit Go.Proofs.YteelmjmiankflaaGreatDoor.Kit Go.Proofs.YteelmjmiankflaaGreatDoor.Utf

/-- What a reading of characters makes of a string. -/
def rdOut (f : List Int → Option (List Nat)) (s : ByteArray) : ByteArray :=
  match chars (bs s) with
  | none => { data := #[] }
  | some cs => match f cs with
    | none => { data := #[] }
    | some ds => dg ds
theorem rdOut_bad {f : List Int → Option (List Nat)} {s : ByteArray} (h : ∀ cs, chars (bs s) = some cs → f cs = none) : rdOut f s = { data := #[] } := by
  unfold rdOut
  cases hc : chars (bs s) with
  | none => rfl
  | some cs => simp only [h cs hc]
theorem rdOut_good {f : List Int → Option (List Nat)} {s : ByteArray} {cs : List Int} {ds : List Nat} (h : chars (bs s) = some cs) (hf : f cs = some ds) : rdOut f s = dg ds := by
  unfold rdOut
  rw [h]
  simp only [hf]

theorem readE_snoc {pre : List Int} {ds : List Nat} {c : Int} {d : Nat} (h : readE pre = some ds) (hd : dgt c = some d) : readE (pre ++ [c]) = some (ds ++ [d]) := by
  induction pre generalizing ds with
  | nil =>
    obtain rfl : [] = ds := Option.some.inj h
    simp [readE, hd]
  | cons a pre ih =>
    simp only [List.cons_append, readE] at h ⊢
    cases ha : dgt a with
    | none => rw [ha] at h; cases h
    | some x =>
      rw [ha] at h
      simp only at h ⊢
      cases hp : readE pre with
      | none => rw [hp] at h; cases h
      | some y =>
        rw [hp] at h
        obtain rfl : x :: y = ds := Option.some.inj h
        rw [ih hp]; rfl
theorem readE_none {pre : List Int} {c : Int} (t : List Int) (hd : dgt c = none) : readE (pre ++ c :: t) = none := by
  induction pre with
  | nil => simp [readE, hd]
  | cons a pre ih =>
    simp only [List.cons_append, readE]
    cases dgt a with
    | none => rfl
    | some x => simp only [ih]; rfl
theorem readE_len {pre : List Int} {ds : List Nat} (h : readE pre = some ds) : ds.length = pre.length := by
  induction pre generalizing ds with
  | nil => obtain rfl : [] = ds := Option.some.inj h; rfl
  | cons a pre ih =>
    simp only [readE] at h
    cases ha : dgt a with
    | none => rw [ha] at h; cases h
    | some x =>
      rw [ha] at h
      simp only at h
      cases hp : readE pre with
      | none => rw [hp] at h; cases h
      | some y =>
        rw [hp] at h
        obtain rfl : x :: y = ds := Option.some.inj h
        simp [ih hp]
theorem dgt_le {c : Int} {d : Nat} (h : dgt c = some d) : d ≤ 9 := by
  unfold dgt at h
  rw [List.find?_range_eq_some] at h
  have : d < 10 := by simpa using h.2.1
  omega
theorem unt_lt {c : Int} {d : Nat} (h : unt c = some d) : d < 4 := by
  unfold unt at h
  rw [List.find?_range_eq_some] at h
  simpa using h.2.1
theorem grp_lt {c : Int} {d : Nat} (h : grp c = some d) : d < 5 := by
  unfold grp at h
  rw [List.find?_range_eq_some] at h
  simpa using h.2.1

theorem bad_mark : validRune 65533 = true ∧ dgt 65533 = none ∧ unt 65533 = none ∧ grp 65533 = none := by decide

theorem rest_of {s : ByteArray} {pre : List Int} {pos : Nat} {c : Int} {n : Nat} (hc : chars (bs s) = (chars ((bs s).drop pos)).map (pre ++ ·)) (hd : dec1 ((bs s).drop pos) = some (c, n)) {cs : List Int} (h : chars (bs s) = some cs) : ∃ t, cs = pre ++ c :: t := by
  rw [hc, chars_step hd] at h
  cases hr : chars (((bs s).drop pos).drop n) with
  | none => rw [hr] at h; cases h
  | some t =>
    rw [hr] at h
    exact ⟨t, (Option.some.inj h).symm⟩

theorem dg_snoc (ds : List Nat) (d : Nat) (h : d ≤ 9) : Lib.byteCells (bs (dg ds)) ++ Lib.strCells (tx [48 + (d : Int)]) = Lib.byteCells (bs (dg (ds ++ [d]))) := by
  rw [tx_cells, encs_cons, dg_enc d h, ← byteCells_append, bs_dg, bs_dg, List.map_append]; rfl
theorem digit_size (d : Nat) (h : d ≤ 9) : (tx [48 + (d : Int)]).size = 1 := by rw [tx_size, encs_cons, dg_enc d h]; rfl

theorem digitOf_some (c : Int) (hc : validRune c = true) (w : World) (hL : Laid w) (d : Nat) (h : dgt c = some d) :
    Calls Tryz.prog 88 #[.int .i32 c] w fun e w' => e = .returned (.tuple #[.int .i64 (d : Nat), .bool true]) ∧ w' = w := by
  have := digitOf_any c hc w hL
  rw [h] at this
  exact this
theorem digitOf_none (c : Int) (hc : validRune c = true) (w : World) (hL : Laid w) (h : dgt c = none) :
    Calls Tryz.prog 88 #[.int .i32 c] w fun e w' => e = .returned (.tuple #[.int .i64 0, .bool false]) ∧ w' = w := by
  have := digitOf_any c hc w hL
  rw [h] at this
  exact this

theorem readEach_any (s : ByteArray) (w : World) (hs : s.size ≤ 140737488355000) (hL : Laid w) :
    Calls Tryz.prog 69 #[.string s] w fun e w' => e = .returned (.string (rdOut readE s)) ∧ Below w.heap.size w w' := by
  have hB0 : Lib.IsBuilderF 68 5 w.heap.size w.heap.size (Lib.byteCells (bs (dg []))) ((w.alloc (.cells #[.pointer none, .slice none 0 0] 68)).iter s 0) := (builder_new 68 5 w w.heap.size rfl).alloc _
  have hit0 : ((w.alloc (.cells #[.pointer none, .slice none 0 0] 68)).iter s 0).heap[w.heap.size + 1]? = some (.stringIter s 0) := by
    have := World.iter_heap (w.alloc (.cells #[.pointer none, .slice none 0 0] 68)) s 0
    rw [show (w.alloc (.cells #[.pointer none, .slice none 0 0] 68)).heap.size = w.heap.size + 1 by simp] at this
    exact this
  have hb0 : Below w.heap.size w ((w.alloc (.cells #[.pointer none, .slice none 0 0] 68)).iter s 0) := ((Below.refl _ w).alloc (Nat.le_refl _) _).alloc (by simp) _
  have hs0 : w.heap.size + 2 ≤ ((w.alloc (.cells #[.pointer none, .slice none 0 0] 68)).iter s 0).heap.size := by simp [World.iter]
  go_enter Tryz.func69, Tryz.ntmps69
  go_wp2
  obtain ⟨b, hbd⟩ : ∃ b, w.heap.size = b := ⟨_, rfl⟩
  have h5 := hL.size
  rw [hbd] at hB0 hit0 hb0 hs0 h5 ⊢
  obtain ⟨W, hW⟩ : ∃ W, (w.alloc (.cells #[.pointer none, .slice none 0 0] 68)).iter s 0 = W := ⟨_, rfl⟩
  rw [hW] at hB0 hit0 hb0 hs0 ⊢
  have HBD := Lib.hid hbd
  clear hW hbd
  go_loopw [5, 6] (fun _ _ wr => ∃ (pos : Nat) (pre : List Int) (ds : List Nat), Lib.IsBuilderF 68 5 b b (Lib.byteCells (bs (dg ds))) wr ∧ wr.heap[b + 1]? = some (.stringIter s pos) ∧ Below b w wr ∧ pos ≤ s.size ∧ pre.length ≤ pos ∧ b + 2 ≤ wr.heap.size ∧ Hid (readE pre = some ds) ∧ Hid (chars (bs s) = (chars ((bs s).drop pos)).map (pre ++ ·))) (fun _ _ wr => s.size - wr.iterPos (b + 1))
  case atStart => exact ⟨0, [], [], hB0, hit0, hb0, Nat.zero_le _, Nat.le_refl _, hs0, Lib.hid rfl, Lib.hid (by rw [List.drop_zero]; exact map_nil _)⟩
  case round =>
    obtain ⟨pos, pre, ds, hBl, hit, hb, hps, hpl, hsw, hre, hch⟩ := hrel
    have hm := iterPos_of hit
    have hdl := readE_len hre.out
    by_cases hp : pos < s.size
    · obtain ⟨c, n, hdec, hv, hn1, hcase⟩ : ∃ (c : Int) (n : Nat), Utf8.decode s pos = (c.toNat, n) ∧ validRune c = true ∧ pos + n ≤ s.size ∧ ((1 ≤ n ∧ dec1 ((bs s).drop pos) = some (c, n)) ∨ (dgt c = none ∧ chars (bs s) = none)) := by
        cases hd : dec1 ((bs s).drop pos) with
        | none => exact ⟨65533, 1, by rw [dec_bad hp hd]; rfl, bad_mark.1, by omega, .inr ⟨bad_mark.2.1, by rw [hch.out, chars_bad (drop_ne hp) hd]; rfl⟩⟩
        | some p =>
          obtain ⟨c, n⟩ := p
          have hdp := dec1_pos hd
          rw [List.length_drop, bs_len] at hdp
          exact ⟨c, n, dec_good hp hd, (dec1_some hd).1, by omega, .inl ⟨hdp.1, rfl⟩⟩
      have hc0 : 0 ≤ c := by have := (valid_iff c).1 hv; omega
      have hnx : ∀ ty, (Instr.next (.pointer (some ⟨b + 1, 0, none⟩)) true ty).run Tryz.prog wr = .ok (.tuple #[.bool true, .int .i64 pos, .int .i32 c]) (wr.iterAt (b + 1) s (pos + n)) := fun ty => by
        have := Lib.run_next_any_at (P := Tryz.prog) wr (b + 1) s pos ty hit hp
        rw [hdec] at this
        simp only [Int.toNat_of_nonneg hc0] at this
        exact this
      have hit4 := Lib.iterAt_heap wr (b + 1) s pos (pos + n) hit
      have hb4 := Lib.below_iterAt hb (k := b + 1) (by omega) s (pos + n)
      have hBl4 := hBl.iterAt hit (pos + n)
      have hsw4 : b + 2 ≤ (wr.iterAt (b + 1) s (pos + n)).heap.size := by rw [Lib.iterAt_size]; exact hsw
      obtain ⟨W4, hW4⟩ : ∃ W4, wr.iterAt (b + 1) s (pos + n) = W4 := ⟨_, rfl⟩
      rw [hW4] at hit4 hb4 hBl4 hsw4
      simp only [hW4] at hnx
      have HL4 := Lib.hid (hL.below hb4 h5)
      have HV := Lib.hid hv
      clear hW4 hdec hb hBl hit hv hsw
      cases hdg : dgt c with
      | none =>
        have hbad : rdOut readE s = { data := #[] } := rdOut_bad fun cs hcs => by
          rcases hcase with ⟨_, hd⟩ | ⟨_, hn⟩
          · obtain ⟨t, rfl⟩ := rest_of hch.out hd hcs
            exact readE_none t hdg
          · rw [hn] at hcs; cases hcs
        have HB := Lib.hid hbad
        have HD := Lib.hid (digitOf_none c HV.out W4 HL4.out hdg)
        clear hbad hcase hdg hdl
        go_wp2_with (go_at_call 88; refine HD.out.mono ?_; rintro e w' ⟨rfl, rfl⟩)
        go_ret
        exact ⟨by rw [HB.out]; rfl, by rw [HBD.out]; exact hb4⟩
      | some d =>
        have hd9 := dgt_le hdg
        rcases hcase with ⟨hn0, hd⟩ | ⟨hn, _⟩
        · have HD := Lib.hid (digitOf_some c HV.out W4 HL4.out d hdg)
          have hre2 := Lib.hid (readE_snoc hre.out hdg)
          have hch2 := Lib.hid (runes_len hch.out hd)
          have hl : (Lib.byteCells (bs (dg ds))).length = ds.length := by rw [Lib.byteCells_length, bs_len, dg_size]
          have HL := Lib.hid hl
          have hds := digit_size d hd9
          have HDS := Lib.hid hds
          have hw : (Lib.byteCells (bs (dg ds))).length + (tx [48 + (d : Int)]).size ≤ 140737488355328 := by rw [hl, hds]; omega
          have hb4s : b ≤ W4.heap.size := by omega
          have HW := Lib.hid (Tryz.writeString b b (Lib.byteCells (bs (dg ds))) (tx [48 + (d : Int)]) W4 hBl4 hw hb4s)
          have HI := Lib.hid (itoa_digit d (d : Int) W4 rfl hd9)
          clear hd hdg hl hds hw hdl
          go_wp2_with (first
            | (go_at_call 88; refine HD.out.mono ?_; rintro e w' ⟨rfl, rfl⟩)
            | (go_at_call 43; refine HI.out.mono ?_; rintro e w' ⟨rfl, rfl⟩)
            | (go_at_call 41; refine HW.out.mono ?_; rintro e w6 ⟨rfl, hA6, hb6, ho6⟩))
          have hit6 := ho6.iter hit4 (by omega)
          have hBl6 : Lib.IsBuilderF 68 5 b b (Lib.byteCells (bs (dg (ds ++ [d])))) w6 := by rw [← dg_snoc ds d hd9]; exact .inr hA6
          have hsz6 : b + 2 ≤ w6.heap.size := by have := hb6.size; omega
          go_roundw
          case rel => exact ⟨pos + n, pre ++ [c], ds ++ [d], hBl6, hit6, hb4.trans hb6, by omega, by simp; omega, hsz6, hre2, hch2⟩
          case measure => rw [iterPos_of hit6, hm]; omega
        · rw [hn] at hdg; cases hdg
    · have hnx : ∀ ty, (Instr.next (.pointer (some ⟨b + 1, 0, none⟩)) true ty).run Tryz.prog wr = _ := fun ty => Lib.run_next_end_at (P := Tryz.prog) wr (b + 1) s pos ty hit hp
      have hall : chars (bs s) = some pre := by
        rw [hch.out, List.drop_of_length_le (by rw [bs_len]; omega), chars_nil]; simp
      have HG := Lib.hid (rdOut_good hall hre.out)
      clear hall hm hp hdl
      go_wp2_with (go_at_call 42; refine (Tryz.Builder_String_any_k b b (bs (dg ds)) _ hBl (by omega)).mono ?_; rintro e w8 ⟨rfl, _, hb8, _⟩)
      go_ret
      exact ⟨by rw [HG.out]; rfl, by rw [HBD.out]; exact hb.trans hb8⟩

end Go.Proofs.YteelmjmiankflaaGreatDoor.Num

set_option linter.unusedVariables false
set_option linter.unusedSimpArgs false
namespace Go.Proofs.YteelmjmiankflaaGreatDoor.Num
open Go Go.RowKit Go.Proofs.YteelmjmiankflaaGreatDoor.Kit Go.Proofs.YteelmjmiankflaaGreatDoor.Utf

theorem run_snoc {s0 s s' : St} {pre : List Int} {c : Int} (h : run s0 pre = some s) (hs : step s c = some s') : run s0 (pre ++ [c]) = some s' := by
  rw [run_append, h]; simp only []; rw [run_one]; exact hs
theorem run_none {s0 s : St} {pre : List Int} {c : Int} (t : List Int) (h : run s0 pre = some s) (hs : step s c = none) : run s0 (pre ++ c :: t) = none := by
  rw [run_append, h]; simp only []; rw [run_cons, hs]

/-- All digits are digits. -/
def Bnd (s : St) : Prop := (∀ i, s.1 i ≤ 9) ∧ (∀ i, s.2.1 i ≤ 9) ∧ s.2.2 ≤ 9
theorem bnd_end {s : St} (h : Bnd s) (p : Nat) : Bnd (endG s p) := by
  refine ⟨fun i => ?_, fun _ => Nat.zero_le _, Nat.zero_le _⟩
  simp only [endG]
  split
  · split
    · exact h.2.2
    · exact h.2.1 _
  · exact h.1 _
theorem bnd_step {s s' : St} {c : Int} (h : Bnd s) (hs : step s c = some s') : Bnd s' := by
  unfold step at hs
  cases hd : dgt c with
  | some d =>
    rw [hd] at hs
    obtain rfl := Option.some.inj hs
    exact ⟨h.1, h.2.1, dgt_le hd⟩
  | none =>
    rw [hd] at hs
    simp only at hs
    cases hu : unt c with
    | some u =>
      rw [hu] at hs
      obtain rfl := Option.some.inj hs
      refine ⟨h.1, fun i => ?_, Nat.zero_le _⟩
      simp only
      split
      · have := h.2.2; omega
      · exact h.2.1 i
    | none =>
      rw [hu] at hs
      simp only at hs
      cases hg : grp c with
      | some p => rw [hg] at hs; obtain rfl := Option.some.inj hs; exact bnd_end h p
      | none => rw [hg] at hs; cases hs

theorem unitOf_some (c : Int) (hc : validRune c = true) (w : World) (hL : Laid w) (d : Nat) (h : unt c = some d) :
    Calls Tryz.prog 90 #[.int .i32 c] w fun e w' => e = .returned (.tuple #[.int .i64 (d : Nat), .bool true]) ∧ w' = w := by
  have := unitOf_any c hc w hL
  rw [h] at this
  exact this
theorem unitOf_none (c : Int) (hc : validRune c = true) (w : World) (hL : Laid w) (h : unt c = none) :
    Calls Tryz.prog 90 #[.int .i32 c] w fun e w' => e = .returned (.tuple #[.int .i64 0, .bool false]) ∧ w' = w := by
  have := unitOf_any c hc w hL
  rw [h] at this
  exact this
theorem groupOf_some (c : Int) (hc : validRune c = true) (w : World) (hL : Laid w) (d : Nat) (h : grp c = some d) :
    Calls Tryz.prog 91 #[.int .i32 c] w fun e w' => e = .returned (.tuple #[.int .i64 (d : Nat), .bool true]) ∧ w' = w := by
  have := groupOf_any c hc w hL
  rw [h] at this
  exact this
theorem groupOf_none (c : Int) (hc : validRune c = true) (w : World) (hL : Laid w) (h : grp c = none) :
    Calls Tryz.prog 91 #[.int .i32 c] w fun e w' => e = .returned (.tuple #[.int .i64 0, .bool false]) ∧ w' = w := by
  have := groupOf_any c hc w hL
  rw [h] at this
  exact this

theorem RU.keep {s : St} {n : Nat} {W W' : World} (h : RU s n W) (hk : ∀ k, k < n + 3 → W'.heap[k]? = W.heap[k]?) : RU s n W' :=
  ⟨by rw [hk n (by omega)]; exact h.1, by rw [hk (n + 1) (by omega)]; exact h.2.1, by rw [hk (n + 2) (by omega)]; exact h.2.2⟩
theorem RU.digit {num gp : Nat → Nat} {dig n : Nat} {W : World} (h : RU (num, gp, dig) n W) (d : Nat) : RU (num, gp, d) n (W.setCell ⟨n + 2, 0, none⟩ (.int .i64 d)) := by
  refine ⟨?_, ?_, ?_⟩
  · refine Eq.trans (Below.heap_setCell _ _ _ _ (fun e => by have : n = n + 2 := e; omega)) h.1
  · refine Eq.trans (Below.heap_setCell _ _ _ _ (fun e => by have : n + 1 = n + 2 := e; omega)) h.2.1
  · exact (heap_setCell_same W (n + 2) 0 _ _ (.int .i64 d) h.2.2).trans rfl
theorem grpA_set (f : Nat → Nat) (u v : Nat) (hu : u < 4) : (grpA f).setIfInBounds u (.int .i64 v) = grpA (fun i => if i = u then v else f i) := by
  have : u = 0 ∨ u = 1 ∨ u = 2 ∨ u = 3 := by omega
  rcases this with rfl | rfl | rfl | rfl <;> rfl
theorem RU.unit {num gp : Nat → Nat} {dig n : Nat} {W : World} (h : RU (num, gp, dig) n W) (u v : Nat) (hu : u < 4) : RU (num, (fun i => if i = u then v else gp i), dig) n (W.setCell ⟨n + 1, u, none⟩ (.int .i64 v)) := by
  refine ⟨?_, ?_, ?_⟩
  · refine Eq.trans (Below.heap_setCell _ _ _ _ (fun e => by have : n = n + 1 := e; omega)) h.1
  · rw [heap_setCell_same W (n + 1) u _ _ (.int .i64 v) h.2.1, grpA_set gp u v hu]
  · refine Eq.trans (Below.heap_setCell _ _ _ _ (fun e => by have : n + 2 = n + 1 := e; omega)) h.2.2
theorem grpA_get (f : Nat → Nat) (u : Nat) (hu : u < 4) : (grpA f)[u]? = some (.int .i64 (f u)) := by
  have : u = 0 ∨ u = 1 ∨ u = 2 ∨ u = 3 := by omega
  rcases this with rfl | rfl | rfl | rfl <;> rfl
theorem numA_get (f : Nat → Nat) (k : Nat) (hk : k < 20) : (numA f)[k]? = some (.int .i64 (f k)) := by
  have : ∀ k, k < 20 → (numA f)[k]? = some (.int .i64 (f k)) := by
    intro k hk
    match k, hk with
    | 0, _ => rfl
    | 1, _ => rfl
    | 2, _ => rfl
    | 3, _ => rfl
    | 4, _ => rfl
    | 5, _ => rfl
    | 6, _ => rfl
    | 7, _ => rfl
    | 8, _ => rfl
    | 9, _ => rfl
    | 10, _ => rfl
    | 11, _ => rfl
    | 12, _ => rfl
    | 13, _ => rfl
    | 14, _ => rfl
    | 15, _ => rfl
    | 16, _ => rfl
    | 17, _ => rfl
    | 18, _ => rfl
    | 19, _ => rfl
    | k + 20, hk => omega
  exact this k hk

theorem info_num : (Tryz.prog.info? 108).map (·.size) = some 20 := by kernel_rfl

theorem run_index_num (F : Nat → Nat) (k : Nat) (hk : k < 20) (w : World) : (Instr.index 108 (.agg (numA F)) (.int .i64 k)).run Tryz.prog w = .ok (.int .i64 (F k)) w := by
  have hu := run_underlying (P := Tryz.prog) Tryz.underlying108
  have hg := numA_get F k hk
  have h1 : (k : Int) < 20 := by omega
  have hs := Tryz.sizeOf3
  have ha := Tryz.isAgg3
  simp [Instr.index, hu, asIntOf, go_sem, h1, hg, hs, ha]
  intro h; omega

theorem dg_cons (d : Nat) (l : List Nat) (h : d ≤ 9) : tx [48 + (d : Int)] ++ dg l = dg (d :: l) := by
  apply ba_ext
  show (tx [48 + (d : Int)] ++ dg l).data.toList = bs (dg (d :: l))
  rw [bs_dg, ByteArray.data_append, Array.toList_append]
  show bs (tx [48 + (d : Int)]) ++ bs (dg l) = _
  rw [bs_tx, bs_dg, encs_cons, dg_enc d h]; rfl
theorem trim_dg (l : List Nat) (h : ∀ d ∈ l, d ≤ 9) : (⟨(Lib.trimLeftB (dg l).data.toList 48).toArray⟩ : ByteArray) = dg (strip l) := by
  apply ba_ext
  show Lib.trimLeftB (bs (dg l)) 48 = bs (dg (strip l))
  rw [bs_dg, bs_dg]
  unfold Lib.trimLeftB strip
  induction l with
  | nil => rfl
  | cons d l ih =>
    have hd := h d (by simp)
    rw [List.map_cons, List.dropWhile_cons, List.dropWhile_cons]
    by_cases e : d = 0
    · subst e
      rw [if_pos (by rfl), if_pos (by rfl)]
      exact ih (fun x hx => h x (by simp [hx]))
    · have e1 : (UInt8.ofNat (48 + d) == 48) = false := by
        rw [beq_eq_false_iff_ne]
        intro e2
        have := congrArg UInt8.toNat e2
        rw [toNat_ofNat _ (by omega)] at this
        have h48 : (48 : UInt8).toNat = 48 := rfl
        omega
      rw [if_neg (by rw [e1]; simp), if_neg (by simpa using e)]; rfl
theorem big_rev (f : Nat → Nat) : ((List.range 20).map f).reverse = big f := rfl
theorem tx_48 : tx [48] = { data := #[48] } := by decide

set_option maxRecDepth 100000 in
theorem readUnits_any (s : ByteArray) (w : World) (hs : s.size ≤ 140737488355000) (hL : Laid w) :
    Calls Tryz.prog 70 #[.string s] w fun e w' => e = .returned (.string (rdOut readU s)) ∧ Below w.heap.size w w' := by
  go_enter Tryz.func70, Tryz.ntmps70
  go_wp2
  obtain ⟨b, hbd⟩ : ∃ b, w.heap.size = b := ⟨_, rfl⟩
  have hb0 : Below w.heap.size w ((((w.alloc (.cells #[.int .i64 0, .int .i64 0, .int .i64 0, .int .i64 0, .int .i64 0, .int .i64 0, .int .i64 0, .int .i64 0, .int .i64 0, .int .i64 0, .int .i64 0, .int .i64 0, .int .i64 0, .int .i64 0, .int .i64 0, .int .i64 0, .int .i64 0, .int .i64 0, .int .i64 0, .int .i64 0] 108)).alloc (.cells #[.int .i64 0, .int .i64 0, .int .i64 0, .int .i64 0] 109)).alloc (.cells #[.int .i64 0] 3)).iter s 0) :=
    ((((Below.refl _ w).alloc (Nat.le_refl _) _).alloc (by simp) _).alloc (by simp <;> omega) _).alloc (by simp <;> omega) _
  have hit0 : ((((w.alloc (.cells #[.int .i64 0, .int .i64 0, .int .i64 0, .int .i64 0, .int .i64 0, .int .i64 0, .int .i64 0, .int .i64 0, .int .i64 0, .int .i64 0, .int .i64 0, .int .i64 0, .int .i64 0, .int .i64 0, .int .i64 0, .int .i64 0, .int .i64 0, .int .i64 0, .int .i64 0, .int .i64 0] 108)).alloc (.cells #[.int .i64 0, .int .i64 0, .int .i64 0, .int .i64 0] 109)).alloc (.cells #[.int .i64 0] 3)).iter s 0).heap[b + 3]? = some (.stringIter s 0) := by
    have := World.iter_heap (((w.alloc (.cells #[.int .i64 0, .int .i64 0, .int .i64 0, .int .i64 0, .int .i64 0, .int .i64 0, .int .i64 0, .int .i64 0, .int .i64 0, .int .i64 0, .int .i64 0, .int .i64 0, .int .i64 0, .int .i64 0, .int .i64 0, .int .i64 0, .int .i64 0, .int .i64 0, .int .i64 0, .int .i64 0] 108)).alloc (.cells #[.int .i64 0, .int .i64 0, .int .i64 0, .int .i64 0] 109)).alloc (.cells #[.int .i64 0] 3)) s 0
    rw [show (((w.alloc (.cells #[.int .i64 0, .int .i64 0, .int .i64 0, .int .i64 0, .int .i64 0, .int .i64 0, .int .i64 0, .int .i64 0, .int .i64 0, .int .i64 0, .int .i64 0, .int .i64 0, .int .i64 0, .int .i64 0, .int .i64 0, .int .i64 0, .int .i64 0, .int .i64 0, .int .i64 0, .int .i64 0] 108)).alloc (.cells #[.int .i64 0, .int .i64 0, .int .i64 0, .int .i64 0] 109)).alloc (.cells #[.int .i64 0] 3)).heap.size = b + 3 by simp <;> omega] at this
    exact this
  have hR0 : RU st0 b ((((w.alloc (.cells #[.int .i64 0, .int .i64 0, .int .i64 0, .int .i64 0, .int .i64 0, .int .i64 0, .int .i64 0, .int .i64 0, .int .i64 0, .int .i64 0, .int .i64 0, .int .i64 0, .int .i64 0, .int .i64 0, .int .i64 0, .int .i64 0, .int .i64 0, .int .i64 0, .int .i64 0, .int .i64 0] 108)).alloc (.cells #[.int .i64 0, .int .i64 0, .int .i64 0, .int .i64 0] 109)).alloc (.cells #[.int .i64 0] 3)).iter s 0) := by
    have a1 := heap_last w (.cells #[.int .i64 0, .int .i64 0, .int .i64 0, .int .i64 0, .int .i64 0, .int .i64 0, .int .i64 0, .int .i64 0, .int .i64 0, .int .i64 0, .int .i64 0, .int .i64 0, .int .i64 0, .int .i64 0, .int .i64 0, .int .i64 0, .int .i64 0, .int .i64 0, .int .i64 0, .int .i64 0] 108)
    have a2 := heap_last (w.alloc (.cells #[.int .i64 0, .int .i64 0, .int .i64 0, .int .i64 0, .int .i64 0, .int .i64 0, .int .i64 0, .int .i64 0, .int .i64 0, .int .i64 0, .int .i64 0, .int .i64 0, .int .i64 0, .int .i64 0, .int .i64 0, .int .i64 0, .int .i64 0, .int .i64 0, .int .i64 0, .int .i64 0] 108)) (.cells #[.int .i64 0, .int .i64 0, .int .i64 0, .int .i64 0] 109)
    have a3 := heap_last ((w.alloc (.cells #[.int .i64 0, .int .i64 0, .int .i64 0, .int .i64 0, .int .i64 0, .int .i64 0, .int .i64 0, .int .i64 0, .int .i64 0, .int .i64 0, .int .i64 0, .int .i64 0, .int .i64 0, .int .i64 0, .int .i64 0, .int .i64 0, .int .i64 0, .int .i64 0, .int .i64 0, .int .i64 0] 108)).alloc (.cells #[.int .i64 0, .int .i64 0, .int .i64 0, .int .i64 0] 109)) (.cells #[.int .i64 0] 3)
    rw [show (w.alloc (.cells #[.int .i64 0, .int .i64 0, .int .i64 0, .int .i64 0, .int .i64 0, .int .i64 0, .int .i64 0, .int .i64 0, .int .i64 0, .int .i64 0, .int .i64 0, .int .i64 0, .int .i64 0, .int .i64 0, .int .i64 0, .int .i64 0, .int .i64 0, .int .i64 0, .int .i64 0, .int .i64 0] 108)).heap.size = b + 1 by simp <;> omega] at a2
    rw [show ((w.alloc (.cells #[.int .i64 0, .int .i64 0, .int .i64 0, .int .i64 0, .int .i64 0, .int .i64 0, .int .i64 0, .int .i64 0, .int .i64 0, .int .i64 0, .int .i64 0, .int .i64 0, .int .i64 0, .int .i64 0, .int .i64 0, .int .i64 0, .int .i64 0, .int .i64 0, .int .i64 0, .int .i64 0] 108)).alloc (.cells #[.int .i64 0, .int .i64 0, .int .i64 0, .int .i64 0] 109)).heap.size = b + 2 by simp <;> omega] at a3
    rw [hbd] at a1
    refine ⟨?_, ?_, ?_⟩
    · refine Eq.trans (Lib.alloc_old _ _ b (by simp [hbd] <;> omega)) ?_
      refine Eq.trans (Lib.alloc_old _ _ b (by simp [hbd] <;> omega)) ?_
      refine Eq.trans (Lib.alloc_old _ _ b (by simp [hbd] <;> omega)) ?_
      exact a1
    · refine Eq.trans (Lib.alloc_old _ _ (b + 1) (by simp [hbd] <;> omega)) ?_
      refine Eq.trans (Lib.alloc_old _ _ (b + 1) (by simp [hbd] <;> omega)) ?_
      exact a2
    · refine Eq.trans (Lib.alloc_old _ _ (b + 2) (by simp [hbd] <;> omega)) ?_
      exact a3
  have hs0 : b + 4 ≤ ((((w.alloc (.cells #[.int .i64 0, .int .i64 0, .int .i64 0, .int .i64 0, .int .i64 0, .int .i64 0, .int .i64 0, .int .i64 0, .int .i64 0, .int .i64 0, .int .i64 0, .int .i64 0, .int .i64 0, .int .i64 0, .int .i64 0, .int .i64 0, .int .i64 0, .int .i64 0, .int .i64 0, .int .i64 0] 108)).alloc (.cells #[.int .i64 0, .int .i64 0, .int .i64 0, .int .i64 0] 109)).alloc (.cells #[.int .i64 0] 3)).iter s 0).heap.size := by simp [World.iter, hbd]
  have h5 := hL.size
  rw [hbd] at hb0 h5 ⊢
  obtain ⟨W, hW⟩ : ∃ W, (((w.alloc (.cells #[.int .i64 0, .int .i64 0, .int .i64 0, .int .i64 0, .int .i64 0, .int .i64 0, .int .i64 0, .int .i64 0, .int .i64 0, .int .i64 0, .int .i64 0, .int .i64 0, .int .i64 0, .int .i64 0, .int .i64 0, .int .i64 0, .int .i64 0, .int .i64 0, .int .i64 0, .int .i64 0] 108)).alloc (.cells #[.int .i64 0, .int .i64 0, .int .i64 0, .int .i64 0] 109)).alloc (.cells #[.int .i64 0] 3)).iter s 0 = W := ⟨_, rfl⟩
  rw [hW] at hb0 hit0 hR0 hs0 ⊢
  have HBD := Lib.hid hbd
  clear hW hbd
  simp only [Nat.add_assoc, Nat.reduceAdd]
  have hchs := Lib.hid (map_nil (chars (bs s)))
  go_loopw [8, 9, 10, 11, 12, 13, 14] (fun _ _ _ _ _ _ _ wr => ∃ (pos : Nat) (pre : List Int) (num gp : Nat → Nat) (dig : Nat), Hid (RU (num, gp, dig) b wr) ∧ wr.heap[b + 3]? = some (.stringIter s pos) ∧ Below b w wr ∧ pos ≤ s.size ∧ pre.length ≤ pos ∧ b + 4 ≤ wr.heap.size ∧ Hid (Bnd (num, gp, dig)) ∧ Hid (run st0 pre = some (num, gp, dig)) ∧ Hid (chars (bs s) = (chars ((bs s).drop pos)).map (pre ++ ·))) (fun _ _ _ _ _ _ _ wr => s.size - wr.iterPos (b + 3))
  case atStart => exact ⟨0, [], _, _, _, Lib.hid hR0, hit0, hb0, Nat.zero_le _, Nat.le_refl _, hs0, Lib.hid ⟨fun _ => Nat.zero_le _, fun _ => Nat.zero_le _, Nat.zero_le _⟩, Lib.hid rfl, Lib.hid (by rw [List.drop_zero]; exact hchs.out)⟩
  case round =>
    obtain ⟨pos, pre, num, gp, dig, hR, hit, hb, hps, hpl, hsw, hbn, hru, hch⟩ := hrel
    have hm := iterPos_of hit
    by_cases hp : pos < s.size
    · obtain ⟨c, n, hdec, hv, hn1, hcase⟩ : ∃ (c : Int) (n : Nat), Utf8.decode s pos = (c.toNat, n) ∧ validRune c = true ∧ pos + n ≤ s.size ∧ ((1 ≤ n ∧ dec1 ((bs s).drop pos) = some (c, n)) ∨ (step (num, gp, dig) c = none ∧ chars (bs s) = none)) := by
        cases hd : dec1 ((bs s).drop pos) with
        | none => exact ⟨65533, 1, by rw [dec_bad hp hd]; rfl, bad_mark.1, by omega, .inr ⟨by unfold step; rw [bad_mark.2.1, bad_mark.2.2.1, bad_mark.2.2.2], by rw [hch.out, chars_bad (drop_ne hp) hd]; rfl⟩⟩
        | some p =>
          obtain ⟨c, n⟩ := p
          have hdp := dec1_pos hd
          rw [List.length_drop, bs_len] at hdp
          exact ⟨c, n, dec_good hp hd, (dec1_some hd).1, by omega, .inl ⟨hdp.1, rfl⟩⟩
      have hc0 : 0 ≤ c := by have := (valid_iff c).1 hv; omega
      have hnx : ∀ ty, (Instr.next (.pointer (some ⟨b + 3, 0, none⟩)) true ty).run Tryz.prog wr = .ok (.tuple #[.bool true, .int .i64 pos, .int .i32 c]) (wr.iterAt (b + 3) s (pos + n)) := fun ty => by
        have := Lib.run_next_any_at (P := Tryz.prog) wr (b + 3) s pos ty hit hp
        rw [hdec] at this
        simp only [Int.toNat_of_nonneg hc0] at this
        exact this
      have hit4 := Lib.iterAt_heap wr (b + 3) s pos (pos + n) hit
      have hb4 := Lib.below_iterAt hb (k := b + 3) (by omega) s (pos + n)
      have hR4 := Lib.hid (hR.out.keep (fun k hk => Lib.iterAt_other wr (b + 3) k s (pos + n) (by omega)))
      have hsw4 : b + 4 ≤ (wr.iterAt (b + 3) s (pos + n)).heap.size := by rw [Lib.iterAt_size]; exact hsw
      obtain ⟨W4, hW4⟩ : ∃ W4, wr.iterAt (b + 3) s (pos + n) = W4 := ⟨_, rfl⟩
      rw [hW4] at hit4 hb4 hR4 hsw4
      simp only [hW4] at hnx
      have HL4 := Lib.hid (hL.below hb4 h5)
      have HV := Lib.hid hv
      have c2 : W4.cell? ⟨b + 2, 0, none⟩ = some (.int .i64 dig) := by simp [World.cell?, hR4.out.2.2]
      have f2 : W4.frozen? ⟨b + 2, 0, none⟩ = false := by simp [World.frozen?, hR4.out.2.2]
      have hnext : ∀ s', step (num, gp, dig) c = some s' → 1 ≤ n ∧ Hid (run st0 (pre ++ [c]) = some s') ∧ Hid (Bnd s') ∧ Hid (chars (bs s) = (chars ((bs s).drop (pos + n))).map ((pre ++ [c]) ++ ·)) := fun s' h => by
        rcases hcase with ⟨h1, hd⟩ | ⟨hn, _⟩
        · exact ⟨h1, Lib.hid (run_snoc hru.out h), Lib.hid (bnd_step hbn.out h), Lib.hid (runes_len hch.out hd)⟩
        · rw [hn] at h; cases h
      have hbad : step (num, gp, dig) c = none → rdOut readU s = { data := #[] } := fun h => rdOut_bad fun cs hcs => by
        rcases hcase with ⟨_, hd⟩ | ⟨_, hn⟩
        · obtain ⟨t, rfl⟩ := rest_of hch.out hd hcs
          unfold readU; rw [run_none t hru.out h]; rfl
        · rw [hn] at hcs; cases hcs
      clear hW4 hdec hb hit hv hsw hcase hR hR0 hit0 hb0 hs0 hc0 hbn hru hch
      cases hdg : dgt c with
      | some d =>
        have hst : step (num, gp, dig) c = some (num, gp, d) := by unfold step; rw [hdg]
        obtain ⟨hn0, hru2, hbn2, hch2⟩ := hnext _ hst
        have HD := Lib.hid (digitOf_some c HV.out W4 HL4.out d hdg)
        have HR5 := Lib.hid (hR4.out.digit d)
        have hit5 : (W4.setCell ⟨b + 2, 0, none⟩ (.int .i64 d)).heap[b + 3]? = some (.stringIter s (pos + n)) := Eq.trans (Below.heap_setCell _ _ _ _ (fun e => by have : b + 3 = b + 2 := e; omega)) hit4
        have hb5 := hb4.setCell (p := ⟨b + 2, 0, none⟩) (by show b ≤ b + 2; omega) (.int .i64 d)
        have hsz5 : b + 4 ≤ (W4.setCell ⟨b + 2, 0, none⟩ (.int .i64 d)).heap.size := by simpa [World.setCell] using hsw4
        clear hst hdg hnext hbad hit4 hb4
        go_wp2_with (go_at_call 88; refine HD.out.mono ?_; rintro e w' ⟨rfl, rfl⟩)
        go_roundw
        case rel => exact ⟨pos + n, pre ++ [c], num, gp, d, HR5, hit5, hb5, by omega, by simp; omega, hsz5, hbn2, hru2, hch2⟩
        case measure => rw [iterPos_of hit5, hm]; omega
      | none =>
        have HD := Lib.hid (digitOf_none c HV.out W4 HL4.out hdg)
        cases hut : unt c with
        | some u =>
          have hu4 := unt_lt hut
          have hst : step (num, gp, dig) c = some (num, (fun i => if i = u then max dig 1 else gp i), 0) := by unfold step; rw [hdg]; simp only [hut]
          obtain ⟨hn0, hru2, hbn2, hch2⟩ := hnext _ hst
          have HU := Lib.hid (unitOf_some c HV.out W4 HL4.out u hut)
          have cu : W4.cell? ⟨b + 1, u, none⟩ = some (.int .i64 (gp u)) := by simp [World.cell?, hR4.out.2.1]; exact grpA_get gp u hu4
          have fu : W4.frozen? ⟨b + 1, u, none⟩ = false := by simp [World.frozen?, hR4.out.2.1]
          have em : ((max dig 1 : Nat) : Int) = max (dig : Int) 1 := by omega
          have HR5 : Hid (RU (num, (fun i => if i = u then max dig 1 else gp i), 0) b ((W4.setCell ⟨b + 1, u, none⟩ (.int .i64 (max (dig : Int) 1))).setCell ⟨b + 2, 0, none⟩ (.int .i64 0))) := by
            have := (hR4.out.unit u (max dig 1) hu4).digit 0
            rw [em] at this
            exact Lib.hid this
          have hit5 : ((W4.setCell ⟨b + 1, u, none⟩ (.int .i64 (max (dig : Int) 1))).setCell ⟨b + 2, 0, none⟩ (.int .i64 0)).heap[b + 3]? = some (.stringIter s (pos + n)) := by
            refine Eq.trans (Below.heap_setCell _ _ _ _ (fun e => by have : b + 3 = b + 2 := e; omega)) ?_
            exact Eq.trans (Below.heap_setCell _ _ _ _ (fun e => by have : b + 3 = b + 1 := e; omega)) hit4
          have hb5 := (hb4.setCell (p := ⟨b + 1, u, none⟩) (by show b ≤ b + 1; omega) (.int .i64 (max (dig : Int) 1))).setCell (p := ⟨b + 2, 0, none⟩) (by show b ≤ b + 2; omega) (.int .i64 0)
          have hsz5 : b + 4 ≤ ((W4.setCell ⟨b + 1, u, none⟩ (.int .i64 (max (dig : Int) 1))).setCell ⟨b + 2, 0, none⟩ (.int .i64 0)).heap.size := by simpa [World.setCell] using hsw4
          clear hst hdg hut hnext hbad hit4 hb4 em
          go_wp2_with (first
            | (go_at_call 88; refine HD.out.mono ?_; rintro e w' ⟨rfl, rfl⟩)
            | (go_at_call 90; refine HU.out.mono ?_; rintro e w' ⟨rfl, rfl⟩))
          go_roundw
          case rel => exact ⟨pos + n, pre ++ [c], num, _, 0, HR5, hit5, hb5, by omega, by simp; omega, hsz5, hbn2, hru2, hch2⟩
          case measure => rw [iterPos_of hit5, hm]; omega
        | none =>
          have HU := Lib.hid (unitOf_none c HV.out W4 HL4.out hut)
          cases hgr : grp c with
          | some p =>
            have hp5 := grp_lt hgr
            have hst : step (num, gp, dig) c = some (endG (num, gp, dig) p) := by unfold step; rw [hdg]; simp only [hut, hgr]
            obtain ⟨hn0, hru2, hbn2, hch2⟩ := hnext _ hst
            have HG := Lib.hid (groupOf_some c HV.out W4 HL4.out p hgr)
            have HE := Lib.hid (endGroup_at (num, gp, dig) p b (by omega) W4 hR4.out)
            clear hst hdg hut hgr hnext hbad
            go_wp2_with (first
              | (go_at_call 88; refine HD.out.mono ?_; rintro e w' ⟨rfl, rfl⟩)
              | (go_at_call 90; refine HU.out.mono ?_; rintro e w' ⟨rfl, rfl⟩)
              | (go_at_call 91; refine HG.out.mono ?_; rintro e w' ⟨rfl, rfl⟩)
              | (refine HE.out.mono ?_; rintro e w6 ⟨rfl, hR6, hb6, hk6⟩))
            have hit6 : w6.heap[b + 3]? = some (.stringIter s (pos + n)) := by rw [hk6 (b + 3) (Nat.le_refl _)]; exact hit4
            have hb7 := hb4.trans hb6
            have hsz6 : b + 4 ≤ w6.heap.size := by have := hb6.size; omega
            have HR6 := Lib.hid hR6
            clear hk6 hR6
            go_roundw
            case rel => exact ⟨pos + n, pre ++ [c], _, _, _, HR6, hit6, hb7, by omega, by simp; omega, hsz6, hbn2, hru2, hch2⟩
            case measure => rw [iterPos_of hit6, hm]; omega
          | none =>
            have hst : step (num, gp, dig) c = none := by unfold step; rw [hdg]; simp only [hut, hgr]
            have HB := Lib.hid (hbad hst)
            have HG := Lib.hid (groupOf_none c HV.out W4 HL4.out hgr)
            clear hst hdg hut hgr hnext hbad
            go_wp2_with (first
              | (go_at_call 88; refine HD.out.mono ?_; rintro e w' ⟨rfl, rfl⟩)
              | (go_at_call 90; refine HU.out.mono ?_; rintro e w' ⟨rfl, rfl⟩)
              | (go_at_call 91; refine HG.out.mono ?_; rintro e w' ⟨rfl, rfl⟩))
            go_ret
            exact ⟨by rw [HB.out]; rfl, by rw [HBD.out]; exact hb4⟩
    · have hnx : ∀ ty, (Instr.next (.pointer (some ⟨b + 3, 0, none⟩)) true ty).run Tryz.prog wr = _ := fun ty => Lib.run_next_end_at (P := Tryz.prog) wr (b + 3) s pos ty hit hp
      have hall : chars (bs s) = some pre := by
        rw [hch.out, List.drop_of_length_le (by rw [bs_len]; omega), chars_nil]; simp
      obtain ⟨F, hF⟩ : ∃ F, (endG (num, gp, dig) 0).1 = F := ⟨_, rfl⟩
      have hF9 : ∀ i, F i ≤ 9 := by rw [← hF]; exact (bnd_end hbn.out 0).1
      have hres : rdOut readU s = dg (strip (big F)) := rdOut_good hall (by unfold readU; rw [hru.out]; simp only [Option.map_some, hF])
      have HRES := Lib.hid hres
      have HF9 := Lib.hid hF9
      have HE0 := endGroup_at (num, gp, dig) 0 b (by omega) wr hR.out
      have HE := Lib.hid (HE0.mono fun e w9 h => (⟨h.1, by rw [← hF]; exact h.2.1.1, h.2.2.1⟩ : e = .returned (.tuple #[]) ∧ w9.heap[b]? = some (.cells (numA F) 108 (0, 0)) ∧ Below b wr w9))
      clear hall hm hp hF hF9 hres HE0 hR hit hru hch hbn hR0 hit0 hb0 hs0 hchs
      go_wp2_with (first
        | (refine wpList_load_row rfl 108 (.tmp 3) rfl b rfl 108 (numA F) (0, 0) _ HN9.out Tryz.underlying108 rfl info_num ?_)
        | (refine HE.out.mono ?_
           rintro e w9 ⟨rfl, hN9, hb9⟩
           have HN9 := Lib.hid hN9
           clear hN9))
      have hb10 := hb.trans hb9
      have HL9 := Lib.hid (hL.below hb10 h5)
      clear hb hb9 HE HN9
      go_loopw [15, 17, 53] (fun dv _ i wr => ∃ k : Nat, i = .int .i64 k ∧ k ≤ 20 ∧ dv = Value.string (dg (((List.range k).map F).reverse)) ∧ wr = w9) (fun _ _ i _ => 20 - (intOf i).toNat)
      case atStart => exact ⟨0, rfl, by omega, rfl, rfl⟩
      case round =>
        obtain ⟨k, rfl, hk, rfl, rfl⟩ := hrel
        by_cases hk20 : k < 20
        · have hidx := fun w => run_index_num F k hk20 w
          have h9 := HF9.out k
          have HI := Lib.hid (itoa_digit (F k) (F k : Int) wr rfl h9)
          have hadd : ∀ w, (Op.stringOp .add (tx [48 + (F k : Int)]) (dg (((List.range k).map F).reverse))).run Tryz.prog w = .ok (.string (dg (F k :: ((List.range k).map F).reverse))) w := fun w => by
            rw [← dg_cons _ _ h9]
            exact run_string_add_sum (P := Tryz.prog) (w := w) _ _ (by rw [digit_size _ h9, dg_size]; simp; omega)
          have hsucc := Lib.hid (show ((List.range (k + 1)).map F).reverse = F k :: ((List.range k).map F).reverse by rw [List.range_succ, List.map_append, List.reverse_append]; rfl)
          clear h9
          go_wp2_with (go_at_call 43; refine HI.out.mono ?_; rintro e w' ⟨rfl, rfl⟩)
          go_roundw
          case rel => exact ⟨k + 1, by go_num, by omega, by rw [hsucc.out], trivial⟩
          case measure => simp [intOf]; omega
        · have : k = 20 := by omega
          subst this
          rw [big_rev]
          have ht := Tryz.strings_TrimLeft_one (dg (big F)) 48 (by decide) wr
          rw [trim_dg (big F) (fun d hd => by
            unfold big at hd
            obtain ⟨i, _, rfl⟩ := List.mem_map.1 hd
            exact HF9.out _)] at ht
          have HT := Lib.hid ht
          clear ht
          go_wp2_with (go_at_call 92; refine HT.out.mono ?_; rintro e w' ⟨rfl, rfl⟩)
          go_ret
          exact ⟨by rw [HRES.out]; rfl, by rw [HBD.out]; exact hb10⟩

end Go.Proofs.YteelmjmiankflaaGreatDoor.Num
