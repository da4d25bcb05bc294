/-
  Contract of child.
-/
import Derived.Test.YtffljcfpofhkgaaLoF
set_option linter.unusedVariables false
set_option linter.unusedSimpArgs false
set_option maxRecDepth 100000
namespace Go.Proofs.Ytffljcfpofhkgaa.Lo
open Go Go.RowKit Go.Shelf Go.Proofs.Ytffljcfpofhkgaa.Kit Go.Proofs.Ytffljcfpofhkgaa.Bv Go.Proofs.Ytffljcfpofhkgaa.Pk
attribute [local go_sem] Oper.semAt_some

theorem children_any (p : Nat) (k : Int) (w : World) :
    Calls Try.prog 92 #[.pointer (some ⟨p, 0, none⟩), .int .i64 k] w fun e w' => e = .returned (.func (.func 101) #[] #[.pointer (some ⟨w.heap.size, 0, none⟩), .pointer (some ⟨w.heap.size + 1, 0, none⟩)]) ∧
      w' = (w.alloc (.cells #[.pointer (some ⟨p, 0, none⟩)] 24)).alloc (.cells #[.int .i64 k] 3) := by
  go_enter Try.func92, Try.ntmps92
  go_wp2
  go_ret
  exact ⟨rfl, rfl⟩
/-- A cell that the call has laid: what it holds, and that it may be written. -/
def Box (W : World) (b : Nat) (v : Value) : Prop := W.cell? ⟨b, 0, none⟩ = some v ∧ W.frozen? ⟨b, 0, none⟩ = false
theorem box_new (w : World) (v : Value) (t : TypeId) (B : Nat) (hB : B = w.heap.size) : Box (w.alloc (.cells #[v] t)) B v := by
  subst hB
  have h : (w.alloc (.cells #[v] t)).heap[w.heap.size]? = some (.cells #[v] t (0, 0)) := heap_alloc_new w _
  constructor
  · rw [cell_of_row _ _ 0 _ _ _ h]; rfl
  · simp only [World.frozen?, h]; rfl
theorem Box.kept {W W' : World} {b : Nat} {v : Value} (h : Box W b v) {row : Option Nat} (hg : W.grownBy W' row) (hr : ∀ r, row = some r → ∃ o : Obj, W.heap[r]? = some o ∧ o.isCells = false) : Box W' b v :=
  ⟨cell_kept h.1 hg hr, (frozen_kept h.1 hg hr).trans h.2⟩
theorem Box.alloc {W : World} {b : Nat} {v : Value} (h : Box W b v) (o : Obj) : Box (W.alloc o) b v := h.kept (World.grownBy_alloc W o none) (fun r e => by cases e)
theorem Box.set {W : World} {b : Nat} {v : Value} (h : Box W b v) (u : Value) : Box (W.setCell ⟨b, 0, none⟩ u) b u :=
  ⟨World.cell?_setCell_same' _ _ _ (by rw [h.1]; rfl), by rw [World.frozen?_setCell]; exact h.2⟩
theorem Box.other {W : World} {b c : Nat} {v : Value} (h : Box W b v) (hne : b ≠ c) (j : Nat) (u : Value) : Box (W.setCell ⟨c, j, none⟩ u) b v :=
  ⟨(World.cell?_of_block (Below.heap_setCell W ⟨c, j, none⟩ _ b hne)).trans h.1, by rw [World.frozen?_setCell]; exact h.2⟩
theorem Box.below {W W' : World} {b : Nat} {v : Value} (h : Box W b v) (hb : Below W.heap.size W W') : Box W' b v := h.kept (below_grown hb) (fun r e => by cases e)

/-- What child answers. -/
def chV (L : List Str) (k : Nat) (c : UInt8) : Value := .tuple #[.int .i64 (((nodeOf L (pre L k ++ [c])).getD 0 : Nat) : Int), .bool (nodeOf L (pre L k ++ [c])).isSome]
theorem chV_some {L : List Str} (hL : Ok L) {k t : Nat} {c : UInt8} (hk : k < (Gs L).length) (ht : t < deg L k) (hc : lab L (off L k + t) = c) : chV L k c = .tuple #[.int .i64 ((off L k + t : Nat) : Int), .bool true] := by
  unfold chV; rw [(nodeOf_kid hL hk).2 ⟨t, ht, rfl, hc⟩]; rfl
theorem chV_none {L : List Str} (hL : Ok L) {k : Nat} {c : UInt8} (hk : k < (Gs L).length) (h : ∀ t, t < deg L k → lab L (off L k + t) ≠ c) : chV L k c = .tuple #[.int .i64 0, .bool false] := by
  have : nodeOf L (pre L k ++ [c]) = none := by
    cases h1 : nodeOf L (pre L k ++ [c]) with
    | none => rfl
    | some j => obtain ⟨t, h2, rfl, h3⟩ := (nodeOf_kid hL hk).1 h1; exact absurd h3 (h t h2)
  unfold chV; rw [this]; rfl

set_option maxHeartbeats 4000000 in
theorem child_any {B0 B1 : Nat} {L : List Str} {p : Nat} {w : World} (h : TrieAt B0 B1 w p L) (hL : Ok L) (hN : (Gs L).length ≤ 524287) (hB : B1 ≤ w.heap.size) {k : Nat} (hk : k < (Gs L).length) (c : UInt8) :
    Calls Try.prog 71 #[.pointer (some ⟨p, 0, none⟩), .int .i64 (k : Int), .int .u8 (c.toNat : Int)] w fun e w' => e = .returned (chV L k c) ∧ Below w.heap.size w w' := by
  refine (callsIn_wide (n := 3)).1 ?_
  refine callsIn_of_wp_marks Try.func71 rfl trivial ?_ rfl
  simp only [Try.ntmps71, List.size_toArray, List.length_cons, List.length_nil, Nat.reduceAdd, Nat.reduceSub, Array.replicate_succ, Array.replicate_zero, List.push_toArray, List.append_toArray, List.nil_append, List.cons_append]
  gi_wp2_with (refine ⟨trivial, ?_⟩; gi_at_call 92; refine (callsIn_wide.2 (children_any p k _)).mono ?_; rintro e w' ⟨rfl, rfl⟩)
  obtain ⟨c8, hc8⟩ : ∃ c8, c.toNat = c8 := ⟨_, rfl⟩
  have hc8l : c8 < 256 := by rw [← hc8]; exact c.toNat_lt
  have HC8 := Lib.hid hc8
  rw [hc8]
  clear hc8
  obtain ⟨W0, hW0⟩ : ∃ W0, ((((w.alloc (.cells #[.int .u8 (c8 : Int)] 5)).alloc (.cells #[.int .i64 0] 3)).alloc (.cells #[.bool false] 4)).alloc (.cells #[.pointer (some ⟨p, 0, none⟩)] 24)).alloc (.cells #[.int .i64 (k : Int)] 3) = W0 := ⟨_, rfl⟩
  have b0 : Box W0 w.heap.size (.int .u8 (c8 : Int)) := by rw [← hW0]; exact ((((box_new w _ _ _ rfl).alloc _).alloc _).alloc _).alloc _
  have b1 : Box W0 (w.heap.size + 1) (.int .i64 0) := by rw [← hW0]; exact (((box_new _ _ _ _ (by simp)).alloc _).alloc _).alloc _
  have b2 : Box W0 (w.heap.size + 1 + 1) (.bool false) := by rw [← hW0]; exact ((box_new _ _ _ _ (by simp)).alloc _).alloc _
  have b3 : Box W0 (w.heap.size + 1 + 1 + 1) (.pointer (some ⟨p, 0, none⟩)) := by rw [← hW0]; exact (box_new _ _ _ _ (by simp)).alloc _
  have b4 : Box W0 (w.heap.size + 1 + 1 + 1 + 1) (.int .i64 (k : Int)) := by rw [← hW0]; exact box_new _ _ _ _ (by simp)
  have hB0 : Below w.heap.size w W0 := by rw [← hW0]; exact (((((Below.refl _ w).alloc (Nat.le_refl _) _).alloc (by simp) _).alloc (by simp; omega) _).alloc (by simp; omega) _).alloc (by simp; omega) _
  have hs0 : W0.heap.size = w.heap.size + 5 := by rw [← hW0]; simp
  rw [hW0]
  clear hW0
  refine wpIn_rangeFunc_ownF rfl (by omega) (gf := 101) (lb := #[.pointer (some ⟨w.heap.size + 1 + 1 + 1, 0, none⟩), .pointer (some ⟨w.heap.size + 1 + 1 + 1 + 1, 0, none⟩)]) rfl trivial (enters_of Try.func101 (by kernel_rfl) rfl)
    (kids_stops 2 (by omega) hL hN hk (w.heap.size + 1 + 1 + 1) (w.heap.size + 1 + 1 + 1 + 1) w.heap.size W0 (h.below hB0 hB) hB hB0.size (by omega) (by omega) b3.1 b4.1) KpB.trans (KpB.put (by omega) (by omega) (by omega)) (Below.refl _ _) (fun _ => rfl)
    (fun pre W => ((∀ t ∈ pre, lab L (off L k + t) ≠ c) ∧ Box W w.heap.size (.int .u8 (c8 : Int)) ∧ Box W (w.heap.size + 1) (.int .i64 0) ∧ Box W (w.heap.size + 1 + 1) (.bool false)) ∧ Below w.heap.size w W)
    (fun cd pre W => ((cd = .ret ∧ ∃ t, t ∈ pre ∧ lab L (off L k + t) = c ∧ W.cell? ⟨w.heap.size + 1, 0, none⟩ = some (.int .i64 ((off L k + t : Nat) : Int)) ∧ W.cell? ⟨w.heap.size + 1 + 1, 0, none⟩ = some (.bool true))) ∧ Below w.heap.size w W)
    (OwnFrom.and (Own.from (fun s A B row hs hg hr => ⟨hs.1, hs.2.1.kept hg hr, hs.2.2.1.kept hg hr, hs.2.2.2.kept hg hr⟩) _) (ownFrom_below (Nat.le_refl _) (by omega)))
    (fun cd => OwnFrom.and (Own.from (fun s A B row hs hg hr => by obtain ⟨h1, t, h2, h3, h4, h5⟩ := hs; exact ⟨h1, t, h2, h3, cell_kept h4 hg hr, cell_kept h5 hg hr⟩) _) (ownFrom_below (Nat.le_refl _) (by omega)))
    ⟨⟨by simp, b0, b1, b2⟩, hB0⟩
    (fun t => { tmps := #[.pointer (some ⟨p, 0, none⟩), .int .i64 (k : Int), .int .u8 (c8 : Int), undef, undef, .pointer (some ⟨w.heap.size, 0, none⟩), .pointer (some ⟨w.heap.size + 1, 0, none⟩), .pointer (some ⟨w.heap.size + 1 + 1, 0, none⟩), .int .i64 ((off L k + t : Nat) : Int), .int .u8 ((lab L (off L k + t)).toNat : Int), .pointer (some ⟨p, 0, none⟩), .int .i64 (k : Int), .func (.func 101) #[] #[.pointer (some ⟨w.heap.size + 1 + 1 + 1, 0, none⟩), .pointer (some ⟨w.heap.size + 1 + 1 + 1 + 1, 0, none⟩)], .int .i64 ((off L k + t : Nat) : Int), .int .u8 ((lab L (off L k + t)).toNat : Int), undef, undef, undef, undef], defers := [] }) ?assign ?body ?done ?stop
  case assign =>
    intro l x W K hK
    unfold kidV
    gi_wp2
    exact hK
  case body =>
    rintro l pre t W ⟨⟨hp, k0, k1, k2⟩, hBW⟩ _
    have q0 := k0.1
    have q1 := k1.1
    have q2 := k2.1
    have f1 := k1.2
    have f2 := k2.2
    have hne : w.heap.size + 1 + 1 ≠ w.heap.size + 1 := by omega
    have q2' : ∀ u, (W.setCell ⟨w.heap.size + 1, 0, none⟩ u).cell? ⟨w.heap.size + 1 + 1, 0, none⟩ = some (.bool false) := fun u => (k2.other hne 0 u).1
    by_cases hx : lab L (off L k + t) = c
    · have hxt : (((lab L (off L k + t)).toNat : Int) == (c8 : Int)) = true := by rw [hx, HC8.out]; simp
      have HXX := Lib.hid hx
      clear hx
      gi_wp2
      refine ⟨(KeepsOthers.setCell _ _ _).trans (KeepsOthers.setCell _ _ _), ⟨rfl, t, by simp, HXX.out, ?_, ?_⟩, (hBW.setCell (by show w.heap.size ≤ w.heap.size + 1; omega) _).setCell (by show w.heap.size ≤ w.heap.size + 1 + 1; omega) _⟩
      · exact ((k1.set _).other (by omega) 0 _).1
      · exact ((k2.other hne 0 _).set _).1
    · have hxt : (((lab L (off L k + t)).toNat : Int) == (c8 : Int)) = false := by
        rw [beq_eq_false_iff_ne, ← HC8.out]
        intro e
        apply hx
        exact UInt8.toNat_inj.1 (by omega)
      have HXX := Lib.hid hx
      clear hx
      gi_wp2
      exact ⟨KeepsOthers.refl _, KpB.refl _ _ _ _, ⟨fun t' ht' => (List.mem_append.1 ht').elim (hp t') (fun e => by simp at e; subst e; exact HXX.out), k0, k1, k2⟩, hBW⟩
  case done =>
    rintro D ys W hD rfl ⟨⟨hne, k0, k1, k2⟩, hBW⟩ hK
    have q1 := k1.1
    have q2 := k2.1
    have f1 := k1.2
    have f2 := k2.2
    have hne2 : w.heap.size + 1 + 1 ≠ w.heap.size + 1 := by omega
    have q2' : ∀ u, (W.setCell ⟨w.heap.size + 1, 0, none⟩ u).cell? ⟨w.heap.size + 1 + 1, 0, none⟩ = some (.bool false) := fun u => (k2.other hne2 0 u).1
    gi_wp2
    have hK' := ((KeepsOthers.setCell W ⟨w.heap.size + 1, 0, none⟩ (.int .i64 0)).trans (KeepsOthers.setCell _ ⟨w.heap.size + 1 + 1, 0, none⟩ (.bool false))).same D _ hK rfl
    refine ⟨by simp, .inl ⟨_, _, rfl, run_takeDeferred hK', ?_⟩⟩
    have hk5 := cell_kept ((k1.set (.int .i64 0)).other (c := w.heap.size + 1 + 1) (by omega) 0 (.bool false)).1 (grownBy_putObj' _ D (.deferred none)) (fun r e => by cases e; exact ⟨_, hK', rfl⟩)
    have hb5 := cell_kept ((k2.other hne2 0 (.int .i64 0)).set (.bool false)).1 (grownBy_putObj' _ D (.deferred none)) (fun r e => by cases e; exact ⟨_, hK', rfl⟩)
    refine ⟨.tuple #[.int .i64 0, .bool false], ?_, by rw [chV_none hL hk (fun t ht => hne t (List.mem_range.2 ht))], ((hBW.setCell (by show w.heap.size ≤ w.heap.size + 1; omega) _).setCell (by show w.heap.size ≤ w.heap.size + 1 + 1; omega) _).trans (belowK_b (w := w) (Nat.le_refl _) _ D _ _ (by omega) hK' rfl rfl)⟩
    simp [results, Try.f71, go_sem, hk5, hb5]
  case stop =>
    rintro D cd pre W hD hpre ⟨⟨rfl, t, ht, hlt, hk1, hk2⟩, hBW⟩ hK
    gi_wp2
    refine ⟨by simp, .inl ⟨_, _, rfl, run_takeDeferred hK, ?_⟩⟩
    have hk5 := cell_kept hk1 (grownBy_putObj' _ D (.deferred none)) (fun r e => by cases e; exact ⟨_, hK, rfl⟩)
    have hb5 := cell_kept hk2 (grownBy_putObj' _ D (.deferred none)) (fun r e => by cases e; exact ⟨_, hK, rfl⟩)
    refine ⟨.tuple #[.int .i64 ((off L k + t : Nat) : Int), .bool true], ?_, by rw [chV_some hL hk (List.mem_range.1 (hpre.subset ht)) hlt], hBW.trans (belowK_b (w := w) (Nat.le_refl _) _ D _ _ (by omega) hK rfl rfl)⟩
    simp [results, Try.f71, go_sem, hk5, hb5]
end Go.Proofs.Ytffljcfpofhkgaa.Lo
