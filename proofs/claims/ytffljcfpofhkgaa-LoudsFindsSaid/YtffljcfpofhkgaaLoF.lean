/-
  Ranges over a function: contract of children's iterator and of child.
-/
import Derived.RangeFuncNested
import Derived.RangeFuncBound
import Derived.RangeFuncCalls
import Derived.RangeFuncLeaves
import Derived.Shelf.Abstract
import Derived.Shelf.RegionOpen
import Derived.WalkKit
import Derived.OwnWalkIn
import Derived.TacticsInMore
import Derived.LoopNIn
import Derived.LoopIn
import Derived.Test.YtffljcfpofhkgaaLoE
set_option linter.unusedVariables false
set_option linter.unusedSimpArgs false
set_option maxRecDepth 100000
namespace Go.Proofs.Ytffljcfpofhkgaa.Lo
open Go Go.RowKit Go.Shelf Go.Proofs.Ytffljcfpofhkgaa.Kit Go.Proofs.Ytffljcfpofhkgaa.Bv Go.Proofs.Ytffljcfpofhkgaa.Pk
attribute [local go_sem] Oper.semAt_some

theorem below_grown {W W' : World} (h : Below W.heap.size W W') : W.grownBy W' none := ⟨h.os, h.tape, h.output, h.size, fun k hk _ => h.block k hk⟩
theorem abides_below {β : Type} {B : Nat} {J : β → World → Prop} (hJ : AbidesFrom B J) {s : β} {W W' : World} (h : J s W) (hb : Below W.heap.size W W') : J s W' :=
  hJ s W W' none h (below_grown hb) (fun r e => by cases e)
/-- What a round keeps: what lay below n₀, and two blocks more. -/
def KpB (n₀ b1 b2 : Nat) (W W' : World) : Prop := Below n₀ W W' ∧ W'.heap[b1]? = W.heap[b1]? ∧ W'.heap[b2]? = W.heap[b2]?
theorem KpB.refl (n₀ b1 b2 : Nat) (W : World) : KpB n₀ b1 b2 W W := ⟨Below.refl _ _, rfl, rfl⟩
theorem KpB.trans {n₀ b1 b2 : Nat} {A B C : World} (h : KpB n₀ b1 b2 A B) (k : KpB n₀ b1 b2 B C) : KpB n₀ b1 b2 A C := ⟨h.1.trans k.1, k.2.1.trans h.2.1, k.2.2.trans h.2.2⟩
theorem KpB.of {n₀ b1 b2 : Nat} {A B : World} (h : Below A.heap.size A B) (h0 : n₀ ≤ A.heap.size) (h1 : b1 < A.heap.size) (h2 : b2 < A.heap.size) : KpB n₀ b1 b2 A B := ⟨h.mono h0, h.block b1 h1, h.block b2 h2⟩
theorem KpB.put {n₀ b1 b2 : Nat} {w : World} (hn : n₀ ≤ w.heap.size) (h1 : b1 < w.heap.size) (h2 : b2 < w.heap.size) (W : World) (l : Nat) (o o' : Obj) (hl : w.heap.size ≤ l) (h : W.heap[l]? = some o) (k1 : o.isCells = false) (k2 : o.isWalk = false) : KpB n₀ b1 b2 W (W.putObj l o') :=
  ⟨belowK_b hn W l o o' hl h k1 k2, World.putObj_heap_other (by omega), World.putObj_heap_other (by omega)⟩
theorem KpB.cell {n₀ b1 b2 : Nat} {W W' : World} (h : KpB n₀ b1 b2 W W') {b : Nat} (hb : b = b1 ∨ b = b2) (j : Nat) : W'.cell? ⟨b, j, none⟩ = W.cell? ⟨b, j, none⟩ := by
  rcases hb with rfl | rfl
  · exact World.cell?_of_block h.2.1
  · exact World.cell?_of_block h.2.2
/-- What the iterator of a node's children hands over: the number of the child, its last byte. -/
def kidV (L : List Str) (k : Nat) (t : Nat) : Array Value := #[.int .i64 ((off L k + t : Nat) : Int), .int .u8 ((lab L (off L k + t)).toNat : Int)]

set_option maxHeartbeats 4000000 in
theorem kids_stops (n : Nat) (hn : 1 ≤ n) {B0 B1 : Nat} {L : List Str} {p : Nat} (hL : Ok L) (hN : (Gs L).length ≤ 524287) {k : Nat} (hk : k < (Gs L).length) (Bt Bn n₀ : Nat) (w : World) (h : TrieAt B0 B1 w p L) (hB : B1 ≤ n₀) (h0 : n₀ ≤ w.heap.size) (hBt : Bt < w.heap.size) (hBn : Bn < w.heap.size)
    (ct : w.cell? ⟨Bt, 0, none⟩ = some (.pointer (some ⟨p, 0, none⟩))) (cn : w.cell? ⟨Bn, 0, none⟩ = some (.int .i64 (k : Int))) :
    SeqStopsK Fence.wide n Try.prog 101 #[.pointer (some ⟨Bt, 0, none⟩), .pointer (some ⟨Bn, 0, none⟩)] (kidV L k) (KpB n₀ Bt Bn) (fun ys => ys = List.range (deg L k)) (fun pre => pre <+: List.range (deg L k)) (deg L k) w := fun l J Jx W hW hJ hJx hY hJ0 => by
  have hWs := hW.size
  have HF := Lib.hid (family_any (h.below hW (by omega)) hL hN (by omega) hk)
  have ct1 := (hW.cell (p := ⟨Bt, 0, none⟩) hBt).trans ct
  have cn1 := (hW.cell (p := ⟨Bn, 0, none⟩) hBn).trans cn
  obtain ⟨ps, pe, pn, pd, a, c, hp, ⟨x0, x1, x2, x3, x4⟩, _, _, hR, _, _⟩ := h.use
  have HR := Lib.hid (fun V (hV : KpB n₀ Bt Bn w V) (i : Nat) (x : Value) (hi : (u8s (labs L))[i]? = some x) => show ∃ b o2, a = some ⟨b, o2, none⟩ ∧ V.cell? ⟨b, o2 + i, none⟩ = some x by
    obtain ⟨k1, k2, ps', pe', pn', pd', a', c', h3, h4, h5, h6, h7, h8, h9⟩ := h
    have e2 : w.cell? ⟨p, 2, none⟩ = some (.slice a' (labs L).length c') := by rw [cell_of_row w _ 2 _ _ _ h3]; rfl
    rw [x2] at e2
    cases e2
    obtain ⟨b, o2, rfl, hblt, hc0⟩ := Reads.cell (own_reads h6) hi
    exact ⟨b, o2, rfl, by rw [hV.1.cell (p := ⟨b, o2 + i, none⟩) (Nat.lt_of_lt_of_le (h7 b rfl) hB)]; exact hc0⟩)
  have HX := Lib.hid (fun V (hV : KpB n₀ Bt Bn w V) => show V.cell? ⟨Bt, 0, none⟩ = some (.pointer (some ⟨p, 0, none⟩)) ∧ V.cell? ⟨p, 2, none⟩ = some (.slice a (labs L).length c) from ⟨(hV.cell (.inl rfl) 0).trans ct, (hV.1.cell (p := ⟨p, 2, none⟩) (by show p < _; omega)).trans x2⟩)
  have hlb := labs_len hL
  have HLG := Lib.hid (fun t (ht : t < deg L k) => show (labs L)[off L k + t - 1]? = some (lab L (off L k + t)) by
    have h1 := (kid_at hL hk ht).1
    have h2 : 1 ≤ off L k := by unfold off; omega
    have h3 := labs_get hL (k := off L k + t - 1) (by omega)
    rwa [show off L k + t - 1 + 1 = off L k + t by omega] at h3)
  have hoff := off_le hL (i := k + 1) (by omega)
  rw [off_succ hk] at hoff
  have ho1 : 1 ≤ off L k := by unfold off; omega
  have hlM := hR.len.2
  unfold maxLen at hlM
  obtain ⟨M, hM⟩ : ∃ M, (labs L).length = M := ⟨_, rfl⟩
  rw [hM] at HX hlb hlM
  have hY' := Lib.hid hY
  have hkv := Lib.hid (fun t => show kidV L k t = #[.int .i64 ((off L k + t : Nat) : Int), .int .u8 ((lab L (off L k + t)).toNat : Int)] from rfl)
  have hMd : off L k + deg L k ≤ M + 1 := by omega
  have hMl : M ≤ 524287 := by omega
  obtain ⟨O, hO⟩ : ∃ O, off L k = O := ⟨_, rfl⟩
  obtain ⟨D, hD⟩ : ∃ D, deg L k = D := ⟨_, rfl⟩
  rw [hO, hD] at HF HLG hMd
  obtain ⟨Y, hY2⟩ : ∃ Y, O + D = Y := ⟨_, rfl⟩
  rw [hY2] at HF
  rw [hO] at hkv ho1
  rw [hD] at hY' ⊢
  have HW := Lib.hid (KpB.of hW h0 hBt hBn)
  have HWB := Lib.hid (fun V (hV : Below W.heap.size W V) => show KpB n₀ Bt Bn W V from KpB.of hV (by omega) (by omega) (by omega))
  clear hO hD hM hY x0 x1 x2 x3 x4 hR hoff hlb cn ct h hW
  refine callsIn_of_wp Try.func101 rfl trivial ?_ rfl
  simp only [Try.ntmps101, List.size_toArray, List.length_cons, List.length_nil, Nat.reduceAdd, Nat.reduceSub, Array.replicate_succ, Array.replicate_zero, List.push_toArray, List.append_toArray, List.nil_append, List.cons_append]
  gi_wp2_with (refine ⟨trivial, ?_⟩; gi_at_call 72; refine (callsIn_wide.2 HF.out).mono ?_; rintro e w1 ⟨rfl, hb1⟩)
  have HW1 := Lib.hid (HW.out.trans (HWB.out _ hb1))
  have hJ1 := abides_below hJ hJ0 hb1
  gi_loopw [6] (fun y wr => ∃ t : Nat, t ≤ D ∧ y = .int .i64 ((O + t : Nat) : Int) ∧ Hid (KpB n₀ Bt Bn w wr) ∧ Hid (J (List.range t) wr)) (fun y _ => O + D - (intOf y).toNat)
  case atStart => exact ⟨0, Nat.zero_le _, by simp, HW1, Lib.hid hJ1⟩
  case round =>
    clear hJ1 hb1
    obtain ⟨t, ht, rfl, hb, hJt⟩ := hrel
    obtain ⟨e1, e2⟩ := HX.out _ hb.out
    by_cases hlt : t < D
    · obtain ⟨b, o2, rfl, hcell⟩ := HR.out _ hb.out (O + t - 1) (.int .u8 ((lab L (O + t)).toNat : Nat)) (by unfold u8s; rw [List.getElem?_map, HLG.out t hlt]; rfl)
      obtain ⟨fn, tmps, assign, body, hy, hR1⟩ := hY'.out (List.range t) t wr hJt.out (by rw [List.length_range]; exact hlt)
      rw [hkv.out] at hy
      have hlast : List.range t ++ [t] = List.range (t + 1) := List.range_succ.symm
      rw [hlast] at hR1
      obtain ⟨c8, hc8⟩ : ∃ c8, (lab L (O + t)).toNat = c8 := ⟨_, rfl⟩
      rw [hc8] at hcell hy
      obtain ⟨z, hz⟩ : ∃ z, O + t = z := ⟨_, rfl⟩
      rw [hz] at hcell hy ⊢
      obtain ⟨i, hi⟩ : ∃ i, z - 1 = i := ⟨_, rfl⟩
      rw [hi] at hcell
      have hzi : (z : Int) - 1 = (i : Int) := by omega
      have hi0 : (0 : Int) ≤ (i : Int) := by omega
      have hiM : (i : Int) < (M : Int) := by omega
      have hzD : (z : Int) < (Y : Int) := by omega
      have HR1 := Lib.hid hR1
      have HZ := Lib.hid hz
      have HY2 := Lib.hid hY2
      have hYl : Y ≤ 600000 := by omega
      clear hi hc8 hlast hR1 hz hY2 hJt
      gi_wp2
      refine HR1.out.mono ?_
      rintro e W3 (⟨rfl, hJ3, hk3⟩ | ⟨rfl, hJx3⟩)
      · have HB3 := Lib.hid (hb.out.trans hk3)
        have HJ3 := Lib.hid hJ3
        gi_wp2
        go_roundw
        case rel => exact ⟨t + 1, by omega, by rw [← HZ.out]; go_num, HB3, HJ3⟩
        case measure => have := HZ.out; have := HY2.out; simp [intOf]; omega
      · have HJX := Lib.hid hJx3
        gi_wp2
        refine bodyPost_ret (results_none rfl _ _ _) rfl ?_
        refine ⟨⟨_, rfl⟩, .inr ⟨_, ?_, HJX.out⟩⟩
        exact ⟨List.range' (t + 1) (D - (t + 1)), by rw [List.range_eq_range', List.range_eq_range']; have := List.range'_append (s := 0) (m := t + 1) (n := D - (t + 1)) (step := 1); rw [Nat.one_mul, Nat.zero_add, show t + 1 + (D - (t + 1)) = D by omega] at this; exact this⟩
    · obtain rfl : t = D := by omega
      rw [hY2]
      clear hlt hY2
      gi_wp2
      go_end0
      exact ⟨⟨_, rfl⟩, .inl ⟨_, rfl, hJt.out⟩⟩
end Go.Proofs.Ytffljcfpofhkgaa.Lo
