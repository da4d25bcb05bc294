/-
  Packed numbers: operations as equations; where a sequence lies; contracts of empty, place, Len, Width, Get.
-/
import Derived.Test.YtffljcfpofhkgaaPkMath
import Derived.Test.YtffljcfpofhkgaaBvM
import Derived.Test.YtffljcfpofhkgaaShelf
import Derived.RegionTactic
import Derived.ChangeAlike
import Derived.Laws.Shifts
set_option linter.unusedVariables false
set_option linter.unusedSimpArgs false
set_option maxRecDepth 100000
namespace Go.Proofs.Ytffljcfpofhkgaa.Pk
open Go Go.RowKit Go.Proofs.Ytffljcfpofhkgaa.Kit Go.Proofs.Ytffljcfpofhkgaa.Bv

theorem mul_nat (t : TypeId) (a b M : Nat) (h : a * b = M) (hM : M < 4611686018427387904) : binOp .mul t (.int .i64 (a : Int)) (.int .i64 (b : Int)) = pure (.int .i64 (M : Int)) := by
  have h1 : IntKind.i64.wrap ((a : Int) * (b : Int)) = (M : Int) := by
    rw [show (a : Int) * (b : Int) = ((a * b : Nat) : Int) by simp, h, IntKind.wrap_i64]; omega
  simp [binOp, Op.intArith, h1]
theorem shl_min (t : TypeId) (x s V : Nat) (h : x * 2 ^ (min s 64) % 18446744073709551616 = V) : binOp .shl t (.int .u64 (x : Int)) (.int .i64 (s : Int)) = pure (.int .u64 (V : Int)) := by
  have h1 := shift_shl_any .u64 .i64 (x : Int) (s : Int) (by omega)
  rw [Int.toNat_natCast, show IntKind.u64.bits = 64 from rfl, show ((x : Int) * 2 ^ (min s 64)) = ((x * 2 ^ (min s 64) : Nat) : Int) by simp, IntKind.wrap_u64] at h1
  rw [show (((x * 2 ^ (min s 64) : Nat) : Int) % 18446744073709551616) = ((x * 2 ^ (min s 64) % 18446744073709551616 : Nat) : Int) by simp, h] at h1
  exact h1
theorem shr_min (t : TypeId) (x s V : Nat) (h : x / 2 ^ (min s 64) = V) : binOp .shr t (.int .u64 (x : Int)) (.int .i64 (s : Int)) = pure (.int .u64 (V : Int)) := by
  have h1 := shift_shr_any .u64 .i64 (x : Int) (s : Int) (by omega)
  rw [Int.toNat_natCast, show IntKind.u64.bits = 64 from rfl, show ((2 : Int) ^ (min s 64)) = ((2 ^ (min s 64) : Nat) : Int) by simp, ← Int.natCast_ediv, h] at h1
  exact h1
theorem and_nat (t : TypeId) (a b c : Nat) (ha : a < 18446744073709551616) (hb : b < 18446744073709551616) (h : a &&& b = c) : binOp .and t (.int .u64 (a : Int)) (.int .u64 (b : Int)) = pure (.int .u64 (c : Int)) := by
  have h1 := u64_and_nat' a b ha hb
  rw [h] at h1
  have e : binOp .and t (.int .u64 (a : Int)) (.int .u64 (b : Int)) = pure (.int .u64 (bits .and .u64 (a : Int) (b : Int))) := by simp [binOp, Op.intBits, bits]
  rw [e, h1]
theorem sub1_nat (t : TypeId) (V M : Nat) (hV : V < 18446744073709551616) (h : (V + 18446744073709551615) % 18446744073709551616 = M) : binOp .sub t (.int .u64 (V : Int)) (.int .u64 1) = pure (.int .u64 (M : Int)) := by
  have h1 : IntKind.u64.wrap ((V : Int) - 1) = (M : Int) := by rw [IntKind.wrap_u64]; omega
  simp [binOp, Op.intArith, h1]
/-- The mask of a width. -/
theorem mask_eq (W : Nat) : ((1 * 2 ^ (min W 64) % 18446744073709551616) + 18446744073709551615) % 18446744073709551616 = 2 ^ (min W 64) - 1 := by
  by_cases h : W < 64
  · rw [Nat.min_eq_left (by omega), Nat.one_mul]
    have h1 : 2 ^ W < 2 ^ 64 := Nat.pow_lt_pow_right (by decide) h
    have h2 := Nat.two_pow_pos W
    omega
  · rw [Nat.min_eq_right (by omega)]
theorem mask_lt (W : Nat) : 2 ^ (min W 64) - 1 < 18446744073709551616 := by
  have h1 : 2 ^ (min W 64) ≤ 2 ^ 64 := Nat.pow_le_pow_right (by decide) (Nat.min_le_right _ _)
  omega
theorem and_mask (x W : Nat) : x % 18446744073709551616 &&& (2 ^ (min W 64) - 1) = x % 2 ^ (min W 64) := by
  rw [Nat.and_two_pow_sub_one_eq_mod, show (18446744073709551616 : Nat) = 2 ^ 64 from rfl, Nat.mod_mod_of_dvd]
  exact Nat.pow_dvd_pow 2 (Nat.min_le_right _ _)

/-- The first N words of a number. -/
def wds (S N : Nat) : List Nat := (List.range N).map (wd S)
theorem wds_len (S N : Nat) : (wds S N).length = N := by simp [wds]
theorem wds_get {S N j : Nat} (h : j < N) : (wds S N)[j]? = some (wd S j) := by unfold wds; rw [List.getElem?_map, List.getElem?_range h]; rfl
theorem wds_zero (N : Nat) : wds 0 N = List.replicate N 0 := by
  unfold wds
  apply List.ext_getElem (by simp)
  intro i h1 h2
  simp [wd_zero]
/-- How many words. -/
def nws (n W : Nat) : Nat := n * W / 64 + 2
/-- The pointer to block p is a sequence with these numbers in its fields and the words of S; what it consists of lies from B0 on and below B1. -/
def IntsAt (B0 B1 : Nat) (w : World) (p n W S : Nat) : Prop :=
  p < B1 ∧ ∃ g, B0 ≤ g ∧ g < p ∧ w.heap[p]? = some (.cells #[.int .i64 (n : Int), .int .i64 (W : Int), .slice (some ⟨g, 0, none⟩) (nws n W) (nws n W)] 103 (0, 0)) ∧
    w.ownsRow B0 69 1 (.slice (some ⟨g, 0, none⟩) (nws n W) (nws n W)) (nws n W) (u64s (wds S (nws n W)))
theorem IntsAt.later {B0 B1 : Nat} {w w' : World} {p n W S : Nat} (h : IntsAt B0 B1 w p n W S) (hk : ∀ b, B0 ≤ b → b < B1 → w'.heap[b]? = w.heap[b]?) : IntsAt B0 B1 w' p n W S := by
  obtain ⟨h1, g, h2, h3, h4, h5⟩ := h
  exact ⟨h1, g, h2, h3, by rw [hk p (by omega) h1]; exact h4, own_blocks h5 (fun k hk => by cases hk; exact Nat.lt_trans h3 h1) hk⟩
theorem IntsAt.below {B0 B1 B : Nat} {w w' : World} {p n W S : Nat} (h : IntsAt B0 B1 w p n W S) (hb : Below B w w') (hB : B1 ≤ B) : IntsAt B0 B1 w' p n W S :=
  h.later fun b _ h2 => hb.block b (by omega)
theorem IntsAt.wide {B0 B1 B0' B1' : Nat} {w : World} {p n W S : Nat} (h : IntsAt B0 B1 w p n W S) (h0 : B0' ≤ B0) (h1 : B1 ≤ B1') : IntsAt B0' B1' w p n W S := by
  obtain ⟨h2, g, h3, h4, h5, h6⟩ := h
  exact ⟨by omega, g, by omega, h4, h5, own_base h6 h0⟩
/-- What the walk asks of a sequence. -/
theorem IntsAt.use {B0 B1 : Nat} {w : World} {p n W S : Nat} (h : IntsAt B0 B1 w p n W S) : ∃ g, B0 ≤ g ∧ g < p ∧ p < B1 ∧ p < w.heap.size ∧ w.cell? ⟨p, 0, none⟩ = some (.int .i64 (n : Int)) ∧ w.cell? ⟨p, 1, none⟩ = some (.int .i64 (W : Int)) ∧
    w.cell? ⟨p, 2, none⟩ = some (.slice (some ⟨g, 0, none⟩) (nws n W) (nws n W)) ∧ nws n W ≤ maxLen ∧ (∀ j, j < nws n W → w.cell? ⟨g, j, none⟩ = some (.int .u64 (wd S j : Nat))) ∧ (∀ j, w.frozen? ⟨g, j, none⟩ = false) ∧
    w.ownsRow B0 69 1 (.slice (some ⟨g, 0, none⟩) (nws n W) (nws n W)) (nws n W) (u64s (wds S (nws n W))) := by
  obtain ⟨h1, g, h2, h3, h4, h5⟩ := h
  obtain ⟨g', e, _, _, hc, hf⟩ := own_cells h5 (by unfold nws; omega)
  cases e
  exact ⟨g, h2, h3, h1, (Array.getElem?_eq_some_iff.1 h4).1, by rw [cell_of_row w _ 0 _ _ _ h4]; rfl, by rw [cell_of_row w _ 1 _ _ _ h4]; rfl, by rw [cell_of_row w _ 2 _ _ _ h4]; rfl, (own_reads h5).len.2.2, fun j hj => hc j _ (u64s_get (wds_get hj)), hf, h5⟩

def EmptyPost (n W : Nat) (w : World) (e : Ending) (w' : World) : Prop := ∃ p, e = .returned (.pointer (some ⟨p, 0, none⟩)) ∧ IntsAt w.heap.size w'.heap.size w' p n W 0 ∧ Below w.heap.size w w'
theorem empty_post {n W : Nat} {w w2 : World} {g N : Nat} (hN : nws n W = N) (hg : w.heap.size = g) (h1 : w2.ownsRow g 69 1 (.slice (some ⟨g, 0, none⟩) N N) N (u64s (wds 0 N))) (hb : Below g w w2) :
    EmptyPost n W w (.returned (.pointer (some ⟨w2.heap.size, 0, none⟩))) (w2.alloc (.cells #[.int .i64 (n : Int), .int .i64 (W : Int), .slice (some ⟨g, 0, none⟩) N N] 103)) := by
  subst hg hN
  have hs := hb.size
  have hlt : w.heap.size < w2.heap.size := own_row_lt h1 _ rfl
  exact ⟨w2.heap.size, rfl, ⟨by simp, w.heap.size, Nat.le_refl _, hlt, heap_alloc_new w2 _, h1.alloc _⟩, hb.alloc (by omega) _⟩

set_option maxHeartbeats 1000000 in
theorem empty_any (n W : Nat) (w : World) (hn : n ≤ 1048577) (hW : W ≤ 255) :
    Calls Try.prog 95 #[.int .i64 (n : Int), .int .i64 (W : Int)] w (EmptyPost n W w) := by
  obtain ⟨i0, hi, hz0, hz1, hz2⟩ := info_parts info_u64
  obtain ⟨M, hM⟩ : ∃ M, n * W = M := ⟨_, rfl⟩
  have hMl : M ≤ 1048577 * 255 := by rw [← hM]; exact Nat.mul_le_mul hn hW
  obtain ⟨q, hq⟩ : ∃ q, M / 64 = q := ⟨_, rfl⟩
  have hmul := mul_nat 3 n W M hM (by omega)
  have hquo := quo_nat 3 M 64 q (by omega) (by decide) hq
  have hql : q ≤ 1048577 * 255 := by omega
  have hnw : Hid (nws n W = q + 2) := Lib.hid (by unfold nws; rw [hM, hq])
  have hq2 : (q : Int) + 2 = ((q + 2 : Nat) : Int) := by omega
  have HQ2 := Lib.hid hq2
  clear hM hq hq2 hn hW
  simp only [Int.cast_ofNat_Int] at hquo
  go_enter Try.func95, Try.ntmps95
  go_wp2_with (at_make; refine wpList_make_full _ rfl _ _ _ rfl w.heap.size 69 i0 (.int .u64 0) 1 Try.underlying79 hi hz0 hz1 _ _ _ _ (q + 2) rfl rfl HQ2.out HQ2.out (by rw [hz2]; omega) (by unfold maxLen; omega) (Nat.le_refl _) ?_; intro w2 hown2 hg2)
  have hw0 : w2.ownsRow w.heap.size 69 1 (.slice (some ⟨w.heap.size, 0, none⟩) (q + 2) (q + 2)) (q + 2) (u64s (wds 0 (q + 2))) := by
    have h := hown2
    rw [show (Value.int IntKind.u64 0).cells = #[Value.int IntKind.u64 0] from rfl, toList_madeCells_one, Nat.mul_one] at h
    rw [wds_zero]
    unfold u64s
    rw [List.map_replicate]
    exact h
  have hb2 : Below w.heap.size w w2 := (Below.refl _ w).grown hg2 (Nat.le_refl _) (fun j hj => by cases hj)
  have HP := Lib.hid (empty_post hnw.out rfl hw0 hb2)
  clear hw0 hb2 hown2 hg2
  go_wp2
  go_ret
  exact HP.out

theorem len_pk {B0 B1 p n W S : Nat} {w : World} (h : IntsAt B0 B1 w p n W S) :
    Calls Try.prog 63 #[.pointer (some ⟨p, 0, none⟩)] w fun e w' => e = .returned (.int .i64 (n : Int)) ∧ w = w' := by
  obtain ⟨g, _, _, _, _, x0, x1, x2, _⟩ := h.use
  clear h
  go_enter Try.func63, Try.ntmps63
  go_wp2
  go_ret
  exact ⟨rfl, rfl⟩
theorem len_pk_nil (w : World) :
    Calls Try.prog 63 #[.pointer none] w fun e w' => e = .returned (.int .i64 0) ∧ w = w' := by
  go_enter Try.func63, Try.ntmps63
  go_wp2
  go_ret
  exact ⟨rfl, rfl⟩
theorem place_pk {B0 B1 p n W S : Nat} {w : World} (h : IntsAt B0 B1 w p n W S) (i P : Nat) (hP : i * W = P) (hPl : P < 4611686018427387904) :
    Calls Try.prog 73 #[.pointer (some ⟨p, 0, none⟩), .int .i64 (i : Int)] w fun e w' => e = .returned (.tuple #[.int .i64 ((P / 64 : Nat) : Int), .int .i64 ((P % 64 : Nat) : Int)]) ∧ Below w.heap.size w w' := by
  obtain ⟨g, _, _, _, _, x0, x1, x2, _⟩ := h.use
  obtain ⟨q, hq⟩ : ∃ q, P / 64 = q := ⟨_, rfl⟩
  obtain ⟨r, hr⟩ : ∃ r, P % 64 = r := ⟨_, rfl⟩
  have hmul := mul_nat 3 i W P hP (by omega)
  have hquo := quo_nat 3 P 64 q (by omega) (by decide) hq
  have hrem := rem_nat 3 P 64 r (by decide) hr
  rw [hq, hr]
  clear h hP hPl hq hr
  simp only [Int.cast_ofNat_Int] at hquo hrem
  go_enter Try.func73, Try.ntmps73
  go_wp2
  go_quiet (fail)
  go_wp2
  go_ret2
  exact ⟨rfl, below_drewN (Below.refl _ _) _⟩
end Go.Proofs.Ytffljcfpofhkgaa.Pk
