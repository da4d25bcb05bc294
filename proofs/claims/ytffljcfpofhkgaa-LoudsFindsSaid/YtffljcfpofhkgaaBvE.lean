/-
  Contracts of Len, Get, and of the reference's Get, Rank, Select, Same.
-/
import Derived.Test.YtffljcfpofhkgaaBvD
set_option linter.unusedVariables false
set_option linter.unusedSimpArgs false
set_option maxRecDepth 100000
namespace Go.Proofs.Ytffljcfpofhkgaa.Bv
open Go Go.RowKit Go.Proofs.Ytffljcfpofhkgaa.Kit

theorem len_any {B0 B1 : Nat} {l : List Bool} {p : Nat} {w : World} (h : VecAt B0 B1 w p l) :
    Calls Try.prog 86 #[.pointer (some ⟨p, 0, none⟩)] w fun e w' => e = .returned (.int .i64 (l.length : Nat)) ∧ w = w' := by
  obtain ⟨a1, c1, a2, c2, hp, x0, x1, x2, _⟩ := h.use
  obtain ⟨n, hn⟩ : ∃ n, l.length = n := ⟨_, rfl⟩
  rw [hn] at x0 ⊢
  clear x1 x2 h hn
  go_enter Try.func86, Try.ntmps86
  go_wp2
  go_ret
  exact ⟨rfl, rfl⟩
theorem len_nil (w : World) :
    Calls Try.prog 86 #[.pointer none] w fun e w' => e = .returned (.int .i64 0) ∧ w = w' := by
  go_enter Try.func86, Try.ntmps86
  go_wp2
  go_ret
  exact ⟨rfl, rfl⟩

/-- Bit i, false where there is none. -/
def gt (l : List Bool) (i : Int) : Bool := if 0 ≤ i then bt l i.toNat else false
theorem gt_nat (l : List Bool) (i : Nat) : gt l (i : Int) = bt l i := by unfold gt; rw [if_pos (by omega)]; rfl
theorem gt_neg (l : List Bool) {i : Int} (h : i < 0) : gt l i = false := by unfold gt; rw [if_neg (by omega)]
theorem gt_ge (l : List Bool) {i : Int} (h : (l.length : Int) ≤ i) : gt l i = false := by unfold gt; rw [if_pos (by omega)]; exact bt_ge (by omega)

theorem shr_nat (t : TypeId) (W r V : Nat) (hr : r < 64) (h : W / 2 ^ r = V) : binOp .shr t (.int .u64 (W : Int)) (.int .i64 (r : Int)) = pure (.int .u64 (V : Int)) := by
  have h1 := shift_shr .u64 .i64 (W : Int) (r : Int) (by omega) (by simp [IntKind.bits]; omega)
  rw [Int.toNat_natCast, show ((2 : Int) ^ r) = ((2 ^ r : Nat) : Int) by simp, ← Int.natCast_ediv, h] at h1
  exact h1
theorem and_one (t : TypeId) (V u : Nat) (hV : V < 18446744073709551616) (h : V % 2 = u) : binOp .and t (.int .u64 (V : Int)) (.int .u64 1) = pure (.int .u64 (u : Int)) := by
  have h1 := u64_and_nat' V 1 hV (by decide)
  rw [Nat.and_one_is_mod, h] at h1
  have e : binOp .and t (.int .u64 (V : Int)) (.int .u64 1) = pure (.int .u64 (bits .and .u64 (V : Int) ((1 : Nat) : Int))) := by simp [binOp, Op.intBits, bits]
  rw [e, h1]

theorem get_in {B0 B1 : Nat} {l : List Bool} {p : Nat} {w : World} (h : VecAt B0 B1 w p l) (hl : l.length ≤ 1048576) (i : Nat) (hi : i < l.length) :
    Calls Try.prog 68 #[.pointer (some ⟨p, 0, none⟩), .int .i64 (i : Int)] w fun e w' => e = .returned (.bool (bt l i)) ∧ w = w' := by
  have HL := Lib.hid (len_any h)
  obtain ⟨a1, c1, a2, c2, hp, x0, x1, x2, hR, _, _, _⟩ := h.use
  have hlen := hR.len.2
  unfold maxLen at hlen
  have hq : i / 64 < nw l.length := by unfold nw; omega
  have hnw : nw l.length ≤ 16384 := by unfold nw; omega
  obtain ⟨b, off, rfl, hblt, hc⟩ := Reads.cell hR (u64s_get (wds_get l hq))
  have hwb := wat_bit l i
  have hwl := wat_lt l (i / 64)
  obtain ⟨W, hW⟩ : ∃ W, wat l (i / 64) = W := ⟨_, rfl⟩
  rw [hW] at hwb hwl hc
  clear x0 x2 h hR hW
  obtain ⟨n, hn⟩ : ∃ n, l.length = n := ⟨_, rfl⟩
  have HN := Lib.hid hn
  rw [hn] at HL x1 hi hl hq hlen hnw
  obtain ⟨N, hN⟩ : ∃ N, nw n = N := ⟨_, rfl⟩
  rw [hN] at x1 hq hlen hnw
  obtain ⟨q, hqq⟩ : ∃ q, i / 64 = q := ⟨_, rfl⟩
  obtain ⟨r, hrr⟩ : ∃ r, i % 64 = r := ⟨_, rfl⟩
  rw [hqq] at hc hq
  rw [hrr] at hwb
  have hquo := quo_nat 3 i 64 q (by omega) (by decide) hqq
  have hrem := rem_nat 3 i 64 r (by decide) hrr
  have hr : r < 64 := by omega
  obtain ⟨V, hV⟩ : ∃ V, W / 2 ^ r = V := ⟨_, rfl⟩
  have hVl : V < 18446744073709551616 := by rw [← hV]; exact Nat.lt_of_le_of_lt (Nat.div_le_self _ _) hwl
  have hshr := shr_nat 69 W r V hr hV
  rw [hV] at hwb
  have hqi : (q : Int) < (N : Int) := by omega
  have hqi0 : (0 : Int) ≤ q := by omega
  have hii : (i : Int) < (n : Int) := by omega
  clear hqq hrr hV hn hN hl
  simp only [Int.cast_ofNat_Int] at hquo hrem
  cases hb : bt l i with
  | true =>
    rw [hb] at hwb
    have hand := and_one 69 V 1 hVl hwb
    simp only [Int.cast_ofNat_Int] at hand
    clear hwb hb hVl hwl
    go_enter Try.func68, Try.ntmps68
    go_wp2_with (go_at_call 86; (with_reducible refine HL.out.mono ?_); rintro e w1 ⟨rfl, rfl⟩)
    go_ret
    exact ⟨rfl, rfl⟩
  | false =>
    rw [hb] at hwb
    have hand := and_one 69 V 0 hVl hwb
    simp only [Int.cast_ofNat_Int] at hand
    clear hwb hb hVl hwl
    go_enter Try.func68, Try.ntmps68
    go_wp2_with (go_at_call 86; (with_reducible refine HL.out.mono ?_); rintro e w1 ⟨rfl, rfl⟩)
    go_ret
    exact ⟨rfl, rfl⟩
theorem get_any {B0 B1 : Nat} {l : List Bool} {p : Nat} {w : World} (h : VecAt B0 B1 w p l) (hl : l.length ≤ 1048576) (i : Int) :
    Calls Try.prog 68 #[.pointer (some ⟨p, 0, none⟩), .int .i64 i] w fun e w' => e = .returned (.bool (gt l i)) ∧ w = w' := by
  by_cases h0 : 0 ≤ i
  · by_cases h1 : i < (l.length : Int)
    · obtain ⟨k, rfl⟩ := Int.eq_ofNat_of_zero_le h0
      rw [gt_nat]
      exact get_in h hl k (by omega)
    · rw [gt_ge l (by omega)]
      have HL := Lib.hid (len_any h)
      obtain ⟨n, hn⟩ : ∃ n, l.length = n := ⟨_, rfl⟩
      rw [hn] at HL h1
      have hin : (n : Int) ≤ i := by omega
      clear hn h1 h hl
      go_enter Try.func68, Try.ntmps68
      go_wp2_with (go_at_call 86; (with_reducible refine HL.out.mono ?_); rintro e w1 ⟨rfl, rfl⟩)
      go_ret
      exact ⟨rfl, rfl⟩
  · rw [gt_neg l (by omega)]
    have hin : i < 0 := by omega
    clear h0 h hl
    go_enter Try.func68, Try.ntmps68
    go_wp2
    go_ret
    exact ⟨rfl, rfl⟩
theorem get_nil (i : Int) (w : World) :
    Calls Try.prog 68 #[.pointer none, .int .i64 i] w fun e w' => e = .returned (.bool false) ∧ w = w' := by
  have HL := Lib.hid (len_nil w)
  by_cases h0 : i < 0
  · go_enter Try.func68, Try.ntmps68
    go_wp2
    go_ret
    exact ⟨rfl, rfl⟩
  · have h1 : 0 ≤ i := by omega
    clear h0
    go_enter Try.func68, Try.ntmps68
    go_wp2_with (go_at_call 86; (with_reducible refine HL.out.mono ?_); rintro e w1 ⟨rfl, rfl⟩)
    go_ret
    exact ⟨rfl, rfl⟩

/-! ### the reference -/
theorem rget_any (l : List Bool) (a : Option Addr) (cap : Nat) (w : World) (hR : Reads w (.slice a l.length cap) (bls l)) (i : Int) :
    Calls Try.prog 80 #[.slice a l.length cap, .int .i64 i] w fun e w' => e = .returned (.bool (gt l i)) ∧ w = w' := by
  have hlen := hR.len.2
  unfold maxLen at hlen
  by_cases h0 : 0 ≤ i
  · by_cases h1 : i < (l.length : Int)
    · obtain ⟨k, rfl⟩ := Int.eq_ofNat_of_zero_le h0
      rw [gt_nat]
      obtain ⟨b, off, rfl, hblt, hc⟩ := Reads.cell hR (bls_get (l := l) (i := k) (by omega))
      cases hb : bt l k <;> rw [hb] at hc
      all_goals
        clear hb hR
        go_enter Try.func80, Try.ntmps80
        go_wp2
        go_ret
        exact ⟨rfl, rfl⟩
    · rw [gt_ge l (by omega)]
      clear hR
      have hin : (l.length : Int) ≤ i := by omega
      clear h1
      go_enter Try.func80, Try.ntmps80
      go_wp2
      go_ret
      exact ⟨rfl, rfl⟩
  · rw [gt_neg l (by omega)]
    have hin : i < 0 := by omega
    clear h0 hR
    go_enter Try.func80, Try.ntmps80
    go_wp2
    go_ret
    exact ⟨rfl, rfl⟩
end Go.Proofs.Ytffljcfpofhkgaa.Bv
