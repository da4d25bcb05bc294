/-
  Contracts of truesUpTo, Rank, and of the reference's Rank, Select, Same.
-/
import Derived.Test.YtffljcfpofhkgaaBvE
import Derived.Deep.QuietTactic
import Derived.BigQuiet
set_option linter.unusedVariables false
set_option linter.unusedSimpArgs false
set_option maxRecDepth 100000
namespace Go.Proofs.Ytffljcfpofhkgaa.Bv
open Go Go.RowKit Go.Proofs.Ytffljcfpofhkgaa.Kit

theorem shl_nat (t : TypeId) (W r S : Nat) (hr : r < 64) (h : W * 2 ^ r % 18446744073709551616 = S) : binOp .shl t (.int .u64 (W : Int)) (.int .i64 (r : Int)) = pure (.int .u64 (S : Int)) := by
  have h1 := shift_shl .u64 .i64 (W : Int) (r : Int) (by omega) (by simp [IntKind.bits]; omega)
  rw [Int.toNat_natCast, show ((W : Int) * 2 ^ r) = ((W * 2 ^ r : Nat) : Int) by simp, IntKind.wrap_u64] at h1
  rw [show (((W * 2 ^ r : Nat) : Int) % 18446744073709551616) = ((W * 2 ^ r % 18446744073709551616 : Nat) : Int) by simp, h] at h1
  exact h1
theorem cnt_at (l : List Bool) (j : Nat) : cnt l (j / 8) = tr l (64 * (8 * (j / 8))) := by unfold cnt; congr 1; omega

set_option maxHeartbeats 1000000 in
theorem true_any {B0 B1 : Nat} {l : List Bool} {p : Nat} {w : World} (h : VecAt B0 B1 w p l) (hl : l.length ≤ 1048576) (i : Nat) (hi : i < l.length) :
    Calls Try.prog 91 #[.pointer (some ⟨p, 0, none⟩), .int .i64 (i : Int)] w fun e w' => e = .returned (.int .i64 (tr l (i + 1) : Nat)) ∧ w = w' := by
  obtain ⟨a1, c1, a2, c2, hp, x0, x1, x2, hR, hR2, _, _⟩ := h.use
  have hlen := hR.len.2
  have hlen2 := hR2.len.2
  unfold maxLen at hlen hlen2
  have hq : i / 64 < nw l.length := by unfold nw; omega
  have hnw : nw l.length ≤ 16384 := by unfold nw; omega
  have hqb : i / 512 < nc l.length := by unfold nc; omega
  have hnc : nc l.length ≤ 2048 := by unfold nc; omega
  obtain ⟨b2, off2, rfl, hblt2, hc2⟩ := Reads.cell hR2 (u64s_get (cts_get l hqb))
  have hx := fun j (hj : j < nw l.length) => Reads.cell hR (u64s_get (wds_get l hj))
  obtain ⟨b, off, rfl, hblt, hc⟩ := hx _ hq
  have HC : Hid (∀ j : Nat, j < nw l.length → w.cell? ⟨b, off + j, none⟩ = some (.int .u64 (wat l j : Nat))) := Lib.hid (fun j hj => by
    obtain ⟨b', off', e, _, h⟩ := hx j hj
    cases e
    exact h)
  have HP := Lib.hid (tr_part l i)
  have HW := Lib.hid (fun j => tr_word l j)
  have hcn := cnt_at l (i / 64)
  rw [show i / 64 / 8 = i / 512 by omega] at hcn
  rw [hcn] at hc2
  have HWL := Lib.hid (fun j => wat_lt l j)
  clear hcn hx hR hR2 x0 h
  obtain ⟨n, hn⟩ : ∃ n, l.length = n := ⟨_, rfl⟩
  rw [hn] at x1 x2 hi hl hq hqb hlen hlen2 hnw hnc HC
  obtain ⟨N, hN⟩ : ∃ N, nw n = N := ⟨_, rfl⟩
  obtain ⟨M, hM⟩ : ∃ M, nc n = M := ⟨_, rfl⟩
  rw [hN] at x1 hq hlen hnw HC
  rw [hM] at x2 hqb hlen2 hnc
  obtain ⟨q, hqq⟩ : ∃ q, i / 64 = q := ⟨_, rfl⟩
  obtain ⟨r, hrr⟩ : ∃ r, i % 64 = r := ⟨_, rfl⟩
  obtain ⟨s, hss⟩ : ∃ s, i / 512 = s := ⟨_, rfl⟩
  rw [hqq] at hc hq HP
  rw [hrr] at HP
  rw [hss] at hc2 hqb
  have hquo := quo_nat 3 i 64 q (by omega) (by decide) hqq
  have hquo2 := quo_nat 3 i 512 s (by omega) (by decide) hss
  have hrem := rem_nat 3 i 64 r (by decide) hrr
  have hr : r < 64 := by omega
  have hsq : 8 * s ≤ q := by omega
  obtain ⟨t, htt⟩ : ∃ t, 8 * s = t := ⟨_, rfl⟩
  have hst : (s : Int) * 8 = (t : Int) := by omega
  have HST := Lib.hid hst
  rw [htt] at hc2 hsq
  have HO := Lib.hid (fun j W => ones_any (wat l j) (wat_lt l j) W)
  clear hqq hrr hss hn hN hM htt hi hl
  simp only [Int.cast_ofNat_Int] at hquo hquo2 hrem
  have hpl := fun j => pop_le 64 (wat l j)
  have HPL := Lib.hid hpl
  have htl := tr_le l
  have HTL := Lib.hid htl
  clear hpl htl
  have h0 := HTL.out (64 * t)
  obtain ⟨T, hT⟩ : ∃ T, tr l (64 * t) = T := ⟨_, rfl⟩
  have HT := Lib.hid hT
  rw [hT] at hc2 h0
  clear hT
  have hTz : (T : Int) < 9223372036854775808 := by omega
  have hqN : (q : Int) < (N : Int) := by omega
  have hsM : (s : Int) < (M : Int) := by omega
  have htq : (t : Int) ≤ (q : Int) := by omega
  go_enter Try.func91, Try.ntmps91
  go_wp2
  go_loopw [7, 31] (fun x i wr => ∃ k : Nat, k ≤ q - t ∧ i = .int .i64 k ∧ x = .int .i64 (tr l (64 * (t + k)) : Nat) ∧ wr = w) (fun _ i _ => (q - t) - (intOf i).toNat)
  case atStart => exact ⟨0, Nat.zero_le _, rfl, by rw [Nat.add_zero, HT.out], rfl⟩
  case round =>
    obtain ⟨k, hk, rfl, rfl, rfl⟩ := hrel
    by_cases hlt : k < q - t
    · have hck := HC.out (t + k) (by omega)
      rw [← Nat.add_assoc] at hck
      have HOk := Lib.hid (HO.out (t + k))
      have hT1 := HW.out (t + k)
      have ht1 := HTL.out (64 * (t + k))
      have hp1 := HPL.out (t + k)
      obtain ⟨W, hW⟩ : ∃ W, wat l (t + k) = W := ⟨_, rfl⟩
      rw [hW] at HOk hT1 hck hp1
      obtain ⟨P, hP⟩ : ∃ P, pop 64 W = P := ⟨_, rfl⟩
      rw [hP] at HOk hT1 hp1
      obtain ⟨Z, hZ⟩ : ∃ Z, tr l (64 * (t + k)) = Z := ⟨_, rfl⟩
      rw [hZ] at hT1 ht1 ⊢
      have HT1 := Lib.hid hT1
      clear hT1 hW hP hZ
      have hkz : (k : Int) < ((q - t : Nat) : Int) := by omega
      go_wp2_with (go_at_call 100; (with_reducible refine (HOk.out _).mono ?_); rintro e w1 ⟨rfl, rfl⟩)
      go_roundw
      case rel => exact ⟨k + 1, by omega, by go_num, by rw [← Nat.add_assoc, HT1.out]; go_num, trivial⟩
      case measure => simp [intOf]; omega
    · have e1 : t + k = q := by omega
      rw [e1]
      have hkz : ((q - t : Nat) : Int) ≤ (k : Int) := by omega
      have hwl := HWL.out q
      have ht1 := HTL.out (64 * q)
      obtain ⟨W, hW⟩ : ∃ W, wat l q = W := ⟨_, rfl⟩
      have HPP := Lib.hid HP.out
      rw [hW] at hc hwl HPP
      obtain ⟨S, hS⟩ : ∃ S, W * 2 ^ (63 - r) % 18446744073709551616 = S := ⟨_, rfl⟩
      have hSl : S < 18446744073709551616 := by rw [← hS]; exact Nat.mod_lt _ (by decide)
      obtain ⟨m, hm⟩ : ∃ m, 63 - r = m := ⟨_, rfl⟩
      rw [hm] at hS HPP
      have hmz : (63 : Int) - (r : Int) = (m : Int) := by omega
      have hshl := shl_nat 69 W m S (by omega) hS
      rw [hS] at HPP
      have HOS := Lib.hid (ones_any S hSl)
      have hp1 := pop_le 64 S
      obtain ⟨P, hP⟩ : ∃ P, pop 64 S = P := ⟨_, rfl⟩
      rw [hP] at HOS HPP hp1
      obtain ⟨Z, hZ⟩ : ∃ Z, tr l (64 * q) = Z := ⟨_, rfl⟩
      rw [hZ] at HPP ht1 ⊢
      have hrz : (r : Int) < 64 := by omega
      clear hW hS hSl hm hP hZ e1 hwl HC HW HO HT hlt hk hTz
      go_wp2_with (go_at_call 100; (with_reducible refine (HOS.out _).mono ?_); rintro e w1 ⟨rfl, rfl⟩)
      go_ret
      exact ⟨ret_int (by rw [HPP.out]; simp), rfl⟩
/-- How many of the first i bits are b, whatever the number i. -/
theorem rank_ge (l : List Bool) (b : Bool) {i : Int} (h : (l.length : Int) ≤ i) : rank l b i = rk l b l.length := by
  unfold rank; rw [show (min i (l.length : Int)).toNat = l.length by omega]
theorem rank_nat (l : List Bool) (b : Bool) {i : Nat} (h : i ≤ l.length) : rank l b (i : Int) = rk l b i := by
  unfold rank; rw [show (min (i : Int) (l.length : Int)).toNat = i by omega]
theorem rank_le0 (l : List Bool) (b : Bool) {i : Int} (h : i ≤ 0) : rank l b i = 0 := by
  unfold rank; rw [show (min i (l.length : Int)).toNat = 0 by omega]; rfl

set_option maxHeartbeats 1000000 in
theorem rank_in {B0 B1 : Nat} {l : List Bool} {p : Nat} {w : World} (h : VecAt B0 B1 w p l) (hl : l.length ≤ 1048576) (b : Bool) (i : Int) (j : Nat) (hj : (min i (l.length : Int)) = (j : Int)) (hj0 : 0 < j) :
    Calls Try.prog 69 #[.pointer (some ⟨p, 0, none⟩), .bool b, .int .i64 i] w fun e w' => e = .returned (.int .i64 (rk l b j : Nat)) ∧ w = w' := by
  have HL := Lib.hid (len_any h)
  have hT := true_any h hl (j - 1) (by omega)
  rw [show j - 1 + 1 = j by omega] at hT
  have hjz : (((j - 1 : Nat) : Int)) = (j : Int) - 1 := by omega
  rw [hjz] at hT
  have HT := Lib.hid hT
  have hJ := Lib.hid hj
  have htl := tr_le l j
  have hjl : j ≤ 1048576 := by omega
  have hR : rk l b j = if b then tr l j else j - tr l j := by cases b; exact rk_false l j; exact rk_true l j
  have HR := Lib.hid hR
  obtain ⟨n, hn⟩ : ∃ n, l.length = n := ⟨_, rfl⟩
  rw [hn] at HL hj hl hJ
  obtain ⟨T, hTT⟩ : ∃ T, tr l j = T := ⟨_, rfl⟩
  rw [hTT] at HT htl HR
  clear hT hjz hn hTT h hR
  have hmin : (if i < (n : Int) then i else (n : Int)) = (j : Int) := by omega
  cases b with
  | true =>
    by_cases hin : i ≤ (n : Int)
    · obtain rfl : i = (j : Int) := by omega
      clear hmin hj hJ
      go_enter Try.func69, Try.ntmps69
      go_wp2_with (first
        | (go_at_call 86; (with_reducible refine HL.out.mono ?_); rintro e w1 ⟨rfl, rfl⟩)
        | (go_at_call 91; (with_reducible refine HT.out.mono ?_); rintro e w1 ⟨rfl, rfl⟩))
      go_ret
      exact ⟨ret_int (by rw [HR.out]; simp), rfl⟩
    · obtain rfl : n = j := by omega
      have hin2 : (n : Int) < i := by omega
      clear hmin hj hJ hin
      go_enter Try.func69, Try.ntmps69
      go_wp2_with (first
        | (go_at_call 86; (with_reducible refine HL.out.mono ?_); rintro e w1 ⟨rfl, rfl⟩)
        | (go_at_call 91; (with_reducible refine HT.out.mono ?_); rintro e w1 ⟨rfl, rfl⟩))
      go_ret
      exact ⟨ret_int (by rw [HR.out]; simp), rfl⟩
  | false =>
    by_cases hin : i ≤ (n : Int)
    · obtain rfl : i = (j : Int) := by omega
      clear hmin hj hJ
      go_enter Try.func69, Try.ntmps69
      go_wp2_with (first
        | (go_at_call 86; (with_reducible refine HL.out.mono ?_); rintro e w1 ⟨rfl, rfl⟩)
        | (go_at_call 91; (with_reducible refine HT.out.mono ?_); rintro e w1 ⟨rfl, rfl⟩))
      go_ret
      exact ⟨ret_int (by rw [HR.out]; simp; omega), rfl⟩
    · obtain rfl : n = j := by omega
      have hin2 : (n : Int) < i := by omega
      clear hmin hj hJ hin
      go_enter Try.func69, Try.ntmps69
      go_wp2_with (first
        | (go_at_call 86; (with_reducible refine HL.out.mono ?_); rintro e w1 ⟨rfl, rfl⟩)
        | (go_at_call 91; (with_reducible refine HT.out.mono ?_); rintro e w1 ⟨rfl, rfl⟩))
      go_ret
      exact ⟨ret_int (by rw [HR.out]; simp; omega), rfl⟩
theorem rank_any {B0 B1 : Nat} {l : List Bool} {p : Nat} {w : World} (h : VecAt B0 B1 w p l) (hl : l.length ≤ 1048576) (b : Bool) (i : Int) :
    Calls Try.prog 69 #[.pointer (some ⟨p, 0, none⟩), .bool b, .int .i64 i] w fun e w' => e = .returned (.int .i64 (rank l b i : Nat)) ∧ w = w' := by
  by_cases h0 : 0 < min i (l.length : Int)
  · exact rank_in h hl b i (min i (l.length : Int)).toNat (by omega) (by omega)
  · have HL := Lib.hid (len_any h)
    have e1 : rank l b i = 0 := by unfold rank; rw [show (min i (l.length : Int)).toNat = 0 by omega]; rfl
    rw [e1]
    obtain ⟨n, hn⟩ : ∃ n, l.length = n := ⟨_, rfl⟩
    rw [hn] at HL h0
    clear e1 hn h hl
    by_cases hin : i ≤ (n : Int)
    · have hi0 : i ≤ 0 := by omega
      clear h0
      go_enter Try.func69, Try.ntmps69
      go_wp2_with (go_at_call 86; (with_reducible refine HL.out.mono ?_); rintro e w1 ⟨rfl, rfl⟩)
      go_ret
      exact ⟨rfl, rfl⟩
    · have hi0 : (n : Int) < i := by omega
      have hn0 : (n : Int) ≤ 0 := by omega
      clear h0 hin
      go_enter Try.func69, Try.ntmps69
      go_wp2_with (go_at_call 86; (with_reducible refine HL.out.mono ?_); rintro e w1 ⟨rfl, rfl⟩)
      go_ret
      exact ⟨rfl, rfl⟩
theorem rank_nil (b : Bool) (i : Int) (w : World) :
    Calls Try.prog 69 #[.pointer none, .bool b, .int .i64 i] w fun e w' => e = .returned (.int .i64 0) ∧ w = w' := by
  have HL := Lib.hid (len_nil w)
  by_cases hin : i ≤ 0
  · go_enter Try.func69, Try.ntmps69
    go_wp2_with (go_at_call 86; (with_reducible refine HL.out.mono ?_); rintro e w1 ⟨rfl, rfl⟩)
    go_ret
    exact ⟨rfl, rfl⟩
  · have hi0 : 0 < i := by omega
    clear hin
    go_enter Try.func69, Try.ntmps69
    go_wp2_with (go_at_call 86; (with_reducible refine HL.out.mono ?_); rintro e w1 ⟨rfl, rfl⟩)
    go_ret
    exact ⟨rfl, rfl⟩

/-! ### the reference -/
theorem rk_succ (l : List Bool) (b : Bool) (k : Nat) : rk l b (k + 1) = rk l b k + if bt l k = b then 1 else 0 := rfl
theorem selA_step (l : List Bool) (b : Bool) (k : Int) {i : Nat} (h : i < l.length) : selA l b k (l.length - i) i = if bt l i = b ∧ (rk l b i : Int) = k then (i : Int) else selA l b k (l.length - (i + 1)) (i + 1) := by
  rw [show l.length - i = (l.length - (i + 1)) + 1 by omega]; rfl
theorem selA_out (l : List Bool) (b : Bool) (k : Int) {i : Nat} (h : l.length ≤ i) : selA l b k (l.length - i) i = -1 := by
  rw [show l.length - i = 0 by omega]; rfl

end Go.Proofs.Ytffljcfpofhkgaa.Bv
