/-
  Packed numbers: contract of New.
-/
import Derived.Test.YtffljcfpofhkgaaPkB
set_option linter.unusedVariables false
set_option linter.unusedSimpArgs false
set_option maxRecDepth 100000
namespace Go.Proofs.Ytffljcfpofhkgaa.Pk
open Go Go.RowKit Go.Proofs.Ytffljcfpofhkgaa.Kit Go.Proofs.Ytffljcfpofhkgaa.Bv

theorem blen_half (x : Nat) (h : x ≠ 0) : blen x = 1 + blen (x / 2) := by
  apply Nat.le_antisymm
  · rw [blen_le]
    have := lt_blen (x / 2)
    rw [show 1 + blen (x / 2) = blen (x / 2) + 1 by omega, Nat.pow_succ]
    omega
  · have h1 : 0 < blen x := by
      rcases Nat.eq_zero_or_pos (blen x) with h0 | h0
      · have := lt_blen x; rw [h0] at this; simp at this; omega
      · exact h0
    obtain ⟨m, hm⟩ : ∃ m, blen x = m + 1 := ⟨blen x - 1, by omega⟩
    have h2 := lt_blen x
    rw [hm, Nat.pow_succ] at h2
    have h3 : blen (x / 2) ≤ m := by rw [blen_le]; omega
    omega
theorem bitLen_is : ∀ f x, x < 2 ^ f → Lib.bitLenAux f x = blen x := by
  intro f
  induction f with
  | zero => intro x h; simp at h; subst h; rfl
  | succ f ih =>
    intro x h
    simp only [Lib.bitLenAux]
    by_cases h0 : x = 0
    · subst h0; rfl
    · rw [if_neg h0, ih _ (by rw [Nat.pow_succ] at h; omega), blen_half x h0]
theorem len64_any (x : Nat) (hx : x < 18446744073709551616) (w : World) :
    Calls Try.prog 99 #[.int .u64 (x : Int)] w fun e w' => e = .returned (.int .i64 (blen x : Nat)) ∧ w = w' := by
  refine (Try.bits_Len64 (x : Int) w (by omega) (by omega)).mono ?_
  rintro e w' ⟨rfl, rfl⟩
  rw [Int.toNat_natCast]
  refine ⟨?_, rfl⟩
  rw [show Lib.bitLen x = blen x from bitLen_is 64 x hx]

/-- What a number more does to the words. -/
theorem wds_step {S P x q r N : Nat} (h : S < 2 ^ P) (hq : P / 64 = q) (hr : P % 64 = r) (hx : x < 18446744073709551616) (hN : q + 1 < N) :
    ((wds S N).set q (wd S q ||| (x * 2 ^ r % 18446744073709551616))).set (q + 1) (wd S (q + 1) ||| (x / 2 ^ (64 - r))) = wds (S + 2 ^ P * x) N := by
  apply List.ext_getElem?
  intro j
  rw [List.getElem?_set, List.getElem?_set, List.length_set, wds_len]
  by_cases hj : j < N
  · rw [wds_get hj, wds_get hj]
    by_cases h1 : q + 1 = j
    · subst h1; rw [if_pos rfl, if_pos hN, wd_add_next h hq hr hx]
    · rw [if_neg h1]
      by_cases h2 : q = j
      · subst h2; rw [if_pos rfl, if_pos (by omega), wd_add_at h hq hr]
      · rw [if_neg h2, wd_add_else h hq hr hx (fun e => h2 e.symm) (fun e => h1 e.symm)]
  · rw [List.getElem?_eq_none (by rw [wds_len]; omega), List.getElem?_eq_none (by rw [wds_len]; omega), if_neg (by omega), if_neg (by omega)]

def NewP (l : List Nat) (w : World) (e : Ending) (w' : World) : Prop :=
  ∃ p, e = .returned (.tuple #[.pointer (some ⟨p, 0, none⟩), .int .i64 0]) ∧ IntsAt w.heap.size w'.heap.size w' p l.length (wid l) (dg (wid l) l) ∧ Below w.heap.size w w'

set_option maxHeartbeats 4000000 in
theorem pnew_ok (l : List Nat) (a : Option Addr) (cap : Nat) (w : World) (hl : l.length ≤ 1048576) (hx : ∀ x ∈ l, x < 18446744073709551616) (hR : Reads w (.slice a l.length cap) (u64s l)) :
    Calls Try.prog 90 #[.slice a l.length cap] w (NewP l w) := by
  have hmx := hR.len.2.2
  unfold maxLen at hmx
  have HR := Lib.hid hR
  have HX := Lib.hid hx
  have hW64 := wid_64 hx
  have hWlt : Hid (∀ x ∈ l, x < 2 ^ wid l) := Lib.hid (fun x h => wid_lt h)
  have HE := Lib.hid (fun W => empty_any l.length (wid l) W (by omega) (by omega))
  have hol : ors l < 18446744073709551616 := (ors_lt 64 l).2 hx
  have HLE := Lib.hid (fun W => len64_any (ors l) hol W)
  have HOL : Hid (∀ k, ors (l.take k) < 18446744073709551616) := Lib.hid (fun k => (ors_lt 64 _).2 (fun n hn => hx n (List.mem_of_mem_take hn)))
  have hlen : Hid (blen (ors l) = wid l) := Lib.hid rfl
  rw [hlen.out] at HLE
  obtain ⟨n, hn⟩ : ∃ n, l.length = n := ⟨_, rfl⟩
  have HN := Lib.hid hn
  rw [hn] at hl HR HE ⊢
  obtain ⟨V, hV⟩ : ∃ V, wid l = V := ⟨_, rfl⟩
  have HV := Lib.hid hV
  rw [hV] at hW64 hWlt HE HLE
  have HALL : Hid (ors (l.take n) = ors l) := Lib.hid (by rw [← hn, List.take_length])
  clear hR hx hn hV hlen hol
  have ho0 : ors (l.take 0) = 0 := rfl
  go_enter Try.func90, Try.ntmps90
  go_wp2
  go_loopw [4, 17] (fun x i wr => ∃ k : Nat, k ≤ n ∧ i = .int .i64 k ∧ x = .int .u64 (ors (l.take k) : Nat) ∧ w = wr) (fun _ i _ => n - (intOf i).toNat)
  case atStart => exact ⟨0, Nat.zero_le _, rfl, by rw [ho0]; rfl, rfl⟩
  case round =>
    obtain ⟨k, hk, rfl, rfl, hww⟩ := hrel
    subst hww
    by_cases hlt : k < n
    · obtain ⟨x, hxk⟩ : ∃ x, l[k]? = some x := ⟨_, List.getElem?_eq_getElem (by rw [HN.out]; exact hlt)⟩
      obtain ⟨b, off, rfl, hblt, hc0⟩ := Reads.cell HR.out (u64s_get hxk)
      have hxl := HX.out x (List.mem_of_getElem? hxk)
      have hor := or_nat 69 (ors (l.take k)) x (ors (l.take (k + 1))) (HOL.out k) hxl (ors_take hxk).symm
      clear hxk hxl ho0
      go_wp2
      go_roundw
      case rel => exact ⟨k + 1, by omega, by go_num, rfl, trivial⟩
      case measure => simp [intOf]; omega
    · obtain rfl : k = n := by omega
      rw [HALL.out]
      clear ho0
      go_wp2_with (first
        | (go_at_call 99; (with_reducible refine (HLE.out _).mono ?_); rintro e w1 ⟨rfl, rfl⟩)
        | (go_at_call 95; (with_reducible refine (HE.out _).mono ?_); rintro e w1 ⟨p, rfl, hI, hb⟩))
      have hsz1 := hb.size
      obtain ⟨B1, hB1⟩ : ∃ B1, w1.heap.size = B1 := ⟨_, rfl⟩
      rw [hB1] at hI hsz1
      have hBB : B1 ≤ w1.heap.size := by omega
      have HS0 : Hid (dg V (l.take 0) = 0) := Lib.hid rfl
      have HDA : Hid (dg V (l.take k) = dg V l) := Lib.hid (by rw [← HN.out, List.take_length])
      clear hB1 hlt hk
      go_loopw [32] (fun i W => ∃ j : Nat, j ≤ k ∧ i = .int .i64 j ∧ IntsAt w.heap.size B1 W p k V (dg V (l.take j)) ∧ Below w.heap.size w W ∧ B1 ≤ W.heap.size) (fun i _ => k - (intOf i).toNat)
      case atStart => exact ⟨0, Nat.zero_le _, rfl, by rw [HS0.out]; exact hI, hb, hBB⟩
      case round =>
        clear hI hb hBB
        obtain ⟨j, hj, rfl, hI, hb, hBB⟩ := hrel
        by_cases hjl : j < k
        · obtain ⟨x, hxk⟩ : ∃ x, l[j]? = some x := ⟨_, List.getElem?_eq_getElem (by rw [HN.out]; exact hjl)⟩
          obtain ⟨b, off, rfl, hblt, hc0⟩ := Reads.cell HR.out (u64s_get hxk)
          have hcell : wr.cell? ⟨b, off + j, none⟩ = some (.int .u64 (x : Int)) := by rw [hb.cell (p := ⟨b, off + j, none⟩) hblt]; exact hc0
          have hxl := HX.out x (List.mem_of_getElem? hxk)
          have hSl := dg_take_lt hWlt.out j (by rw [HN.out]; omega)
          have hSn := dg_take V hxk
          obtain ⟨S, hS⟩ : ∃ S, dg V (l.take j) = S := ⟨_, rfl⟩
          rw [hS] at hSl hSn hI
          obtain ⟨P, hP⟩ : ∃ P, j * V = P := ⟨_, rfl⟩
          rw [hP] at hSl hSn
          have hPk : P ≤ k * V := by rw [← hP]; exact Nat.mul_le_mul_right _ (by omega)
          have hkV : k * V ≤ 1048576 * 64 := Nat.mul_le_mul hl hW64
          have HPL := Lib.hid (place_pk hI j P hP (by omega))
          obtain ⟨q, hq⟩ : ∃ q, P / 64 = q := ⟨_, rfl⟩
          obtain ⟨r, hr⟩ : ∃ r, P % 64 = r := ⟨_, rfl⟩
          have hqN : q + 1 < nws k V := by unfold nws; omega
          have hstep := wds_step hSl hq hr hxl hqN
          rw [← hSn] at hstep
          rw [hq, hr] at HPL
          have HI := Lib.hid hI
          have HBB := Lib.hid hBB
          obtain ⟨N, hN⟩ : ∃ N, nws k V = N := ⟨_, rfl⟩
          have HNN := Lib.hid hN
          rw [hN] at hqN hstep
          have HST := Lib.hid hstep
          have hql : q ≤ 1048576 := by omega
          have hq1 : (q : Int) + 1 < (N : Int) := by omega
          have hq0 : (q : Int) < (N : Int) := by omega
          have hjk : (j : Int) < (k : Int) := by omega
          have hrl : r < 64 := by omega
          have hrz : (r : Int) < 64 := by omega
          obtain ⟨m, hm⟩ : ∃ m, 64 - r = m := ⟨_, rfl⟩
          have hmz : (64 : Int) - (r : Int) = (m : Int) := by omega
          rw [hm] at HST
          obtain ⟨X1, hX1⟩ : ∃ X, x * 2 ^ r % 18446744073709551616 = X := ⟨_, rfl⟩
          obtain ⟨X2, hX2⟩ : ∃ X, x / 2 ^ m = X := ⟨_, rfl⟩
          have hshl := shl_min 69 x r X1 (by rw [Nat.min_eq_left (by omega)]; exact hX1)
          have hshr := shr_min 69 x m X2 (by rw [Nat.min_eq_left (by omega)]; exact hX2)
          rw [hX1, hX2] at HST
          have hX1l : X1 < 18446744073709551616 := by rw [← hX1]; exact Nat.mod_lt _ (by decide)
          have hX2l : X2 < 18446744073709551616 := by rw [← hX2]; exact Nat.lt_of_le_of_lt (Nat.div_le_self _ _) hxl
          obtain ⟨A, hA⟩ : ∃ A, wd S q = A := ⟨_, rfl⟩
          obtain ⟨D, hD⟩ : ∃ D, wd S (q + 1) = D := ⟨_, rfl⟩
          have hAl : A < 18446744073709551616 := by rw [← hA]; exact wd_lt _ _
          have hDl : D < 18446744073709551616 := by rw [← hD]; exact wd_lt _ _
          have HA := Lib.hid hA
          have HD := Lib.hid hD
          rw [hA, hD] at HST
          obtain ⟨U1, hU1⟩ : ∃ U, A ||| X1 = U := ⟨_, rfl⟩
          obtain ⟨U2, hU2⟩ : ∃ U, D ||| X2 = U := ⟨_, rfl⟩
          rw [hU1, hU2] at HST
          have hor1 := or_nat 69 A X1 U1 hAl hX1l hU1
          have hor2 := or_nat 69 D X2 U2 hDl hX2l hU2
          have HB := Lib.hid hb
          clear hc0 hxk hxl hSl hSn hS hP hPk hkV hq hr hstep hN hm hX1 hX2 hX1l hX2l hA hD hAl hDl hU1 hU2 hI hBB hb
          go_wp2_with (go_at_call 73; (with_reducible refine HPL.out.mono ?_); rintro e w5 ⟨rfl, hb5⟩)
          have hI5 := HI.out.below hb5 HBB.out
          have hb5' := HB.out.trans (hb5.mono HB.out.size)
          obtain ⟨g, hg0, hgp, hp1, hpw, x0, x1, x2, hNm, hc, hf, hown⟩ := hI5.use
          have h4 : w5.heap[p]? = some (.cells #[.int .i64 (k : Int), .int .i64 (V : Int), .slice (some ⟨g, 0, none⟩) N N] 103 (0, 0)) := by
            obtain ⟨_, g', _, _, h4, _⟩ := hI5
            rw [HNN.out] at h4
            have h6 := x2
            rw [cell_of_row _ _ 2 _ _ _ h4, HNN.out] at h6
            simp at h6
            subst h6
            exact h4
          have HP4 : ∀ i u, (w5.setCell ⟨g, i, none⟩ u).heap[p]? = some (.cells #[.int .i64 (k : Int), .int .i64 (V : Int), .slice (some ⟨g, 0, none⟩) N N] 103 (0, 0)) := fun i u => by
            rw [Below.heap_setCell _ _ _ _ (fun e => by have e2 : p = g := e; omega)]; exact h4
          have HP5 : ∀ i u i' u', ((w5.setCell ⟨g, i, none⟩ u).setCell ⟨g, i', none⟩ u').heap[p]? = some (.cells #[.int .i64 (k : Int), .int .i64 (V : Int), .slice (some ⟨g, 0, none⟩) N N] 103 (0, 0)) := fun i u i' u' => by
            rw [Below.heap_setCell _ _ _ _ (fun e => by have e2 : p = g := e; omega)]; exact HP4 i u
          rw [HNN.out] at x2 hc hown hNm
          unfold maxLen at hNm
          have c1 := hc q (by omega)
          rw [HA.out] at c1
          have f1 := hf q
          have hset := own_set hown (by omega : q < N) (.int .u64 (U1 : Int))
          rw [← u64s_set] at hset
          obtain ⟨g', e1, _, _, hcs, hfs⟩ := own_cells hset (by omega)
          cases e1
          have c2 := hcs (q + 1) _ (u64s_get (by rw [List.getElem?_set, if_neg (by omega)]; exact wds_get (by omega)))
          rw [HD.out] at c2
          have f2 := hfs (q + 1)
          have hset2 := own_set hset hqN (.int .u64 (U2 : Int))
          rw [← u64s_set, HST.out] at hset2
          have x2' : (w5.setCell ⟨g, q, none⟩ (.int .u64 (U1 : Int))).cell? ⟨p, 2, none⟩ = some (.slice (some ⟨g, 0, none⟩) N N) := by rw [cell_of_row _ _ 2 _ _ _ (HP4 _ _)]; rfl
          have HF : Hid (IntsAt w.heap.size B1 ((w5.setCell ⟨g, q, none⟩ (.int .u64 (U1 : Int))).setCell ⟨g, q + 1, none⟩ (.int .u64 (U2 : Int))) p k V (dg V (l.take (j + 1)))) := Lib.hid ⟨hp1, g, hg0, hgp, by rw [HNN.out]; exact HP5 _ _ _ _, by rw [HNN.out]; exact hset2⟩
          have HG := Lib.hid ((hb5'.setCell (p := ⟨g, q, none⟩) hg0 (.int .u64 (U1 : Int))).setCell (p := ⟨g, q + 1, none⟩) hg0 (.int .u64 (U2 : Int)))
          have hs5 := hb5.size
          clear hset hset2 hc hf hcs hfs hown HP4 HP5 HST hb5 hb5' HB HPL
          go_wp2
          go_region
          all_goals go_wp2
          all_goals go_region
          all_goals go_wp2
          all_goals
            go_roundw
            case rel => exact ⟨j + 1, by omega, by go_num, HF.out, HG.out.drew.drew, by simp; have := HBB.out; omega⟩
            case measure => simp [intOf]; omega
        · obtain rfl : j = k := by omega
          rw [HDA.out] at hI
          have HP : Hid (NewP l w (.returned (.tuple #[.pointer (some ⟨p, 0, none⟩), .int .i64 0])) wr) := Lib.hid ⟨p, rfl, by rw [HN.out, HV.out]; exact hI.wide (Nat.le_refl _) hBB, hb⟩
          clear hI hb hBB
          go_wp2
          go_ret2
          exact HP.out
end Go.Proofs.Ytffljcfpofhkgaa.Pk
