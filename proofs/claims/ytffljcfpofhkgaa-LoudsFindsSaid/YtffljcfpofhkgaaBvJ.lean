/-
  Contract of the reference's Encode.
-/
import Derived.Test.YtffljcfpofhkgaaBvI
set_option linter.unusedVariables false
set_option linter.unusedSimpArgs false
set_option maxRecDepth 100000
namespace Go.Proofs.Ytffljcfpofhkgaa.Bv
open Go Go.RowKit Go.Proofs.Ytffljcfpofhkgaa.Kit

theorem rnum_4 (acc : List UInt8) (v : Value) (x : Nat) (hx : x < 18446744073709551616) (base : Nat) (w : World) (hown : w.ownsRow base 5 1 v acc.length (u8s acc)) (hbase : base ≤ w.heap.size) (hacc : acc.length ≤ 1099511627776) :
    Calls Try.prog 79 #[v, .int .u64 (x : Int), .int .i64 4] w (AppPost base (acc ++ le 4 x) w) := by
  refine (rnum_any acc v x hx 4 (by decide) base w hown hbase hacc).mono ?_
  rintro e w' ⟨v', rfl, h1, h2⟩
  obtain ⟨a', c', rfl⟩ := own_is h1
  exact ⟨a', c', rfl, h1, h2⟩
theorem rnum_8 (acc : List UInt8) (v : Value) (x : Nat) (hx : x < 18446744073709551616) (base : Nat) (w : World) (hown : w.ownsRow base 5 1 v acc.length (u8s acc)) (hbase : base ≤ w.heap.size) (hacc : acc.length ≤ 1099511627776) :
    Calls Try.prog 79 #[v, .int .u64 (x : Int), .int .i64 8] w (AppPost base (acc ++ le 8 x) w) := by
  refine (rnum_any acc v x hx 8 (by decide) base w hown hbase hacc).mono ?_
  rintro e w' ⟨v', rfl, h1, h2⟩
  obtain ⟨a', c', rfl⟩ := own_is h1
  exact ⟨a', c', rfl, h1, h2⟩
/-- The code so far: j words; all words and c counts. -/
def codeW (l : List Bool) (j : Nat) : List UInt8 := le 4 l.length ++ les 8 ((wds l).take j)
def codeC (l : List Bool) (c : Nat) : List UInt8 := le 4 l.length ++ les 8 (wds l) ++ les 4 (cntL l c)
theorem codeW_len (l : List Bool) (j : Nat) : (codeW l j).length ≤ 4 + 8 * nw l.length := by
  unfold codeW; rw [List.length_append, le_len, les_len, List.length_take, wds_len]; omega
theorem codeC_len (l : List Bool) (c : Nat) : (codeC l c).length = 4 + 8 * nw l.length + 4 * c := by
  unfold codeC; rw [List.length_append, List.length_append, le_len, les_len, les_len, wds_len, cntL_len]
theorem codeW_succ (l : List Bool) {j : Nat} (h : j < nw l.length) : codeW l (j + 1) = codeW l j ++ le 8 (wat l j) := by
  unfold codeW; rw [les_take 8 (wds l) (wds_get l h), List.append_assoc]
theorem codeW_all (l : List Bool) : codeW l (nw l.length) = codeC l 0 := by
  unfold codeW codeC
  rw [show cntL l 0 = [] from rfl, show les 4 [] = [] from rfl, List.append_nil, ← wds_len, List.take_length]
theorem codeC_succ (l : List Bool) (c : Nat) : codeC l (c + 1) = codeC l c ++ le 4 (cnt l c) := by
  unfold codeC
  rw [cntL_succ, List.append_assoc (le 4 l.length ++ les 8 (wds l))]
  congr 1
  simp [les]
theorem codeC_all (l : List Bool) : codeC l (nc l.length) = code l := by
  unfold codeC code
  rw [List.append_assoc]; rfl
theorem wf_step (l : List Bool) (s m : Nat) (h0 : 0 < m) (h : m ≤ 64) : wf l (s + (m - 1)) (64 - (m - 1)) = (bt l (s + (m - 1))).toNat + 2 * wf l (s + m) (64 - m) := by
  rw [show 64 - (m - 1) = (64 - m) + 1 by omega]
  simp only [wf]
  rw [show s + (m - 1) + 1 = s + m by omega]
theorem wf_bound (l : List Bool) (s m : Nat) (h0 : 0 < m) (h : m ≤ 64) : wf l s (64 - m) < 9223372036854775808 := by
  have h1 := wf_lt l (64 - m) s
  have h2 : 2 ^ (64 - m) ≤ 2 ^ 63 := Nat.pow_le_pow_right (by decide) (by omega)
  omega
theorem wrap_2 {x : Nat} (h : x < 9223372036854775808) : IntKind.u64.wrap (2 * (x : Int)) = ((2 * x : Nat) : Int) := by
  rw [IntKind.wrap_u64]; omega
theorem wrap_21 {x : Nat} (h : x < 9223372036854775808) : Value.int .u64 (IntKind.u64.wrap (2 * (x : Int) + 1)) = Value.int .u64 ((true.toNat + 2 * x : Nat) : Int) := by
  rw [IntKind.wrap_u64, show true.toNat = 1 from rfl]; congr 1; omega

set_option maxHeartbeats 4000000 in
theorem rencode_any (l : List Bool) (a : Option Addr) (cap : Nat) (w : World) (hR : Reads w (.slice a l.length cap) (bls l)) (hl : l.length ≤ 1048576) :
    Calls Try.prog 55 #[.slice a l.length cap] w (EncPost (code l) w) := by
  have hlen := hR.len.2
  unfold maxLen at hlen
  have HR := Lib.hid hR
  have HG := Lib.hid (fun W (hW : Below w.heap.size w W) (i : Int) => rget_any l a cap W (hR.later hW) i)
  have hnw : nw l.length ≤ 16384 := by unfold nw; omega
  have hwr : IntKind.u64.wrap ((l.length : Nat) : Int) = ((l.length : Nat) : Int) := wrap_u64_nat _ (by omega)
  have HWL := Lib.hid (codeW_len l)
  have HWS := Lib.hid (fun j h => @codeW_succ l j h)
  have HWA := Lib.hid (codeW_all l)
  have HCL := Lib.hid (codeC_len l)
  have HCS := Lib.hid (codeC_succ l)
  have HCA := Lib.hid (codeC_all l)
  have HTL := Lib.hid (tr_le l)
  have HNW : Hid (∀ j, 64 * j < l.length ↔ j < nw l.length) := Lib.hid (fun j => by unfold nw; omega)
  have hnc : Hid (nc l.length = (l.length + 511) / 512) := Lib.hid rfl
  have H1 := Lib.hid (rnum_4 [] (.slice none 0 0) l.length (by omega) w.heap.size w (own_nil w _ _ _) (Nat.le_refl _) (by simp))
  have e0 : [] ++ le 4 l.length = codeW l 0 := by unfold codeW; simp [les]
  rw [e0] at H1
  clear e0 hR
  obtain ⟨n, hn⟩ : ∃ n, l.length = n := ⟨_, rfl⟩
  have HN := Lib.hid hn
  rw [hn] at hlen HR HG hnw hwr HWL HWS HWA HCL H1 HNW hl HCA hnc ⊢
  obtain ⟨N, hN⟩ : ∃ N, nw n = N := ⟨_, rfl⟩
  have HNN := Lib.hid hN
  rw [hN] at hnw HWL HWS HWA HCL HNW
  clear hn hN
  go_enter Try.func55, Try.ntmps55
  go_wp2_with (go_at_call 79; (with_reducible refine H1.out.mono ?_); rintro e W1 ⟨a1, c1, rfl, hown1, hb1⟩)
  go_loopw [3, 4] (fun x i wr => ∃ j : Nat, j ≤ N ∧ i = .int .i64 ((64 * j : Nat) : Int) ∧ wr.ownsRow w.heap.size 5 1 x (codeW l j).length (u8s (codeW l j)) ∧ Below w.heap.size w wr) (fun _ i _ => 64 * N + 64 - (intOf i).toNat)
  case atStart => exact ⟨0, Nat.zero_le _, rfl, hown1, hb1⟩
  case round =>
    clear hown1 hb1
    obtain ⟨j, hj, rfl, hown, hb⟩ := hrel
    have hjn := HNW.out j
    by_cases hlt : j < N
    · have hjz : (((64 * j : Nat) : Int)) < (n : Int) := by omega
      obtain ⟨s, hs⟩ : ∃ s, 64 * j = s := ⟨_, rfl⟩
      have HS := Lib.hid hs
      have hsn : s ≤ 1048576 := by omega
      rw [hs] at hjz ⊢
      have hown2 := Lib.hid hown
      clear hjn hs hown
      go_wp2
      go_loopw [5, 6] (fun y z W => ∃ m : Nat, m ≤ 64 ∧ z = .int .i64 ((m : Int) - 1) ∧ y = .int .u64 (wf l (s + m) (64 - m) : Nat) ∧ W = wr) (fun _ z _ => (intOf z + 1).toNat)
      case atStart => exact ⟨64, Nat.le_refl _, rfl, rfl, rfl⟩
      case round =>
        obtain ⟨m, hm, rfl, rfl, rfl⟩ := hrel
        by_cases hm0 : 0 < m
        · have hwb := wf_bound l (s + m) m hm0 hm
          have hws := wf_step l s m hm0 hm
          have hgm := HG.out _ hb ((s : Int) + ((m : Int) - 1))
          rw [show (s : Int) + ((m : Int) - 1) = ((s + (m - 1) : Nat) : Int) by omega, gt_nat] at hgm
          rw [show ((s + (m - 1) : Nat) : Int) = (s : Int) + ((m : Int) - 1) by omega] at hgm
          obtain ⟨x, hx⟩ : ∃ x, wf l (s + m) (64 - m) = x := ⟨_, rfl⟩
          rw [hx] at hwb hws ⊢
          obtain ⟨y, hy⟩ : ∃ y, wf l (s + (m - 1)) (64 - (m - 1)) = y := ⟨_, rfl⟩
          rw [hy] at hws
          have HY := Lib.hid hy
          have hmz : (0 : Int) ≤ (m : Int) - 1 := by omega
          have hw2 := wrap_2 hwb
          have hw21 := wrap_21 hwb
          have HW21 := Lib.hid hw21
          clear hx hy hw21
          cases hbt : bt l (s + (m - 1)) <;> rw [hbt] at hgm hws
          · have HGM := Lib.hid hgm
            have HWS2 := Lib.hid hws
            clear hgm hws hbt hwb
            go_wp2_with (go_at_call 80; (with_reducible refine HGM.out.mono ?_); rintro e W2 ⟨rfl, rfl⟩)
            go_roundw
            case rel => exact ⟨m - 1, by omega, by rw [show ((m - 1 : Nat) : Int) = (m : Int) - 1 by omega], by rw [HY.out, HWS2.out]; simp, trivial⟩
            case measure => simp [intOf]; omega
          · have HGM := Lib.hid hgm
            have HWS2 := Lib.hid hws
            clear hgm hws hbt hwb
            go_wp2_with (go_at_call 80; (with_reducible refine HGM.out.mono ?_); rintro e W2 ⟨rfl, rfl⟩)
            go_roundw
            case rel => exact ⟨m - 1, by omega, by rw [show ((m - 1 : Nat) : Int) = (m : Int) - 1 by omega], by rw [HY.out, HWS2.out]; first | rfl | (simp; done) | exact HW21.out, trivial⟩
            case measure => simp [intOf]; omega
        · obtain rfl : m = 0 := by omega
          have hwat : wf l (s + 0) (64 - 0) = wat l j := by rw [← HS.out]; rfl
          have hwl := wat_lt l j
          have hcl := HWL.out j
          have H2 := Lib.hid (rnum_8 (codeW l j) _ (wat l j) hwl w.heap.size _ hown2.out (hb.size) (by omega))
          rw [← HWS.out j hlt] at H2
          rw [hwat]
          have hmz : ¬ (0 : Int) ≤ ((0 : Nat) : Int) - 1 := by omega
          clear hwat hwl hcl hm0
          go_wp2_with (go_at_call 79; (with_reducible refine H2.out.mono ?_); rintro e W2 ⟨a2, c2, rfl, hown3, hb3⟩)
          have hb4 := hb.trans hb3
          clear hb3
          go_roundw
          case rel => exact ⟨j + 1, by omega, by have := HS.out; simp; omega, hown3, hb4⟩
          case measure => have := HS.out; simp [intOf]; omega
    · obtain rfl : j = N := by omega
      rw [HWA.out] at hown
      have hjz : (n : Int) ≤ (((64 * j : Nat) : Int)) := by omega
      obtain ⟨s, hs⟩ : ∃ s, 64 * j = s := ⟨_, rfl⟩
      rw [hs] at hjz ⊢
      have hdd : decide (s < n) = false := decide_eq_false (by omega)
      clear hjn hs
      go_wp2
      go_loopw [3, 7, 8] (fun x t i W => ∃ k : Nat, k ≤ n ∧ i = .int .i64 (k : Int) ∧ t = .int .i64 (tr l k : Nat) ∧ W.ownsRow w.heap.size 5 1 x (codeC l ((k + 511) / 512)).length (u8s (codeC l ((k + 511) / 512))) ∧ Below w.heap.size w W) (fun _ _ i _ => n - (intOf i).toNat)
      case atStart => exact ⟨0, Nat.zero_le _, rfl, rfl, hown, hb⟩
      case round =>
        clear hown hb
        obtain ⟨k, hk, rfl, rfl, hown, hb⟩ := hrel
        by_cases hkn : k < n
        · obtain ⟨bb, off, rfl, hblt, hc0⟩ := Reads.cell HR.out (bls_get (l := l) (i := k) (by rw [HN.out]; exact hkn))
          have HCELL : ∀ W : World, Below w.heap.size w W → Hid (W.cell? ⟨bb, off + k, none⟩ = some (.bool (bt l k))) := fun W hW => Lib.hid (by rw [hW.cell (p := ⟨bb, off + k, none⟩) hblt]; exact hc0)
          have HTS : Hid (tr l (k + 1) = tr l k + (bt l k).toNat) := Lib.hid rfl
          have ht := HTL.out k
          have HCK : Hid (k % 512 = 0 → cnt l (k / 512) = tr l k) := Lib.hid (fun h => by unfold cnt; congr 1; omega)
          obtain ⟨T, hT⟩ : ∃ T, tr l k = T := ⟨_, rfl⟩
          rw [hT] at HTS ht HCK ⊢
          clear hc0 hT
          by_cases h5 : k % 512 = 0
          · have hkz : ((k : Int) % 512 == 0) = true := by rw [beq_iff_eq]; omega
            have e1 : (k + 511) / 512 = k / 512 := by omega
            rw [e1] at hown
            have hcc := HCL.out (k / 512)
            have hT2 : T < 18446744073709551616 := by omega
            have hwT : IntKind.u64.wrap (T : Int) = (T : Int) := wrap_u64_nat _ hT2
            have H2 := Lib.hid (rnum_4 (codeC l (k / 512)) _ T hT2 w.heap.size _ hown hb.size (by omega))
            rw [← HCK.out h5, ← HCS.out, HCK.out h5] at H2
            have e2 : Hid ((k + 1 + 511) / 512 = k / 512 + 1) := Lib.hid (by omega)
            clear e1 hown hcc hT2 h5
            cases hbt : bt l k <;> rw [hbt] at HCELL HTS
            all_goals
              clear hbt
              go_wp2_with (go_at_call 79; (with_reducible refine H2.out.mono ?_); rintro e W2 ⟨a2, c2, rfl, hown3, hb3⟩; have hb4 := hb.trans hb3; have hcell := (HCELL _ hb4).out; clear hb3)
              go_roundw
              case rel => exact ⟨k + 1, by omega, by go_num, by rw [HTS.out]; simp, by rw [e2.out]; exact hown3, hb4⟩
              case measure => simp [intOf]; omega
          · have hkz : ((k : Int) % 512 == 0) = false := by rw [beq_eq_false_iff_ne]; omega
            have e2 : Hid ((k + 1 + 511) / 512 = (k + 511) / 512) := Lib.hid (by omega)
            have hcell := (HCELL _ hb).out
            clear HCELL h5
            cases hbt : bt l k <;> rw [hbt] at hcell HTS
            all_goals
              clear hbt
              go_wp2
              go_roundw
              case rel => exact ⟨k + 1, by omega, by go_num, by rw [HTS.out]; simp, by rw [e2.out]; exact hown, hb⟩
              case measure => simp [intOf]; omega
        · obtain rfl : k = n := by omega
          rw [← hnc.out, HCA.out] at hown
          obtain ⟨a5, c5, h5⟩ := own_is hown
          subst h5
          go_wp2
          go_ret
          exact ⟨a5, c5, rfl, hown, hb⟩
end Go.Proofs.Ytffljcfpofhkgaa.Bv
