/-
  The code of a vector; contracts of appendNumbers and of the reference's number.
-/
import Derived.Test.YtffljcfpofhkgaaBvG
set_option linter.unusedVariables false
set_option linter.unusedSimpArgs false
set_option maxRecDepth 100000
namespace Go.Proofs.Ytffljcfpofhkgaa.Bv
open Go Go.RowKit Go.Proofs.Ytffljcfpofhkgaa.Kit

/-- A number in k bytes, the lowest first. -/
def le : Nat → Nat → List UInt8
  | 0, _ => []
  | k + 1, n => UInt8.ofNat (n % 256) :: le k (n / 256)
theorem le_len (k : Nat) : ∀ n, (le k n).length = k := by
  induction k with
  | zero => intro n; rfl
  | succ k ih => intro n; simp [le, ih]
theorem le_succ (k : Nat) : ∀ n, le (k + 1) n = le k n ++ [UInt8.ofNat (n / 256 ^ k % 256)] := by
  induction k with
  | zero => intro n; simp [le]
  | succ k ih =>
    intro n
    rw [show le (k + 1 + 1) n = UInt8.ofNat (n % 256) :: le (k + 1) (n / 256) from rfl, ih, show le (k + 1) n = UInt8.ofNat (n % 256) :: le k (n / 256) from rfl, Nat.div_div_eq_div_mul, Nat.pow_succ, Nat.mul_comm]
    rfl
def les (k : Nat) (ns : List Nat) : List UInt8 := ns.flatMap (le k)
theorem les_len (k : Nat) (ns : List Nat) : (les k ns).length = k * ns.length := by
  induction ns with
  | nil => rfl
  | cons n r ih => simp only [les, List.flatMap_cons, List.length_append, le_len, List.length_cons] at *; rw [ih, Nat.mul_add]; omega
theorem les_take (k : Nat) (ns : List Nat) {j x : Nat} (h : ns[j]? = some x) : les k (ns.take (j + 1)) = les k (ns.take j) ++ le k x := by
  unfold les
  rw [List.take_add_one, h, List.flatMap_append]
  simp
/-- The code of a vector. -/
def code (l : List Bool) : List UInt8 := le 4 l.length ++ (les 8 (wds l) ++ les 4 (cts l))
theorem code_len (l : List Bool) : (code l).length = 4 + (8 * nw l.length + 4 * nc l.length) := by
  unfold code; rw [List.length_append, List.length_append, le_len, les_len, les_len, wds_len, cts_len]
theorem byte_nat (X : Nat) : u8s [UInt8.ofNat (X % 256)] = [Value.int .u8 ((X % 256 : Nat) : Int)] := by
  unfold u8s
  simp

set_option maxHeartbeats 2000000 in
theorem appn_any (acc : List UInt8) (v : Value) (sz : Nat) (hsz : sz ≤ 8) (ns : List Nat) (a : Option Addr) (cap base : Nat) (w : World) (hown : w.ownsRow base 5 1 v acc.length (u8s acc)) (hbase : base ≤ w.heap.size)
    (hR : Reads w (.slice a ns.length cap) (u64s ns)) (ha : ∀ x, a = some x → x.block < base) (hacc : acc.length ≤ 1099511627776) (hns : ns.length ≤ 1099511627776) :
    Calls Try.prog 76 #[v, .int .i64 (sz : Int), .slice a ns.length cap] w fun e w' => ∃ v', e = .returned v' ∧ w'.ownsRow base 5 1 v' (acc ++ les sz ns).length (u8s (acc ++ les sz ns)) ∧ Below base w w' := by
  obtain ⟨i0, hi, hz0, hz1, hz2⟩ := info_parts info_u8
  have hlen := hR.len.2
  unfold maxLen at hlen
  have HR := Lib.hid hR
  have HA := Lib.hid ha
  have HLL := Lib.hid (les_len sz)
  obtain ⟨n, hn⟩ : ∃ n, ns.length = n := ⟨_, rfl⟩
  have HN := Lib.hid hn
  rw [hn] at hlen HR hns ⊢
  have hall : Hid (ns.take n = ns) := Lib.hid (by rw [← hn]; exact List.take_length)
  have hown0 : w.ownsRow base 5 1 v (acc ++ les sz (ns.take 0)).length (u8s (acc ++ les sz (ns.take 0))) := by
    rw [List.take_zero, show les sz [] = [] from rfl, List.append_nil]; exact hown
  clear hR ha hn hown
  go_enter Try.func76, Try.ntmps76
  go_wp2
  go_loopw [0, 11] (fun x i wr => ∃ k : Nat, k ≤ n ∧ i = .int .i64 k ∧ wr.ownsRow base 5 1 x (acc ++ les sz (ns.take k)).length (u8s (acc ++ les sz (ns.take k))) ∧ Below base w wr) (fun _ i _ => n - (intOf i).toNat)
  case atStart => exact ⟨0, Nat.zero_le _, rfl, hown0, Below.refl _ _⟩
  case round =>
    clear hown0
    obtain ⟨k, hk, rfl, hown, hb⟩ := hrel
    by_cases hlt : k < n
    · obtain ⟨x, hx⟩ : ∃ x, ns[k]? = some x := ⟨_, List.getElem?_eq_getElem (by rw [HN.out]; exact hlt)⟩
      obtain ⟨b, off, rfl, hblt, hc0⟩ := Reads.cell HR.out (u64s_get hx)
      have hbb : b < base := HA.out _ rfl
      have hcell : wr.cell? ⟨b, off + k, none⟩ = some (.int .u64 (x : Int)) := by rw [hb.cell (p := ⟨b, off + k, none⟩) hbb]; exact hc0
      have HT := Lib.hid (les_take sz ns hx)
      have hl1 := HLL.out (ns.take k)
      rw [List.length_take] at hl1
      have hsk : sz * min k ns.length ≤ 8 * n := by rw [HN.out]; exact Nat.mul_le_mul hsz (by omega)
      obtain ⟨P, hP⟩ : ∃ P, acc ++ les sz (ns.take k) = P := ⟨_, rfl⟩
      have hPl : P.length ≤ acc.length + 8 * n := by rw [← hP, List.length_append, hl1]; omega
      have HP : Hid (acc ++ les sz (ns.take (k + 1)) = P ++ le sz x) := Lib.hid (by rw [HT.out, ← List.append_assoc, hP])
      rw [hP] at hown
      have e0 : P ++ le 0 x = P := List.append_nil P
      have hown1 := hown
      rw [← e0] at hown1
      clear e0
      have hxx : Hid (x / 256 ^ 0 = x) := Lib.hid (by simp)
      clear hc0 hl1 hsk hP hown HT hx
      go_wp2
      go_loopw [0, 8, 16] (fun y z j W => ∃ i : Nat, i ≤ sz ∧ j = .int .i64 i ∧ z = .int .u64 (x / 256 ^ i : Nat) ∧ W.ownsRow base 5 1 y (P ++ le i x).length (u8s (P ++ le i x)) ∧ Below base w W) (fun _ _ j _ => sz - (intOf j).toNat)
      case atStart => exact ⟨0, Nat.zero_le _, rfl, by rw [hxx.out], hown1, hb⟩
      case round =>
        clear hown1 hb hcell
        obtain ⟨i, hii, rfl, rfl, hown, hb⟩ := hrel
        by_cases hil : i < sz
        · obtain ⟨X, hX⟩ : ∃ X, x / 256 ^ i = X := ⟨_, rfl⟩
          have HX : Hid (x / 256 ^ (i + 1) = X / 256) := Lib.hid (by rw [Nat.pow_succ, ← Nat.div_div_eq_div_mul, hX])
          have HS : Hid (P ++ le (i + 1) x = (P ++ le i x) ++ [UInt8.ofNat (X % 256)]) := Lib.hid (by rw [le_succ, hX, List.append_assoc])
          obtain ⟨B, hB⟩ : ∃ B, X % 256 = B := ⟨_, rfl⟩
          have hwr : IntKind.u8.wrap (X : Int) = (B : Int) := by rw [IntKind.wrap_u8]; omega
          have hBz : (X : Int) % 256 = (B : Int) := by omega
          have HB : Hid (u8s [UInt8.ofNat (X % 256)] = [Value.int .u8 (B : Int)]) := Lib.hid (by rw [byte_nat, hB])
          obtain ⟨L, hL⟩ : ∃ L, P ++ le i x = L := ⟨_, rfl⟩
          have hLl : L.length = P.length + i := by rw [← hL, List.length_append, le_len]
          have hLl2 : L.length ≤ acc.length + 8 * n + 8 := by omega
          rw [hL] at hown HS
          rw [hX]
          clear hX hB hL hLl
          go_wp2_with (at_builtin; refine wpList_append_own _ rfl _ _ _ rfl base 5 i0 (.int .u8 0) 1 1 Try.underlying51 hi hz0 hz1 hz2 rfl (by decide) _ L.length (u8s L) rfl (hown.alloc _) ⟨_, 0, none⟩ 1 1 [.int .u8 (B : Int)] rfl rfl (cell_one_new _ _ _) ?c2 ?c3 ?c4 ?c5 ?_)
          case c2 => simp [Value.oneCell']
          case c3 => unfold maxLen; omega
          case c4 => omega
          case c5 => have := hb.size; simp; omega
          intro v' w5 hown5 hg5 _
          have hb5 := below_own (hb.alloc (by have := hb.size; omega) _) (hown.alloc _) (Nat.le_refl _) (by have := hb.size; simp; omega) hg5
          have HO : Hid (w5.ownsRow base 5 1 v' (P ++ le (i + 1) x).length (u8s (P ++ le (i + 1) x))) := Lib.hid (by rw [HS.out, u8s_append, HB.out, List.length_append]; exact hown5)
          clear hown hown5 hg5 hwr hBz
          go_wp2
          go_roundw
          case rel => exact ⟨i + 1, by omega, by go_num, by rw [HX.out]; simp, HO.out, hb5⟩
          case measure => simp [intOf]; omega
        · obtain rfl : i = sz := by omega
          rw [← HP.out] at hown
          go_wp2
          go_roundw
          case rel => exact ⟨k + 1, by omega, by go_num, hown, hb⟩
          case measure => simp [intOf]; omega
    · obtain rfl : k = n := by omega
      rw [hall.out] at hown
      go_wp2
      go_ret
      exact ⟨_, rfl, hown, hb⟩

theorem wrap_div {x X i : Nat} (h : x < 18446744073709551616) (hX : x / 256 ^ i = X) : IntKind.u64.wrap ((X : Int) / 256) = (X : Int) / 256 := by
  have h2 : X ≤ x := by rw [← hX]; exact Nat.div_le_self _ _
  rw [IntKind.wrap_u64]
  omega
set_option maxHeartbeats 2000000 in
theorem rnum_any (acc : List UInt8) (v : Value) (x : Nat) (hx : x < 18446744073709551616) (sz : Nat) (hsz : sz ≤ 8) (base : Nat) (w : World) (hown : w.ownsRow base 5 1 v acc.length (u8s acc)) (hbase : base ≤ w.heap.size) (hacc : acc.length ≤ 1099511627776) :
    Calls Try.prog 79 #[v, .int .u64 (x : Int), .int .i64 (sz : Int)] w fun e w' => ∃ v', e = .returned v' ∧ w'.ownsRow base 5 1 v' (acc ++ le sz x).length (u8s (acc ++ le sz x)) ∧ Below base w w' := by
  obtain ⟨i0, hi, hz0, hz1, hz2⟩ := info_parts info_u8
  have hown1 : w.ownsRow base 5 1 v (acc ++ le 0 x).length (u8s (acc ++ le 0 x)) := by rw [show le 0 x = [] from rfl, List.append_nil]; exact hown
  have hxx : Hid (x / 256 ^ 0 = x) := Lib.hid (by simp)
  have HXL := Lib.hid hx
  clear hown hx
  go_enter Try.func79, Try.ntmps79
  go_wp2
  go_loopw [0, 1, 7] (fun y z j W => ∃ i : Nat, i ≤ sz ∧ j = .int .i64 i ∧ z = .int .u64 (x / 256 ^ i : Nat) ∧ W.ownsRow base 5 1 y (acc ++ le i x).length (u8s (acc ++ le i x)) ∧ Below base w W) (fun _ _ j _ => sz - (intOf j).toNat)
  case atStart => exact ⟨0, Nat.zero_le _, rfl, by rw [hxx.out], hown1, Below.refl _ _⟩
  case round =>
    clear hown1
    obtain ⟨i, hii, rfl, rfl, hown, hb⟩ := hrel
    by_cases hil : i < sz
    · obtain ⟨X, hX⟩ : ∃ X, x / 256 ^ i = X := ⟨_, rfl⟩
      have HXW : Hid (IntKind.u64.wrap ((X : Int) / 256) = (X : Int) / 256) := Lib.hid (wrap_div HXL.out hX)
      have HX : Hid (x / 256 ^ (i + 1) = X / 256) := Lib.hid (by rw [Nat.pow_succ, ← Nat.div_div_eq_div_mul, hX])
      have HS : Hid (acc ++ le (i + 1) x = (acc ++ le i x) ++ [UInt8.ofNat (X % 256)]) := Lib.hid (by rw [le_succ, hX, List.append_assoc])
      have HB : Hid (u8s [UInt8.ofNat (X % 256)] = [Value.int .u8 ((X % 256 : Nat) : Int)]) := Lib.hid (byte_nat X)
      obtain ⟨B, hB⟩ : ∃ B, X % 256 = B := ⟨_, rfl⟩
      have hB2 : B < 256 := by omega
      have hBz : (X : Int) % 256 = (B : Int) := by omega
      have hBt : (X : Int).tmod 256 = (B : Int) := by rw [Int.tmod_eq_emod_of_nonneg (by omega)]; omega
      have hwr : IntKind.u8.wrap (B : Int) = (B : Int) := by rw [IntKind.wrap_u8]; omega
      rw [hB] at HB HS
      obtain ⟨L, hL⟩ : ∃ L, acc ++ le i x = L := ⟨_, rfl⟩
      have hLl : L.length = acc.length + i := by rw [← hL, List.length_append, le_len]
      have hLl2 : L.length ≤ acc.length + 8 := by omega
      rw [hL] at hown HS
      rw [hX]
      clear hX hL hLl
      have HBB := Lib.hid hB
      clear hB
      go_wp2_with (at_builtin; refine wpList_append_own _ rfl _ _ _ rfl base 5 i0 (.int .u8 0) 1 1 Try.underlying51 hi hz0 hz1 hz2 rfl (by decide) _ L.length (u8s L) rfl (hown.alloc _) ⟨_, 0, none⟩ 1 1 [.int .u8 (B : Int)] rfl rfl (cell_one_new _ _ _) ?c2 ?c3 ?c4 ?c5 ?_)
      case c2 => simp [Value.oneCell']
      case c3 => unfold maxLen; omega
      case c4 => omega
      case c5 => have := hb.size; simp; omega
      intro v' w5 hown5 hg5 _
      have hb5 := below_own (hb.alloc (by have := hb.size; omega) _) (hown.alloc _) (Nat.le_refl _) (by have := hb.size; simp; omega) hg5
      have HO : Hid (w5.ownsRow base 5 1 v' (acc ++ le (i + 1) x).length (u8s (acc ++ le (i + 1) x))) := Lib.hid (by rw [HS.out, u8s_append, HB.out, List.length_append]; exact hown5)
      clear hown hown5 hg5 hwr hBz hBt
      go_wp2
      go_roundw
      case rel => exact ⟨i + 1, by omega, by go_num, by rw [HX.out]; simp [HXW.out], HO.out, hb5⟩
      case measure => simp [intOf]; omega
    · obtain rfl : i = sz := by omega
      go_wp2
      go_ret
      exact ⟨_, rfl, hown, hb⟩
end Go.Proofs.Ytffljcfpofhkgaa.Bv
