/-
  Contract of Decode.
-/
import Derived.Test.YtleegkocahobkaaBvL
import Derived.RegionTactic
import Derived.ChangeAlike
set_option linter.unusedVariables false
set_option linter.unusedSimpArgs false
set_option maxRecDepth 100000
namespace Go.Proofs.Ytleegkocahobkaa.Bv
open Go Go.RowKit Go.Proofs.Ytleegkocahobkaa.Kit

theorem bls_set (l : List Bool) (i : Nat) (b : Bool) : bls (l.set i b) = (bls l).set i (.bool b) := by simp [bls, List.map_set]
theorem shl_i64 (t : TypeId) (b s m S : Nat) (hb : b < 256) (hs : s ≤ 24) (hm : 2 ^ s = m) (h : m * b = S) : binOp .shl t (.int .i64 (b : Int)) (.int .u64 (s : Int)) = pure (.int .i64 (S : Int)) := by
  have h1 := shift_shl .i64 .u64 (b : Int) (s : Int) (by omega) (by simp [IntKind.bits]; omega)
  rw [Int.toNat_natCast, show ((2 : Int) ^ s) = ((2 ^ s : Nat) : Int) by simp, hm] at h1
  have h2 : m ≤ 16777216 := by rw [← hm]; exact Nat.pow_le_pow_right (by decide) hs
  have h3 : m * b ≤ 16777216 * 256 := Nat.mul_le_mul h2 (by omega)
  have h4 : IntKind.i64.wrap ((b : Int) * (m : Int)) = (S : Int) := by
    rw [show (b : Int) * (m : Int) = ((m * b : Nat) : Int) by rw [Int.natCast_mul, Int.mul_comm], h, IntKind.wrap_i64]
    omega
  rw [h4] at h1
  exact h1
theorem wraps_i64 (n : Int) (h1 : 0 ≤ n) (h2 : n < 2 ^ 63) : IntKind.i64.wrap n = n := by rw [IntKind.wrap_i64]; omega
theorem or_join (t : TypeId) (a b c i m : Nat) (hm : 2 ^ i = m) (hm0 : 0 < m) (ha : a < m) (hb : b % m = 0) (hb2 : b < 9223372036854775808) (ha2 : a < 9223372036854775808) (h : a + b = c) :
    binOp .or t (.int .i64 (a : Int)) (.int .i64 (b : Int)) = pure (.int .i64 (c : Int)) := by
  have e : binOp .or t (.int .i64 (a : Int)) (.int .i64 (b : Int)) = pure (.int .i64 (bits .or .i64 (a : Int) (b : Int))) := by simp [binOp, Op.intBits, bits]
  rw [e]
  have h1 := (bits_nat .i64 63 (by decide) wraps_i64 a b ha2 hb2).2
  have h2 : a ||| b = c := by
    have hq : b = 2 ^ i * (b / m) := by rw [hm]; have := Nat.div_add_mod b m; omega
    rw [Nat.or_comm, hq, ← Nat.two_pow_add_eq_or_of_lt (by rw [hm]; exact ha), ← hq]
    omega
  rw [h1, h2]
theorem shr_u8 (t : TypeId) (W r V : Nat) (hr : r < 8) (h : W / 2 ^ r = V) : binOp .shr t (.int .u8 (W : Int)) (.int .i64 (r : Int)) = pure (.int .u8 (V : Int)) := by
  have h1 := shift_shr .u8 .i64 (W : Int) (r : Int) (by omega) (by simp [IntKind.bits]; omega)
  rw [Int.toNat_natCast, show ((2 : Int) ^ r) = ((2 ^ r : Nat) : Int) by simp, ← Int.natCast_ediv, h] at h1
  exact h1
theorem and_one_u8 (t : TypeId) (V u : Nat) (hV : V < 256) (h : V % 2 = u) : binOp .and t (.int .u8 (V : Int)) (.int .u8 1) = pure (.int .u8 (u : Int)) := by
  have h1 := u8_and_nat V 1 hV (by decide)
  rw [Nat.and_one_is_mod, h] at h1
  have e : binOp .and t (.int .u8 (V : Int)) (.int .u8 1) = pure (.int .u8 (bits .and .u8 (V : Int) ((1 : Nat) : Int))) := by simp [binOp, Op.intBits, bits]
  rw [e, h1]
/-- The first k bits read, the others false. -/
def dk (l : List Bool) (k : Nat) : List Bool := l.take k ++ List.replicate (l.length - k) false
theorem dk_len (l : List Bool) (k : Nat) : (dk l k).length = l.length := by simp [dk]; omega
theorem dk_zero (l : List Bool) : dk l 0 = List.replicate l.length false := by simp [dk]
theorem dk_all (l : List Bool) : dk l l.length = l := by simp [dk]
theorem dk_set (l : List Bool) {k : Nat} (h : k < l.length) : (dk l k).set k (bt l k) = dk l (k + 1) := by
  unfold dk
  rw [List.set_append_right _ _ (by simp; omega)]
  have e : l.take (k + 1) = l.take k ++ [bt l k] := by rw [List.take_add_one, bt_lt h]; rfl
  rw [e, List.append_assoc]
  congr 1
  rw [List.length_take, Nat.min_eq_left (Nat.le_of_lt h), Nat.sub_self, show l.length - k = (l.length - (k + 1)) + 1 by omega, List.replicate_succ]
  rfl
theorem bt_dbits {bs : List UInt8} {i : Nat} (h : i < num4 bs) : bt (dbits bs) i = dbit bs i := by
  unfold bt dbits
  rw [List.getD_eq_getElem?_getD, List.getElem?_map, List.getElem?_range h]; rfl

end Go.Proofs.Ytleegkocahobkaa.Bv
