/-
  The code of a vector; contracts of appendNumbers and of the reference's number.
-/
import Derived.Test.YtleegkocahobkaaBvG
set_option linter.unusedVariables false
set_option linter.unusedSimpArgs false
set_option maxRecDepth 100000
namespace Go.Proofs.Ytleegkocahobkaa.Bv
open Go Go.RowKit Go.Proofs.Ytleegkocahobkaa.Kit

/-- A number in k bytes, the lowest first. -/
def le : Nat → Nat → List UInt8
  | 0, _ => []
  | k + 1, n => UInt8.ofNat (n % 256) :: le k (n / 256)
theorem le_len (k : Nat) : ∀ n, (le k n).length = k := by
  induction k with
  | zero => intro n; rfl
  | succ k ih => intro n; simp [le, ih]
theorem le_succ (k : Nat) : ∀ n, le (k + 1) n = le k n ++ [UInt8.ofNat (n / 256 ^ k % 256)] := by
  induction k with
  | zero => intro n; simp [le]
  | succ k ih =>
    intro n
    rw [show le (k + 1 + 1) n = UInt8.ofNat (n % 256) :: le (k + 1) (n / 256) from rfl, ih, show le (k + 1) n = UInt8.ofNat (n % 256) :: le k (n / 256) from rfl, Nat.div_div_eq_div_mul, Nat.pow_succ, Nat.mul_comm]
    rfl
def les (k : Nat) (ns : List Nat) : List UInt8 := ns.flatMap (le k)
theorem les_len (k : Nat) (ns : List Nat) : (les k ns).length = k * ns.length := by
  induction ns with
  | nil => rfl
  | cons n r ih => simp only [les, List.flatMap_cons, List.length_append, le_len, List.length_cons] at *; rw [ih, Nat.mul_add]; omega
theorem les_take (k : Nat) (ns : List Nat) {j x : Nat} (h : ns[j]? = some x) : les k (ns.take (j + 1)) = les k (ns.take j) ++ le k x := by
  unfold les
  rw [List.take_add_one, h, List.flatMap_append]
  simp
/-- The code of a vector. -/
def code (l : List Bool) : List UInt8 := le 4 l.length ++ (les 8 (wds l) ++ les 4 (cts l))
theorem code_len (l : List Bool) : (code l).length = 4 + (8 * nw l.length + 4 * nc l.length) := by
  unfold code; rw [List.length_append, List.length_append, le_len, les_len, les_len, wds_len, cts_len]
theorem byte_nat (X : Nat) : u8s [UInt8.ofNat (X % 256)] = [Value.int .u8 ((X % 256 : Nat) : Int)] := by
  unfold u8s
  simp

theorem wrap_div {x X i : Nat} (h : x < 18446744073709551616) (hX : x / 256 ^ i = X) : IntKind.u64.wrap ((X : Int) / 256) = (X : Int) / 256 := by
  have h2 : X ≤ x := by rw [← hX]; exact Nat.div_le_self _ _
  rw [IntKind.wrap_u64]
  omega
end Go.Proofs.Ytleegkocahobkaa.Bv
