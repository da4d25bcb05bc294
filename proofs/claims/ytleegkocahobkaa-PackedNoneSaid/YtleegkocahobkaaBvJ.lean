/-
  Contract of the reference's Encode.
-/
import Derived.Test.YtleegkocahobkaaBvI
set_option linter.unusedVariables false
set_option linter.unusedSimpArgs false
set_option maxRecDepth 100000
namespace Go.Proofs.Ytleegkocahobkaa.Bv
open Go Go.RowKit Go.Proofs.Ytleegkocahobkaa.Kit

/-- The code so far: j words; all words and c counts. -/
def codeW (l : List Bool) (j : Nat) : List UInt8 := le 4 l.length ++ les 8 ((wds l).take j)
def codeC (l : List Bool) (c : Nat) : List UInt8 := le 4 l.length ++ les 8 (wds l) ++ les 4 (cntL l c)
theorem codeW_len (l : List Bool) (j : Nat) : (codeW l j).length ≤ 4 + 8 * nw l.length := by
  unfold codeW; rw [List.length_append, le_len, les_len, List.length_take, wds_len]; omega
theorem codeC_len (l : List Bool) (c : Nat) : (codeC l c).length = 4 + 8 * nw l.length + 4 * c := by
  unfold codeC; rw [List.length_append, List.length_append, le_len, les_len, les_len, wds_len, cntL_len]
theorem codeW_succ (l : List Bool) {j : Nat} (h : j < nw l.length) : codeW l (j + 1) = codeW l j ++ le 8 (wat l j) := by
  unfold codeW; rw [les_take 8 (wds l) (wds_get l h), List.append_assoc]
theorem codeW_all (l : List Bool) : codeW l (nw l.length) = codeC l 0 := by
  unfold codeW codeC
  rw [show cntL l 0 = [] from rfl, show les 4 [] = [] from rfl, List.append_nil, ← wds_len, List.take_length]
theorem codeC_succ (l : List Bool) (c : Nat) : codeC l (c + 1) = codeC l c ++ le 4 (cnt l c) := by
  unfold codeC
  rw [cntL_succ, List.append_assoc (le 4 l.length ++ les 8 (wds l))]
  congr 1
  simp [les]
theorem codeC_all (l : List Bool) : codeC l (nc l.length) = code l := by
  unfold codeC code
  rw [List.append_assoc]; rfl
theorem wf_step (l : List Bool) (s m : Nat) (h0 : 0 < m) (h : m ≤ 64) : wf l (s + (m - 1)) (64 - (m - 1)) = (bt l (s + (m - 1))).toNat + 2 * wf l (s + m) (64 - m) := by
  rw [show 64 - (m - 1) = (64 - m) + 1 by omega]
  simp only [wf]
  rw [show s + (m - 1) + 1 = s + m by omega]
theorem wf_bound (l : List Bool) (s m : Nat) (h0 : 0 < m) (h : m ≤ 64) : wf l s (64 - m) < 9223372036854775808 := by
  have h1 := wf_lt l (64 - m) s
  have h2 : 2 ^ (64 - m) ≤ 2 ^ 63 := Nat.pow_le_pow_right (by decide) (by omega)
  omega
theorem wrap_2 {x : Nat} (h : x < 9223372036854775808) : IntKind.u64.wrap (2 * (x : Int)) = ((2 * x : Nat) : Int) := by
  rw [IntKind.wrap_u64]; omega
theorem wrap_21 {x : Nat} (h : x < 9223372036854775808) : Value.int .u64 (IntKind.u64.wrap (2 * (x : Int) + 1)) = Value.int .u64 ((true.toNat + 2 * x : Nat) : Int) := by
  rw [IntKind.wrap_u64, show true.toNat = 1 from rfl]; congr 1; omega

end Go.Proofs.Ytleegkocahobkaa.Bv
