/-
  Contracts of the reference: Same, length, Next.
-/
import Derived.Test.YtmbccolkgephgaaUtfE
import Derived.Test.YtmbccolkgephgaaUtfMathB
set_option linter.unusedVariables false
set_option linter.unusedSimpArgs false
namespace Go.Proofs.Ytmbccolkgephgaa.Utf
open Go Go.RowKit Go.Proofs.Ytmbccolkgephgaa.Kit

theorem ret_len {a b c d : Int} (h1 : a = b) (h2 : c = d) : Ending.returned (.tuple #[.int .i64 a, .int .i32 c]) = .returned (.tuple #[.int .i64 b, .int .i32 d]) := by rw [h1, h2]

set_option maxRecDepth 100000 in
theorem length_any (b : UInt8) (w : World) :
    Calls Try.prog 64 #[.int .u8 b.toNat] w fun e w' => e = .returned (.tuple #[.int .i64 (lead b.toNat).1, .int .i32 (lead b.toNat).2]) ∧ w = w' := by
  have hb := b.toNat_lt
  obtain ⟨n, hn⟩ : ∃ n, b.toNat = n := ⟨_, rfl⟩
  rw [hn] at hb ⊢
  clear hn
  have hl : lead n = if n < 128 then (1, n) else if 192 ≤ n ∧ n < 224 then (2, n - 192) else if 224 ≤ n ∧ n < 240 then (3, n - 224) else if 240 ≤ n ∧ n < 248 then (4, n - 240) else (0, 0) := rfl
  have H := Lib.hid hl; clear hl
  by_cases h1 : n < 128 <;> by_cases h2 : 192 ≤ n <;> by_cases h3 : n < 224 <;> by_cases h4 : 224 ≤ n <;> by_cases h5 : n < 240 <;> by_cases h6 : 240 ≤ n <;> by_cases h7 : n < 248 <;> first | (exfalso; omega) | skip
  all_goals
    go_enter Try.func64, Try.ntmps64
    go_wp2
    go_ret2
    refine ⟨ret_len ?_ ?_, rfl⟩ <;> rw [H.out] <;> repeat (first | rw [if_pos (by omega)] | rw [if_neg (by omega)])
    all_goals (first | rfl | (show _ = ((n - _ : Nat) : Int); omega))

end Go.Proofs.Ytmbccolkgephgaa.Utf
