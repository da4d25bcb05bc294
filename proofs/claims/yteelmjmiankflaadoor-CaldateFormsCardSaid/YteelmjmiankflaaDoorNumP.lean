/-
  The writers at decimal digits; Parse of what they write; lengths.
-/
import Derived.Test.YteelmjmiankflaaDoorNumL
import Derived.Test.YteelmjmiankflaaDoorNumPS
set_option linter.unusedVariables false
set_option linter.unusedSimpArgs false
namespace Go.Proofs.YteelmjmiankflaaDoor.Num
open Go Go.RowKit Go.Proofs.YteelmjmiankflaaDoor.Kit Go.Proofs.YteelmjmiankflaaDoor.Utf

theorem writer_dg {F : FuncId} {f : List Nat → List Int} (hF : Writer F f) {ds : List Nat} (hd : DS ds) (w : World) (hL : Laid w) :
    Calls Tryd.prog F #[.string (dg ds)] w fun e w' => e = .returned (.tuple #[.string (tx (f ds)), .bool true]) ∧ Below w.heap.size w w' :=
  writer_at hF (dg ds) _ true (by rw [dg_size]; have := hd.2.1; unfold maxLen; omega) (wOut_dg f hd) (isDec_dg hd) w hL

theorem wf_u8 {n : Int} (h : (Lit.int .u8 n).wf = true) : 0 ≤ n ∧ n ≤ 255 := by
  simp [Lit.wf, IntKind.min, IntKind.max, IntKind.signed, IntKind.bits] at h; omega

theorem same_toList (s : ByteArray) : (s.toList == s.toList) = true := by simp

end Go.Proofs.YteelmjmiankflaaDoor.Num
