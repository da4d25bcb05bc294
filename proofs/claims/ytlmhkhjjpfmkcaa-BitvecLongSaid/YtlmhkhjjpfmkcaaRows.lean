/-
  No cell of these rows narrows 'for every input' (looked for: loops, veiled, ifaces, maps, wideKeys, modest, calm, conditions, laid).
  DERIVED. THE GIVEN ROWS OF THIS SEAT. 9 by the template 'for every input the law returns true; each argument reads behind the call as it read before'; 0 by the template 'total and deterministic' (their statements: YtlmhkhjjpfmkcaaTotals.lean).
  GIVEN WITH THE SEED: the statements are not yours to turn. If you find one false, say at which input.
  Laid BY PROGRAM, IN A SANDBOX (cutbox-rows.mjs): the forced cells as the released guide's own fill.sh prints them over the translation dc0bd9133fdb6f3a… (all of the seat's roots in one cut). By AI agents, Wed Nov 11 2026. No macro, syntax, notation, axiom, sorry.
-/
import Derived.Test.YtlmhkhjjpfmkcaaChecked
import GoSem.Claim
import GoSem.ClaimJoined
import GoSem.ClaimMapViews
import Derived.JoinedTies
import Derived.KernelRfl
namespace Go.Proofs.Ytlmhkhjjpfmkcaa
/- THE CELL 'sum', in the pinned program and in every row, IS THE sha256 OF THE DUMP (.gsa) THAT YtlmhkhjjpfmkcaaProg.lean LOADS. Nothing in Lean hashes anything: it is a label: what it is worth is what the hold of that sum in a sandbox is worth. -/
noncomputable def Try.pinned : Pinned := { name := "ytlmhkhjjpfmkcaa", sum := "dc0bd9133fdb6f3a6d6bf2d9e31f057e1d8318e642a7de80f117688723da714f", checked := Try.checked }
namespace Rows
def none {H : Type} : Left H := { results := [], args := [] }

/-- 'henkanlaw09.BitvecHolds': WHATEVER THE INPUT: true; the input reads as it did. -/
def bitvecHoldsSpec : ChangeSpec := { name := "bitvecHolds", fn := fun _ => fun
  | [d1, d2] => { results := [.lit (.bool true)], args := [d1, d2] }
  | _ => none }
def bitvecHoldsRow : OpenClaim := { program := "ytlmhkhjjpfmkcaa", sum := "dc0bd9133fdb6f3a6d6bf2d9e31f057e1d8318e642a7de80f117688723da714f", func := "henkan/henkanlaw09.BitvecHolds", spec := "bitvecHolds", unfollowed := true, recurses := true, apart := false }
def BitvecHoldsSaid : Prop := bitvecHoldsRow.holds Try.pinned (OpenSpec.ofChange bitvecHoldsSpec)

/-- ITS FALSE NEIGHBOUR: 'it returns false'. Refute it at one input. -/
def bitvecHoldsWrong : ChangeSpec := { name := "bitvecHolds", fn := fun _ => fun
  | [d1, d2] => { results := [.lit (.bool false)], args := [d1, d2] }
  | _ => none }
def BitvecHoldsWrongFalsely : Prop := bitvecHoldsRow.holds Try.pinned (OpenSpec.ofChange bitvecHoldsWrong)

/-- 'henkanlaw09.BitvecRanks': WHATEVER THE INPUT: true; the input reads as it did. -/
def bitvecRanksSpec : ChangeSpec := { name := "bitvecRanks", fn := fun _ => fun
  | [d1, d2] => { results := [.lit (.bool true)], args := [d1, d2] }
  | _ => none }
def bitvecRanksRow : OpenClaim := { program := "ytlmhkhjjpfmkcaa", sum := "dc0bd9133fdb6f3a6d6bf2d9e31f057e1d8318e642a7de80f117688723da714f", func := "henkan/henkanlaw09.BitvecRanks", spec := "bitvecRanks", unfollowed := true, recurses := true, apart := false }
def BitvecRanksSaid : Prop := bitvecRanksRow.holds Try.pinned (OpenSpec.ofChange bitvecRanksSpec)

/-- ITS FALSE NEIGHBOUR: 'it returns false'. Refute it at one input. -/
def bitvecRanksWrong : ChangeSpec := { name := "bitvecRanks", fn := fun _ => fun
  | [d1, d2] => { results := [.lit (.bool false)], args := [d1, d2] }
  | _ => none }
def BitvecRanksWrongFalsely : Prop := bitvecRanksRow.holds Try.pinned (OpenSpec.ofChange bitvecRanksWrong)

/-- 'henkanlaw09.BitvecSelects': WHATEVER THE INPUT: true; the input reads as it did. -/
def bitvecSelectsSpec : ChangeSpec := { name := "bitvecSelects", fn := fun _ => fun
  | [d1, d2] => { results := [.lit (.bool true)], args := [d1, d2] }
  | _ => none }
def bitvecSelectsRow : OpenClaim := { program := "ytlmhkhjjpfmkcaa", sum := "dc0bd9133fdb6f3a6d6bf2d9e31f057e1d8318e642a7de80f117688723da714f", func := "henkan/henkanlaw09.BitvecSelects", spec := "bitvecSelects", unfollowed := true, recurses := true, apart := false }
def BitvecSelectsSaid : Prop := bitvecSelectsRow.holds Try.pinned (OpenSpec.ofChange bitvecSelectsSpec)

/-- ITS FALSE NEIGHBOUR: 'it returns false'. Refute it at one input. -/
def bitvecSelectsWrong : ChangeSpec := { name := "bitvecSelects", fn := fun _ => fun
  | [d1, d2] => { results := [.lit (.bool false)], args := [d1, d2] }
  | _ => none }
def BitvecSelectsWrongFalsely : Prop := bitvecSelectsRow.holds Try.pinned (OpenSpec.ofChange bitvecSelectsWrong)

/-- 'henkanlaw09.BitvecEncodes': WHATEVER THE INPUT: true; the input reads as it did. -/
def bitvecEncodesSpec : ChangeSpec := { name := "bitvecEncodes", fn := fun _ => fun
  | [d] => { results := [.lit (.bool true)], args := [d] }
  | _ => none }
def bitvecEncodesRow : OpenClaim := { program := "ytlmhkhjjpfmkcaa", sum := "dc0bd9133fdb6f3a6d6bf2d9e31f057e1d8318e642a7de80f117688723da714f", func := "henkan/henkanlaw09.BitvecEncodes", spec := "bitvecEncodes", unfollowed := true, recurses := true, apart := false }
def BitvecEncodesSaid : Prop := bitvecEncodesRow.holds Try.pinned (OpenSpec.ofChange bitvecEncodesSpec)

/-- ITS FALSE NEIGHBOUR: 'it returns false'. Refute it at one input. -/
def bitvecEncodesWrong : ChangeSpec := { name := "bitvecEncodes", fn := fun _ => fun
  | [d] => { results := [.lit (.bool false)], args := [d] }
  | _ => none }
def BitvecEncodesWrongFalsely : Prop := bitvecEncodesRow.holds Try.pinned (OpenSpec.ofChange bitvecEncodesWrong)

/-- 'henkanlaw09.BitvecInverse': WHATEVER THE INPUT: true; the input reads as it did. -/
def bitvecInverseSpec : ChangeSpec := { name := "bitvecInverse", fn := fun _ => fun
  | [d1, d2, d3] => { results := [.lit (.bool true)], args := [d1, d2, d3] }
  | _ => none }
def bitvecInverseRow : OpenClaim := { program := "ytlmhkhjjpfmkcaa", sum := "dc0bd9133fdb6f3a6d6bf2d9e31f057e1d8318e642a7de80f117688723da714f", func := "henkan/henkanlaw09.BitvecInverse", spec := "bitvecInverse", unfollowed := true, recurses := true, apart := false }
def BitvecInverseSaid : Prop := bitvecInverseRow.holds Try.pinned (OpenSpec.ofChange bitvecInverseSpec)

/-- ITS FALSE NEIGHBOUR: 'it returns false'. Refute it at one input. -/
def bitvecInverseWrong : ChangeSpec := { name := "bitvecInverse", fn := fun _ => fun
  | [d1, d2, d3] => { results := [.lit (.bool false)], args := [d1, d2, d3] }
  | _ => none }
def BitvecInverseWrongFalsely : Prop := bitvecInverseRow.holds Try.pinned (OpenSpec.ofChange bitvecInverseWrong)

/-- 'henkanlaw09.BitvecSums': WHATEVER THE INPUT: true; the input reads as it did. -/
def bitvecSumsSpec : ChangeSpec := { name := "bitvecSums", fn := fun _ => fun
  | [d1, d2] => { results := [.lit (.bool true)], args := [d1, d2] }
  | _ => none }
def bitvecSumsRow : OpenClaim := { program := "ytlmhkhjjpfmkcaa", sum := "dc0bd9133fdb6f3a6d6bf2d9e31f057e1d8318e642a7de80f117688723da714f", func := "henkan/henkanlaw09.BitvecSums", spec := "bitvecSums", unfollowed := true, recurses := true, apart := false }
def BitvecSumsSaid : Prop := bitvecSumsRow.holds Try.pinned (OpenSpec.ofChange bitvecSumsSpec)

/-- ITS FALSE NEIGHBOUR: 'it returns false'. Refute it at one input. -/
def bitvecSumsWrong : ChangeSpec := { name := "bitvecSums", fn := fun _ => fun
  | [d1, d2] => { results := [.lit (.bool false)], args := [d1, d2] }
  | _ => none }
def BitvecSumsWrongFalsely : Prop := bitvecSumsRow.holds Try.pinned (OpenSpec.ofChange bitvecSumsWrong)

/-- 'henkanlaw09.BitvecReturns': WHATEVER THE INPUT: true; the input reads as it did. -/
def bitvecReturnsSpec : ChangeSpec := { name := "bitvecReturns", fn := fun _ => fun
  | [d1, d2] => { results := [.lit (.bool true)], args := [d1, d2] }
  | _ => none }
def bitvecReturnsRow : OpenClaim := { program := "ytlmhkhjjpfmkcaa", sum := "dc0bd9133fdb6f3a6d6bf2d9e31f057e1d8318e642a7de80f117688723da714f", func := "henkan/henkanlaw09.BitvecReturns", spec := "bitvecReturns", unfollowed := true, recurses := true, apart := false }
def BitvecReturnsSaid : Prop := bitvecReturnsRow.holds Try.pinned (OpenSpec.ofChange bitvecReturnsSpec)

/-- ITS FALSE NEIGHBOUR: 'it returns false'. Refute it at one input. -/
def bitvecReturnsWrong : ChangeSpec := { name := "bitvecReturns", fn := fun _ => fun
  | [d1, d2] => { results := [.lit (.bool false)], args := [d1, d2] }
  | _ => none }
def BitvecReturnsWrongFalsely : Prop := bitvecReturnsRow.holds Try.pinned (OpenSpec.ofChange bitvecReturnsWrong)

/-- 'henkanlaw09.BitvecLong': WHATEVER THE INPUT: true; the input reads as it did. -/
def bitvecLongSpec : ChangeSpec := { name := "bitvecLong", fn := fun _ => fun
  | [d1, d2] => { results := [.lit (.bool true)], args := [d1, d2] }
  | _ => none }
def bitvecLongRow : OpenClaim := { program := "ytlmhkhjjpfmkcaa", sum := "dc0bd9133fdb6f3a6d6bf2d9e31f057e1d8318e642a7de80f117688723da714f", func := "henkan/henkanlaw09.BitvecLong", spec := "bitvecLong", unfollowed := true, recurses := true, apart := false }
def BitvecLongSaid : Prop := bitvecLongRow.holds Try.pinned (OpenSpec.ofChange bitvecLongSpec)

/-- ITS FALSE NEIGHBOUR: 'it returns false'. Refute it at one input. -/
def bitvecLongWrong : ChangeSpec := { name := "bitvecLong", fn := fun _ => fun
  | [d1, d2] => { results := [.lit (.bool false)], args := [d1, d2] }
  | _ => none }
def BitvecLongWrongFalsely : Prop := bitvecLongRow.holds Try.pinned (OpenSpec.ofChange bitvecLongWrong)

/-- 'henkanlaw09.BitvecKnown': WHATEVER THE INPUT: true; the input reads as it did. -/
def bitvecKnownSpec : ChangeSpec := { name := "bitvecKnown", fn := fun _ => fun
  | [] => { results := [.lit (.bool true)], args := [] }
  | _ => none }
def bitvecKnownRow : OpenClaim := { program := "ytlmhkhjjpfmkcaa", sum := "dc0bd9133fdb6f3a6d6bf2d9e31f057e1d8318e642a7de80f117688723da714f", func := "henkan/henkanlaw09.BitvecKnown", spec := "bitvecKnown", unfollowed := true, recurses := true, apart := false }
def BitvecKnownSaid : Prop := bitvecKnownRow.holds Try.pinned (OpenSpec.ofChange bitvecKnownSpec)

/-- ITS FALSE NEIGHBOUR: 'it returns false'. Refute it at one input. -/
def bitvecKnownWrong : ChangeSpec := { name := "bitvecKnown", fn := fun _ => fun
  | [] => { results := [.lit (.bool false)], args := [] }
  | _ => none }
def BitvecKnownWrongFalsely : Prop := bitvecKnownRow.holds Try.pinned (OpenSpec.ofChange bitvecKnownWrong)

/- THE SECOND FORM. 'bulk': how many values and letters a reading holds, each counted each time it is reached (what is shared counts as often as it is met; a slice's spare places count too). A statement '..UptoSaid' is the law's where the arguments, and the package variables that the reading takes, are together of bulk at most 1048576: NARROWER than '..Said'. Prove '..Said' where nothing that the law and all that it calls make is longer than what came in: it says more and counts as full. Else prove '..UptoSaid'. A law counts once. -/
mutual
def uptoBulk {H : Type} : DataW H → Nat
  | .lit (.string bytes) => bytes.length + 1
  | .lit _ => 1
  | .nil => 1
  | .ptr d => uptoBulk d + 1
  | .slice elems spare => uptoBulkAll elems + uptoBulkAll spare + 1
  | .agg parts => uptoBulkAll parts + 1
  | .iface _ d => uptoBulk d + 1
  | .map entries => uptoBulkEntries entries + 1
  | .held _ => 1
def uptoBulkAll {H : Type} : List (DataW H) → Nat
  | [] => 0
  | d :: r => uptoBulk d + uptoBulkAll r
def uptoBulkEntries {H : Type} : List (Lit × DataW H) → Nat
  | [] => 0
  | x :: r => uptoBulkEntry x + uptoBulkEntries r
def uptoBulkEntry {H : Type} : Lit × DataW H → Nat
  | (.string bytes, d) => bytes.length + uptoBulk d + 1
  | (_, d) => uptoBulk d + 1
 end
def uptoSmall : (H : Type) → List (DataW H) → Bool := fun _ ds => decide (uptoBulkAll ds ≤ 1048576)
def OpenSpec.upto (s : _root_.Go.ChangeSpec) : _root_.Go.OpenSpec := { _root_.Go.OpenSpec.ofChange s with cond := some uptoSmall }

/-- 'henkanlaw09.BitvecHolds', WHERE WHAT IT READS IS OF BULK AT MOST 1048576: true; the input reads as it did. -/
def bitvecHoldsUptoRow : OpenClaim := { program := "ytlmhkhjjpfmkcaa", sum := "dc0bd9133fdb6f3a6d6bf2d9e31f057e1d8318e642a7de80f117688723da714f", func := "henkan/henkanlaw09.BitvecHolds", spec := "bitvecHolds", unfollowed := true, recurses := true, apart := false, narrowed := true }
def BitvecHoldsUptoSaid : Prop := bitvecHoldsUptoRow.holds Try.pinned (OpenSpec.upto bitvecHoldsSpec)

/-- 'henkanlaw09.BitvecRanks', WHERE WHAT IT READS IS OF BULK AT MOST 1048576: true; the input reads as it did. -/
def bitvecRanksUptoRow : OpenClaim := { program := "ytlmhkhjjpfmkcaa", sum := "dc0bd9133fdb6f3a6d6bf2d9e31f057e1d8318e642a7de80f117688723da714f", func := "henkan/henkanlaw09.BitvecRanks", spec := "bitvecRanks", unfollowed := true, recurses := true, apart := false, narrowed := true }
def BitvecRanksUptoSaid : Prop := bitvecRanksUptoRow.holds Try.pinned (OpenSpec.upto bitvecRanksSpec)

/-- 'henkanlaw09.BitvecSelects', WHERE WHAT IT READS IS OF BULK AT MOST 1048576: true; the input reads as it did. -/
def bitvecSelectsUptoRow : OpenClaim := { program := "ytlmhkhjjpfmkcaa", sum := "dc0bd9133fdb6f3a6d6bf2d9e31f057e1d8318e642a7de80f117688723da714f", func := "henkan/henkanlaw09.BitvecSelects", spec := "bitvecSelects", unfollowed := true, recurses := true, apart := false, narrowed := true }
def BitvecSelectsUptoSaid : Prop := bitvecSelectsUptoRow.holds Try.pinned (OpenSpec.upto bitvecSelectsSpec)

/-- 'henkanlaw09.BitvecEncodes', WHERE WHAT IT READS IS OF BULK AT MOST 1048576: true; the input reads as it did. -/
def bitvecEncodesUptoRow : OpenClaim := { program := "ytlmhkhjjpfmkcaa", sum := "dc0bd9133fdb6f3a6d6bf2d9e31f057e1d8318e642a7de80f117688723da714f", func := "henkan/henkanlaw09.BitvecEncodes", spec := "bitvecEncodes", unfollowed := true, recurses := true, apart := false, narrowed := true }
def BitvecEncodesUptoSaid : Prop := bitvecEncodesUptoRow.holds Try.pinned (OpenSpec.upto bitvecEncodesSpec)

/-- 'henkanlaw09.BitvecInverse', WHERE WHAT IT READS IS OF BULK AT MOST 1048576: true; the input reads as it did. -/
def bitvecInverseUptoRow : OpenClaim := { program := "ytlmhkhjjpfmkcaa", sum := "dc0bd9133fdb6f3a6d6bf2d9e31f057e1d8318e642a7de80f117688723da714f", func := "henkan/henkanlaw09.BitvecInverse", spec := "bitvecInverse", unfollowed := true, recurses := true, apart := false, narrowed := true }
def BitvecInverseUptoSaid : Prop := bitvecInverseUptoRow.holds Try.pinned (OpenSpec.upto bitvecInverseSpec)

/-- 'henkanlaw09.BitvecSums', WHERE WHAT IT READS IS OF BULK AT MOST 1048576: true; the input reads as it did. -/
def bitvecSumsUptoRow : OpenClaim := { program := "ytlmhkhjjpfmkcaa", sum := "dc0bd9133fdb6f3a6d6bf2d9e31f057e1d8318e642a7de80f117688723da714f", func := "henkan/henkanlaw09.BitvecSums", spec := "bitvecSums", unfollowed := true, recurses := true, apart := false, narrowed := true }
def BitvecSumsUptoSaid : Prop := bitvecSumsUptoRow.holds Try.pinned (OpenSpec.upto bitvecSumsSpec)

/-- 'henkanlaw09.BitvecReturns', WHERE WHAT IT READS IS OF BULK AT MOST 1048576: true; the input reads as it did. -/
def bitvecReturnsUptoRow : OpenClaim := { program := "ytlmhkhjjpfmkcaa", sum := "dc0bd9133fdb6f3a6d6bf2d9e31f057e1d8318e642a7de80f117688723da714f", func := "henkan/henkanlaw09.BitvecReturns", spec := "bitvecReturns", unfollowed := true, recurses := true, apart := false, narrowed := true }
def BitvecReturnsUptoSaid : Prop := bitvecReturnsUptoRow.holds Try.pinned (OpenSpec.upto bitvecReturnsSpec)

/-- 'henkanlaw09.BitvecLong', WHERE WHAT IT READS IS OF BULK AT MOST 1048576: true; the input reads as it did. -/
def bitvecLongUptoRow : OpenClaim := { program := "ytlmhkhjjpfmkcaa", sum := "dc0bd9133fdb6f3a6d6bf2d9e31f057e1d8318e642a7de80f117688723da714f", func := "henkan/henkanlaw09.BitvecLong", spec := "bitvecLong", unfollowed := true, recurses := true, apart := false, narrowed := true }
def BitvecLongUptoSaid : Prop := bitvecLongUptoRow.holds Try.pinned (OpenSpec.upto bitvecLongSpec)

/-- 'henkanlaw09.BitvecKnown', WHERE WHAT IT READS IS OF BULK AT MOST 1048576: true; the input reads as it did. -/
def bitvecKnownUptoRow : OpenClaim := { program := "ytlmhkhjjpfmkcaa", sum := "dc0bd9133fdb6f3a6d6bf2d9e31f057e1d8318e642a7de80f117688723da714f", func := "henkan/henkanlaw09.BitvecKnown", spec := "bitvecKnown", unfollowed := true, recurses := true, apart := false, narrowed := true }
def BitvecKnownUptoSaid : Prop := bitvecKnownUptoRow.holds Try.pinned (OpenSpec.upto bitvecKnownSpec)

end Rows
end Go.Proofs.Ytlmhkhjjpfmkcaa
