/-
  No cell of these rows narrows 'for every input' (looked for: loops, veiled, ifaces, maps, wideKeys, modest, calm, conditions, laid).
  DERIVED. THE GIVEN ROWS OF THIS SEAT. 8 by the template 'for every input the law returns true; each argument reads behind the call as it read before'; 0 by the template 'total and deterministic' (their statements: YtleegkocahobkaaTotals.lean).
  GIVEN WITH THE SEED: the statements are not yours to turn. If you find one false, say at which input.
  Laid BY PROGRAM, IN A SANDBOX (cutbox-rows.mjs): the forced cells as the released guide's own fill.sh prints them over the translation caf1dc928ac9dbea… (all of the seat's roots in one cut). By AI agents, Wed Nov 11 2026. No macro, syntax, notation, axiom, sorry.
-/
import Derived.Test.YtleegkocahobkaaChecked
import GoSem.Claim
import GoSem.ClaimJoined
import GoSem.ClaimMapViews
import Derived.JoinedTies
import Derived.KernelRfl
namespace Go.Proofs.Ytleegkocahobkaa
/- THE CELL 'sum', in the pinned program and in every row, IS THE sha256 OF THE DUMP (.gsa) THAT YtleegkocahobkaaProg.lean LOADS. Nothing in Lean hashes anything: it is a label: what it is worth is what the hold of that sum in a sandbox is worth. -/
noncomputable def Try.pinned : Pinned := { name := "ytleegkocahobkaa", sum := "caf1dc928ac9dbeaff4d97d6c920ad0cf0cee281285eac31a10dd13c27d6e4cd", checked := Try.checked }
namespace Rows
def none {H : Type} : Left H := { results := [], args := [] }

/-- 'henkanlaw10.PackedKeeps': WHATEVER THE INPUT: true; the input reads as it did. -/
def packedKeepsSpec : ChangeSpec := { name := "packedKeeps", fn := fun _ => fun
  | [d1, d2] => { results := [.lit (.bool true)], args := [d1, d2] }
  | _ => none }
def packedKeepsRow : OpenClaim := { program := "ytleegkocahobkaa", sum := "caf1dc928ac9dbeaff4d97d6c920ad0cf0cee281285eac31a10dd13c27d6e4cd", func := "henkan/henkanlaw10.PackedKeeps", spec := "packedKeeps", apart := false }
def PackedKeepsSaid : Prop := packedKeepsRow.holds Try.pinned (OpenSpec.ofChange packedKeepsSpec)

/-- ITS FALSE NEIGHBOUR: 'it returns false'. Refute it at one input. -/
def packedKeepsWrong : ChangeSpec := { name := "packedKeeps", fn := fun _ => fun
  | [d1, d2] => { results := [.lit (.bool false)], args := [d1, d2] }
  | _ => none }
def PackedKeepsWrongFalsely : Prop := packedKeepsRow.holds Try.pinned (OpenSpec.ofChange packedKeepsWrong)

/-- 'henkanlaw10.PackedFinds': WHATEVER THE INPUT: true; the input reads as it did. -/
def packedFindsSpec : ChangeSpec := { name := "packedFinds", fn := fun _ => fun
  | [d1, d2] => { results := [.lit (.bool true)], args := [d1, d2] }
  | _ => none }
def packedFindsRow : OpenClaim := { program := "ytleegkocahobkaa", sum := "caf1dc928ac9dbeaff4d97d6c920ad0cf0cee281285eac31a10dd13c27d6e4cd", func := "henkan/henkanlaw10.PackedFinds", spec := "packedFinds", unfollowed := true, recurses := true, apart := false }
def PackedFindsSaid : Prop := packedFindsRow.holds Try.pinned (OpenSpec.ofChange packedFindsSpec)

/-- ITS FALSE NEIGHBOUR: 'it returns false'. Refute it at one input. -/
def packedFindsWrong : ChangeSpec := { name := "packedFinds", fn := fun _ => fun
  | [d1, d2] => { results := [.lit (.bool false)], args := [d1, d2] }
  | _ => none }
def PackedFindsWrongFalsely : Prop := packedFindsRow.holds Try.pinned (OpenSpec.ofChange packedFindsWrong)

/-- 'henkanlaw10.PackedEncodes': WHATEVER THE INPUT: true; the input reads as it did. -/
def packedEncodesSpec : ChangeSpec := { name := "packedEncodes", fn := fun _ => fun
  | [d] => { results := [.lit (.bool true)], args := [d] }
  | _ => none }
def packedEncodesRow : OpenClaim := { program := "ytleegkocahobkaa", sum := "caf1dc928ac9dbeaff4d97d6c920ad0cf0cee281285eac31a10dd13c27d6e4cd", func := "henkan/henkanlaw10.PackedEncodes", spec := "packedEncodes", apart := false }
def PackedEncodesSaid : Prop := packedEncodesRow.holds Try.pinned (OpenSpec.ofChange packedEncodesSpec)

/-- ITS FALSE NEIGHBOUR: 'it returns false'. Refute it at one input. -/
def packedEncodesWrong : ChangeSpec := { name := "packedEncodes", fn := fun _ => fun
  | [d] => { results := [.lit (.bool false)], args := [d] }
  | _ => none }
def PackedEncodesWrongFalsely : Prop := packedEncodesRow.holds Try.pinned (OpenSpec.ofChange packedEncodesWrong)

/-- 'henkanlaw10.PackedDecodes': WHATEVER THE INPUT: true; the input reads as it did. -/
def packedDecodesSpec : ChangeSpec := { name := "packedDecodes", fn := fun _ => fun
  | [d] => { results := [.lit (.bool true)], args := [d] }
  | _ => none }
def packedDecodesRow : OpenClaim := { program := "ytleegkocahobkaa", sum := "caf1dc928ac9dbeaff4d97d6c920ad0cf0cee281285eac31a10dd13c27d6e4cd", func := "henkan/henkanlaw10.PackedDecodes", spec := "packedDecodes", apart := false }
def PackedDecodesSaid : Prop := packedDecodesRow.holds Try.pinned (OpenSpec.ofChange packedDecodesSpec)

/-- ITS FALSE NEIGHBOUR: 'it returns false'. Refute it at one input. -/
def packedDecodesWrong : ChangeSpec := { name := "packedDecodes", fn := fun _ => fun
  | [d] => { results := [.lit (.bool false)], args := [d] }
  | _ => none }
def PackedDecodesWrongFalsely : Prop := packedDecodesRow.holds Try.pinned (OpenSpec.ofChange packedDecodesWrong)

/-- 'henkanlaw10.PackedBack': WHATEVER THE INPUT: true; the input reads as it did. -/
def packedBackSpec : ChangeSpec := { name := "packedBack", fn := fun _ => fun
  | [d] => { results := [.lit (.bool true)], args := [d] }
  | _ => none }
def packedBackRow : OpenClaim := { program := "ytleegkocahobkaa", sum := "caf1dc928ac9dbeaff4d97d6c920ad0cf0cee281285eac31a10dd13c27d6e4cd", func := "henkan/henkanlaw10.PackedBack", spec := "packedBack", apart := false }
def PackedBackSaid : Prop := packedBackRow.holds Try.pinned (OpenSpec.ofChange packedBackSpec)

/-- ITS FALSE NEIGHBOUR: 'it returns false'. Refute it at one input. -/
def packedBackWrong : ChangeSpec := { name := "packedBack", fn := fun _ => fun
  | [d] => { results := [.lit (.bool false)], args := [d] }
  | _ => none }
def PackedBackWrongFalsely : Prop := packedBackRow.holds Try.pinned (OpenSpec.ofChange packedBackWrong)

/-- 'henkanlaw10.PackedLeast': WHATEVER THE INPUT: true; the input reads as it did. -/
def packedLeastSpec : ChangeSpec := { name := "packedLeast", fn := fun _ => fun
  | [d] => { results := [.lit (.bool true)], args := [d] }
  | _ => none }
def packedLeastRow : OpenClaim := { program := "ytleegkocahobkaa", sum := "caf1dc928ac9dbeaff4d97d6c920ad0cf0cee281285eac31a10dd13c27d6e4cd", func := "henkan/henkanlaw10.PackedLeast", spec := "packedLeast", apart := false }
def PackedLeastSaid : Prop := packedLeastRow.holds Try.pinned (OpenSpec.ofChange packedLeastSpec)

/-- ITS FALSE NEIGHBOUR: 'it returns false'. Refute it at one input. -/
def packedLeastWrong : ChangeSpec := { name := "packedLeast", fn := fun _ => fun
  | [d] => { results := [.lit (.bool false)], args := [d] }
  | _ => none }
def PackedLeastWrongFalsely : Prop := packedLeastRow.holds Try.pinned (OpenSpec.ofChange packedLeastWrong)

/-- 'henkanlaw10.PackedOrder': WHATEVER THE INPUT: true; the input reads as it did. -/
def packedOrderSpec : ChangeSpec := { name := "packedOrder", fn := fun _ => fun
  | [d1, d2] => { results := [.lit (.bool true)], args := [d1, d2] }
  | _ => none }
def packedOrderRow : OpenClaim := { program := "ytleegkocahobkaa", sum := "caf1dc928ac9dbeaff4d97d6c920ad0cf0cee281285eac31a10dd13c27d6e4cd", func := "henkan/henkanlaw10.PackedOrder", spec := "packedOrder", unfollowed := true, recurses := true, apart := false }
def PackedOrderSaid : Prop := packedOrderRow.holds Try.pinned (OpenSpec.ofChange packedOrderSpec)

/-- ITS FALSE NEIGHBOUR: 'it returns false'. Refute it at one input. -/
def packedOrderWrong : ChangeSpec := { name := "packedOrder", fn := fun _ => fun
  | [d1, d2] => { results := [.lit (.bool false)], args := [d1, d2] }
  | _ => none }
def PackedOrderWrongFalsely : Prop := packedOrderRow.holds Try.pinned (OpenSpec.ofChange packedOrderWrong)

/-- 'henkanlaw10.PackedNone': WHATEVER THE INPUT: true; the input reads as it did. -/
def packedNoneSpec : ChangeSpec := { name := "packedNone", fn := fun _ => fun
  | [] => { results := [.lit (.bool true)], args := [] }
  | _ => none }
def packedNoneRow : OpenClaim := { program := "ytleegkocahobkaa", sum := "caf1dc928ac9dbeaff4d97d6c920ad0cf0cee281285eac31a10dd13c27d6e4cd", func := "henkan/henkanlaw10.PackedNone", spec := "packedNone", unfollowed := true, recurses := true, apart := false }
def PackedNoneSaid : Prop := packedNoneRow.holds Try.pinned (OpenSpec.ofChange packedNoneSpec)

/-- ITS FALSE NEIGHBOUR: 'it returns false'. Refute it at one input. -/
def packedNoneWrong : ChangeSpec := { name := "packedNone", fn := fun _ => fun
  | [] => { results := [.lit (.bool false)], args := [] }
  | _ => none }
def PackedNoneWrongFalsely : Prop := packedNoneRow.holds Try.pinned (OpenSpec.ofChange packedNoneWrong)

/- THE SECOND FORM. 'bulk': how many values and letters a reading holds, each counted each time it is reached (what is shared counts as often as it is met; a slice's spare places count too). A statement '..UptoSaid' is the law's where the arguments, and the package variables that the reading takes, are together of bulk at most 1048576: NARROWER than '..Said'. Prove '..Said' where nothing that the law and all that it calls make is longer than what came in: it says more and counts as full. Else prove '..UptoSaid'. A law counts once. -/
mutual
def uptoBulk {H : Type} : DataW H → Nat
  | .lit (.string bytes) => bytes.length + 1
  | .lit _ => 1
  | .nil => 1
  | .ptr d => uptoBulk d + 1
  | .slice elems spare => uptoBulkAll elems + uptoBulkAll spare + 1
  | .agg parts => uptoBulkAll parts + 1
  | .iface _ d => uptoBulk d + 1
  | .map entries => uptoBulkEntries entries + 1
  | .held _ => 1
def uptoBulkAll {H : Type} : List (DataW H) → Nat
  | [] => 0
  | d :: r => uptoBulk d + uptoBulkAll r
def uptoBulkEntries {H : Type} : List (Lit × DataW H) → Nat
  | [] => 0
  | x :: r => uptoBulkEntry x + uptoBulkEntries r
def uptoBulkEntry {H : Type} : Lit × DataW H → Nat
  | (.string bytes, d) => bytes.length + uptoBulk d + 1
  | (_, d) => uptoBulk d + 1
 end
def uptoSmall : (H : Type) → List (DataW H) → Bool := fun _ ds => decide (uptoBulkAll ds ≤ 1048576)
def OpenSpec.upto (s : _root_.Go.ChangeSpec) : _root_.Go.OpenSpec := { _root_.Go.OpenSpec.ofChange s with cond := some uptoSmall }

/-- 'henkanlaw10.PackedKeeps', WHERE WHAT IT READS IS OF BULK AT MOST 1048576: true; the input reads as it did. -/
def packedKeepsUptoRow : OpenClaim := { program := "ytleegkocahobkaa", sum := "caf1dc928ac9dbeaff4d97d6c920ad0cf0cee281285eac31a10dd13c27d6e4cd", func := "henkan/henkanlaw10.PackedKeeps", spec := "packedKeeps", apart := false, narrowed := true }
def PackedKeepsUptoSaid : Prop := packedKeepsUptoRow.holds Try.pinned (OpenSpec.upto packedKeepsSpec)

/-- 'henkanlaw10.PackedFinds', WHERE WHAT IT READS IS OF BULK AT MOST 1048576: true; the input reads as it did. -/
def packedFindsUptoRow : OpenClaim := { program := "ytleegkocahobkaa", sum := "caf1dc928ac9dbeaff4d97d6c920ad0cf0cee281285eac31a10dd13c27d6e4cd", func := "henkan/henkanlaw10.PackedFinds", spec := "packedFinds", unfollowed := true, recurses := true, apart := false, narrowed := true }
def PackedFindsUptoSaid : Prop := packedFindsUptoRow.holds Try.pinned (OpenSpec.upto packedFindsSpec)

/-- 'henkanlaw10.PackedEncodes', WHERE WHAT IT READS IS OF BULK AT MOST 1048576: true; the input reads as it did. -/
def packedEncodesUptoRow : OpenClaim := { program := "ytleegkocahobkaa", sum := "caf1dc928ac9dbeaff4d97d6c920ad0cf0cee281285eac31a10dd13c27d6e4cd", func := "henkan/henkanlaw10.PackedEncodes", spec := "packedEncodes", apart := false, narrowed := true }
def PackedEncodesUptoSaid : Prop := packedEncodesUptoRow.holds Try.pinned (OpenSpec.upto packedEncodesSpec)

/-- 'henkanlaw10.PackedDecodes', WHERE WHAT IT READS IS OF BULK AT MOST 1048576: true; the input reads as it did. -/
def packedDecodesUptoRow : OpenClaim := { program := "ytleegkocahobkaa", sum := "caf1dc928ac9dbeaff4d97d6c920ad0cf0cee281285eac31a10dd13c27d6e4cd", func := "henkan/henkanlaw10.PackedDecodes", spec := "packedDecodes", apart := false, narrowed := true }
def PackedDecodesUptoSaid : Prop := packedDecodesUptoRow.holds Try.pinned (OpenSpec.upto packedDecodesSpec)

/-- 'henkanlaw10.PackedBack', WHERE WHAT IT READS IS OF BULK AT MOST 1048576: true; the input reads as it did. -/
def packedBackUptoRow : OpenClaim := { program := "ytleegkocahobkaa", sum := "caf1dc928ac9dbeaff4d97d6c920ad0cf0cee281285eac31a10dd13c27d6e4cd", func := "henkan/henkanlaw10.PackedBack", spec := "packedBack", apart := false, narrowed := true }
def PackedBackUptoSaid : Prop := packedBackUptoRow.holds Try.pinned (OpenSpec.upto packedBackSpec)

/-- 'henkanlaw10.PackedLeast', WHERE WHAT IT READS IS OF BULK AT MOST 1048576: true; the input reads as it did. -/
def packedLeastUptoRow : OpenClaim := { program := "ytleegkocahobkaa", sum := "caf1dc928ac9dbeaff4d97d6c920ad0cf0cee281285eac31a10dd13c27d6e4cd", func := "henkan/henkanlaw10.PackedLeast", spec := "packedLeast", apart := false, narrowed := true }
def PackedLeastUptoSaid : Prop := packedLeastUptoRow.holds Try.pinned (OpenSpec.upto packedLeastSpec)

/-- 'henkanlaw10.PackedOrder', WHERE WHAT IT READS IS OF BULK AT MOST 1048576: true; the input reads as it did. -/
def packedOrderUptoRow : OpenClaim := { program := "ytleegkocahobkaa", sum := "caf1dc928ac9dbeaff4d97d6c920ad0cf0cee281285eac31a10dd13c27d6e4cd", func := "henkan/henkanlaw10.PackedOrder", spec := "packedOrder", unfollowed := true, recurses := true, apart := false, narrowed := true }
def PackedOrderUptoSaid : Prop := packedOrderUptoRow.holds Try.pinned (OpenSpec.upto packedOrderSpec)

/-- 'henkanlaw10.PackedNone', WHERE WHAT IT READS IS OF BULK AT MOST 1048576: true; the input reads as it did. -/
def packedNoneUptoRow : OpenClaim := { program := "ytleegkocahobkaa", sum := "caf1dc928ac9dbeaff4d97d6c920ad0cf0cee281285eac31a10dd13c27d6e4cd", func := "henkan/henkanlaw10.PackedNone", spec := "packedNone", unfollowed := true, recurses := true, apart := false, narrowed := true }
def PackedNoneUptoSaid : Prop := packedNoneUptoRow.holds Try.pinned (OpenSpec.upto packedNoneSpec)

end Rows
end Go.Proofs.Ytleegkocahobkaa
