/-
  No cell of these rows narrows 'for every input' (looked for: loops, veiled, ifaces, maps, wideKeys, modest, calm, conditions, laid).
  DERIVED. THE GIVEN ROWS OF THIS SEAT. 6 by the template 'for every input the law returns true; each argument reads behind the call as it read before'; 0 by the template 'total and deterministic' (their statements: YtlmbbpppfghcbaaTotals.lean).
  GIVEN WITH THE SEED: the statements are not yours to turn. If you find one false, say at which input.
  Laid BY PROGRAM, IN A SANDBOX (cutbox-rows.mjs): the forced cells as the released guide's own fill.sh prints them over the translation 6f75650d8d342ee5… (all of the seat's roots in one cut). By AI agents, Wed Nov 11 2026. No macro, syntax, notation, axiom, sorry.
-/
import Derived.Test.YtlmbbpppfghcbaaChecked
import GoSem.Claim
import GoSem.ClaimJoined
import GoSem.ClaimMapViews
import Derived.JoinedTies
import Derived.KernelRfl
namespace Go.Proofs.Ytlmbbpppfghcbaa
/- THE CELL 'sum', in the pinned program and in every row, IS THE sha256 OF THE DUMP (.gsa) THAT YtlmbbpppfghcbaaProg.lean LOADS. Nothing in Lean hashes anything: it is a label: what it is worth is what the hold of that sum in a sandbox is worth. -/
noncomputable def Try.pinned : Pinned := { name := "ytlmbbpppfghcbaa", sum := "6f75650d8d342ee5ca6878489bdda16b55064e2cdb0425af38774f02e4bfb389", checked := Try.checked }
namespace Rows
def none {H : Type} : Left H := { results := [], args := [] }

/-- 'henkanlaw08.ComposeChecks': WHATEVER THE INPUT: true; the input reads as it did. -/
def composeChecksSpec : ChangeSpec := { name := "composeChecks", fn := fun _ => fun
  | [d] => { results := [.lit (.bool true)], args := [d] }
  | _ => none }
def composeChecksRow : OpenClaim := { program := "ytlmbbpppfghcbaa", sum := "6f75650d8d342ee5ca6878489bdda16b55064e2cdb0425af38774f02e4bfb389", func := "henkan/henkanlaw08.ComposeChecks", spec := "composeChecks", inPlace := ["internal/abi.NoEscape", "internal/bytealg.MakeNoZero", "internal/bytealg.abigen_runtime_cmpstring", "internal/bytealg.IndexByteString", "internal/bytealg.IndexString"], unfollowed := true, recurses := true, named := ["internal/bytealg.MaxLen"], plainKeys := false, apart := false }
def ComposeChecksSaid : Prop := composeChecksRow.holds Try.pinned (OpenSpec.ofChange composeChecksSpec)

/-- ITS FALSE NEIGHBOUR: 'it returns false'. Refute it at one input. -/
def composeChecksWrong : ChangeSpec := { name := "composeChecks", fn := fun _ => fun
  | [d] => { results := [.lit (.bool false)], args := [d] }
  | _ => none }
def ComposeChecksWrongFalsely : Prop := composeChecksRow.holds Try.pinned (OpenSpec.ofChange composeChecksWrong)

/-- 'henkanlaw08.ComposeTypes': WHATEVER THE INPUT: true; the input reads as it did. -/
def composeTypesSpec : ChangeSpec := { name := "composeTypes", fn := fun _ => fun
  | [d1, d2] => { results := [.lit (.bool true)], args := [d1, d2] }
  | _ => none }
def composeTypesRow : OpenClaim := { program := "ytlmbbpppfghcbaa", sum := "6f75650d8d342ee5ca6878489bdda16b55064e2cdb0425af38774f02e4bfb389", func := "henkan/henkanlaw08.ComposeTypes", spec := "composeTypes", inPlace := ["internal/bytealg.IndexByteString", "internal/bytealg.IndexString", "internal/bytealg.abigen_runtime_cmpstring", "internal/abi.NoEscape", "internal/bytealg.MakeNoZero"], unfollowed := true, recurses := true, named := ["internal/bytealg.MaxLen"], plainKeys := false, apart := false }
def ComposeTypesSaid : Prop := composeTypesRow.holds Try.pinned (OpenSpec.ofChange composeTypesSpec)

/-- ITS FALSE NEIGHBOUR: 'it returns false'. Refute it at one input. -/
def composeTypesWrong : ChangeSpec := { name := "composeTypes", fn := fun _ => fun
  | [d1, d2] => { results := [.lit (.bool false)], args := [d1, d2] }
  | _ => none }
def ComposeTypesWrongFalsely : Prop := composeTypesRow.holds Try.pinned (OpenSpec.ofChange composeTypesWrong)

/-- 'henkanlaw08.ComposeKeeps': WHATEVER THE INPUT: true; the input reads as it did. -/
def composeKeepsSpec : ChangeSpec := { name := "composeKeeps", fn := fun _ => fun
  | [d1, d2, d3] => { results := [.lit (.bool true)], args := [d1, d2, d3] }
  | _ => none }
def composeKeepsRow : OpenClaim := { program := "ytlmbbpppfghcbaa", sum := "6f75650d8d342ee5ca6878489bdda16b55064e2cdb0425af38774f02e4bfb389", func := "henkan/henkanlaw08.ComposeKeeps", spec := "composeKeeps", inPlace := ["internal/bytealg.IndexByteString", "internal/bytealg.IndexString", "internal/bytealg.abigen_runtime_cmpstring", "internal/abi.NoEscape", "internal/bytealg.MakeNoZero"], unfollowed := true, recurses := true, named := ["internal/bytealg.MaxLen"], plainKeys := false, apart := false }
def ComposeKeepsSaid : Prop := composeKeepsRow.holds Try.pinned (OpenSpec.ofChange composeKeepsSpec)

/-- ITS FALSE NEIGHBOUR: 'it returns false'. Refute it at one input. -/
def composeKeepsWrong : ChangeSpec := { name := "composeKeeps", fn := fun _ => fun
  | [d1, d2, d3] => { results := [.lit (.bool false)], args := [d1, d2, d3] }
  | _ => none }
def ComposeKeepsWrongFalsely : Prop := composeKeepsRow.holds Try.pinned (OpenSpec.ofChange composeKeepsWrong)

/-- 'henkanlaw08.ComposeUndoes': WHATEVER THE INPUT: true; the input reads as it did. -/
def composeUndoesSpec : ChangeSpec := { name := "composeUndoes", fn := fun _ => fun
  | [d1, d2] => { results := [.lit (.bool true)], args := [d1, d2] }
  | _ => none }
def composeUndoesRow : OpenClaim := { program := "ytlmbbpppfghcbaa", sum := "6f75650d8d342ee5ca6878489bdda16b55064e2cdb0425af38774f02e4bfb389", func := "henkan/henkanlaw08.ComposeUndoes", spec := "composeUndoes", inPlace := ["internal/abi.NoEscape", "internal/bytealg.MakeNoZero", "internal/bytealg.abigen_runtime_cmpstring", "internal/bytealg.IndexByteString", "internal/bytealg.IndexString"], unfollowed := true, recurses := true, named := ["internal/bytealg.MaxLen"], plainKeys := false, apart := false }
def ComposeUndoesSaid : Prop := composeUndoesRow.holds Try.pinned (OpenSpec.ofChange composeUndoesSpec)

/-- ITS FALSE NEIGHBOUR: 'it returns false'. Refute it at one input. -/
def composeUndoesWrong : ChangeSpec := { name := "composeUndoes", fn := fun _ => fun
  | [d1, d2] => { results := [.lit (.bool false)], args := [d1, d2] }
  | _ => none }
def ComposeUndoesWrongFalsely : Prop := composeUndoesRow.holds Try.pinned (OpenSpec.ofChange composeUndoesWrong)

/-- 'henkanlaw08.ComposeKnown': WHATEVER THE INPUT: true; the input reads as it did. -/
def composeKnownSpec : ChangeSpec := { name := "composeKnown", fn := fun _ => fun
  | [] => { results := [.lit (.bool true)], args := [] }
  | _ => none }
def composeKnownRow : OpenClaim := { program := "ytlmbbpppfghcbaa", sum := "6f75650d8d342ee5ca6878489bdda16b55064e2cdb0425af38774f02e4bfb389", func := "henkan/henkanlaw08.ComposeKnown", spec := "composeKnown", inPlace := ["internal/bytealg.abigen_runtime_cmpstring", "internal/bytealg.IndexByteString", "internal/bytealg.IndexString", "internal/abi.NoEscape", "internal/bytealg.MakeNoZero"], unfollowed := true, recurses := true, named := ["internal/bytealg.MaxLen"], plainKeys := false, apart := false }
def ComposeKnownSaid : Prop := composeKnownRow.holds Try.pinned (OpenSpec.ofChange composeKnownSpec)

/-- ITS FALSE NEIGHBOUR: 'it returns false'. Refute it at one input. -/
def composeKnownWrong : ChangeSpec := { name := "composeKnown", fn := fun _ => fun
  | [] => { results := [.lit (.bool false)], args := [] }
  | _ => none }
def ComposeKnownWrongFalsely : Prop := composeKnownRow.holds Try.pinned (OpenSpec.ofChange composeKnownWrong)

/-- 'henkantop.TopTypes': WHATEVER THE INPUT: true; the input reads as it did. -/
def topTypesSpec : ChangeSpec := { name := "topTypes", fn := fun _ => fun
  | [d] => { results := [.lit (.bool true)], args := [d] }
  | _ => none }
def topTypesRow : OpenClaim := { program := "ytlmbbpppfghcbaa", sum := "6f75650d8d342ee5ca6878489bdda16b55064e2cdb0425af38774f02e4bfb389", func := "henkan/henkantop.TopTypes", spec := "topTypes", inPlace := ["internal/bytealg.abigen_runtime_cmpstring", "internal/bytealg.IndexByteString", "internal/bytealg.IndexString", "internal/abi.NoEscape"], unfollowed := true, recurses := true, named := ["internal/bytealg.MaxLen"], plainKeys := false, apart := false }
def TopTypesSaid : Prop := topTypesRow.holds Try.pinned (OpenSpec.ofChange topTypesSpec)

/-- ITS FALSE NEIGHBOUR: 'it returns false'. Refute it at one input. -/
def topTypesWrong : ChangeSpec := { name := "topTypes", fn := fun _ => fun
  | [d] => { results := [.lit (.bool false)], args := [d] }
  | _ => none }
def TopTypesWrongFalsely : Prop := topTypesRow.holds Try.pinned (OpenSpec.ofChange topTypesWrong)

/- THE SECOND FORM. 'bulk': how many values and letters a reading holds, each counted each time it is reached (what is shared counts as often as it is met; a slice's spare places count too). A statement '..UptoSaid' is the law's where the arguments, and the package variables that the reading takes, are together of bulk at most 1048576: NARROWER than '..Said'. Prove '..Said' where nothing that the law and all that it calls make is longer than what came in: it says more and counts as full. Else prove '..UptoSaid'. A law counts once. -/
mutual
def uptoBulk {H : Type} : DataW H → Nat
  | .lit (.string bytes) => bytes.length + 1
  | .lit _ => 1
  | .nil => 1
  | .ptr d => uptoBulk d + 1
  | .slice elems spare => uptoBulkAll elems + uptoBulkAll spare + 1
  | .agg parts => uptoBulkAll parts + 1
  | .iface _ d => uptoBulk d + 1
  | .map entries => uptoBulkEntries entries + 1
  | .held _ => 1
def uptoBulkAll {H : Type} : List (DataW H) → Nat
  | [] => 0
  | d :: r => uptoBulk d + uptoBulkAll r
def uptoBulkEntries {H : Type} : List (Lit × DataW H) → Nat
  | [] => 0
  | x :: r => uptoBulkEntry x + uptoBulkEntries r
def uptoBulkEntry {H : Type} : Lit × DataW H → Nat
  | (.string bytes, d) => bytes.length + uptoBulk d + 1
  | (_, d) => uptoBulk d + 1
 end
def uptoSmall : (H : Type) → List (DataW H) → Bool := fun _ ds => decide (uptoBulkAll ds ≤ 1048576)
def OpenSpec.upto (s : _root_.Go.ChangeSpec) : _root_.Go.OpenSpec := { _root_.Go.OpenSpec.ofChange s with cond := some uptoSmall }

/-- 'henkanlaw08.ComposeChecks', WHERE WHAT IT READS IS OF BULK AT MOST 1048576: true; the input reads as it did. -/
def composeChecksUptoRow : OpenClaim := { program := "ytlmbbpppfghcbaa", sum := "6f75650d8d342ee5ca6878489bdda16b55064e2cdb0425af38774f02e4bfb389", func := "henkan/henkanlaw08.ComposeChecks", spec := "composeChecks", inPlace := ["internal/abi.NoEscape", "internal/bytealg.MakeNoZero", "internal/bytealg.abigen_runtime_cmpstring", "internal/bytealg.IndexByteString", "internal/bytealg.IndexString"], unfollowed := true, recurses := true, named := ["internal/bytealg.MaxLen"], plainKeys := false, apart := false, narrowed := true }
def ComposeChecksUptoSaid : Prop := composeChecksUptoRow.holds Try.pinned (OpenSpec.upto composeChecksSpec)

/-- 'henkanlaw08.ComposeTypes', WHERE WHAT IT READS IS OF BULK AT MOST 1048576: true; the input reads as it did. -/
def composeTypesUptoRow : OpenClaim := { program := "ytlmbbpppfghcbaa", sum := "6f75650d8d342ee5ca6878489bdda16b55064e2cdb0425af38774f02e4bfb389", func := "henkan/henkanlaw08.ComposeTypes", spec := "composeTypes", inPlace := ["internal/bytealg.IndexByteString", "internal/bytealg.IndexString", "internal/bytealg.abigen_runtime_cmpstring", "internal/abi.NoEscape", "internal/bytealg.MakeNoZero"], unfollowed := true, recurses := true, named := ["internal/bytealg.MaxLen"], plainKeys := false, apart := false, narrowed := true }
def ComposeTypesUptoSaid : Prop := composeTypesUptoRow.holds Try.pinned (OpenSpec.upto composeTypesSpec)

/-- 'henkanlaw08.ComposeKeeps', WHERE WHAT IT READS IS OF BULK AT MOST 1048576: true; the input reads as it did. -/
def composeKeepsUptoRow : OpenClaim := { program := "ytlmbbpppfghcbaa", sum := "6f75650d8d342ee5ca6878489bdda16b55064e2cdb0425af38774f02e4bfb389", func := "henkan/henkanlaw08.ComposeKeeps", spec := "composeKeeps", inPlace := ["internal/bytealg.IndexByteString", "internal/bytealg.IndexString", "internal/bytealg.abigen_runtime_cmpstring", "internal/abi.NoEscape", "internal/bytealg.MakeNoZero"], unfollowed := true, recurses := true, named := ["internal/bytealg.MaxLen"], plainKeys := false, apart := false, narrowed := true }
def ComposeKeepsUptoSaid : Prop := composeKeepsUptoRow.holds Try.pinned (OpenSpec.upto composeKeepsSpec)

/-- 'henkanlaw08.ComposeUndoes', WHERE WHAT IT READS IS OF BULK AT MOST 1048576: true; the input reads as it did. -/
def composeUndoesUptoRow : OpenClaim := { program := "ytlmbbpppfghcbaa", sum := "6f75650d8d342ee5ca6878489bdda16b55064e2cdb0425af38774f02e4bfb389", func := "henkan/henkanlaw08.ComposeUndoes", spec := "composeUndoes", inPlace := ["internal/abi.NoEscape", "internal/bytealg.MakeNoZero", "internal/bytealg.abigen_runtime_cmpstring", "internal/bytealg.IndexByteString", "internal/bytealg.IndexString"], unfollowed := true, recurses := true, named := ["internal/bytealg.MaxLen"], plainKeys := false, apart := false, narrowed := true }
def ComposeUndoesUptoSaid : Prop := composeUndoesUptoRow.holds Try.pinned (OpenSpec.upto composeUndoesSpec)

/-- 'henkanlaw08.ComposeKnown', WHERE WHAT IT READS IS OF BULK AT MOST 1048576: true; the input reads as it did. -/
def composeKnownUptoRow : OpenClaim := { program := "ytlmbbpppfghcbaa", sum := "6f75650d8d342ee5ca6878489bdda16b55064e2cdb0425af38774f02e4bfb389", func := "henkan/henkanlaw08.ComposeKnown", spec := "composeKnown", inPlace := ["internal/bytealg.abigen_runtime_cmpstring", "internal/bytealg.IndexByteString", "internal/bytealg.IndexString", "internal/abi.NoEscape", "internal/bytealg.MakeNoZero"], unfollowed := true, recurses := true, named := ["internal/bytealg.MaxLen"], plainKeys := false, apart := false, narrowed := true }
def ComposeKnownUptoSaid : Prop := composeKnownUptoRow.holds Try.pinned (OpenSpec.upto composeKnownSpec)

/-- 'henkantop.TopTypes', WHERE WHAT IT READS IS OF BULK AT MOST 1048576: true; the input reads as it did. -/
def topTypesUptoRow : OpenClaim := { program := "ytlmbbpppfghcbaa", sum := "6f75650d8d342ee5ca6878489bdda16b55064e2cdb0425af38774f02e4bfb389", func := "henkan/henkantop.TopTypes", spec := "topTypes", inPlace := ["internal/bytealg.abigen_runtime_cmpstring", "internal/bytealg.IndexByteString", "internal/bytealg.IndexString", "internal/abi.NoEscape"], unfollowed := true, recurses := true, named := ["internal/bytealg.MaxLen"], plainKeys := false, apart := false, narrowed := true }
def TopTypesUptoSaid : Prop := topTypesUptoRow.holds Try.pinned (OpenSpec.upto topTypesSpec)

end Rows
end Go.Proofs.Ytlmbbpppfghcbaa
