/-
  No cell of these rows narrows 'for every input' (looked for: loops, veiled, ifaces, maps, wideKeys, modest, calm, conditions, laid).
  DERIVED. THE GIVEN ROWS OF THIS SEAT. 3 by the template 'for every input the law returns true; each argument reads behind the call as it read before'; 0 by the template 'total and deterministic' (their statements: YtamdlbefiggkfaaGreatTotals.lean).
  GIVEN WITH THE SEED: the statements are not yours to turn. If you find one false, say at which input.
  Laid BY PROGRAM, IN A SANDBOX (cutbox-rows.mjs): the forced cells as the released guide's own fill.sh prints them over the translation 43e776d7c626650a… (all of the seat's roots in one cut). By AI agents, Wed Nov 11 2026. No macro, syntax, notation, axiom, sorry.
-/
import Derived.Test.YtamdlbefiggkfaaGreatChecked
import GoSem.Claim
import GoSem.ClaimJoined
import GoSem.ClaimMapViews
import Derived.JoinedTies
import Derived.KernelRfl
namespace Go.Proofs.YtamdlbefiggkfaaGreat
/- THE CELL 'sum', in the pinned program and in every row, IS THE sha256 OF THE DUMP (.gsa) THAT YtamdlbefiggkfaaGreatProg.lean LOADS. Nothing in Lean hashes anything: it is a label: what it is worth is what the hold of that sum in a sandbox is worth. -/
noncomputable def Tryz.pinned : Pinned := { name := "ytamdlbefiggkfaagreat", sum := "43e776d7c626650a32c88b887d281225d70dde32172bee0a4e70f179a72025e1", checked := Tryz.checked }
namespace Rows
def none {H : Type} : Left H := { results := [], args := [] }

/-- 'henkanlaw08.ComposeInserts': WHATEVER THE INPUT: true; the input reads as it did. -/
def composeInsertsSpec : ChangeSpec := { name := "composeInserts", fn := fun _ => fun
  | [d1, d2, d3] => { results := [.lit (.bool true)], args := [d1, d2, d3] }
  | _ => none }
def composeInsertsRow : OpenClaim := { program := "ytamdlbefiggkfaagreat", sum := "43e776d7c626650a32c88b887d281225d70dde32172bee0a4e70f179a72025e1", func := "henkan/henkanlaw08.ComposeInserts", spec := "composeInserts", inPlace := ["internal/bytealg.IndexByteString", "internal/bytealg.IndexString", "internal/bytealg.abigen_runtime_cmpstring", "internal/abi.NoEscape", "internal/bytealg.MakeNoZero"], unfollowed := true, recurses := true, named := ["internal/bytealg.MaxLen"], apart := false }
def ComposeInsertsSaid : Prop := composeInsertsRow.holds Tryz.pinned (OpenSpec.ofChange composeInsertsSpec)

/-- ITS FALSE NEIGHBOUR: 'it returns false'. Refute it at one input. -/
def composeInsertsWrong : ChangeSpec := { name := "composeInserts", fn := fun _ => fun
  | [d1, d2, d3] => { results := [.lit (.bool false)], args := [d1, d2, d3] }
  | _ => none }
def ComposeInsertsWrongFalsely : Prop := composeInsertsRow.holds Tryz.pinned (OpenSpec.ofChange composeInsertsWrong)

/-- 'henkanlaw08.ComposeEdits': WHATEVER THE INPUT: true; the input reads as it did. -/
def composeEditsSpec : ChangeSpec := { name := "composeEdits", fn := fun _ => fun
  | [d1, d2, d3, d4, d5] => { results := [.lit (.bool true)], args := [d1, d2, d3, d4, d5] }
  | _ => none }
def composeEditsRow : OpenClaim := { program := "ytamdlbefiggkfaagreat", sum := "43e776d7c626650a32c88b887d281225d70dde32172bee0a4e70f179a72025e1", func := "henkan/henkanlaw08.ComposeEdits", spec := "composeEdits", inPlace := ["internal/bytealg.IndexByteString", "internal/bytealg.IndexString", "internal/bytealg.abigen_runtime_cmpstring", "internal/abi.NoEscape", "internal/bytealg.MakeNoZero"], unfollowed := true, recurses := true, named := ["internal/bytealg.MaxLen"], apart := false }
def ComposeEditsSaid : Prop := composeEditsRow.holds Tryz.pinned (OpenSpec.ofChange composeEditsSpec)

/-- ITS FALSE NEIGHBOUR: 'it returns false'. Refute it at one input. -/
def composeEditsWrong : ChangeSpec := { name := "composeEdits", fn := fun _ => fun
  | [d1, d2, d3, d4, d5] => { results := [.lit (.bool false)], args := [d1, d2, d3, d4, d5] }
  | _ => none }
def ComposeEditsWrongFalsely : Prop := composeEditsRow.holds Tryz.pinned (OpenSpec.ofChange composeEditsWrong)

/-- 'henkanlaw08.ComposePlays': WHATEVER THE INPUT: true; the input reads as it did. -/
def composePlaysSpec : ChangeSpec := { name := "composePlays", fn := fun _ => fun
  | [d] => { results := [.lit (.bool true)], args := [d] }
  | _ => none }
def composePlaysRow : OpenClaim := { program := "ytamdlbefiggkfaagreat", sum := "43e776d7c626650a32c88b887d281225d70dde32172bee0a4e70f179a72025e1", func := "henkan/henkanlaw08.ComposePlays", spec := "composePlays", inPlace := ["internal/bytealg.abigen_runtime_cmpstring", "internal/bytealg.IndexByteString", "internal/bytealg.IndexString", "internal/abi.NoEscape", "internal/bytealg.MakeNoZero"], unfollowed := true, recurses := true, named := ["internal/bytealg.MaxLen"], apart := false }
def ComposePlaysSaid : Prop := composePlaysRow.holds Tryz.pinned (OpenSpec.ofChange composePlaysSpec)

/-- ITS FALSE NEIGHBOUR: 'it returns false'. Refute it at one input. -/
def composePlaysWrong : ChangeSpec := { name := "composePlays", fn := fun _ => fun
  | [d] => { results := [.lit (.bool false)], args := [d] }
  | _ => none }
def ComposePlaysWrongFalsely : Prop := composePlaysRow.holds Tryz.pinned (OpenSpec.ofChange composePlaysWrong)

/- THE SECOND FORM. 'bulk': how many values and letters a reading holds, each counted each time it is reached (what is shared counts as often as it is met; a slice's spare places count too). A statement '..UptoSaid' is the law's where the arguments, and the package variables that the reading takes, are together of bulk at most 1048576: NARROWER than '..Said'. Prove '..Said' where nothing that the law and all that it calls make is longer than what came in: it says more and counts as full. Else prove '..UptoSaid'. A law counts once. -/
mutual
def uptoBulk {H : Type} : DataW H → Nat
  | .lit (.string bytes) => bytes.length + 1
  | .lit _ => 1
  | .nil => 1
  | .ptr d => uptoBulk d + 1
  | .slice elems spare => uptoBulkAll elems + uptoBulkAll spare + 1
  | .agg parts => uptoBulkAll parts + 1
  | .iface _ d => uptoBulk d + 1
  | .map entries => uptoBulkEntries entries + 1
  | .held _ => 1
def uptoBulkAll {H : Type} : List (DataW H) → Nat
  | [] => 0
  | d :: r => uptoBulk d + uptoBulkAll r
def uptoBulkEntries {H : Type} : List (Lit × DataW H) → Nat
  | [] => 0
  | x :: r => uptoBulkEntry x + uptoBulkEntries r
def uptoBulkEntry {H : Type} : Lit × DataW H → Nat
  | (.string bytes, d) => bytes.length + uptoBulk d + 1
  | (_, d) => uptoBulk d + 1
 end
def uptoSmall : (H : Type) → List (DataW H) → Bool := fun _ ds => decide (uptoBulkAll ds ≤ 1048576)
def OpenSpec.upto (s : _root_.Go.ChangeSpec) : _root_.Go.OpenSpec := { _root_.Go.OpenSpec.ofChange s with cond := some uptoSmall }

/-- 'henkanlaw08.ComposeInserts', WHERE WHAT IT READS IS OF BULK AT MOST 1048576: true; the input reads as it did. -/
def composeInsertsUptoRow : OpenClaim := { program := "ytamdlbefiggkfaagreat", sum := "43e776d7c626650a32c88b887d281225d70dde32172bee0a4e70f179a72025e1", func := "henkan/henkanlaw08.ComposeInserts", spec := "composeInserts", inPlace := ["internal/bytealg.IndexByteString", "internal/bytealg.IndexString", "internal/bytealg.abigen_runtime_cmpstring", "internal/abi.NoEscape", "internal/bytealg.MakeNoZero"], unfollowed := true, recurses := true, named := ["internal/bytealg.MaxLen"], apart := false, narrowed := true }
def ComposeInsertsUptoSaid : Prop := composeInsertsUptoRow.holds Tryz.pinned (OpenSpec.upto composeInsertsSpec)

/-- 'henkanlaw08.ComposeEdits', WHERE WHAT IT READS IS OF BULK AT MOST 1048576: true; the input reads as it did. -/
def composeEditsUptoRow : OpenClaim := { program := "ytamdlbefiggkfaagreat", sum := "43e776d7c626650a32c88b887d281225d70dde32172bee0a4e70f179a72025e1", func := "henkan/henkanlaw08.ComposeEdits", spec := "composeEdits", inPlace := ["internal/bytealg.IndexByteString", "internal/bytealg.IndexString", "internal/bytealg.abigen_runtime_cmpstring", "internal/abi.NoEscape", "internal/bytealg.MakeNoZero"], unfollowed := true, recurses := true, named := ["internal/bytealg.MaxLen"], apart := false, narrowed := true }
def ComposeEditsUptoSaid : Prop := composeEditsUptoRow.holds Tryz.pinned (OpenSpec.upto composeEditsSpec)

/-- 'henkanlaw08.ComposePlays', WHERE WHAT IT READS IS OF BULK AT MOST 1048576: true; the input reads as it did. -/
def composePlaysUptoRow : OpenClaim := { program := "ytamdlbefiggkfaagreat", sum := "43e776d7c626650a32c88b887d281225d70dde32172bee0a4e70f179a72025e1", func := "henkan/henkanlaw08.ComposePlays", spec := "composePlays", inPlace := ["internal/bytealg.abigen_runtime_cmpstring", "internal/bytealg.IndexByteString", "internal/bytealg.IndexString", "internal/abi.NoEscape", "internal/bytealg.MakeNoZero"], unfollowed := true, recurses := true, named := ["internal/bytealg.MaxLen"], apart := false, narrowed := true }
def ComposePlaysUptoSaid : Prop := composePlaysUptoRow.holds Tryz.pinned (OpenSpec.upto composePlaysSpec)

end Rows
end Go.Proofs.YtamdlbefiggkfaaGreat
