/-
  No cell of these rows narrows 'for every input' (looked for: loops, veiled, ifaces, maps, wideKeys, modest, calm, conditions, laid).
  DERIVED. THE GIVEN ROWS OF THIS SEAT. 12 by the template 'for every input the law returns true; each argument reads behind the call as it read before'; 0 by the template 'total and deterministic' (their statements: YtffljcfpofhkgaaTotals.lean).
  GIVEN WITH THE SEED: the statements are not yours to turn. If you find one false, say at which input.
  Laid BY PROGRAM, IN A SANDBOX (cutbox-rows.mjs): the forced cells as the released guide's own fill.sh prints them over the translation f914411a9fcb56c7… (all of the seat's roots in one cut). By AI agents, Wed Nov 11 2026. No macro, syntax, notation, axiom, sorry.
-/
import Derived.Test.YtffljcfpofhkgaaChecked
import GoSem.Claim
import GoSem.ClaimJoined
import GoSem.ClaimMapViews
import Derived.JoinedTies
import Derived.KernelRfl
namespace Go.Proofs.Ytffljcfpofhkgaa
/- THE CELL 'sum', in the pinned program and in every row, IS THE sha256 OF THE DUMP (.gsa) THAT YtffljcfpofhkgaaProg.lean LOADS. Nothing in Lean hashes anything: it is a label: what it is worth is what the hold of that sum in a sandbox is worth. -/
noncomputable def Try.pinned : Pinned := { name := "ytffljcfpofhkgaa", sum := "f914411a9fcb56c75ef1430e046a0da897c85ba99a31e8ea7c63127a3a4684d4", checked := Try.checked }
namespace Rows
def none {H : Type} : Left H := { results := [], args := [] }

/-- 'henkanlaw11.LoudsBuilds': WHATEVER THE INPUT: true; the input reads as it did. -/
def loudsBuildsSpec : ChangeSpec := { name := "loudsBuilds", fn := fun _ => fun
  | [d] => { results := [.lit (.bool true)], args := [d] }
  | _ => none }
def loudsBuildsRow : OpenClaim := { program := "ytffljcfpofhkgaa", sum := "f914411a9fcb56c75ef1430e046a0da897c85ba99a31e8ea7c63127a3a4684d4", func := "henkan/henkanlaw11.LoudsBuilds", spec := "loudsBuilds", unfollowed := true, recurses := true, apart := false }
def LoudsBuildsSaid : Prop := loudsBuildsRow.holds Try.pinned (OpenSpec.ofChange loudsBuildsSpec)

/-- ITS FALSE NEIGHBOUR: 'it returns false'. Refute it at one input. -/
def loudsBuildsWrong : ChangeSpec := { name := "loudsBuilds", fn := fun _ => fun
  | [d] => { results := [.lit (.bool false)], args := [d] }
  | _ => none }
def LoudsBuildsWrongFalsely : Prop := loudsBuildsRow.holds Try.pinned (OpenSpec.ofChange loudsBuildsWrong)

/-- 'henkanlaw11.LoudsFinds': WHATEVER THE INPUT: true; the input reads as it did. -/
def loudsFindsSpec : ChangeSpec := { name := "loudsFinds", fn := fun _ => fun
  | [d1, d2] => { results := [.lit (.bool true)], args := [d1, d2] }
  | _ => none }
def loudsFindsRow : OpenClaim := { program := "ytffljcfpofhkgaa", sum := "f914411a9fcb56c75ef1430e046a0da897c85ba99a31e8ea7c63127a3a4684d4", func := "henkan/henkanlaw11.LoudsFinds", spec := "loudsFinds", unfollowed := true, recurses := true, apart := false }
def LoudsFindsSaid : Prop := loudsFindsRow.holds Try.pinned (OpenSpec.ofChange loudsFindsSpec)

/-- ITS FALSE NEIGHBOUR: 'it returns false'. Refute it at one input. -/
def loudsFindsWrong : ChangeSpec := { name := "loudsFinds", fn := fun _ => fun
  | [d1, d2] => { results := [.lit (.bool false)], args := [d1, d2] }
  | _ => none }
def LoudsFindsWrongFalsely : Prop := loudsFindsRow.holds Try.pinned (OpenSpec.ofChange loudsFindsWrong)

/-- 'henkanlaw11.LoudsUnder': WHATEVER THE INPUT: true; the input reads as it did. -/
def loudsUnderSpec : ChangeSpec := { name := "loudsUnder", fn := fun _ => fun
  | [d1, d2, d3] => { results := [.lit (.bool true)], args := [d1, d2, d3] }
  | _ => none }
def loudsUnderRow : OpenClaim := { program := "ytffljcfpofhkgaa", sum := "f914411a9fcb56c75ef1430e046a0da897c85ba99a31e8ea7c63127a3a4684d4", func := "henkan/henkanlaw11.LoudsUnder", spec := "loudsUnder", unfollowed := true, recurses := true, apart := false }
def LoudsUnderSaid : Prop := loudsUnderRow.holds Try.pinned (OpenSpec.ofChange loudsUnderSpec)

/-- ITS FALSE NEIGHBOUR: 'it returns false'. Refute it at one input. -/
def loudsUnderWrong : ChangeSpec := { name := "loudsUnder", fn := fun _ => fun
  | [d1, d2, d3] => { results := [.lit (.bool false)], args := [d1, d2, d3] }
  | _ => none }
def LoudsUnderWrongFalsely : Prop := loudsUnderRow.holds Try.pinned (OpenSpec.ofChange loudsUnderWrong)

/-- 'henkanlaw11.LoudsTexts': WHATEVER THE INPUT: true; the input reads as it did. -/
def loudsTextsSpec : ChangeSpec := { name := "loudsTexts", fn := fun _ => fun
  | [d1, d2] => { results := [.lit (.bool true)], args := [d1, d2] }
  | _ => none }
def loudsTextsRow : OpenClaim := { program := "ytffljcfpofhkgaa", sum := "f914411a9fcb56c75ef1430e046a0da897c85ba99a31e8ea7c63127a3a4684d4", func := "henkan/henkanlaw11.LoudsTexts", spec := "loudsTexts", unfollowed := true, recurses := true, apart := false }
def LoudsTextsSaid : Prop := loudsTextsRow.holds Try.pinned (OpenSpec.ofChange loudsTextsSpec)

/-- ITS FALSE NEIGHBOUR: 'it returns false'. Refute it at one input. -/
def loudsTextsWrong : ChangeSpec := { name := "loudsTexts", fn := fun _ => fun
  | [d1, d2] => { results := [.lit (.bool false)], args := [d1, d2] }
  | _ => none }
def LoudsTextsWrongFalsely : Prop := loudsTextsRow.holds Try.pinned (OpenSpec.ofChange loudsTextsWrong)

/-- 'henkanlaw11.LoudsCodes': WHATEVER THE INPUT: true; the input reads as it did. -/
def loudsCodesSpec : ChangeSpec := { name := "loudsCodes", fn := fun _ => fun
  | [d] => { results := [.lit (.bool true)], args := [d] }
  | _ => none }
def loudsCodesRow : OpenClaim := { program := "ytffljcfpofhkgaa", sum := "f914411a9fcb56c75ef1430e046a0da897c85ba99a31e8ea7c63127a3a4684d4", func := "henkan/henkanlaw11.LoudsCodes", spec := "loudsCodes", unfollowed := true, recurses := true, apart := false }
def LoudsCodesSaid : Prop := loudsCodesRow.holds Try.pinned (OpenSpec.ofChange loudsCodesSpec)

/-- ITS FALSE NEIGHBOUR: 'it returns false'. Refute it at one input. -/
def loudsCodesWrong : ChangeSpec := { name := "loudsCodes", fn := fun _ => fun
  | [d] => { results := [.lit (.bool false)], args := [d] }
  | _ => none }
def LoudsCodesWrongFalsely : Prop := loudsCodesRow.holds Try.pinned (OpenSpec.ofChange loudsCodesWrong)

/-- 'henkanlaw11.LoudsDecodes': WHATEVER THE INPUT: true; the input reads as it did. -/
def loudsDecodesSpec : ChangeSpec := { name := "loudsDecodes", fn := fun _ => fun
  | [d] => { results := [.lit (.bool true)], args := [d] }
  | _ => none }
def loudsDecodesRow : OpenClaim := { program := "ytffljcfpofhkgaa", sum := "f914411a9fcb56c75ef1430e046a0da897c85ba99a31e8ea7c63127a3a4684d4", func := "henkan/henkanlaw11.LoudsDecodes", spec := "loudsDecodes", unfollowed := true, recurses := true, apart := false }
def LoudsDecodesSaid : Prop := loudsDecodesRow.holds Try.pinned (OpenSpec.ofChange loudsDecodesSpec)

/-- ITS FALSE NEIGHBOUR: 'it returns false'. Refute it at one input. -/
def loudsDecodesWrong : ChangeSpec := { name := "loudsDecodes", fn := fun _ => fun
  | [d] => { results := [.lit (.bool false)], args := [d] }
  | _ => none }
def LoudsDecodesWrongFalsely : Prop := loudsDecodesRow.holds Try.pinned (OpenSpec.ofChange loudsDecodesWrong)

/-- 'henkanlaw11.LoudsSet': WHATEVER THE INPUT: true; the input reads as it did. -/
def loudsSetSpec : ChangeSpec := { name := "loudsSet", fn := fun _ => fun
  | [d1, d2] => { results := [.lit (.bool true)], args := [d1, d2] }
  | _ => none }
def loudsSetRow : OpenClaim := { program := "ytffljcfpofhkgaa", sum := "f914411a9fcb56c75ef1430e046a0da897c85ba99a31e8ea7c63127a3a4684d4", func := "henkan/henkanlaw11.LoudsSet", spec := "loudsSet", unfollowed := true, recurses := true, apart := false }
def LoudsSetSaid : Prop := loudsSetRow.holds Try.pinned (OpenSpec.ofChange loudsSetSpec)

/-- ITS FALSE NEIGHBOUR: 'it returns false'. Refute it at one input. -/
def loudsSetWrong : ChangeSpec := { name := "loudsSet", fn := fun _ => fun
  | [d1, d2] => { results := [.lit (.bool false)], args := [d1, d2] }
  | _ => none }
def LoudsSetWrongFalsely : Prop := loudsSetRow.holds Try.pinned (OpenSpec.ofChange loudsSetWrong)

/-- 'henkanlaw11.LoudsNeighbours': WHATEVER THE INPUT: true; the input reads as it did. -/
def loudsNeighboursSpec : ChangeSpec := { name := "loudsNeighbours", fn := fun _ => fun
  | [d1, d2, d3] => { results := [.lit (.bool true)], args := [d1, d2, d3] }
  | _ => none }
def loudsNeighboursRow : OpenClaim := { program := "ytffljcfpofhkgaa", sum := "f914411a9fcb56c75ef1430e046a0da897c85ba99a31e8ea7c63127a3a4684d4", func := "henkan/henkanlaw11.LoudsNeighbours", spec := "loudsNeighbours", unfollowed := true, recurses := true, apart := false }
def LoudsNeighboursSaid : Prop := loudsNeighboursRow.holds Try.pinned (OpenSpec.ofChange loudsNeighboursSpec)

/-- ITS FALSE NEIGHBOUR: 'it returns false'. Refute it at one input. -/
def loudsNeighboursWrong : ChangeSpec := { name := "loudsNeighbours", fn := fun _ => fun
  | [d1, d2, d3] => { results := [.lit (.bool false)], args := [d1, d2, d3] }
  | _ => none }
def LoudsNeighboursWrongFalsely : Prop := loudsNeighboursRow.holds Try.pinned (OpenSpec.ofChange loudsNeighboursWrong)

/-- 'henkanlaw11.LoudsBack': WHATEVER THE INPUT: true; the input reads as it did. -/
def loudsBackSpec : ChangeSpec := { name := "loudsBack", fn := fun _ => fun
  | [d] => { results := [.lit (.bool true)], args := [d] }
  | _ => none }
def loudsBackRow : OpenClaim := { program := "ytffljcfpofhkgaa", sum := "f914411a9fcb56c75ef1430e046a0da897c85ba99a31e8ea7c63127a3a4684d4", func := "henkan/henkanlaw11.LoudsBack", spec := "loudsBack", unfollowed := true, recurses := true, apart := false }
def LoudsBackSaid : Prop := loudsBackRow.holds Try.pinned (OpenSpec.ofChange loudsBackSpec)

/-- ITS FALSE NEIGHBOUR: 'it returns false'. Refute it at one input. -/
def loudsBackWrong : ChangeSpec := { name := "loudsBack", fn := fun _ => fun
  | [d] => { results := [.lit (.bool false)], args := [d] }
  | _ => none }
def LoudsBackWrongFalsely : Prop := loudsBackRow.holds Try.pinned (OpenSpec.ofChange loudsBackWrong)

/-- 'henkanlaw11.LoudsOneCode': WHATEVER THE INPUT: true; the input reads as it did. -/
def loudsOneCodeSpec : ChangeSpec := { name := "loudsOneCode", fn := fun _ => fun
  | [d] => { results := [.lit (.bool true)], args := [d] }
  | _ => none }
def loudsOneCodeRow : OpenClaim := { program := "ytffljcfpofhkgaa", sum := "f914411a9fcb56c75ef1430e046a0da897c85ba99a31e8ea7c63127a3a4684d4", func := "henkan/henkanlaw11.LoudsOneCode", spec := "loudsOneCode", unfollowed := true, recurses := true, apart := false }
def LoudsOneCodeSaid : Prop := loudsOneCodeRow.holds Try.pinned (OpenSpec.ofChange loudsOneCodeSpec)

/-- ITS FALSE NEIGHBOUR: 'it returns false'. Refute it at one input. -/
def loudsOneCodeWrong : ChangeSpec := { name := "loudsOneCode", fn := fun _ => fun
  | [d] => { results := [.lit (.bool false)], args := [d] }
  | _ => none }
def LoudsOneCodeWrongFalsely : Prop := loudsOneCodeRow.holds Try.pinned (OpenSpec.ofChange loudsOneCodeWrong)

/-- 'henkanlaw11.LoudsOwn': WHATEVER THE INPUT: true; the input reads as it did. -/
def loudsOwnSpec : ChangeSpec := { name := "loudsOwn", fn := fun _ => fun
  | [d] => { results := [.lit (.bool true)], args := [d] }
  | _ => none }
def loudsOwnRow : OpenClaim := { program := "ytffljcfpofhkgaa", sum := "f914411a9fcb56c75ef1430e046a0da897c85ba99a31e8ea7c63127a3a4684d4", func := "henkan/henkanlaw11.LoudsOwn", spec := "loudsOwn", unfollowed := true, recurses := true, apart := false }
def LoudsOwnSaid : Prop := loudsOwnRow.holds Try.pinned (OpenSpec.ofChange loudsOwnSpec)

/-- ITS FALSE NEIGHBOUR: 'it returns false'. Refute it at one input. -/
def loudsOwnWrong : ChangeSpec := { name := "loudsOwn", fn := fun _ => fun
  | [d] => { results := [.lit (.bool false)], args := [d] }
  | _ => none }
def LoudsOwnWrongFalsely : Prop := loudsOwnRow.holds Try.pinned (OpenSpec.ofChange loudsOwnWrong)

/-- 'henkanlaw11.LoudsKnown': WHATEVER THE INPUT: true; the input reads as it did. -/
def loudsKnownSpec : ChangeSpec := { name := "loudsKnown", fn := fun _ => fun
  | [] => { results := [.lit (.bool true)], args := [] }
  | _ => none }
def loudsKnownRow : OpenClaim := { program := "ytffljcfpofhkgaa", sum := "f914411a9fcb56c75ef1430e046a0da897c85ba99a31e8ea7c63127a3a4684d4", func := "henkan/henkanlaw11.LoudsKnown", spec := "loudsKnown", unfollowed := true, recurses := true, apart := false }
def LoudsKnownSaid : Prop := loudsKnownRow.holds Try.pinned (OpenSpec.ofChange loudsKnownSpec)

/-- ITS FALSE NEIGHBOUR: 'it returns false'. Refute it at one input. -/
def loudsKnownWrong : ChangeSpec := { name := "loudsKnown", fn := fun _ => fun
  | [] => { results := [.lit (.bool false)], args := [] }
  | _ => none }
def LoudsKnownWrongFalsely : Prop := loudsKnownRow.holds Try.pinned (OpenSpec.ofChange loudsKnownWrong)

/- THE SECOND FORM. 'bulk': how many values and letters a reading holds, each counted each time it is reached (what is shared counts as often as it is met; a slice's spare places count too). A statement '..UptoSaid' is the law's where the arguments, and the package variables that the reading takes, are together of bulk at most 1048576: NARROWER than '..Said'. Prove '..Said' where nothing that the law and all that it calls make is longer than what came in: it says more and counts as full. Else prove '..UptoSaid'. A law counts once. -/
mutual
def uptoBulk {H : Type} : DataW H → Nat
  | .lit (.string bytes) => bytes.length + 1
  | .lit _ => 1
  | .nil => 1
  | .ptr d => uptoBulk d + 1
  | .slice elems spare => uptoBulkAll elems + uptoBulkAll spare + 1
  | .agg parts => uptoBulkAll parts + 1
  | .iface _ d => uptoBulk d + 1
  | .map entries => uptoBulkEntries entries + 1
  | .held _ => 1
def uptoBulkAll {H : Type} : List (DataW H) → Nat
  | [] => 0
  | d :: r => uptoBulk d + uptoBulkAll r
def uptoBulkEntries {H : Type} : List (Lit × DataW H) → Nat
  | [] => 0
  | x :: r => uptoBulkEntry x + uptoBulkEntries r
def uptoBulkEntry {H : Type} : Lit × DataW H → Nat
  | (.string bytes, d) => bytes.length + uptoBulk d + 1
  | (_, d) => uptoBulk d + 1
 end
def uptoSmall : (H : Type) → List (DataW H) → Bool := fun _ ds => decide (uptoBulkAll ds ≤ 1048576)
def OpenSpec.upto (s : _root_.Go.ChangeSpec) : _root_.Go.OpenSpec := { _root_.Go.OpenSpec.ofChange s with cond := some uptoSmall }

/-- 'henkanlaw11.LoudsBuilds', WHERE WHAT IT READS IS OF BULK AT MOST 1048576: true; the input reads as it did. -/
def loudsBuildsUptoRow : OpenClaim := { program := "ytffljcfpofhkgaa", sum := "f914411a9fcb56c75ef1430e046a0da897c85ba99a31e8ea7c63127a3a4684d4", func := "henkan/henkanlaw11.LoudsBuilds", spec := "loudsBuilds", unfollowed := true, recurses := true, apart := false, narrowed := true }
def LoudsBuildsUptoSaid : Prop := loudsBuildsUptoRow.holds Try.pinned (OpenSpec.upto loudsBuildsSpec)

/-- 'henkanlaw11.LoudsFinds', WHERE WHAT IT READS IS OF BULK AT MOST 1048576: true; the input reads as it did. -/
def loudsFindsUptoRow : OpenClaim := { program := "ytffljcfpofhkgaa", sum := "f914411a9fcb56c75ef1430e046a0da897c85ba99a31e8ea7c63127a3a4684d4", func := "henkan/henkanlaw11.LoudsFinds", spec := "loudsFinds", unfollowed := true, recurses := true, apart := false, narrowed := true }
def LoudsFindsUptoSaid : Prop := loudsFindsUptoRow.holds Try.pinned (OpenSpec.upto loudsFindsSpec)

/-- 'henkanlaw11.LoudsUnder', WHERE WHAT IT READS IS OF BULK AT MOST 1048576: true; the input reads as it did. -/
def loudsUnderUptoRow : OpenClaim := { program := "ytffljcfpofhkgaa", sum := "f914411a9fcb56c75ef1430e046a0da897c85ba99a31e8ea7c63127a3a4684d4", func := "henkan/henkanlaw11.LoudsUnder", spec := "loudsUnder", unfollowed := true, recurses := true, apart := false, narrowed := true }
def LoudsUnderUptoSaid : Prop := loudsUnderUptoRow.holds Try.pinned (OpenSpec.upto loudsUnderSpec)

/-- 'henkanlaw11.LoudsTexts', WHERE WHAT IT READS IS OF BULK AT MOST 1048576: true; the input reads as it did. -/
def loudsTextsUptoRow : OpenClaim := { program := "ytffljcfpofhkgaa", sum := "f914411a9fcb56c75ef1430e046a0da897c85ba99a31e8ea7c63127a3a4684d4", func := "henkan/henkanlaw11.LoudsTexts", spec := "loudsTexts", unfollowed := true, recurses := true, apart := false, narrowed := true }
def LoudsTextsUptoSaid : Prop := loudsTextsUptoRow.holds Try.pinned (OpenSpec.upto loudsTextsSpec)

/-- 'henkanlaw11.LoudsCodes', WHERE WHAT IT READS IS OF BULK AT MOST 1048576: true; the input reads as it did. -/
def loudsCodesUptoRow : OpenClaim := { program := "ytffljcfpofhkgaa", sum := "f914411a9fcb56c75ef1430e046a0da897c85ba99a31e8ea7c63127a3a4684d4", func := "henkan/henkanlaw11.LoudsCodes", spec := "loudsCodes", unfollowed := true, recurses := true, apart := false, narrowed := true }
def LoudsCodesUptoSaid : Prop := loudsCodesUptoRow.holds Try.pinned (OpenSpec.upto loudsCodesSpec)

/-- 'henkanlaw11.LoudsDecodes', WHERE WHAT IT READS IS OF BULK AT MOST 1048576: true; the input reads as it did. -/
def loudsDecodesUptoRow : OpenClaim := { program := "ytffljcfpofhkgaa", sum := "f914411a9fcb56c75ef1430e046a0da897c85ba99a31e8ea7c63127a3a4684d4", func := "henkan/henkanlaw11.LoudsDecodes", spec := "loudsDecodes", unfollowed := true, recurses := true, apart := false, narrowed := true }
def LoudsDecodesUptoSaid : Prop := loudsDecodesUptoRow.holds Try.pinned (OpenSpec.upto loudsDecodesSpec)

/-- 'henkanlaw11.LoudsSet', WHERE WHAT IT READS IS OF BULK AT MOST 1048576: true; the input reads as it did. -/
def loudsSetUptoRow : OpenClaim := { program := "ytffljcfpofhkgaa", sum := "f914411a9fcb56c75ef1430e046a0da897c85ba99a31e8ea7c63127a3a4684d4", func := "henkan/henkanlaw11.LoudsSet", spec := "loudsSet", unfollowed := true, recurses := true, apart := false, narrowed := true }
def LoudsSetUptoSaid : Prop := loudsSetUptoRow.holds Try.pinned (OpenSpec.upto loudsSetSpec)

/-- 'henkanlaw11.LoudsNeighbours', WHERE WHAT IT READS IS OF BULK AT MOST 1048576: true; the input reads as it did. -/
def loudsNeighboursUptoRow : OpenClaim := { program := "ytffljcfpofhkgaa", sum := "f914411a9fcb56c75ef1430e046a0da897c85ba99a31e8ea7c63127a3a4684d4", func := "henkan/henkanlaw11.LoudsNeighbours", spec := "loudsNeighbours", unfollowed := true, recurses := true, apart := false, narrowed := true }
def LoudsNeighboursUptoSaid : Prop := loudsNeighboursUptoRow.holds Try.pinned (OpenSpec.upto loudsNeighboursSpec)

/-- 'henkanlaw11.LoudsBack', WHERE WHAT IT READS IS OF BULK AT MOST 1048576: true; the input reads as it did. -/
def loudsBackUptoRow : OpenClaim := { program := "ytffljcfpofhkgaa", sum := "f914411a9fcb56c75ef1430e046a0da897c85ba99a31e8ea7c63127a3a4684d4", func := "henkan/henkanlaw11.LoudsBack", spec := "loudsBack", unfollowed := true, recurses := true, apart := false, narrowed := true }
def LoudsBackUptoSaid : Prop := loudsBackUptoRow.holds Try.pinned (OpenSpec.upto loudsBackSpec)

/-- 'henkanlaw11.LoudsOneCode', WHERE WHAT IT READS IS OF BULK AT MOST 1048576: true; the input reads as it did. -/
def loudsOneCodeUptoRow : OpenClaim := { program := "ytffljcfpofhkgaa", sum := "f914411a9fcb56c75ef1430e046a0da897c85ba99a31e8ea7c63127a3a4684d4", func := "henkan/henkanlaw11.LoudsOneCode", spec := "loudsOneCode", unfollowed := true, recurses := true, apart := false, narrowed := true }
def LoudsOneCodeUptoSaid : Prop := loudsOneCodeUptoRow.holds Try.pinned (OpenSpec.upto loudsOneCodeSpec)

/-- 'henkanlaw11.LoudsOwn', WHERE WHAT IT READS IS OF BULK AT MOST 1048576: true; the input reads as it did. -/
def loudsOwnUptoRow : OpenClaim := { program := "ytffljcfpofhkgaa", sum := "f914411a9fcb56c75ef1430e046a0da897c85ba99a31e8ea7c63127a3a4684d4", func := "henkan/henkanlaw11.LoudsOwn", spec := "loudsOwn", unfollowed := true, recurses := true, apart := false, narrowed := true }
def LoudsOwnUptoSaid : Prop := loudsOwnUptoRow.holds Try.pinned (OpenSpec.upto loudsOwnSpec)

/-- 'henkanlaw11.LoudsKnown', WHERE WHAT IT READS IS OF BULK AT MOST 1048576: true; the input reads as it did. -/
def loudsKnownUptoRow : OpenClaim := { program := "ytffljcfpofhkgaa", sum := "f914411a9fcb56c75ef1430e046a0da897c85ba99a31e8ea7c63127a3a4684d4", func := "henkan/henkanlaw11.LoudsKnown", spec := "loudsKnown", unfollowed := true, recurses := true, apart := false, narrowed := true }
def LoudsKnownUptoSaid : Prop := loudsKnownUptoRow.holds Try.pinned (OpenSpec.upto loudsKnownSpec)

end Rows
end Go.Proofs.Ytffljcfpofhkgaa
