/-
  DERIVED. GIVEN WITH THE SEED: THE CARDS: each row of YteelmjmiankflaaGreatDoorRows.lean that lists a variable, with what it lists TIED to the program's text (the seventh form; the later family's looks); each row that meets fmt, with fmt's text TOLD by the authors' own Lean function (tested against real Go, not proved from fmt's source: count such statements apart). THE CARD IS WHAT COUNTS. Prove the row's statement (the work); the ties are given (YteelmjmiankflaaGreatDoorTie.lean); close each card by the builder's one call (the guide's Derived/Test/ToyasCard.lean, 'card_holds'). Laid BY PROGRAM, IN A SANDBOX (cutbox-door.mjs). By AI agents, Wed Nov 11 2026. No macro, syntax, notation, axiom, sorry.
-/
import Derived.Test.YteelmjmiankflaaGreatDoorRows
import GoSem.ClaimSeven
namespace Go.Proofs.YteelmjmiankflaaGreatDoor
namespace Rows

/-- THE TIED CARD OF 'henkanlaw04.CaldateParses'. -/
def caldateParsesCard : Claim7 := { stood := { row := caldateParsesRow, standIns := [], harness := (true, "c29e01e7ab74d0e1103e1902992b220edcda6cb032c88f529f6d4db1d64fbd96"), looks := true }, kinds := [], alts := [], laidByText := true, laidKinds := [.data, .data, .data, .data, .sentinel, .sentinel, .data, .data, .data, .data, .data, .data, .data, .data, .pinned], laidTests := true, laidLooks := .later }
def CaldateParsesCardSaid : Prop := Claim7.holds Tryz.pinned (.plain (OpenSpec.ofChange caldateParsesSpec)) caldateParsesCard

/-- THE TIED CARD OF 'henkanlaw04.CaldateUnique'. -/
def caldateUniqueCard : Claim7 := { stood := { row := caldateUniqueRow, standIns := [], harness := (true, "c29e01e7ab74d0e1103e1902992b220edcda6cb032c88f529f6d4db1d64fbd96"), looks := true }, kinds := [], alts := [], laidByText := true, laidKinds := [.data, .data, .data, .data, .sentinel, .sentinel, .data, .data, .data, .data, .data, .data, .data, .data, .pinned], laidTests := true, laidLooks := .later }
def CaldateUniqueCardSaid : Prop := Claim7.holds Tryz.pinned (.plain (OpenSpec.ofChange caldateUniqueSpec)) caldateUniqueCard

/-- THE TIED CARD OF 'henkanlaw04.CaldateKnown'. -/
def caldateKnownCard : Claim7 := { stood := { row := caldateKnownRow, standIns := [], harness := (true, "c29e01e7ab74d0e1103e1902992b220edcda6cb032c88f529f6d4db1d64fbd96"), looks := true }, kinds := [], alts := [], laidByText := true, laidKinds := [.data, .data, .data, .data, .sentinel, .sentinel, .data, .data, .data, .data, .data, .data, .data, .data, .pinned], laidTests := true, laidLooks := .later }
def CaldateKnownCardSaid : Prop := Claim7.holds Tryz.pinned (.plain (OpenSpec.ofChange caldateKnownSpec)) caldateKnownCard

/-- THE SECOND FORM's CARD OF 'henkanlaw04.CaldateParses'. -/
def caldateParsesUptoCard : Claim7 := { stood := { row := caldateParsesUptoRow, standIns := [], harness := (true, "c29e01e7ab74d0e1103e1902992b220edcda6cb032c88f529f6d4db1d64fbd96"), looks := true }, kinds := [], alts := [], laidByText := true, laidKinds := [.data, .data, .data, .data, .sentinel, .sentinel, .data, .data, .data, .data, .data, .data, .data, .data, .pinned], laidTests := true, laidLooks := .later }
def CaldateParsesUptoCardSaid : Prop := Claim7.holds Tryz.pinned (.plain (OpenSpec.upto caldateParsesSpec)) caldateParsesUptoCard

/-- THE SECOND FORM's CARD OF 'henkanlaw04.CaldateUnique'. -/
def caldateUniqueUptoCard : Claim7 := { stood := { row := caldateUniqueUptoRow, standIns := [], harness := (true, "c29e01e7ab74d0e1103e1902992b220edcda6cb032c88f529f6d4db1d64fbd96"), looks := true }, kinds := [], alts := [], laidByText := true, laidKinds := [.data, .data, .data, .data, .sentinel, .sentinel, .data, .data, .data, .data, .data, .data, .data, .data, .pinned], laidTests := true, laidLooks := .later }
def CaldateUniqueUptoCardSaid : Prop := Claim7.holds Tryz.pinned (.plain (OpenSpec.upto caldateUniqueSpec)) caldateUniqueUptoCard

/-- THE SECOND FORM's CARD OF 'henkanlaw04.CaldateKnown'. -/
def caldateKnownUptoCard : Claim7 := { stood := { row := caldateKnownUptoRow, standIns := [], harness := (true, "c29e01e7ab74d0e1103e1902992b220edcda6cb032c88f529f6d4db1d64fbd96"), looks := true }, kinds := [], alts := [], laidByText := true, laidKinds := [.data, .data, .data, .data, .sentinel, .sentinel, .data, .data, .data, .data, .data, .data, .data, .data, .pinned], laidTests := true, laidLooks := .later }
def CaldateKnownUptoCardSaid : Prop := Claim7.holds Tryz.pinned (.plain (OpenSpec.upto caldateKnownSpec)) caldateKnownUptoCard
end Rows
end Go.Proofs.YteelmjmiankflaaGreatDoor
