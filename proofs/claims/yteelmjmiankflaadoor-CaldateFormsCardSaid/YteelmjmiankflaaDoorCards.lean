/-
  DERIVED. GIVEN WITH THE SEED: THE CARDS: each row of YteelmjmiankflaaDoorRows.lean that lists a variable, with what it lists TIED to the program's text (the seventh form; the later family's looks); each row that meets fmt, with fmt's text TOLD by the authors' own Lean function (tested against real Go, not proved from fmt's source: count such statements apart). THE CARD IS WHAT COUNTS. Prove the row's statement (the work); the ties are given (YteelmjmiankflaaDoorTie.lean); close each card by the builder's one call (the guide's Derived/Test/ToyasCard.lean, 'card_holds'). Laid BY PROGRAM, IN A SANDBOX (cutbox-door.mjs). By AI agents, Wed Nov 11 2026. No macro, syntax, notation, axiom, sorry.
-/
import Derived.Test.YteelmjmiankflaaDoorRows
import GoSem.ClaimSeven
namespace Go.Proofs.YteelmjmiankflaaDoor
namespace Rows

/-- THE TIED CARD OF 'henkanlaw04.CaldateDays'. -/
def caldateDaysCard : Claim7 := { stood := { row := caldateDaysRow, standIns := [], harness := (true, "7a6c52f438805251aed56100d473d7af4217bee921cc9903c0fd8349a240b1ae"), looks := false }, kinds := [], alts := [], laidByText := true, laidKinds := [.data, .data], laidTests := true, laidLooks := .later }
def CaldateDaysCardSaid : Prop := Claim7.holds Tryd.pinned (.plain (OpenSpec.ofChange caldateDaysSpec)) caldateDaysCard

/-- THE TIED CARD OF 'henkanlaw04.CaldateNames'. -/
def caldateNamesCard : Claim7 := { stood := { row := caldateNamesRow, standIns := [], harness := (true, "7a6c52f438805251aed56100d473d7af4217bee921cc9903c0fd8349a240b1ae"), looks := false }, kinds := [], alts := [], laidByText := true, laidKinds := [.data, .data, .data], laidTests := true, laidLooks := .later }
def CaldateNamesCardSaid : Prop := Claim7.holds Tryd.pinned (.plain (OpenSpec.ofChange caldateNamesSpec)) caldateNamesCard

/-- THE TIED CARD OF 'henkanlaw04.CaldateForms'. -/
def caldateFormsCard : Claim7 := { stood := { row := caldateFormsRow, standIns := [], harness := (true, "7a6c52f438805251aed56100d473d7af4217bee921cc9903c0fd8349a240b1ae"), looks := false }, kinds := [], alts := [], laidByText := true, laidKinds := [.data, .data, .data, .data, .data, .data, .data, .data, .data], laidTests := true, laidLooks := .later }
def CaldateFormsCardSaid : Prop := Claim7.holds Tryd.pinned (.plain (OpenSpec.ofChange caldateFormsSpec)) caldateFormsCard

/-- THE TIED CARD OF 'henkanlaw04.CaldateBack'. -/
def caldateBackCard : Claim7 := { stood := { row := caldateBackRow, standIns := [], harness := (true, "7a6c52f438805251aed56100d473d7af4217bee921cc9903c0fd8349a240b1ae"), looks := false }, kinds := [], alts := [], laidByText := true, laidKinds := [.data, .data], laidTests := true, laidLooks := .later }
def CaldateBackCardSaid : Prop := Claim7.holds Tryd.pinned (.plain (OpenSpec.ofChange caldateBackSpec)) caldateBackCard

/-- THE SECOND FORM's CARD OF 'henkanlaw04.CaldateDays'. -/
def caldateDaysUptoCard : Claim7 := { stood := { row := caldateDaysUptoRow, standIns := [], harness := (true, "7a6c52f438805251aed56100d473d7af4217bee921cc9903c0fd8349a240b1ae"), looks := false }, kinds := [], alts := [], laidByText := true, laidKinds := [.data, .data], laidTests := true, laidLooks := .later }
def CaldateDaysUptoCardSaid : Prop := Claim7.holds Tryd.pinned (.plain (OpenSpec.upto caldateDaysSpec)) caldateDaysUptoCard

/-- THE SECOND FORM's CARD OF 'henkanlaw04.CaldateNames'. -/
def caldateNamesUptoCard : Claim7 := { stood := { row := caldateNamesUptoRow, standIns := [], harness := (true, "7a6c52f438805251aed56100d473d7af4217bee921cc9903c0fd8349a240b1ae"), looks := false }, kinds := [], alts := [], laidByText := true, laidKinds := [.data, .data, .data], laidTests := true, laidLooks := .later }
def CaldateNamesUptoCardSaid : Prop := Claim7.holds Tryd.pinned (.plain (OpenSpec.upto caldateNamesSpec)) caldateNamesUptoCard

/-- THE SECOND FORM's CARD OF 'henkanlaw04.CaldateForms'. -/
def caldateFormsUptoCard : Claim7 := { stood := { row := caldateFormsUptoRow, standIns := [], harness := (true, "7a6c52f438805251aed56100d473d7af4217bee921cc9903c0fd8349a240b1ae"), looks := false }, kinds := [], alts := [], laidByText := true, laidKinds := [.data, .data, .data, .data, .data, .data, .data, .data, .data], laidTests := true, laidLooks := .later }
def CaldateFormsUptoCardSaid : Prop := Claim7.holds Tryd.pinned (.plain (OpenSpec.upto caldateFormsSpec)) caldateFormsUptoCard

/-- THE SECOND FORM's CARD OF 'henkanlaw04.CaldateBack'. -/
def caldateBackUptoCard : Claim7 := { stood := { row := caldateBackUptoRow, standIns := [], harness := (true, "7a6c52f438805251aed56100d473d7af4217bee921cc9903c0fd8349a240b1ae"), looks := false }, kinds := [], alts := [], laidByText := true, laidKinds := [.data, .data], laidTests := true, laidLooks := .later }
def CaldateBackUptoCardSaid : Prop := Claim7.holds Tryd.pinned (.plain (OpenSpec.upto caldateBackSpec)) caldateBackUptoCard
end Rows
end Go.Proofs.YteelmjmiankflaaDoor
