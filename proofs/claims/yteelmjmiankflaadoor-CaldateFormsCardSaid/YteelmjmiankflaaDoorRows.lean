/-
  NARROWER THAN 'FOR EVERY INPUT', by the rows' own cells (each row's printed sentence says how): CaldateDays: laid · CaldateNames: laid · CaldateForms: laid · CaldateBack: laid.
  DERIVED. THE GIVEN ROWS OF THIS SEAT. 4 by the template 'for every input the law returns true; each argument reads behind the call as it read before'; 0 by the template 'total and deterministic' (their statements: YteelmjmiankflaaDoorTotals.lean).
  GIVEN WITH THE SEED: the statements are not yours to turn. If you find one false, say at which input.
  Laid BY PROGRAM, IN A SANDBOX (cutbox-rows.mjs): the forced cells as the released guide's own fill.sh prints them over the translation a160d87a45e81cc0… (all of the seat's roots in one cut). By AI agents, Wed Nov 11 2026. No macro, syntax, notation, axiom, sorry.
-/
import Derived.Test.YteelmjmiankflaaDoorChecked
import GoSem.Claim
import GoSem.ClaimJoined
import GoSem.ClaimMapViews
import Derived.JoinedTies
import Derived.KernelRfl
namespace Go.Proofs.YteelmjmiankflaaDoor
/- THE CELL 'sum', in the pinned program and in every row, IS THE sha256 OF THE DUMP (.gsa) THAT YteelmjmiankflaaDoorProg.lean LOADS. Nothing in Lean hashes anything: it is a label: what it is worth is what the hold of that sum in a sandbox is worth. -/
noncomputable def Tryd.pinned : Pinned := { name := "yteelmjmiankflaadoor", sum := "a160d87a45e81cc010d9a1c29d8b753249b2246b6cfb9c91774f64ee7f6d6292", checked := Tryd.checked }
namespace Rows
def none {H : Type} : Left H := { results := [], args := [] }

/- WHAT THE LISTED PACKAGE-LEVEL VARIABLES READ AS WHEN THE CALL BEGINS. Each datum BY PROGRAM (the guide's laid-datum.mjs) off the statement by which the dump's own 'gosem.cut.vars' lays the variable. In a bare row this is a premise. The card (YteelmjmiankflaaDoorCards.lean) ties it to the program's text. -/
def laid_henkan_caldate_monthDays {H : Type} : DataW H := .agg [.lit (.int .i64 31), .lit (.int .i64 28), .lit (.int .i64 31), .lit (.int .i64 30), .lit (.int .i64 31), .lit (.int .i64 30), .lit (.int .i64 31), .lit (.int .i64 31), .lit (.int .i64 30), .lit (.int .i64 31), .lit (.int .i64 30), .lit (.int .i64 31)]
def laid_henkan_caldate_weekdays {H : Type} : DataW H := .agg [.lit (.string [230, 151, 165]), .lit (.string [230, 156, 136]), .lit (.string [231, 129, 171]), .lit (.string [230, 176, 180]), .lit (.string [230, 156, 168]), .lit (.string [233, 135, 145]), .lit (.string [229, 156, 159])]
def laid_henkan_caldate_eras {H : Type} : DataW H := .agg [.agg [.lit (.string [230, 152, 142, 230, 178, 187]), .lit (.int .i64 1868), .lit (.int .i64 1), .lit (.int .i64 25)], .agg [.lit (.string [229, 164, 167, 230, 173, 163]), .lit (.int .i64 1912), .lit (.int .i64 7), .lit (.int .i64 30)], .agg [.lit (.string [230, 152, 173, 229, 146, 140]), .lit (.int .i64 1926), .lit (.int .i64 12), .lit (.int .i64 25)], .agg [.lit (.string [229, 185, 179, 230, 136, 144]), .lit (.int .i64 1989), .lit (.int .i64 1), .lit (.int .i64 8)], .agg [.lit (.string [228, 187, 164, 229, 146, 140]), .lit (.int .i64 2019), .lit (.int .i64 5), .lit (.int .i64 1)]]
def laid_math_bits_deBruijn32tab {H : Type} : DataW H := .agg [.lit (.int .u8 0), .lit (.int .u8 1), .lit (.int .u8 28), .lit (.int .u8 2), .lit (.int .u8 29), .lit (.int .u8 14), .lit (.int .u8 24), .lit (.int .u8 3), .lit (.int .u8 30), .lit (.int .u8 22), .lit (.int .u8 20), .lit (.int .u8 15), .lit (.int .u8 25), .lit (.int .u8 17), .lit (.int .u8 4), .lit (.int .u8 8), .lit (.int .u8 31), .lit (.int .u8 27), .lit (.int .u8 13), .lit (.int .u8 23), .lit (.int .u8 21), .lit (.int .u8 19), .lit (.int .u8 16), .lit (.int .u8 7), .lit (.int .u8 26), .lit (.int .u8 12), .lit (.int .u8 18), .lit (.int .u8 6), .lit (.int .u8 11), .lit (.int .u8 5), .lit (.int .u8 10), .lit (.int .u8 9)]
def laid_math_bits_deBruijn64tab {H : Type} : DataW H := .agg [.lit (.int .u8 0), .lit (.int .u8 1), .lit (.int .u8 56), .lit (.int .u8 2), .lit (.int .u8 57), .lit (.int .u8 49), .lit (.int .u8 28), .lit (.int .u8 3), .lit (.int .u8 61), .lit (.int .u8 58), .lit (.int .u8 42), .lit (.int .u8 50), .lit (.int .u8 38), .lit (.int .u8 29), .lit (.int .u8 17), .lit (.int .u8 4), .lit (.int .u8 62), .lit (.int .u8 47), .lit (.int .u8 59), .lit (.int .u8 36), .lit (.int .u8 45), .lit (.int .u8 43), .lit (.int .u8 51), .lit (.int .u8 22), .lit (.int .u8 53), .lit (.int .u8 39), .lit (.int .u8 33), .lit (.int .u8 30), .lit (.int .u8 24), .lit (.int .u8 18), .lit (.int .u8 12), .lit (.int .u8 5), .lit (.int .u8 63), .lit (.int .u8 55), .lit (.int .u8 48), .lit (.int .u8 27), .lit (.int .u8 60), .lit (.int .u8 41), .lit (.int .u8 37), .lit (.int .u8 16), .lit (.int .u8 46), .lit (.int .u8 35), .lit (.int .u8 44), .lit (.int .u8 21), .lit (.int .u8 52), .lit (.int .u8 32), .lit (.int .u8 23), .lit (.int .u8 11), .lit (.int .u8 54), .lit (.int .u8 26), .lit (.int .u8 40), .lit (.int .u8 15), .lit (.int .u8 34), .lit (.int .u8 20), .lit (.int .u8 31), .lit (.int .u8 10), .lit (.int .u8 25), .lit (.int .u8 14), .lit (.int .u8 19), .lit (.int .u8 9), .lit (.int .u8 13), .lit (.int .u8 8), .lit (.int .u8 7), .lit (.int .u8 6)]
def laid_internal_strconv_uint64pow10 {H : Type} : DataW H := .agg [.lit (.int .u64 1), .lit (.int .u64 10), .lit (.int .u64 100), .lit (.int .u64 1000), .lit (.int .u64 10000), .lit (.int .u64 100000), .lit (.int .u64 1000000), .lit (.int .u64 10000000), .lit (.int .u64 100000000), .lit (.int .u64 1000000000), .lit (.int .u64 10000000000), .lit (.int .u64 100000000000), .lit (.int .u64 1000000000000), .lit (.int .u64 10000000000000), .lit (.int .u64 100000000000000), .lit (.int .u64 1000000000000000), .lit (.int .u64 10000000000000000), .lit (.int .u64 100000000000000000), .lit (.int .u64 1000000000000000000), .lit (.int .u64 10000000000000000000)]
def laid_henkan_numeral_plainDigits {H : Type} : DataW H := .agg [.lit (.string [227, 128, 135]), .lit (.string [228, 184, 128]), .lit (.string [228, 186, 140]), .lit (.string [228, 184, 137]), .lit (.string [229, 155, 155]), .lit (.string [228, 186, 148]), .lit (.string [229, 133, 173]), .lit (.string [228, 184, 131]), .lit (.string [229, 133, 171]), .lit (.string [228, 185, 157])]
def laid_henkan_numeral_plainUnits {H : Type} : DataW H := .agg [.lit (.string []), .lit (.string [229, 141, 129]), .lit (.string [231, 153, 190]), .lit (.string [229, 141, 131])]
def laid_henkan_numeral_groupUnits {H : Type} : DataW H := .agg [.lit (.string []), .lit (.string [228, 184, 135]), .lit (.string [229, 132, 132]), .lit (.string [229, 133, 134]), .lit (.string [228, 186, 172])]

/-- 'henkanlaw04.CaldateDays': WHATEVER THE INPUT: true; the input reads as it did. -/
def caldateDaysSpec : ChangeSpec := { name := "caldateDays", fn := fun _ => fun
  | [d1, d2, d3, d4] => { results := [.lit (.bool true)], args := [d1, d2, d3, d4] }
  | _ => none }
def caldateDaysRow : OpenClaim := { program := "yteelmjmiankflaadoor", sum := "a160d87a45e81cc010d9a1c29d8b753249b2246b6cfb9c91774f64ee7f6d6292", func := "henkan/henkanlaw04.CaldateDays", spec := "caldateDays", unfollowed := true, recurses := true, named := ["henkan/caldate.monthDays", "henkan/caldate.weekdays"], apart := false, laid := [("henkan/caldate.monthDays", laid_henkan_caldate_monthDays), ("henkan/caldate.weekdays", laid_henkan_caldate_weekdays)] }
def CaldateDaysSaid : Prop := caldateDaysRow.holds Tryd.pinned (OpenSpec.ofChange caldateDaysSpec)

/-- ITS FALSE NEIGHBOUR: 'it returns false'. Refute it at one input. -/
def caldateDaysWrong : ChangeSpec := { name := "caldateDays", fn := fun _ => fun
  | [d1, d2, d3, d4] => { results := [.lit (.bool false)], args := [d1, d2, d3, d4] }
  | _ => none }
def CaldateDaysWrongFalsely : Prop := caldateDaysRow.holds Tryd.pinned (OpenSpec.ofChange caldateDaysWrong)

/-- 'henkanlaw04.CaldateNames': WHATEVER THE INPUT: true; the input reads as it did. -/
def caldateNamesSpec : ChangeSpec := { name := "caldateNames", fn := fun _ => fun
  | [d] => { results := [.lit (.bool true)], args := [d] }
  | _ => none }
def caldateNamesRow : OpenClaim := { program := "yteelmjmiankflaadoor", sum := "a160d87a45e81cc010d9a1c29d8b753249b2246b6cfb9c91774f64ee7f6d6292", func := "henkan/henkanlaw04.CaldateNames", spec := "caldateNames", unfollowed := true, recurses := true, named := ["henkan/caldate.weekdays", "henkan/caldate.eras", "henkan/caldate.monthDays"], apart := false, laid := [("henkan/caldate.monthDays", laid_henkan_caldate_monthDays), ("henkan/caldate.weekdays", laid_henkan_caldate_weekdays), ("henkan/caldate.eras", laid_henkan_caldate_eras)] }
def CaldateNamesSaid : Prop := caldateNamesRow.holds Tryd.pinned (OpenSpec.ofChange caldateNamesSpec)

/-- ITS FALSE NEIGHBOUR: 'it returns false'. Refute it at one input. -/
def caldateNamesWrong : ChangeSpec := { name := "caldateNames", fn := fun _ => fun
  | [d] => { results := [.lit (.bool false)], args := [d] }
  | _ => none }
def CaldateNamesWrongFalsely : Prop := caldateNamesRow.holds Tryd.pinned (OpenSpec.ofChange caldateNamesWrong)

/-- 'henkanlaw04.CaldateForms': WHATEVER THE INPUT: true; the input reads as it did. -/
def caldateFormsSpec : ChangeSpec := { name := "caldateForms", fn := fun _ => fun
  | [d] => { results := [.lit (.bool true)], args := [d] }
  | _ => none }
def caldateFormsRow : OpenClaim := { program := "yteelmjmiankflaadoor", sum := "a160d87a45e81cc010d9a1c29d8b753249b2246b6cfb9c91774f64ee7f6d6292", func := "henkan/henkanlaw04.CaldateForms", spec := "caldateForms", inPlace := ["internal/abi.NoEscape", "internal/bytealg.MakeNoZero"], unfollowed := true, recurses := true, named := ["henkan/caldate.monthDays", "internal/strconv.uint64pow10", "math/bits.deBruijn32tab", "math/bits.deBruijn64tab", "henkan/caldate.weekdays", "henkan/caldate.eras", "henkan/numeral.groupUnits", "henkan/numeral.plainUnits", "henkan/numeral.plainDigits"], apart := false, laid := [("math/bits.deBruijn32tab", laid_math_bits_deBruijn32tab), ("math/bits.deBruijn64tab", laid_math_bits_deBruijn64tab), ("internal/strconv.uint64pow10", laid_internal_strconv_uint64pow10), ("henkan/numeral.plainDigits", laid_henkan_numeral_plainDigits), ("henkan/numeral.plainUnits", laid_henkan_numeral_plainUnits), ("henkan/numeral.groupUnits", laid_henkan_numeral_groupUnits), ("henkan/caldate.monthDays", laid_henkan_caldate_monthDays), ("henkan/caldate.weekdays", laid_henkan_caldate_weekdays), ("henkan/caldate.eras", laid_henkan_caldate_eras)] }
def CaldateFormsSaid : Prop := caldateFormsRow.holds Tryd.pinned (OpenSpec.ofChange caldateFormsSpec)

/-- ITS FALSE NEIGHBOUR: 'it returns false'. Refute it at one input. -/
def caldateFormsWrong : ChangeSpec := { name := "caldateForms", fn := fun _ => fun
  | [d] => { results := [.lit (.bool false)], args := [d] }
  | _ => none }
def CaldateFormsWrongFalsely : Prop := caldateFormsRow.holds Tryd.pinned (OpenSpec.ofChange caldateFormsWrong)

/-- 'henkanlaw04.CaldateBack': WHATEVER THE INPUT: true; the input reads as it did. -/
def caldateBackSpec : ChangeSpec := { name := "caldateBack", fn := fun _ => fun
  | [d1, d2, d3, d4] => { results := [.lit (.bool true)], args := [d1, d2, d3, d4] }
  | _ => none }
def caldateBackRow : OpenClaim := { program := "yteelmjmiankflaadoor", sum := "a160d87a45e81cc010d9a1c29d8b753249b2246b6cfb9c91774f64ee7f6d6292", func := "henkan/henkanlaw04.CaldateBack", spec := "caldateBack", unfollowed := true, recurses := true, named := ["henkan/caldate.monthDays", "henkan/caldate.weekdays"], apart := false, laid := [("henkan/caldate.monthDays", laid_henkan_caldate_monthDays), ("henkan/caldate.weekdays", laid_henkan_caldate_weekdays)] }
def CaldateBackSaid : Prop := caldateBackRow.holds Tryd.pinned (OpenSpec.ofChange caldateBackSpec)

/-- ITS FALSE NEIGHBOUR: 'it returns false'. Refute it at one input. -/
def caldateBackWrong : ChangeSpec := { name := "caldateBack", fn := fun _ => fun
  | [d1, d2, d3, d4] => { results := [.lit (.bool false)], args := [d1, d2, d3, d4] }
  | _ => none }
def CaldateBackWrongFalsely : Prop := caldateBackRow.holds Tryd.pinned (OpenSpec.ofChange caldateBackWrong)

/- THE SECOND FORM. 'bulk': how many values and letters a reading holds, each counted each time it is reached (what is shared counts as often as it is met; a slice's spare places count too). A statement '..UptoSaid' is the law's where the arguments, and the package variables that the reading takes, are together of bulk at most 1048576: NARROWER than '..Said'. Prove '..Said' where nothing that the law and all that it calls make is longer than what came in: it says more and counts as full. Else prove '..UptoSaid'. A law counts once. -/
mutual
def uptoBulk {H : Type} : DataW H → Nat
  | .lit (.string bytes) => bytes.length + 1
  | .lit _ => 1
  | .nil => 1
  | .ptr d => uptoBulk d + 1
  | .slice elems spare => uptoBulkAll elems + uptoBulkAll spare + 1
  | .agg parts => uptoBulkAll parts + 1
  | .iface _ d => uptoBulk d + 1
  | .map entries => uptoBulkEntries entries + 1
  | .held _ => 1
def uptoBulkAll {H : Type} : List (DataW H) → Nat
  | [] => 0
  | d :: r => uptoBulk d + uptoBulkAll r
def uptoBulkEntries {H : Type} : List (Lit × DataW H) → Nat
  | [] => 0
  | x :: r => uptoBulkEntry x + uptoBulkEntries r
def uptoBulkEntry {H : Type} : Lit × DataW H → Nat
  | (.string bytes, d) => bytes.length + uptoBulk d + 1
  | (_, d) => uptoBulk d + 1
 end
def uptoSmall : (H : Type) → List (DataW H) → Bool := fun _ ds => decide (uptoBulkAll ds ≤ 1048576)
def OpenSpec.upto (s : _root_.Go.ChangeSpec) : _root_.Go.OpenSpec := { _root_.Go.OpenSpec.ofChange s with cond := some uptoSmall }

/-- 'henkanlaw04.CaldateDays', WHERE WHAT IT READS IS OF BULK AT MOST 1048576: true; the input reads as it did. -/
def caldateDaysUptoRow : OpenClaim := { program := "yteelmjmiankflaadoor", sum := "a160d87a45e81cc010d9a1c29d8b753249b2246b6cfb9c91774f64ee7f6d6292", func := "henkan/henkanlaw04.CaldateDays", spec := "caldateDays", unfollowed := true, recurses := true, named := ["henkan/caldate.monthDays", "henkan/caldate.weekdays"], apart := false, laid := [("henkan/caldate.monthDays", laid_henkan_caldate_monthDays), ("henkan/caldate.weekdays", laid_henkan_caldate_weekdays)], narrowed := true }
def CaldateDaysUptoSaid : Prop := caldateDaysUptoRow.holds Tryd.pinned (OpenSpec.upto caldateDaysSpec)

/-- 'henkanlaw04.CaldateNames', WHERE WHAT IT READS IS OF BULK AT MOST 1048576: true; the input reads as it did. -/
def caldateNamesUptoRow : OpenClaim := { program := "yteelmjmiankflaadoor", sum := "a160d87a45e81cc010d9a1c29d8b753249b2246b6cfb9c91774f64ee7f6d6292", func := "henkan/henkanlaw04.CaldateNames", spec := "caldateNames", unfollowed := true, recurses := true, named := ["henkan/caldate.weekdays", "henkan/caldate.eras", "henkan/caldate.monthDays"], apart := false, laid := [("henkan/caldate.monthDays", laid_henkan_caldate_monthDays), ("henkan/caldate.weekdays", laid_henkan_caldate_weekdays), ("henkan/caldate.eras", laid_henkan_caldate_eras)], narrowed := true }
def CaldateNamesUptoSaid : Prop := caldateNamesUptoRow.holds Tryd.pinned (OpenSpec.upto caldateNamesSpec)

/-- 'henkanlaw04.CaldateForms', WHERE WHAT IT READS IS OF BULK AT MOST 1048576: true; the input reads as it did. -/
def caldateFormsUptoRow : OpenClaim := { program := "yteelmjmiankflaadoor", sum := "a160d87a45e81cc010d9a1c29d8b753249b2246b6cfb9c91774f64ee7f6d6292", func := "henkan/henkanlaw04.CaldateForms", spec := "caldateForms", inPlace := ["internal/abi.NoEscape", "internal/bytealg.MakeNoZero"], unfollowed := true, recurses := true, named := ["henkan/caldate.monthDays", "internal/strconv.uint64pow10", "math/bits.deBruijn32tab", "math/bits.deBruijn64tab", "henkan/caldate.weekdays", "henkan/caldate.eras", "henkan/numeral.groupUnits", "henkan/numeral.plainUnits", "henkan/numeral.plainDigits"], apart := false, laid := [("math/bits.deBruijn32tab", laid_math_bits_deBruijn32tab), ("math/bits.deBruijn64tab", laid_math_bits_deBruijn64tab), ("internal/strconv.uint64pow10", laid_internal_strconv_uint64pow10), ("henkan/numeral.plainDigits", laid_henkan_numeral_plainDigits), ("henkan/numeral.plainUnits", laid_henkan_numeral_plainUnits), ("henkan/numeral.groupUnits", laid_henkan_numeral_groupUnits), ("henkan/caldate.monthDays", laid_henkan_caldate_monthDays), ("henkan/caldate.weekdays", laid_henkan_caldate_weekdays), ("henkan/caldate.eras", laid_henkan_caldate_eras)], narrowed := true }
def CaldateFormsUptoSaid : Prop := caldateFormsUptoRow.holds Tryd.pinned (OpenSpec.upto caldateFormsSpec)

/-- 'henkanlaw04.CaldateBack', WHERE WHAT IT READS IS OF BULK AT MOST 1048576: true; the input reads as it did. -/
def caldateBackUptoRow : OpenClaim := { program := "yteelmjmiankflaadoor", sum := "a160d87a45e81cc010d9a1c29d8b753249b2246b6cfb9c91774f64ee7f6d6292", func := "henkan/henkanlaw04.CaldateBack", spec := "caldateBack", unfollowed := true, recurses := true, named := ["henkan/caldate.monthDays", "henkan/caldate.weekdays"], apart := false, laid := [("henkan/caldate.monthDays", laid_henkan_caldate_monthDays), ("henkan/caldate.weekdays", laid_henkan_caldate_weekdays)], narrowed := true }
def CaldateBackUptoSaid : Prop := caldateBackUptoRow.holds Tryd.pinned (OpenSpec.upto caldateBackSpec)

end Rows
end Go.Proofs.YteelmjmiankflaaDoor
