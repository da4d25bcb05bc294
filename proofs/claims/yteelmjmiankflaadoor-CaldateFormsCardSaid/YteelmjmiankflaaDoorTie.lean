/-
  DERIVED. GIVEN WITH THE SEED: THE PROGRAM's TIES (one call each: nine closed facts by the kernel) AND EACH ROW's TIE, after the 31st guide's Derived/Test/Toyas{Tie, Card}.lean. No idea stands in it: it is a product of the set-up. Laid BY PROGRAM, IN A SANDBOX (cutbox-door.mjs). By AI agents, Wed Nov 11 2026. No macro, syntax, notation, axiom, sorry.
-/
import Derived.Test.YteelmjmiankflaaDoorRows
import Derived.LaidByTextLater
import Derived.SevenTiedAt
import Derived.LaidSub
import Derived.LaidOnce
namespace Go.Proofs.YteelmjmiankflaaDoor
open Go
set_option maxRecDepth 100000
theorem seatTie1 : Tryd.prog.laidByTextLater [("math/bits.deBruijn32tab", Rows.laid_math_bits_deBruijn32tab), ("math/bits.deBruijn64tab", Rows.laid_math_bits_deBruijn64tab), ("internal/strconv.uint64pow10", Rows.laid_internal_strconv_uint64pow10), ("henkan/numeral.plainDigits", Rows.laid_henkan_numeral_plainDigits), ("henkan/numeral.plainUnits", Rows.laid_henkan_numeral_plainUnits), ("henkan/numeral.groupUnits", Rows.laid_henkan_numeral_groupUnits), ("henkan/caldate.monthDays", Rows.laid_henkan_caldate_monthDays), ("henkan/caldate.weekdays", Rows.laid_henkan_caldate_weekdays), ("henkan/caldate.eras", Rows.laid_henkan_caldate_eras)] [.data, .data, .data, .data, .data, .data, .data, .data, .data] true :=
  Program.laidByTextLater_by_one 59 8 65 (by kernel_rfl) (by kernel_rfl) (by kernel_rfl) (by kernel_rfl) (by kernel_rfl) (by kernel_rfl) (fun _ _ => by kernel_rfl)
theorem noOwnUnsafe : Tryd.pinned.checked.prog.headLifts.contains "ownunsafe" = false := by kernel_rfl
theorem tie : Tryd.prog.laidByTextLater [("henkan/caldate.monthDays", Rows.laid_henkan_caldate_monthDays), ("henkan/caldate.weekdays", Rows.laid_henkan_caldate_weekdays)] [.data, .data] true :=
  Program.laidByTextLater.sub seatTie1 ["henkan/caldate.monthDays", "henkan/caldate.weekdays"] (by kernel_rfl) (by kernel_rfl)
theorem caldateDays_row_tie : Rows.caldateDaysRow.laidByTextAt .later Tryd.pinned [.data, .data] true :=
  OpenClaim.laidByTextAt_later rfl rfl tie noOwnUnsafe
theorem caldateBack_row_tie : Rows.caldateBackRow.laidByTextAt .later Tryd.pinned [.data, .data] true :=
  OpenClaim.laidByTextAt_later rfl rfl tie noOwnUnsafe
theorem tie2 : Tryd.prog.laidByTextLater [("henkan/caldate.monthDays", Rows.laid_henkan_caldate_monthDays), ("henkan/caldate.weekdays", Rows.laid_henkan_caldate_weekdays), ("henkan/caldate.eras", Rows.laid_henkan_caldate_eras)] [.data, .data, .data] true :=
  Program.laidByTextLater.sub seatTie1 ["henkan/caldate.monthDays", "henkan/caldate.weekdays", "henkan/caldate.eras"] (by kernel_rfl) (by kernel_rfl)
theorem caldateNames_row_tie : Rows.caldateNamesRow.laidByTextAt .later Tryd.pinned [.data, .data, .data] true :=
  OpenClaim.laidByTextAt_later rfl rfl tie2 noOwnUnsafe
theorem tie3 : Tryd.prog.laidByTextLater [("math/bits.deBruijn32tab", Rows.laid_math_bits_deBruijn32tab), ("math/bits.deBruijn64tab", Rows.laid_math_bits_deBruijn64tab), ("internal/strconv.uint64pow10", Rows.laid_internal_strconv_uint64pow10), ("henkan/numeral.plainDigits", Rows.laid_henkan_numeral_plainDigits), ("henkan/numeral.plainUnits", Rows.laid_henkan_numeral_plainUnits), ("henkan/numeral.groupUnits", Rows.laid_henkan_numeral_groupUnits), ("henkan/caldate.monthDays", Rows.laid_henkan_caldate_monthDays), ("henkan/caldate.weekdays", Rows.laid_henkan_caldate_weekdays), ("henkan/caldate.eras", Rows.laid_henkan_caldate_eras)] [.data, .data, .data, .data, .data, .data, .data, .data, .data] true :=
  Program.laidByTextLater.sub seatTie1 ["math/bits.deBruijn32tab", "math/bits.deBruijn64tab", "internal/strconv.uint64pow10", "henkan/numeral.plainDigits", "henkan/numeral.plainUnits", "henkan/numeral.groupUnits", "henkan/caldate.monthDays", "henkan/caldate.weekdays", "henkan/caldate.eras"] (by kernel_rfl) (by kernel_rfl)
theorem caldateForms_row_tie : Rows.caldateFormsRow.laidByTextAt .later Tryd.pinned [.data, .data, .data, .data, .data, .data, .data, .data, .data] true :=
  OpenClaim.laidByTextAt_later rfl rfl tie3 noOwnUnsafe
theorem caldateDaysUpto_row_tie : Rows.caldateDaysUptoRow.laidByTextAt .later Tryd.pinned [.data, .data] true :=
  OpenClaim.laidByTextAt_later rfl rfl tie noOwnUnsafe
theorem caldateNamesUpto_row_tie : Rows.caldateNamesUptoRow.laidByTextAt .later Tryd.pinned [.data, .data, .data] true :=
  OpenClaim.laidByTextAt_later rfl rfl tie2 noOwnUnsafe
theorem caldateFormsUpto_row_tie : Rows.caldateFormsUptoRow.laidByTextAt .later Tryd.pinned [.data, .data, .data, .data, .data, .data, .data, .data, .data] true :=
  OpenClaim.laidByTextAt_later rfl rfl tie3 noOwnUnsafe
theorem caldateBackUpto_row_tie : Rows.caldateBackUptoRow.laidByTextAt .later Tryd.pinned [.data, .data] true :=
  OpenClaim.laidByTextAt_later rfl rfl tie noOwnUnsafe
end Go.Proofs.YteelmjmiankflaaDoor
