/-
  What a row's listed variables give: all that the forms of a day read.
-/
import Derived.Test.YteelmjmiankflaaDoorCalO
import Derived.Test.YteelmjmiankflaaDoorCalP
set_option linter.unusedVariables false
set_option linter.unusedSimpArgs false
namespace Go.Proofs.YteelmjmiankflaaDoor.Cal
open Go Go.RowKit Go.Proofs.YteelmjmiankflaaDoor.Kit Go.Proofs.YteelmjmiankflaaDoor.Utf
open Go.Proofs.YteelmjmiankflaaDoor.Num (tx laid_arr laid_size Tab tPd tFd tPu tFu tGu)

theorem FLaid.of {W : World} {l : List (String × DataW Unit)} (hL : laidMetH Tryd.prog l W) (hp : ∀ w, laidMetH Tryd.prog l w = laidMet Tryd.prog l w)
    (h0 : ("internal/strconv.uint64pow10", Lib.tabData .u64 Lib.pow10Tab) ∈ l)
    (h1 : ("henkan/numeral.plainDigits", Tab tPd) ∈ l)
    (h3 : ("henkan/numeral.plainUnits", Tab tPu) ∈ l)
    (h5 : ("henkan/numeral.groupUnits", Tab tGu) ∈ l)
    (h6 : ("henkan/caldate.monthDays", Lib.tabData .i64 tMd) ∈ l) (h7 : ("henkan/caldate.weekdays", Tab tWd) ∈ l) (h8 : ("henkan/caldate.eras", eraData) ∈ l) : FLaid W := by
  refine ⟨ELaid.of hL hp h6 h7 h8, ?_, ?_⟩
  · exact Num.Laid.of hL hp h1 h3 h5
  · rw [hp] at hL
    exact laid_tab hL h0 6 96 85 20 (by kernel_rfl) (by kernel_rfl) Tryd.underlying96 Tryd.underlying85 (by kernel_rfl) (by kernel_rfl)

end Go.Proofs.YteelmjmiankflaaDoor.Cal
