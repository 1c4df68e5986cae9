/- What the rows' listed variables give the walks: the library's table of white space. -/
import Derived.Test.YtimgdooelbhjfaaGreatDoorLaw04D
namespace Go.Proofs.YtimgdooelbhjfaaGreatDoor
open Go.RowKit
set_option linter.unusedVariables false
theorem laid_tab : (Rows.laid_strings_asciiSpace : DataW Unit) = Lib.tabData .u8 Lib.asciiSpaceTab := by kernel_rfl
theorem spaces_of_laid {W : World} (h : laidMetH Tryz.prog laidL W) : Spaces W := by
  rw [MakeChecks.laidMetH_plain _ _ _ (by kernel_rfl)] at h
  have h' : laidMet Tryz.prog [("strings.asciiSpace", Rows.laid_strings_asciiSpace)] W := h.tail.tail.tail.tail.tail.tail
  rw [laid_tab] at h'
  exact Lib.tabIs_of_head (g := 0) (by kernel_rfl) (by kernel_rfl) (t := 104) (n := 256) Tryz.underlying104 Tryz.underlying5 (by kernel_rfl) (by kernel_rfl) h'
end Go.Proofs.YtimgdooelbhjfaaGreatDoor
