/- What the card says of the table of math/bits.TrailingZeros64, as the walks take it. Conditions: none. -/
import Derived.Test.YtbndgbjenmknmaaDoorDm7
import Derived.Lib.LaidTab
namespace Go.Proofs.YtbndgbjenmknmaaDoor
open Go.RowKit Go.Shelf Go.Sort
set_option linter.unusedVariables false
set_option linter.unusedSimpArgs false
namespace Dm
/-- what the given condition on the listed table gives a walk -/
theorem tz_laid {W : World} (h : laidMet Tryd.prog [("math/bits.deBruijn64tab", Rows.laid_math_bits_deBruijn64tab)] W) : Tz W := by
  have hg : Tryd.prog.globalNamed "math/bits.deBruijn64tab" = some 0 := by kernel_rfl
  have h' : laidMet Tryd.prog [("math/bits.deBruijn64tab", Lib.tabData .u8 (Lib.deBruijn64tab.map Int.ofNat))] W := h
  have ht := Lib.tabIs_of_head (t := 129) (e := 5) (n := 64) hg (by kernel_rfl) Tryd.underlying129 Tryd.underlying5 (by kernel_rfl) (by kernel_rfl) h'
  intro j hj
  have hc := ht.cell hg j (by simpa using hj)
  rw [hc]
  congr 2
  rw [List.getD_eq_getElem?_getD, List.getD_eq_getElem?_getD, List.getElem?_map]
  cases Lib.deBruijn64tab[j]? <;> rfl
end Dm
end Go.Proofs.YtbndgbjenmknmaaDoor
