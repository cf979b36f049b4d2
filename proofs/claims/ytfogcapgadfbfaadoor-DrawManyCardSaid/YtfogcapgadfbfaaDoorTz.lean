/- math/bits.TrailingZeros64, and its table. 'Tz w': the table lies as its initialiser lays it. Conditions: Tz. -/
import Derived.Test.YtfogcapgadfbfaaDoorNum
import Derived.Test.YtfogcapgadfbfaaDoorLayT
import Derived.Shelf.Abstract
import Derived.Lib.LaidTab
import Derived.Lib.TrailingZeros
namespace Go.Proofs.YtfogcapgadfbfaaDoor
open Go.RowKit Go.Shelf Go.Sort
set_option linter.unusedVariables false
set_option linter.unusedSimpArgs false
namespace Dm
/-- the table of math/bits.TrailingZeros64 -/
def Tz (w : World) : Prop := TabAt 0 Lib.deBruijn64tab w
theorem Tz.below {w w' : World} (h : Tz w) (hb : Below w.heap.size w w') : Tz w' := fun j hj => (hb.cell (p := ⟨0, j, none⟩) (cell_lt (h j hj))).trans (h j hj)
theorem Tz.pos {w : World} (h : Tz w) : 0 < w.heap.size := cell_lt (h 0 (by decide))
theorem Tz.belowN {n₀ : Nat} {w w' : World} (h : Tz w) (h0 : 0 < n₀) (hb : Below n₀ w w') : Tz w' := fun j hj => (hb.cell (p := ⟨0, j, none⟩) h0).trans (h j hj)
theorem tz_any (x : Nat) (hx : x < 18446744073709551616) (w : World) (hT : Tz w) : Calls Tryd.prog 20 #[.int .u64 x] w fun e w' => e = .returned (.int .i64 (Lib.ctz 64 x)) ∧ w = w' :=
  (Any7.bits_TrailingZeros64 Tryd.tz64 x hx w fun _ => hT).mono fun _ _ h => ⟨h.1, h.2.symm⟩
/-- what the given condition on the listed table gives a walk -/
theorem tz_laid {W : World} (h : laidMet Tryd.prog [("math/bits.deBruijn64tab", Rows.laid_math_bits_deBruijn64tab)] W) : Tz W := by
  have hg : Tryd.prog.globalNamed "math/bits.deBruijn64tab" = some 0 := by kernel_rfl
  have h' : laidMet Tryd.prog [("math/bits.deBruijn64tab", Lib.tabData .u8 (Lib.deBruijn64tab.map Int.ofNat))] W := h
  have ht := Lib.tabIs_of_head (t := 40) (e := 5) (n := 64) hg (by kernel_rfl) Tryd.underlying40 Tryd.underlying5 (by kernel_rfl) (by kernel_rfl) h'
  intro j hj
  have hc := ht.cell hg j (by simpa using hj)
  rw [hc]
  congr 2
  rw [List.getD_eq_getElem?_getD, List.getD_eq_getElem?_getD, List.getElem?_map]
  cases Lib.deBruijn64tab[j]? <;> rfl
end Dm
end Go.Proofs.YtfogcapgadfbfaaDoor
