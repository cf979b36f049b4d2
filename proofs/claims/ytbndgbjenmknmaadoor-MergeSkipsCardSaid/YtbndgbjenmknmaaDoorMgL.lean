/- A merge of leapfrogref07 as one row of cells, for List, which copies it whole (with the laws of Deep/MidRow); List on nil. No conditions. -/
import Derived.Test.YtbndgbjenmknmaaDoorMgN
import Derived.Deep.MidRow
namespace Go.Proofs.YtbndgbjenmknmaaDoor
open Go.RowKit Go.Sort Go.ChangeShapes Go.WideShapes Go.Deep Go.Joins
set_option linter.unusedVariables false
set_option linter.unusedSimpArgs false
namespace Mg
open Om (Pr below_drewN bel_alloc flat)
theorem listR_nil (w : World) :
    Calls Tryd.prog 17 #[.pointer none] w fun e w' => e = .returned (.slice none 0 0) ∧ w' = w := by
  go_enter Tryd.func17, Tryd.ntmps17
  go_wp2
  go_ret
  exact ⟨rfl, rfl⟩
def Mg.cell (M : Mg) (k : Nat) : Value :=
  if k < 64 then .bool (M.ls k) else if k < 128 then .bool (M.hs (k - 64)) else if k < 192 then .bool (M.en (k - 128)) else
  if k < 320 then (if (k - 192) % 2 = 0 then .int .u64 (M.p ((k - 192) / 2)).1 else .int .u64 (M.p ((k - 192) / 2)).2) else if k = 320 then .int .u64 M.fl else .bool M.fu
def Mg.cells (M : Mg) : List Value := (List.range 322).map M.cell
theorem cells_len (M : Mg) : M.cells.length = 322 := by unfold Mg.cells; rw [List.length_map, List.length_range]
theorem cells_at (M : Mg) {k : Nat} (h : k < 322) : M.cells[k]? = some (M.cell k) := by
  unfold Mg.cells; rw [List.getElem?_map, List.getElem?_range h]; rfl
theorem MrAt.range {w : World} {b : Nat} {M : Mg} (h : MrAt w b M) : w.rangeAt b 0 M.cells := fun k v hk => by
  have hlt : k < 322 := by
    have := (List.getElem?_eq_some_iff.1 hk).1
    rw [cells_len] at this; exact this
  rw [cells_at M hlt] at hk
  injection hk with hk
  rw [Nat.zero_add, ← hk]
  unfold Mg.cell
  by_cases h1 : k < 64
  · rw [if_pos h1]; exact h.ls k h1
  rw [if_neg h1]
  by_cases h2 : k < 128
  · rw [if_pos h2]; have := h.hs (k - 64) (by omega); rw [show 64 + (k - 64) = k by omega] at this; exact this
  rw [if_neg h2]
  by_cases h3 : k < 192
  · rw [if_pos h3]; have := h.en (k - 128) (by omega); rw [show 128 + (k - 128) = k by omega] at this; exact this
  rw [if_neg h3]
  by_cases h4 : k < 320
  · rw [if_pos h4]
    by_cases h5 : (k - 192) % 2 = 0
    · rw [if_pos h5]; have := h.pk ((k - 192) / 2) (by omega); rw [show 192 + (k - 192) / 2 * 2 = k by omega] at this; exact this
    · rw [if_neg h5]; have := h.pv ((k - 192) / 2) (by omega); rw [show 192 + (k - 192) / 2 * 2 + 1 = k by omega] at this; exact this
  rw [if_neg h4]
  by_cases h5 : k = 320
  · rw [if_pos h5, h5]; exact h.fl
  · rw [if_neg h5, show k = 321 by omega]; exact h.fu
theorem MrAt.of_range {w : World} {b : Nat} {M : Mg} (h : w.rangeAt b 0 M.cells) (hf : ∀ k, k < 322 → w.frozen? ⟨b, k, none⟩ = false) : MrAt w b M := by
  have key : ∀ k, k < 322 → w.cell? ⟨b, k, none⟩ = some (M.cell k) := fun k hk => by
    have := h k _ (cells_at M hk)
    rw [Nat.zero_add] at this; exact this
  refine ⟨fun v hv => ?_, fun v hv => ?_, fun v hv => ?_, fun v hv => ?_, fun v hv => ?_, key 320 (by omega), key 321 (by omega), hf⟩
  · rw [key v (by omega), Mg.cell, if_pos hv]
  · rw [key (64 + v) (by omega), Mg.cell, if_neg (by omega), if_pos (by omega), show 64 + v - 64 = v by omega]
  · rw [key (128 + v) (by omega), Mg.cell, if_neg (by omega), if_neg (by omega), if_pos (by omega), show 128 + v - 128 = v by omega]
  · rw [key (192 + v * 2) (by omega), Mg.cell, if_neg (by omega), if_neg (by omega), if_neg (by omega), if_pos (by omega), if_pos (by omega), show (192 + v * 2 - 192) / 2 = v by omega]
  · rw [key (192 + v * 2 + 1) (by omega), Mg.cell, if_neg (by omega), if_neg (by omega), if_neg (by omega), if_pos (by omega), if_neg (by omega), show (192 + v * 2 + 1 - 192) / 2 = v by omega]
end Mg
end Go.Proofs.YtbndgbjenmknmaaDoor
