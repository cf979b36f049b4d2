/- Next and united of package omap: contracts of the translated code. Conditions: at most 1000 pairs with increasing keys; the bounds of each number's kind. -/
import Derived.Test.YtbdllakbkienoaaOmCa
namespace Go.Proofs.Ytbdllakbkienoaa
open Go.RowKit Go.Sort Go.Lib
set_option linter.unusedVariables false
set_option linter.unusedSimpArgs false
namespace Om
/-- the cell of a result that is a pair: written, and read again -/
theorem res_cells (w w1 : World) (bw : Below w.heap.size w w1) (e0 : w1.cell? ⟨w.heap.size + 1, 0, none⟩ = some (.int .u64 0)) (e1 : w1.cell? ⟨w.heap.size + 1, 1, none⟩ = some (.int .u64 0)) (y z : Int) :
    ((w1.setCell ⟨w.heap.size + 1, 0, none⟩ (.int .u64 y)).setCell ⟨w.heap.size + 1, 1, none⟩ (.int .u64 z)).cell? ⟨w.heap.size + 1, 0, none⟩ = some (.int .u64 y) ∧ ((w1.setCell ⟨w.heap.size + 1, 0, none⟩ (.int .u64 y)).setCell ⟨w.heap.size + 1, 1, none⟩ (.int .u64 z)).cell? ⟨w.heap.size + 1, 1, none⟩ = some (.int .u64 z) ∧
    Below w.heap.size w ((w1.setCell ⟨w.heap.size + 1, 0, none⟩ (.int .u64 y)).setCell ⟨w.heap.size + 1, 1, none⟩ (.int .u64 z)) :=
  ⟨by rw [World.cell?_setCell_other _ _ _ _ (by simp)]; exact World.cell?_setCell_same _ _ _ e0, World.cell?_setCell_same _ _ _ (by rw [World.cell?_setCell_other _ _ _ _ (by simp)]; exact e1),
    (bw.setCell (p := ⟨w.heap.size + 1, 0, none⟩) (Nat.le_succ _) _).setCell (p := ⟨w.heap.size + 1, 1, none⟩) (Nat.le_succ _) _⟩
end Om
end Go.Proofs.Ytbdllakbkienoaa
