/- The functions of leapfrogref03 on one map (Check, Values, Of): contracts of the translated code. 'RdK κ w A l': at the address A lie the numbers l of the kind κ. Conditions: the list is no longer than the model lets a slice be; the bounds of each argument's kind. -/
import Derived.Test.YtcipjjchclpgnaaRows
import Derived.Test.YtcipjjchclpgnaaDomM
import Derived.WalkKit
import Derived.ProofKit
import Derived.OpenShut
import Derived.Outline
import Derived.WalkLawsBesides
import Derived.Deep.QuietTactic
import Derived.BigQuiet
import Derived.Lib.QuietBelow
import Derived.Lib.Hide
namespace Go.Proofs.Ytcipjjchclpgnaa
open Go.RowKit Go.Sort
set_option linter.unusedVariables false
set_option linter.unusedSimpArgs false
set_option maxRecDepth 100000
namespace Dm
theorem ret_eq {a b : Value} (h : a = b) : Ending.returned a = Ending.returned b := by rw [h]
theorem bcell {W w1 : World} (hb : Below W.heap.size W w1) : (∀ b o, b < W.heap.size → w1.cell? ⟨b, o, none⟩ = W.cell? ⟨b, o, none⟩) ∧ (∀ b o, b < W.heap.size → w1.frozen? ⟨b, o, none⟩ = W.frozen? ⟨b, o, none⟩) :=
  ⟨fun b o h => hb.cell (p := ⟨b, o, none⟩) h, fun b o h => hb.frozen (p := ⟨b, o, none⟩) h⟩
theorem bel_alloc {W w : World} (h : Below W.heap.size W w) (o : Obj) : Below W.heap.size W (w.alloc o) := h.alloc h.size o
theorem bel_trans {W w w1 : World} (h : Below W.heap.size W w) (h1 : Below w.heap.size w w1) : Below W.heap.size W w1 := h.trans (h1.mono h.size)
def RdK (κ : IntKind) (w : World) (A : Option Addr) (l : List Int) : Prop :=
  ∀ (k : Nat), k < l.length → ∃ b o, A = some ⟨b, o, none⟩ ∧ w.cell? ⟨b, o + k, none⟩ = some (.int κ (l.getD k 0))
theorem cell_lt {w : World} {b o : Nat} {v : Value} (h : w.cell? ⟨b, o, none⟩ = some v) : b < w.heap.size := by
  have hb : w.heap[b]? ≠ none := by
    intro h0
    unfold World.cell? at h
    rw [h0] at h
    cases h
  by_cases hlt : b < w.heap.size
  · exact hlt
  · exact absurd (Array.getElem?_eq_none_iff.2 (by omega)) hb
theorem RdK.below {κ : IntKind} {w w' : World} {A : Option Addr} {l : List Int} (h : RdK κ w A l) (hb : Below w.heap.size w w') : RdK κ w' A l := by
  intro k hk
  obtain ⟨b, o, e, c⟩ := h k hk
  exact ⟨b, o, e, (hb.cell (p := ⟨b, o + k, none⟩) (cell_lt c)).trans c⟩
theorem RdK.drewN {κ : IntKind} {w : World} {A : Option Addr} {l : List Int} (h : RdK κ w A l) (n : Nat) : RdK κ (w.drewN n) A l := h
def BdU (l : List Int) : Prop := ∀ k, k < l.length → 0 ≤ l.getD k 0 ∧ l.getD k 0 ≤ 18446744073709551615

end Dm
end Go.Proofs.Ytcipjjchclpgnaa
