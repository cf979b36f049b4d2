/- a row written over. Conditions: those of each lemma. -/
import Derived.Test.YtnoggggbghkgkaaWkPk6
namespace Go.Proofs.Ytnoggggbghkgkaa
open Go.RowKit Go.Shelf Go.Sort
set_option linter.unusedVariables false
set_option linter.unusedSimpArgs false
namespace Pk
open Wk
open Dm (RdK BdI bel_alloc bel_trans cell_lt flatI info info_parts row_rd app1 appAll addr_lit ret_eq)
theorem own_below {w W : World} {base n : Nat} {v : Value} {xs : List Value} (h : w.ownsRow base 3 1 v n xs) (hb : Below w.heap.size w W) : W.ownsRow base 3 1 v n xs :=
  row_kept h fun g hg => hb.block g (h.lt g hg).2
def Rw (w : World) (base : Nat) (A : Option Addr) (n c : Nat) : Prop := ∃ l', w.ownsRow base 3 1 (.slice A n c) n (flatI l')
theorem Rw.at {w : World} {base : Nat} {A : Option Addr} {n c j : Nat} (h : Rw w base A n c) (hj : j < n) (x : Int) : ∃ g y, A = some ⟨g, 0, none⟩ ∧ base ≤ g ∧ g < w.heap.size ∧ w.cell? ⟨g, j, none⟩ = some (.int .i64 y) ∧ w.frozen? ⟨g, j, none⟩ = false ∧ Rw (w.setCell ⟨g, j, none⟩ (.int .i64 x)) base A n c := by
  obtain ⟨l', ow⟩ := h
  have hr := row_rd ow
  obtain ⟨hl, _⟩ := hr
  have ow' := ow
  rcases ow.2 with ⟨e, _⟩ | ⟨g, cap, cur, e, _⟩
  · injection e with e1 e2 e3
    omega
  · injection e with e1 e2 e3
    subst e1
    have hlt := ow.lt g rfl
    refine ⟨g, _, rfl, hlt.1, hlt.2, own_cell ow hl hj, ow.frozenAt j, l'.set j x, ?_⟩
    rw [← flat_set]
    exact (ow.stored j _).1
theorem Rw.other {w : World} {base : Nat} {A : Option Addr} {n c g j : Nat} {v : Value} (h : Rw w base A n c) (hg : ∀ g' i, A = some ⟨g', i, none⟩ → g' ≠ g) : Rw (w.setCell ⟨g, j, none⟩ v) base A n c := by
  obtain ⟨l', ow⟩ := h
  refine ⟨l', row_kept ow fun g' hg' => Below.heap_setCell _ _ _ _ ?_⟩
  rcases ow.2 with ⟨e, _⟩ | ⟨g2, cap, cur, e, _⟩
  · injection e with e1 e2 e3
    subst e1
    cases hg'
  · injection e with e1 e2 e3
    subst e1
    have : g2 = g' := by simpa [Value.ownBlock] using hg'
    subst this
    exact hg _ _ rfl
theorem thV_tuple (t p : Int) : ∃ x y, thV t p = .tuple #[.int .i64 x, .int .i64 y] := by
  unfold thV
  split
  · exact ⟨_, _, rfl⟩
  · exact ⟨_, _, rfl⟩
theorem gap_tuple (t h : Int) (xs : List Int) : ∃ x y, ∀ w e w', GapPost t h xs w e w' → e = .returned (.tuple #[.int .i64 x, .int .i64 y]) ∧ Below w.heap.size w w' := by
  by_cases h0 : fitT t h xs.length = 0
  · exact ⟨_, _, fun w e w' ⟨a, b⟩ => ⟨by rw [a, if_pos h0], b⟩⟩
  · exact ⟨_, _, fun w e w' ⟨a, b⟩ => ⟨by rw [a, if_neg h0], b⟩⟩
/-- the block of one row is not that of a later one -/
theorem own_ne {w1 w2 : World} {b1 b2 n1 n2 c1 c2 : Nat} {A1 A2 : Option Addr} {l1 l2 : List Value} (h1 : w1.ownsRow b1 3 1 (.slice A1 n1 c1) n1 l1) (h2 : w2.ownsRow b2 3 1 (.slice A2 n2 c2) n2 l2) (hb : w1.heap.size ≤ b2) :
    ∀ g i g' i', A1 = some ⟨g, i, none⟩ → A2 = some ⟨g', i', none⟩ → g ≠ g' := by
  rintro g i g' i' rfl rfl
  have a := (h1.lt g rfl).2
  have b := (h2.lt g' rfl).1
  omega
end Pk
end Go.Proofs.Ytnoggggbghkgkaa
