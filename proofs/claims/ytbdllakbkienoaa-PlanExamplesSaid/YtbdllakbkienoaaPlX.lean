/- Rows that a call has handed out and that are written over: they stay such rows under any store. No conditions beside those of each lemma. -/
import Derived.Test.YtbdllakbkienoaaPlE
namespace Go.Proofs.Ytbdllakbkienoaa
open Go.RowKit Go.Sort
set_option linter.unusedVariables false
set_option linter.unusedSimpArgs false
namespace Pl
open Om (addr_lit bel_alloc bel_trans below_drewN ret_eq Asc)
/-- n elements of sz cells that may be written over, in a block from B on -/
def Wq (w : World) (A : Option Addr) (sz n B : Nat) : Prop := ∀ j, j < n → ∃ g, A = some ⟨g, 0, none⟩ ∧ B ≤ g ∧ ∀ q, q < sz → (∃ v, w.cell? ⟨g, j * sz + q, none⟩ = some v) ∧ w.frozen? ⟨g, j * sz + q, none⟩ = false
theorem Wq.set {w : World} {A : Option Addr} {sz n B : Nat} (h : Wq w A sz n B) (p : Addr) (v : Value) : Wq (w.setCell p v) A sz n B := fun j hj => by
  obtain ⟨g, e, hg, hc⟩ := h j hj
  refine ⟨g, e, hg, fun q hq => ?_⟩
  obtain ⟨⟨x, hx⟩, hf⟩ := hc q hq
  refine ⟨?_, by rw [World.frozen?_setCell]; exact hf⟩
  by_cases hp : p = ⟨g, j * sz + q, none⟩
  · subst hp; exact ⟨v, World.cell?_setCell_same _ _ _ hx⟩
  · exact ⟨x, by rw [World.cell?_setCell_other _ _ _ _ hp]; exact hx⟩
theorem Wq.below {w w' : World} {A : Option Addr} {sz n B : Nat} (h : Wq w A sz n B) (b : Below w.heap.size w w') : Wq w' A sz n B := fun j hj => by
  obtain ⟨g, e, hg, hc⟩ := h j hj
  refine ⟨g, e, hg, fun q hq => ?_⟩
  obtain ⟨⟨x, hx⟩, hf⟩ := hc q hq
  have lt := World.block_lt_of_cell? w _ hx
  exact ⟨⟨x, (b.cell lt).trans hx⟩, (b.frozen lt).trans hf⟩
theorem wq_changes {w : World} {base n : Nat} {A : Option Addr} {c : Nat} {l : List Rc} (h : w.ownsRow base 45 5 (.slice A n c) n (flat l)) : Wq w A 5 n base := fun j hj => by
  obtain ⟨hl, A', c', e, _, rd, ho⟩ := row_form h
  injection e with e1 e2 e3
  subst e1 e3
  obtain ⟨x, hx, _⟩ := getElem?_lt hl hj
  obtain ⟨b, o, eA, _⟩ := rd j x hx
  obtain ⟨hb, hlt, g, eg, own⟩ := ho _ eA
  subst eA
  cases eg
  refine ⟨b, rfl, hb, fun q hq => ?_⟩
  obtain ⟨h1, h2⟩ := own j x hx q hq
  rw [Nat.zero_add] at h1 h2
  refine ⟨?_, h2⟩
  rw [h1]
  have : q < (encV x).length := by simpa [encV] using hq
  exact ⟨_, List.getElem?_eq_getElem this⟩
theorem wq_pairs {w : World} {base n : Nat} {A : Option Addr} {c : Nat} {l : List Om.Pr} (h : w.ownsRow base 43 2 (.slice A n c) n (Om.flat l)) : Wq w A 2 n base := fun j hj => by
  have hl : (Om.flat l).length = n * 2 := h.1
  rcases h.2 with ⟨e, e0⟩ | ⟨g, cap, cur, e, hbase, hh, hnc, _⟩
  · injection e with e1 e2 e3
    omega
  · injection e with e1 e2 e3
    subst e1 e3
    refine ⟨g, rfl, hbase, fun q hq => ?_⟩
    have hk : j * 2 + q < n * 2 := by omega
    refine ⟨?_, h.frozenAt _⟩
    rw [h.cellAt _ hk]
    exact ⟨_, List.getElem?_eq_getElem (by omega)⟩
end Pl
end Go.Proofs.Ytbdllakbkienoaa
