/- New, Copy, Pairs, Range, Next, DeleteRange, Move and Same of leapfrogref05: contracts of the translated code. Conditions: at most 1000 pairs with increasing keys; the bounds of each number's kind. -/
import Derived.Test.YtbdllakbkienoaaOmG
import Derived.StillTailTactics
import Derived.IntWalk
namespace Go.Proofs.Ytbdllakbkienoaa
open Go.RowKit Go.Sort
set_option linter.unusedVariables false
set_option linter.unusedSimpArgs false
namespace Om
/-- the map of the first pairs -/
def nwL (ps : List Pr) : List Pr := setA [] ps
theorem nwL_asc (ps : List Pr) : Asc (nwL ps) := setA_asc ps Asc.nil
theorem nwL_len (ps : List Pr) : (nwL ps).length ≤ ps.length := by have := setA_len_le ps []; simpa [nwL] using this
theorem nwL_snoc (ps : List Pr) (x : Pr) : nwL (ps ++ [x]) = setL (nwL ps) x := by simp [nwL, setA, List.foldl_append]
/-- whether the first n keys are distinct -/
def okN (ps : List Pr) : Nat → Bool
  | 0 => true
  | n + 1 => okN ps n && (getL (nwL (ps.take n)) (ps.getD n (0, 0)).1).isNone
theorem okN_mono {ps : List Pr} : ∀ {n m : Nat}, m ≤ n → okN ps n = true → okN ps m = true
  | 0, m, h, hn => by obtain rfl : m = 0 := by omega
                      exact hn
  | n + 1, m, h, hn => by
    by_cases e : m = n + 1
    · subst e; exact hn
    · rw [okN, Bool.and_eq_true] at hn
      exact okN_mono (by omega) hn.1
theorem okN_no {ps : List Pr} {k n : Nat} {x : Pr} (hk : k < n) (hx : ps[k]? = some x) (h : getL (nwL (ps.take k)) x.1 ≠ none) : okN ps n = false := by
  rw [← Bool.not_eq_true]
  intro h'
  have := okN_mono (m := k + 1) (by omega) h'
  rw [okN, Bool.and_eq_true, List.getD_eq_getElem?_getD, hx] at this
  exact h (by simpa using this.2)
theorem okN_step {ps : List Pr} {k : Nat} {x : Pr} (hx : ps[k]? = some x) (ho : okN ps k = true) (h : getL (nwL (ps.take k)) x.1 = none) : okN ps (k + 1) = true := by
  rw [okN, ho, List.getD_eq_getElem?_getD, hx]
  simp [h]
def NPost (w : World) (ps : List Pr) (e : Ending) (w' : World) : Prop :=
  if okN ps ps.length = true then ∃ bm v, e = .returned (.tuple #[.pointer (some ⟨bm, 0, none⟩), .int .i64 0]) ∧ MapAt w' bm v (nwL ps) ∧ w.heap.size ≤ bm ∧ Fresh w.heap.size v ∧ Below w.heap.size w w'
  else e = .returned (.tuple #[.pointer none, .int .i64 9]) ∧ Below w.heap.size w w'
/-! ### Copy and Pairs -/
/-- a new map with the pairs l -/
def CpPost (w : World) (l : List Pr) (e : Ending) (w' : World) : Prop :=
  ∃ bm v, e = .returned (.pointer (some ⟨bm, 0, none⟩)) ∧ MapAt w' bm v l ∧ w.heap.size ≤ bm ∧ Fresh w.heap.size v ∧ Below w.heap.size w w'
/-- a new row with the pairs l -/
def RwPost (w : World) (l : List Pr) (e : Ending) (w' : World) : Prop :=
  ∃ v, e = .returned v ∧ w'.ownsRow w.heap.size 43 2 v l.length (flat l) ∧ Below w.heap.size w w'
end Om
end Go.Proofs.Ytbdllakbkienoaa
