/- How many pairs there are after a plan: plain mathematics. No program. -/
import Derived.Test.YtbdllakbkienoaaPlM
namespace Go.Proofs.Ytbdllakbkienoaa
set_option linter.unusedVariables false
set_option linter.unusedSimpArgs false
namespace Pl
open Om
theorem in_one {l : List Pr} (h : Asc l) (k : Int) : (inL l k k).length = if getL l k = none then 0 else 1 := by
  cases hg : getL l k with
  | none =>
    rw [if_pos rfl, List.length_eq_zero_iff]
    exact asc_get (h.filter _) (by simp [Asc]) fun q => by
      rw [getL_inL h]
      by_cases e : k ≤ q ∧ q ≤ k
      · obtain rfl : q = k := by omega
        rw [if_pos e, hg]; rfl
      · rw [if_neg e]; rfl
  | some x =>
    rw [if_neg (by simp)]
    have : inL l k k = [(k, x)] := asc_get (h.filter _) (by simp [Asc]) fun q => by
      rw [getL_inL h]
      by_cases e : q = k
      · subst e; rw [if_pos (by omega), hg]; simp [getL]
      · rw [if_neg (by omega)]; simp [getL]; omega
    rw [this]; rfl
theorem out_one {l : List Pr} (h : Asc l) (k : Int) : (outL l k k).length + (if getL l k = none then 0 else 1) = l.length := by
  have := in_out_len l k k
  rw [in_one h] at this
  omega
theorem set_one {l : List Pr} (h : Asc l) (k x : Int) : (setL l (k, x)).length + (if getL l k = none then 0 else 1) = l.length + 1 := by
  have h1 := out_one (setL_asc h (k, x)) k
  have h2 : outL (setL l (k, x)) k k = outL l k k := asc_get ((setL_asc h _).filter _) (h.filter _) fun q => by
    rw [getL_outL (setL_asc h _), getL_outL h, getL_setL h]
    by_cases e : k ≤ q ∧ q ≤ k
    · rw [if_pos e, if_pos e]
    · rw [if_neg e, if_neg e, if_neg (by show ¬ q = k; omega)]
  have h3 := out_one h k
  rw [h2, getL_setL h, if_pos rfl] at h1
  simp only [reduceCtorEq, if_false] at h1
  omega
def nB (L : List Cg) : Nat := (L.filter fun x => decide (x.b = none)).length
def nG (L : List Cg) : Nat := (L.filter fun x => decide (x.a = none)).length
theorem put1_one {p : List Pr} (h : Asc p) {x : Cg} (hf : getL p x.k = x.b) (hr : x.b ≠ none ∨ x.a ≠ none) : (put1 p x).length + (if x.a = none then 1 else 0) = p.length + (if x.b = none then 1 else 0) := by
  unfold put1
  split
  · rename_i v e
    have := set_one h x.k v
    rw [hf] at this
    rw [e, if_neg (by simp)]
    by_cases hb : x.b = none
    · rw [if_pos hb] at this ⊢; omega
    · rw [if_neg hb] at this ⊢; omega
  · rename_i e
    have := out_one h x.k
    rw [hf] at this
    rw [if_pos e]
    have hb : x.b ≠ none := by rcases hr with h | h; exact h; exact absurd e h
    rw [if_neg hb] at this ⊢
    omega
theorem app_len : ∀ (L : List Cg) {p : List Pr}, Asc p → AscC L → Real L → fits p L → (appL p L).length + nG L = p.length + nB L
  | [], p, _, _, _, _ => rfl
  | x :: L, p, h, ha, hr, hf => by
    have h1 := put1_one h (hf x (List.mem_cons_self ..)) (hr x (List.mem_cons_self ..))
    have h2 := app_len L (put1_asc h x) ha.tail (fun y hy => hr y (List.mem_cons_of_mem _ hy)) (fun y hy => by
      rw [put1_get h, if_neg (by have := ha.head y hy; omega)]
      exact hf y (List.mem_cons_of_mem _ hy))
    have e1 : nB (x :: L) = (if x.b = none then 1 else 0) + nB L := by
      unfold nB; rw [List.filter_cons]
      by_cases e : x.b = none <;> simp [e]; omega
    have e2 : nG (x :: L) = (if x.a = none then 1 else 0) + nG L := by
      unfold nG; rw [List.filter_cons]
      by_cases e : x.a = none <;> simp [e]; omega
    show (appL (put1 p x) L).length + _ = _
    omega
end Pl
end Go.Proofs.Ytbdllakbkienoaa
