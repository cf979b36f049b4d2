/- What the laws of layer 6 share: the capacity of a slice that is an argument, lengths, and the argument of three moves. No conditions. -/
import Derived.Test.YtbdllakbkienoaaPlJ
import Derived.Test.YtbdllakbkienoaaPdI
import Derived.Laws.IdiomArrays
namespace Go.Proofs.Ytbdllakbkienoaa
open Go.RowKit Go.Sort Go.ChangeShapes Go.WideShapes Go.Deep Go.ChangeAt Go.Joins
set_option linter.unusedVariables false
set_option linter.unusedSimpArgs false
namespace Pl
open Om (addr_lit bel_alloc bel_trans below_drewN ret_eq Asc open_slice_fields)
section
variable {H : Type} {enc : TypeId × Value → H} {w : World} {base b0 : Nat} {spare : Nat → Bool} {held : Bool} {r : Reach}
theorem cap_pairs {A : Option Addr} {n c : Nat} {d : DataW H} {p : List MemPlace} (h : DataW.Trod enc Try.prog w base spare held 22 (.slice A n c) d p) : n ≤ c := by
  obtain ⟨fuel, hf⟩ := h
  rcases open_slice_fields Try.underlying22 Try.underlying43 (by kernel_rfl) Om.cellsOf_pair hf with ⟨hcs, hx⟩ | ⟨a, len, cap, m, D, Pl, hcs, hb, hl, hm, hmm, hx, hi⟩
  · simp [Value.cells] at hcs
    obtain ⟨rfl, rfl, rfl⟩ := hcs
    exact Nat.le_refl _
  · simp [Value.cells] at hcs
    obtain ⟨rfl, rfl, rfl⟩ := hcs
    exact hl
theorem cap_changes {A : Option Addr} {n c : Nat} {d : DataW H} {p : List MemPlace} (h : DataW.Trod enc Try.prog w base spare held 27 (.slice A n c) d p) : n ≤ c := by
  obtain ⟨fuel, hf⟩ := h
  rcases open_slice_fields Try.underlying27 Try.underlying45 (by kernel_rfl) cellsOf_change hf with ⟨hcs, hx⟩ | ⟨a, len, cap, m, D, Pl, hcs, hb, hl, hm, hmm, hx, hi⟩
  · simp [Value.cells] at hcs
    obtain ⟨rfl, rfl, rfl⟩ := hcs
    exact Nat.le_refl _
  · simp [Value.cells] at hcs
    obtain ⟨rfl, rfl, rfl⟩ := hcs
    exact hl
end
/-! ### lengths -/
theorem mvR_len (p : List Om.Pr) (lo hi d : Int) : (mvR p lo hi d).length ≤ 2 * p.length := by
  by_cases h : mvE p lo hi d = 0
  · rw [mvR_yes h, List.length_map]; exact mvP_len p lo hi d
  · rw [mvR_no rfl h]; exact Nat.zero_le _
theorem deP_len (p : List Om.Pr) (lo hi : Int) : (deP p lo hi).length ≤ p.length := by
  unfold deP plan; rw [List.length_map]; exact keys_len p lo hi
theorem deR_len (p : List Om.Pr) (lo hi : Int) : (deR p lo hi).length ≤ p.length := by
  by_cases h : deE p lo hi = 0
  · rw [deR_yes h, List.length_map]; exact deP_len p lo hi
  · rw [deR_no rfl h]; exact Nat.zero_le _
theorem oneR_len (p : List Om.Pr) (lo hi d : Int) : (oneR p lo hi d).length ≤ 2 * p.length := by
  unfold oneR
  split
  · have := deR_len p lo hi; omega
  · exact mvR_len p lo hi d
theorem thR_len (a b : List Rc) : (thR a b).length ≤ a.length + b.length := by
  by_cases h : thE a b = 0
  · rw [thR_yes h, List.length_map]
    refine Nat.le_trans thL_len ?_
    rw [List.length_map, List.length_map]; exact Nat.le_refl _
  · rw [thR_no rfl h]; exact Nat.zero_le _
theorem put1_len (p : List Om.Pr) (x : Cg) : (put1 p x).length ≤ p.length + 1 := by
  unfold put1
  split
  · exact Om.setL_len_le _ _
  · have := Om.outL_len p x.k x.k; omega
theorem appL_len : ∀ (L : List Cg) (p : List Om.Pr), (appL p L).length ≤ p.length + L.length
  | [], p => Nat.le_refl _
  | x :: L, p => by
    have h1 := put1_len p x
    have h2 := appL_len L (put1 p x)
    show (appL (put1 p x) L).length ≤ _
    simp only [List.length_cons]
    omega
theorem apR_len (p : List Om.Pr) (l : List Rc) : (apR p l).length ≤ p.length + l.length := by
  by_cases h : apE p l = 0
  · rw [apR_yes h]
    refine Nat.le_trans (appL_len _ _) ?_
    rw [List.length_map]; exact Nat.le_refl _
  · rw [apR_no rfl h]; exact Nat.zero_le _
theorem ivR_len (l : List Rc) : (ivR l).length ≤ l.length := by
  by_cases h : chk l
  · rw [ivR_yes h, List.length_map]; exact Nat.le_refl _
  · rw [ivR_no h]; exact Nat.zero_le _
/-- what a row that a call hands out is good for -/
theorem row_use {w : World} {base n : Nat} {v : Value} {l : List Rc} (h : w.ownsRow base 45 5 v n (flat l)) : ∃ A c, v = .slice A n c ∧ l.length = n ∧ n ≤ c ∧ Rd w A l ∧ (A = none → c = 0) := by
  obtain ⟨hl, A, c, e, hc, hr, _⟩ := row_form h
  refine ⟨A, c, e, hl, hc, hr, fun hA => ?_⟩
  subst hA e
  rcases h.2 with ⟨e, _⟩ | ⟨g, cap, cur, e, _⟩
  · injection e
  · cases e
theorem prow_use {w : World} {base n : Nat} {v : Value} {l : List Om.Pr} (h : w.ownsRow base 43 2 v n (Om.flat l)) : ∃ A c, v = .slice A n c ∧ l.length = n ∧ n ≤ c ∧ Om.Rd w A l ∧ (A = none → c = 0) := by
  obtain ⟨hl, A, c, e, hc, hr, _⟩ := Om.row_form h
  refine ⟨A, c, e, hl, hc, hr, fun hA => ?_⟩
  subst hA e
  rcases h.2 with ⟨e, _⟩ | ⟨g, cap, cur, e, _⟩
  · injection e
  · cases e
end Pl
end Go.Proofs.Ytbdllakbkienoaa
