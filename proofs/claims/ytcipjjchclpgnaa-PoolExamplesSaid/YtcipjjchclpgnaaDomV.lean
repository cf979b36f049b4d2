/- Values and Of of leapfrogref03: contracts of the translated code. Conditions: those of XDom. -/
import Derived.Test.YtcipjjchclpgnaaDom
namespace Go.Proofs.Ytcipjjchclpgnaa
open Go.RowKit Go.Sort
set_option linter.unusedVariables false
set_option linter.unusedSimpArgs false
set_option maxRecDepth 100000
namespace Dm
theorem dmE_yes {k n : Int} {l : List Int} (h : dmB k n l = true) : dmE k n l = 0 := by rw [dmE, if_pos h]
theorem dmE_no {k n : Int} {l : List Int} (h : dmB k n l = false) : dmE k n l = 2 := by rw [dmE, h]; rfl
theorem dmN_no {k n : Int} {l : List Int} (h : dmB k n l = false) : dmN k n l = 0 := by rw [dmN, h]; rfl
theorem dmV_no {k n : Int} {l : List Int} (h : dmB k n l = false) (key : Int) : dmV k n l key = 0 := by rw [dmV, h]; rfl
/-- the three forms of a valid map -/
theorem dm_forms {k n : Int} {l : List Int} (h : dmB k n l = true) :
    (k = 1 ∧ n = 0 ∧ l = [] ∧ dmN k n l = 1 ∧ ∀ key, dmV k n l key = 0) ∨
    (k = 2 ∧ 1 ≤ n ∧ n ≤ 64 ∧ l = [] ∧ dmN k n l = n ∧ ∀ key, dmV k n l key = key % n) ∨
    (k = 3 ∧ n = 0 ∧ 1 ≤ l.length ∧ l.length ≤ 63 ∧ upTo l l.length ∧ dmN k n l = l.length + 1 ∧ ∀ key, dmV k n l key = cnt l key l.length) := by
  have h' := h
  unfold dmB at h'
  by_cases h1 : k = 1
  · subst h1
    rw [if_pos rfl, decide_eq_true_eq] at h'
    refine .inl ⟨rfl, h'.1, List.eq_nil_of_length_eq_zero h'.2, ?_, fun key => ?_⟩
    · rw [dmN, if_pos h]; simp
    · rw [dmV, if_pos h]; simp
  rw [if_neg h1] at h'
  by_cases h2 : k = 2
  · subst h2
    rw [if_pos rfl, decide_eq_true_eq] at h'
    refine .inr (.inl ⟨rfl, h'.1, h'.2.1, List.eq_nil_of_length_eq_zero h'.2.2, ?_, fun key => ?_⟩)
    · rw [dmN, if_pos h]; simp
    · rw [dmV, if_pos h]; simp
  rw [if_neg h2] at h'
  by_cases h3 : k = 3
  · subst h3
    rw [if_pos rfl, Bool.and_eq_true, decide_eq_true_eq, okC_iff] at h'
    refine .inr (.inr ⟨rfl, h'.1, h'.2.1, h'.2.2.1, h'.2.2.2.2, ?_, fun key => ?_⟩)
    · rw [dmN, if_pos h]; simp
    · rw [dmV, if_pos h]; simp
  · rw [if_neg h3] at h'; cases h'

end Dm
end Go.Proofs.Ytcipjjchclpgnaa
