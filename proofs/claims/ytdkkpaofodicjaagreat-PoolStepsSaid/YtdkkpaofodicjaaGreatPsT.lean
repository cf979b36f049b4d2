/- Package pool: isThread, isHeight: contracts of the translated code. Conditions: none. -/
import Derived.Test.YtdkkpaofodicjaaGreatPsF
import Derived.Lib.Hide
namespace Go.Proofs.YtdkkpaofodicjaaGreat
open Go.RowKit Go.Sort
set_option linter.unusedVariables false
set_option linter.unusedSimpArgs false
namespace Po
theorem isThread_any (t : Int) (w : World) : Calls Tryz.prog 44 #[.int .i64 t] w fun e w' => e = .returned (.bool (decide (0 ≤ t ∧ t < 64))) ∧ w' = w := by
  by_cases h0 : 0 ≤ t
  · have d0 : decide (0 ≤ t) = true := decide_eq_true h0
    have e : decide (0 ≤ t ∧ t < 64) = decide (t < 64) := by simp [h0]
    rw [e]
    go_enter Tryz.func44, Tryz.ntmps44
    go_wp2
    go_ret
    exact ⟨rfl, rfl⟩
  · have d0 : decide (0 ≤ t) = false := decide_eq_false h0
    rw [decide_eq_false (fun e : 0 ≤ t ∧ t < 64 => h0 e.1)]
    go_enter Tryz.func44, Tryz.ntmps44
    go_wp2
    go_ret
    exact ⟨rfl, rfl⟩
theorem isHeight_any (t : Int) (w : World) : Calls Tryz.prog 45 #[.int .i64 t] w fun e w' => e = .returned (.bool (decide (1 ≤ t ∧ t ≤ 6))) ∧ w' = w := by
  by_cases h0 : 1 ≤ t
  · have d0 : decide (1 ≤ t) = true := decide_eq_true h0
    have e : decide (1 ≤ t ∧ t ≤ 6) = decide (t ≤ 6) := by simp [h0]
    rw [e]
    go_enter Tryz.func45, Tryz.ntmps45
    go_wp2
    go_ret
    exact ⟨rfl, rfl⟩
  · have d0 : decide (1 ≤ t) = false := decide_eq_false h0
    rw [decide_eq_false (fun e : 1 ≤ t ∧ t ≤ 6 => h0 e.1)]
    go_enter Tryz.func45, Tryz.ntmps45
    go_wp2
    go_ret
    exact ⟨rfl, rfl⟩
end Po
end Go.Proofs.YtdkkpaofodicjaaGreat
