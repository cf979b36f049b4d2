/- The walks of the laws on single ranges (package leapfroglaw02), from the contracts of XSpan. Conditions: the bounds of each argument's kind. -/
import Derived.Test.YtmnoljnjnmcgpaaSpan
namespace Go.Proofs.Ytmnoljnjnmcgpaa
open Go.RowKit Go.Sort
set_option linter.unusedVariables false
set_option linter.unusedSimpArgs false
namespace Wk
open Sp
theorem cells2 {w : World} {g : Nat} {x y : Value} (h0 : w.cell? ⟨g, 0, none⟩ = some x) (h1 : w.cell? ⟨g, 1, none⟩ = some y) (d : Nat) (os : Array Obj) :
    (grow (redrawn w d) os).cell? ⟨g, 0, none⟩ = some x ∧ (grow (redrawn w d) os).cell? ⟨g, 1, none⟩ = some y := ⟨cell_regrown h0 d os, cell_regrown h1 d os⟩
theorem walk_spanChecks (a0Lo : Int) (a0Hi : Int) (a1 : Int) (w : World) (a0Lol : 0 ≤ a0Lo) (a0Loh : a0Lo ≤ 18446744073709551615) (a0Hil : 0 ≤ a0Hi) (a0Hih : a0Hi ≤ 18446744073709551615) (a1l : 0 ≤ a1) (a1h : a1 ≤ 18446744073709551615) :
    Calls Try.prog 3 #[.agg #[.int .u64 a0Lo, .int .u64 a0Hi], .int .u64 a1] w fun e w' => e = .returned (.bool true) ∧ Below w.heap.size w w' := by
  go_enter Try.func3, Try.ntmps3
  go_wp2_with (first | (go_at_call 12; refine (size_any _ _ (by omega) (by omega) (by omega) (by omega) _).mono ?_; rintro r w1 ⟨rfl, b1⟩; obtain ⟨kc, kf⟩ := bcell b1; have hz := b1.size; (try simp at hz)) | (go_at_call 13; refine (sizeR_any _ _ (by omega) (by omega) (by omega) (by omega) _).mono ?_; rintro r w2 ⟨rfl, b2⟩; obtain ⟨kc2, kf2⟩ := bcell b2; have hz2 := b2.size; (try simp at hz2)))
  have B := bel_trans (bel_trans (bel_alloc (Below.refl _ _) _) b1) b2
  have c0 : w2.cell? ⟨w.heap.size, 0, none⟩ = some (.int .u64 a0Lo) := by rw [kc2 _ _ (by omega), kc _ _ (by simp)]; simp [World.cell?_alloc_new]
  have c1 : w2.cell? ⟨w.heap.size, 1, none⟩ = some (.int .u64 a0Hi) := by rw [kc2 _ _ (by omega), kc _ _ (by simp)]; simp [World.cell?_alloc_new]
  clear kc kf kc2 kf2
  have k0 := cell_regrown c0
  have k1 := cell_regrown c1
  clear c0 c1

  refine wp_region_quiet_below (by kernel_rfl) (by kernel_rfl) ?_
  repeat (first | quiet_step (first | (go_at_call 14; exact Calls.regrown_of (check_any _ _ (by omega) (by omega) (by omega) (by omega) _)) | (go_at_call 15; exact Calls.regrown_of (checkR_any _ _ (by omega) (by omega) (by omega) (by omega) _)) | (go_at_call 16; exact Calls.regrown_of (has_any _ _ _ (by omega) (by omega) (by omega) (by omega) (by omega) (by omega) _)) | (go_at_call 17; exact Calls.regrown_of (hasR_any _ _ _ (by omega) (by omega) (by omega) (by omega) (by omega) (by omega) _))))

  refine wpQuiet_nil ?_
  intro _ hw'
  obtain ⟨⟨dq, osq⟩, hw''⟩ := hw'
  subst hw''
  go_wp2
  go_ret
  exact ⟨ret_eq (by simp), bel_trans B (below_regrown _ dq osq)⟩
end Wk
end Go.Proofs.Ytmnoljnjnmcgpaa
