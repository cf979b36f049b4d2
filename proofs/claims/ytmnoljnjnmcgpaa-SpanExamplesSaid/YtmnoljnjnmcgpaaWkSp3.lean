/- The walks of SpanPairs (package leapfroglaw02), from the contracts. Conditions: the bounds of each argument's kind. -/
import Derived.Test.YtmnoljnjnmcgpaaSpanC
namespace Go.Proofs.Ytmnoljnjnmcgpaa
open Go.RowKit Go.Sort
set_option linter.unusedVariables false
set_option linter.unusedSimpArgs false
namespace Wk
open Sp
theorem cy {w w1 : World} {a : Addr} {v : Value} (o : Obj) (h : w.cell? a = some v) (b : Below (w.alloc o).heap.size (w.alloc o) w1) : w1.cell? a = some v := by
  have e := (World.cell?_alloc_lt w o a (World.block_lt_of_cell? w _ h)).trans h
  exact (b.cell (World.block_lt_of_cell? _ _ e)).trans e
theorem cb {w w1 : World} {a : Addr} {v : Value} (h : w.cell? a = some v) (b : Below w.heap.size w w1) : w1.cell? a = some v := (b.cell (World.block_lt_of_cell? _ _ h)).trans h
theorem ca {w : World} {a : Addr} {v : Value} (o : Obj) (h : w.cell? a = some v) : (w.alloc o).cell? a = some v := (World.cell?_alloc_lt w o a (World.block_lt_of_cell? w _ h)).trans h

set_option maxHeartbeats 1000000 in
theorem walk_spanPairs (a0Lo : Int) (a0Hi : Int) (a1Lo : Int) (a1Hi : Int) (a2 : Int) (w : World) (a0Lol : 0 ≤ a0Lo) (a0Loh : a0Lo ≤ 18446744073709551615) (a0Hil : 0 ≤ a0Hi) (a0Hih : a0Hi ≤ 18446744073709551615) (a1Lol : 0 ≤ a1Lo) (a1Loh : a1Lo ≤ 18446744073709551615) (a1Hil : 0 ≤ a1Hi) (a1Hih : a1Hi ≤ 18446744073709551615) (a2l : 0 ≤ a2) (a2h : a2 ≤ 18446744073709551615) :
    Calls Try.prog 4 #[.agg #[.int .u64 a0Lo, .int .u64 a0Hi], .agg #[.int .u64 a1Lo, .int .u64 a1Hi], .int .u64 a2] w fun e w' => e = .returned (.bool true) ∧ Below w.heap.size w w' := by
  go_enter Try.func4, Try.ntmps4
  go_wp2_with fail
  refine (meet_any a0Lo a0Hi a1Lo a1Hi a0Lol a0Loh a0Hil a0Hih a1Lol a1Loh a1Hil a1Hih _).mono ?_
  rintro r w1 ⟨rfl, b1⟩
  have y1 : w.heap.size + 1 < w1.heap.size := by have := b1.size; simp at this; omega
  have x1 : w.heap.size < w1.heap.size := by omega
  have B1 := bel_trans (bel_alloc (bel_alloc (Below.refl w.heap.size w) _) _) b1
  have p0 : w1.cell? ⟨w.heap.size, 0, none⟩ = some (.int .u64 a0Lo) := by rw [b1.cell (p := ⟨w.heap.size, 0, none⟩) (by simp <;> omega)]; simp
  have p1 : w1.cell? ⟨w.heap.size, 1, none⟩ = some (.int .u64 a0Hi) := by rw [b1.cell (p := ⟨w.heap.size, 1, none⟩) (by simp <;> omega)]; simp
  have q0 : w1.cell? ⟨w.heap.size + 1, 0, none⟩ = some (.int .u64 a1Lo) := by rw [b1.cell (p := ⟨w.heap.size + 1, 0, none⟩) (by simp <;> omega)]; simp
  have q1 : w1.cell? ⟨w.heap.size + 1, 1, none⟩ = some (.int .u64 a1Hi) := by rw [b1.cell (p := ⟨w.heap.size + 1, 1, none⟩) (by simp <;> omega)]; simp
  go_wp2_with fail
  refine (meetR_any a0Lo a0Hi a1Lo a1Hi a0Lol a0Loh a0Hil a0Hih a1Lol a1Loh a1Hil a1Hih _).mono ?_
  rintro r w2 ⟨rfl, b2⟩
  have y2 : w.heap.size + 1 < w2.heap.size := by have := b2.size; simp at this; omega
  have x2 : w.heap.size < w2.heap.size := by omega
  replace p0 := cy _ p0 b2
  replace p1 := cy _ p1 b2
  replace q0 := cy _ q0 b2
  replace q1 := cy _ q1 b2
  have B2 := bel_trans (bel_alloc B1 _) b2
  have m10 : w2.cell? ⟨w1.heap.size, 0, none⟩ = some (.int .u64 (mtL a0Lo a0Hi a1Lo a1Hi)) := by rw [b2.cell (p := ⟨w1.heap.size, 0, none⟩) (by simp <;> omega)]; simp
  have m11 : w2.cell? ⟨w1.heap.size, 1, none⟩ = some (.int .u64 (mtH a0Lo a0Hi a1Lo a1Hi)) := by rw [b2.cell (p := ⟨w1.heap.size, 1, none⟩) (by simp <;> omega)]; simp
  go_wp2_with fail
  refine (hull_any a0Lo a0Hi a1Lo a1Hi a0Lol a0Loh a0Hil a0Hih a1Lol a1Loh a1Hil a1Hih _).mono ?_
  rintro r w3 ⟨rfl, b3⟩
  have y3 : w.heap.size + 1 < w3.heap.size := by have := b3.size; simp at this; omega
  have x3 : w.heap.size < w3.heap.size := by omega
  replace p0 := cy _ p0 b3
  replace p1 := cy _ p1 b3
  replace q0 := cy _ q0 b3
  replace q1 := cy _ q1 b3
  replace m10 := cy _ m10 b3
  replace m11 := cy _ m11 b3
  have B3 := bel_trans (bel_alloc B2 _) b3
  have m20 : w3.cell? ⟨w2.heap.size, 0, none⟩ = some (.int .u64 (mtL a0Lo a0Hi a1Lo a1Hi)) := by rw [b3.cell (p := ⟨w2.heap.size, 0, none⟩) (by simp <;> omega)]; simp
  have m21 : w3.cell? ⟨w2.heap.size, 1, none⟩ = some (.int .u64 (mtH a0Lo a0Hi a1Lo a1Hi)) := by rw [b3.cell (p := ⟨w2.heap.size, 1, none⟩) (by simp <;> omega)]; simp
  go_wp2_with fail
  refine (hullR_any a0Lo a0Hi a1Lo a1Hi a0Lol a0Loh a0Hil a0Hih a1Lol a1Loh a1Hil a1Hih _).mono ?_
  rintro r w4 ⟨rfl, b4⟩
  have y4 : w.heap.size + 1 < w4.heap.size := by have := b4.size; simp at this; omega
  have x4 : w.heap.size < w4.heap.size := by omega
  replace p0 := cy _ p0 b4
  replace p1 := cy _ p1 b4
  replace q0 := cy _ q0 b4
  replace q1 := cy _ q1 b4
  replace m10 := cy _ m10 b4
  replace m11 := cy _ m11 b4
  replace m20 := cy _ m20 b4
  replace m21 := cy _ m21 b4
  have B4 := bel_trans (bel_alloc B3 _) b4
  have m30 : w4.cell? ⟨w3.heap.size, 0, none⟩ = some (.int .u64 (huL a0Lo a0Hi a1Lo a1Hi)) := by rw [b4.cell (p := ⟨w3.heap.size, 0, none⟩) (by simp <;> omega)]; simp
  have m31 : w4.cell? ⟨w3.heap.size, 1, none⟩ = some (.int .u64 (huH a0Lo a0Hi a1Lo a1Hi)) := by rw [b4.cell (p := ⟨w3.heap.size, 1, none⟩) (by simp <;> omega)]; simp
  go_wp2_with fail
  refine (shift_any a0Lo a0Hi a2 a0Lol a0Loh a0Hil a0Hih a2l a2h _).mono ?_
  rintro r w5 ⟨rfl, b5⟩
  have y5 : w.heap.size + 1 < w5.heap.size := by have := b5.size; simp at this; omega
  have x5 : w.heap.size < w5.heap.size := by omega
  replace p0 := cy _ p0 b5
  replace p1 := cy _ p1 b5
  replace q0 := cy _ q0 b5
  replace q1 := cy _ q1 b5
  replace m10 := cy _ m10 b5
  replace m11 := cy _ m11 b5
  replace m20 := cy _ m20 b5
  replace m21 := cy _ m21 b5
  replace m30 := cy _ m30 b5
  replace m31 := cy _ m31 b5
  have B5 := bel_trans (bel_alloc B4 _) b5
  have m40 : w5.cell? ⟨w4.heap.size, 0, none⟩ = some (.int .u64 (huL a0Lo a0Hi a1Lo a1Hi)) := by rw [b5.cell (p := ⟨w4.heap.size, 0, none⟩) (by simp <;> omega)]; simp
  have m41 : w5.cell? ⟨w4.heap.size, 1, none⟩ = some (.int .u64 (huH a0Lo a0Hi a1Lo a1Hi)) := by rw [b5.cell (p := ⟨w4.heap.size, 1, none⟩) (by simp <;> omega)]; simp
  go_wp2_with fail
  refine (shiftR_any a0Lo a0Hi a2 a0Lol a0Loh a0Hil a0Hih a2l a2h _).mono ?_
  rintro r w6 ⟨rfl, b6⟩
  have y6 : w.heap.size + 1 < w6.heap.size := by have := b6.size; simp at this; omega
  have x6 : w.heap.size < w6.heap.size := by omega
  replace p0 := cy _ p0 b6
  replace p1 := cy _ p1 b6
  replace q0 := cy _ q0 b6
  replace q1 := cy _ q1 b6
  replace m10 := cy _ m10 b6
  replace m11 := cy _ m11 b6
  replace m20 := cy _ m20 b6
  replace m21 := cy _ m21 b6
  replace m30 := cy _ m30 b6
  replace m31 := cy _ m31 b6
  replace m40 := cy _ m40 b6
  replace m41 := cy _ m41 b6
  have B6 := bel_trans (bel_alloc B5 _) b6
  have m50 : w6.cell? ⟨w5.heap.size, 0, none⟩ = some (.int .u64 (shL a0Lo a0Hi a2)) := by rw [b6.cell (p := ⟨w5.heap.size, 0, none⟩) (by simp <;> omega)]; simp
  have m51 : w6.cell? ⟨w5.heap.size, 1, none⟩ = some (.int .u64 (shH a0Lo a0Hi a2)) := by rw [b6.cell (p := ⟨w5.heap.size, 1, none⟩) (by simp <;> omega)]; simp
  go_wp2_with fail
  have b7 := Below.refl (w6.alloc (.cells #[.int .u64 (shL a0Lo a0Hi a2), .int .u64 (shH a0Lo a0Hi a2)] 24)).heap.size (w6.alloc (.cells #[.int .u64 (shL a0Lo a0Hi a2), .int .u64 (shH a0Lo a0Hi a2)] 24))
  replace p0 := cell_regrown (cy _ p0 b7)
  replace p1 := cell_regrown (cy _ p1 b7)
  replace q0 := cell_regrown (cy _ q0 b7)
  replace q1 := cell_regrown (cy _ q1 b7)
  replace m10 := cell_regrown (cy _ m10 b7)
  replace m11 := cell_regrown (cy _ m11 b7)
  replace m20 := cell_regrown (cy _ m20 b7)
  replace m21 := cell_regrown (cy _ m21 b7)
  replace m30 := cell_regrown (cy _ m30 b7)
  replace m31 := cell_regrown (cy _ m31 b7)
  replace m40 := cell_regrown (cy _ m40 b7)
  replace m41 := cell_regrown (cy _ m41 b7)
  replace m50 := cell_regrown (cy _ m50 b7)
  replace m51 := cell_regrown (cy _ m51 b7)
  have m60 : ∀ d os, (grow (redrawn (w6.alloc (.cells #[.int .u64 (shL a0Lo a0Hi a2), .int .u64 (shH a0Lo a0Hi a2)] 24)) d) os).cell? ⟨w6.heap.size, 0, none⟩ = some (.int .u64 (shL a0Lo a0Hi a2)) := cell_regrown (by simp)
  have m61 : ∀ d os, (grow (redrawn (w6.alloc (.cells #[.int .u64 (shL a0Lo a0Hi a2), .int .u64 (shH a0Lo a0Hi a2)] 24)) d) os).cell? ⟨w6.heap.size, 1, none⟩ = some (.int .u64 (shH a0Lo a0Hi a2)) := cell_regrown (by simp)
  clear b1 b2 b3 b4 b5 b6 b7
  refine wp_region_quiet_below (by kernel_rfl) (by kernel_rfl) ?_
  repeat (quiet_step (first | (go_at_call 24; exact Calls.regrown_of (overlap_any a0Lo a0Hi a1Lo a1Hi a0Lol a0Loh a0Hil a0Hih a1Lol a1Loh a1Hil a1Hih _)) | (go_at_call 25; exact Calls.regrown_of (overlapR_any a0Lo a0Hi a1Lo a1Hi a0Lol a0Loh a0Hil a0Hih a1Lol a1Loh a1Hil a1Hih _))))
  refine wpQuiet_nil ?_
  intro _ hw'
  obtain ⟨⟨dq, osq⟩, hw''⟩ := hw'
  subst hw''
  go_wp2
  go_ret
  exact ⟨ret_eq (by simp), bel_trans (bel_alloc B6 _) (below_regrown _ dq osq)⟩
end Wk
end Go.Proofs.Ytmnoljnjnmcgpaa
