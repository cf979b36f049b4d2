/- The walk of SpanShifts (package leapfroglaw02), from the contracts, case by case. Conditions: the bounds of each argument's kind. -/
import Derived.Test.YtmnoljnjnmcgpaaWkSp3
namespace Go.Proofs.Ytmnoljnjnmcgpaa
open Go.RowKit Go.Sort
set_option linter.unusedVariables false
set_option linter.unusedSimpArgs false
namespace Wk
open Sp
set_option maxRecDepth 100000 in
set_option maxHeartbeats 2000000 in
theorem shifts_far (a0Lo a0Hi a1Lo a1Hi a2A a2B : Int) (w : World) (a0Lol : 0 ≤ a0Lo) (a0Loh : a0Lo ≤ 18446744073709551615) (a0Hil : 0 ≤ a0Hi) (a0Hih : a0Hi ≤ 18446744073709551615) (a1Lol : 0 ≤ a1Lo) (a1Loh : a1Lo ≤ 18446744073709551615) (a1Hil : 0 ≤ a1Hi) (a1Hih : a1Hi ≤ 18446744073709551615) (a2Al : 0 ≤ a2A) (a2Ah : a2A ≤ 18446744073709551615) (a2Bl : 0 ≤ a2B) (a2Bh : a2B ≤ 18446744073709551615) (hn : 18446744073709551615 - a2B < a2A) :
    Calls Try.prog 11 #[.agg #[.int .u64 a0Lo, .int .u64 a0Hi], .agg #[.int .u64 a1Lo, .int .u64 a1Hi], .agg #[.int .u64 a2A, .int .u64 a2B]] w fun e w' => e = .returned (.bool true) ∧ Below w.heap.size w w' := by
  have b0 : Below w.heap.size w (((w.alloc (.cells #[.int .u64 a0Lo, .int .u64 a0Hi] 24)).alloc (.cells #[.int .u64 a1Lo, .int .u64 a1Hi] 24)).alloc (.cells #[.int .u64 a2A, .int .u64 a2B] 53)) := bel_alloc (bel_alloc (bel_alloc (Below.refl _ _) _) _) _
  go_enter Try.func11, Try.ntmps11
  go_wp2_with fail
  refine (known_any _).mono ?_
  rintro r w1 ⟨rfl, b1⟩
  go_wp2
  go_ret
  exact ⟨rfl, bel_trans b0 b1⟩
set_option maxRecDepth 100000 in
set_option maxHeartbeats 2000000 in
theorem shifts_s (a0Lo a0Hi a1Lo a1Hi a2A a2B SL SH TL TH E G : Int) (w : World) (a0Lol : 0 ≤ a0Lo) (a0Loh : a0Lo ≤ 18446744073709551615) (a0Hil : 0 ≤ a0Hi) (a0Hih : a0Hi ≤ 18446744073709551615) (a1Lol : 0 ≤ a1Lo) (a1Loh : a1Lo ≤ 18446744073709551615) (a1Hil : 0 ≤ a1Hi) (a1Hih : a1Hi ≤ 18446744073709551615) (a2Al : 0 ≤ a2A) (a2Ah : a2A ≤ 18446744073709551615) (a2Bl : 0 ≤ a2B) (a2Bh : a2B ≤ 18446744073709551615) (hn : a2A + a2B ≤ 18446744073709551615) (g : (E != 0) = true) (HS : Hid (∀ W : World, Calls Try.prog 22 #[.agg #[.int .u64 a0Lo, .int .u64 a0Hi], .int .u64 (a2A + a2B)] W fun e w' => e = .returned (.tuple #[.agg #[.int .u64 SL, .int .u64 SH], .int .i64 E]) ∧ Below W.heap.size W w')) (HT : Hid (∀ W : World, Calls Try.prog 22 #[.agg #[.int .u64 a1Lo, .int .u64 a1Hi], .int .u64 (a2A + a2B)] W fun e w' => e = .returned (.tuple #[.agg #[.int .u64 TL, .int .u64 TH], .int .i64 G]) ∧ Below W.heap.size W w')) :
    Calls Try.prog 11 #[.agg #[.int .u64 a0Lo, .int .u64 a0Hi], .agg #[.int .u64 a1Lo, .int .u64 a1Hi], .agg #[.int .u64 a2A, .int .u64 a2B]] w fun e w' => e = .returned (.bool true) ∧ Below w.heap.size w w' := by
  have b0 : Below w.heap.size w (((w.alloc (.cells #[.int .u64 a0Lo, .int .u64 a0Hi] 24)).alloc (.cells #[.int .u64 a1Lo, .int .u64 a1Hi] 24)).alloc (.cells #[.int .u64 a2A, .int .u64 a2B] 53)) := bel_alloc (bel_alloc (bel_alloc (Below.refl _ _) _) _) _
  go_enter Try.func11, Try.ntmps11
  go_wp2_with fail
  refine (HS.out _).mono ?_
  rintro r w1 ⟨rfl, b1⟩
  have y1 : w.heap.size + 1 + 1 < w1.heap.size := by have := b1.size; simp at this; omega
  have x1 : w.heap.size < w1.heap.size ∧ w.heap.size + 1 < w1.heap.size := by omega
  have p0 : w1.cell? ⟨w.heap.size, 0, none⟩ = some (.int .u64 a0Lo) := by rw [b1.cell (p := ⟨w.heap.size, 0, none⟩) (by simp <;> omega)]; first | (simp; done) | exact ca _ (by simp) | exact ca _ (ca _ (by simp)) | (rw [World.cell?_alloc_at _ _ _ _ (by simp)]; rfl)
  have p1 : w1.cell? ⟨w.heap.size, 1, none⟩ = some (.int .u64 a0Hi) := by rw [b1.cell (p := ⟨w.heap.size, 1, none⟩) (by simp <;> omega)]; first | (simp; done) | exact ca _ (by simp) | exact ca _ (ca _ (by simp)) | (rw [World.cell?_alloc_at _ _ _ _ (by simp)]; rfl)
  have p2 : w1.cell? ⟨w.heap.size + 1, 0, none⟩ = some (.int .u64 a1Lo) := by rw [b1.cell (p := ⟨w.heap.size + 1, 0, none⟩) (by simp <;> omega)]; first | (simp; done) | exact ca _ (by simp) | exact ca _ (ca _ (by simp)) | (rw [World.cell?_alloc_at _ _ _ _ (by simp)]; rfl)
  have p3 : w1.cell? ⟨w.heap.size + 1, 1, none⟩ = some (.int .u64 a1Hi) := by rw [b1.cell (p := ⟨w.heap.size + 1, 1, none⟩) (by simp <;> omega)]; first | (simp; done) | exact ca _ (by simp) | exact ca _ (ca _ (by simp)) | (rw [World.cell?_alloc_at _ _ _ _ (by simp)]; rfl)
  have p4 : w1.cell? ⟨w.heap.size + 1 + 1, 0, none⟩ = some (.int .u64 a2A) := by rw [b1.cell (p := ⟨w.heap.size + 1 + 1, 0, none⟩) (by simp <;> omega)]; first | (simp; done) | exact ca _ (by simp) | exact ca _ (ca _ (by simp)) | (rw [World.cell?_alloc_at _ _ _ _ (by simp)]; rfl)
  have p5 : w1.cell? ⟨w.heap.size + 1 + 1, 1, none⟩ = some (.int .u64 a2B) := by rw [b1.cell (p := ⟨w.heap.size + 1 + 1, 1, none⟩) (by simp <;> omega)]; first | (simp; done) | exact ca _ (by simp) | exact ca _ (ca _ (by simp)) | (rw [World.cell?_alloc_at _ _ _ _ (by simp)]; rfl)
  have B1 := bel_trans b0 b1
  clear b0
  go_wp2_with fail
  refine (HT.out _).mono ?_
  rintro r w2 ⟨rfl, b2⟩
  have y2 : w.heap.size + 1 + 1 < w2.heap.size := by have := b2.size; simp at this; omega
  have x2 : w.heap.size < w2.heap.size ∧ w.heap.size + 1 < w2.heap.size := by omega
  replace p0 := cy _ p0 b2
  replace p1 := cy _ p1 b2
  replace p2 := cy _ p2 b2
  replace p3 := cy _ p3 b2
  replace p4 := cy _ p4 b2
  replace p5 := cy _ p5 b2
  have m10 : w2.cell? ⟨w1.heap.size, 0, none⟩ = some (.int .u64 SL) := by rw [b2.cell (p := ⟨w1.heap.size, 0, none⟩) (by simp <;> omega)]; first | (simp; done) | exact ca _ (by simp) | exact ca _ (ca _ (by simp)) | (rw [World.cell?_alloc_at _ _ _ _ (by simp)]; rfl)
  have m11 : w2.cell? ⟨w1.heap.size, 1, none⟩ = some (.int .u64 SH) := by rw [b2.cell (p := ⟨w1.heap.size, 1, none⟩) (by simp <;> omega)]; first | (simp; done) | exact ca _ (by simp) | exact ca _ (ca _ (by simp)) | (rw [World.cell?_alloc_at _ _ _ _ (by simp)]; rfl)
  have B2 := bel_trans (bel_alloc B1 _) b2
  have z2 : w1.heap.size < w2.heap.size := by have := b2.size; simp at this; omega
  clear b1 B1
  go_wp2_with fail
  refine (known_any _).mono ?_
  rintro r w3 ⟨rfl, b3⟩
  go_wp2
  go_ret
  exact ⟨rfl, bel_trans (bel_alloc B2 _) b3⟩
set_option maxRecDepth 100000 in
set_option maxHeartbeats 2000000 in
theorem shifts_t (a0Lo a0Hi a1Lo a1Hi a2A a2B SL SH TL TH G : Int) (w : World) (a0Lol : 0 ≤ a0Lo) (a0Loh : a0Lo ≤ 18446744073709551615) (a0Hil : 0 ≤ a0Hi) (a0Hih : a0Hi ≤ 18446744073709551615) (a1Lol : 0 ≤ a1Lo) (a1Loh : a1Lo ≤ 18446744073709551615) (a1Hil : 0 ≤ a1Hi) (a1Hih : a1Hi ≤ 18446744073709551615) (a2Al : 0 ≤ a2A) (a2Ah : a2A ≤ 18446744073709551615) (a2Bl : 0 ≤ a2B) (a2Bh : a2B ≤ 18446744073709551615) (hn : a2A + a2B ≤ 18446744073709551615) (g : (G != 0) = true) (HS : Hid (∀ W : World, Calls Try.prog 22 #[.agg #[.int .u64 a0Lo, .int .u64 a0Hi], .int .u64 (a2A + a2B)] W fun e w' => e = .returned (.tuple #[.agg #[.int .u64 SL, .int .u64 SH], .int .i64 0]) ∧ Below W.heap.size W w')) (HT : Hid (∀ W : World, Calls Try.prog 22 #[.agg #[.int .u64 a1Lo, .int .u64 a1Hi], .int .u64 (a2A + a2B)] W fun e w' => e = .returned (.tuple #[.agg #[.int .u64 TL, .int .u64 TH], .int .i64 G]) ∧ Below W.heap.size W w')) :
    Calls Try.prog 11 #[.agg #[.int .u64 a0Lo, .int .u64 a0Hi], .agg #[.int .u64 a1Lo, .int .u64 a1Hi], .agg #[.int .u64 a2A, .int .u64 a2B]] w fun e w' => e = .returned (.bool true) ∧ Below w.heap.size w w' := by
  have b0 : Below w.heap.size w (((w.alloc (.cells #[.int .u64 a0Lo, .int .u64 a0Hi] 24)).alloc (.cells #[.int .u64 a1Lo, .int .u64 a1Hi] 24)).alloc (.cells #[.int .u64 a2A, .int .u64 a2B] 53)) := bel_alloc (bel_alloc (bel_alloc (Below.refl _ _) _) _) _
  go_enter Try.func11, Try.ntmps11
  go_wp2_with fail
  refine (HS.out _).mono ?_
  rintro r w1 ⟨rfl, b1⟩
  have y1 : w.heap.size + 1 + 1 < w1.heap.size := by have := b1.size; simp at this; omega
  have x1 : w.heap.size < w1.heap.size ∧ w.heap.size + 1 < w1.heap.size := by omega
  have p0 : w1.cell? ⟨w.heap.size, 0, none⟩ = some (.int .u64 a0Lo) := by rw [b1.cell (p := ⟨w.heap.size, 0, none⟩) (by simp <;> omega)]; first | (simp; done) | exact ca _ (by simp) | exact ca _ (ca _ (by simp)) | (rw [World.cell?_alloc_at _ _ _ _ (by simp)]; rfl)
  have p1 : w1.cell? ⟨w.heap.size, 1, none⟩ = some (.int .u64 a0Hi) := by rw [b1.cell (p := ⟨w.heap.size, 1, none⟩) (by simp <;> omega)]; first | (simp; done) | exact ca _ (by simp) | exact ca _ (ca _ (by simp)) | (rw [World.cell?_alloc_at _ _ _ _ (by simp)]; rfl)
  have p2 : w1.cell? ⟨w.heap.size + 1, 0, none⟩ = some (.int .u64 a1Lo) := by rw [b1.cell (p := ⟨w.heap.size + 1, 0, none⟩) (by simp <;> omega)]; first | (simp; done) | exact ca _ (by simp) | exact ca _ (ca _ (by simp)) | (rw [World.cell?_alloc_at _ _ _ _ (by simp)]; rfl)
  have p3 : w1.cell? ⟨w.heap.size + 1, 1, none⟩ = some (.int .u64 a1Hi) := by rw [b1.cell (p := ⟨w.heap.size + 1, 1, none⟩) (by simp <;> omega)]; first | (simp; done) | exact ca _ (by simp) | exact ca _ (ca _ (by simp)) | (rw [World.cell?_alloc_at _ _ _ _ (by simp)]; rfl)
  have p4 : w1.cell? ⟨w.heap.size + 1 + 1, 0, none⟩ = some (.int .u64 a2A) := by rw [b1.cell (p := ⟨w.heap.size + 1 + 1, 0, none⟩) (by simp <;> omega)]; first | (simp; done) | exact ca _ (by simp) | exact ca _ (ca _ (by simp)) | (rw [World.cell?_alloc_at _ _ _ _ (by simp)]; rfl)
  have p5 : w1.cell? ⟨w.heap.size + 1 + 1, 1, none⟩ = some (.int .u64 a2B) := by rw [b1.cell (p := ⟨w.heap.size + 1 + 1, 1, none⟩) (by simp <;> omega)]; first | (simp; done) | exact ca _ (by simp) | exact ca _ (ca _ (by simp)) | (rw [World.cell?_alloc_at _ _ _ _ (by simp)]; rfl)
  have B1 := bel_trans b0 b1
  clear b0
  go_wp2_with fail
  refine (HT.out _).mono ?_
  rintro r w2 ⟨rfl, b2⟩
  have y2 : w.heap.size + 1 + 1 < w2.heap.size := by have := b2.size; simp at this; omega
  have x2 : w.heap.size < w2.heap.size ∧ w.heap.size + 1 < w2.heap.size := by omega
  replace p0 := cy _ p0 b2
  replace p1 := cy _ p1 b2
  replace p2 := cy _ p2 b2
  replace p3 := cy _ p3 b2
  replace p4 := cy _ p4 b2
  replace p5 := cy _ p5 b2
  have m10 : w2.cell? ⟨w1.heap.size, 0, none⟩ = some (.int .u64 SL) := by rw [b2.cell (p := ⟨w1.heap.size, 0, none⟩) (by simp <;> omega)]; first | (simp; done) | exact ca _ (by simp) | exact ca _ (ca _ (by simp)) | (rw [World.cell?_alloc_at _ _ _ _ (by simp)]; rfl)
  have m11 : w2.cell? ⟨w1.heap.size, 1, none⟩ = some (.int .u64 SH) := by rw [b2.cell (p := ⟨w1.heap.size, 1, none⟩) (by simp <;> omega)]; first | (simp; done) | exact ca _ (by simp) | exact ca _ (ca _ (by simp)) | (rw [World.cell?_alloc_at _ _ _ _ (by simp)]; rfl)
  have B2 := bel_trans (bel_alloc B1 _) b2
  have z2 : w1.heap.size < w2.heap.size := by have := b2.size; simp at this; omega
  clear b1 B1
  go_wp2_with fail
  refine (known_any _).mono ?_
  rintro r w3 ⟨rfl, b3⟩
  go_wp2
  go_ret
  exact ⟨rfl, bel_trans (bel_alloc B2 _) b3⟩
set_option maxRecDepth 100000 in
set_option maxHeartbeats 2000000 in
theorem shifts_no (a0Lo a0Hi a1Lo a1Hi a2A a2B SL SH TL TH CL CH pL pH N qL qH : Int) (w : World) (a0Lol : 0 ≤ a0Lo) (a0Loh : a0Lo ≤ 18446744073709551615) (a0Hil : 0 ≤ a0Hi) (a0Hih : a0Hi ≤ 18446744073709551615) (a1Lol : 0 ≤ a1Lo) (a1Loh : a1Lo ≤ 18446744073709551615) (a1Hil : 0 ≤ a1Hi) (a1Hih : a1Hi ≤ 18446744073709551615) (a2Al : 0 ≤ a2A) (a2Ah : a2A ≤ 18446744073709551615) (a2Bl : 0 ≤ a2B) (a2Bh : a2B ≤ 18446744073709551615) (al : Bool) (hn : a2A + a2B ≤ 18446744073709551615) (HS : Hid (∀ W : World, Calls Try.prog 22 #[.agg #[.int .u64 a0Lo, .int .u64 a0Hi], .int .u64 (a2A + a2B)] W fun e w' => e = .returned (.tuple #[.agg #[.int .u64 SL, .int .u64 SH], .int .i64 0]) ∧ Below W.heap.size W w')) (HT : Hid (∀ W : World, Calls Try.prog 22 #[.agg #[.int .u64 a1Lo, .int .u64 a1Hi], .int .u64 (a2A + a2B)] W fun e w' => e = .returned (.tuple #[.agg #[.int .u64 TL, .int .u64 TH], .int .i64 0]) ∧ Below W.heap.size W w')) (HC : Hid (∀ W : World, Calls Try.prog 22 #[.agg #[.int .u64 a0Lo, .int .u64 a0Hi], .int .u64 a2A] W fun e w' => e = .returned (.tuple #[.agg #[.int .u64 CL, .int .u64 CH], .int .i64 0]) ∧ Below W.heap.size W w')) (HD : Hid (∀ W : World, Calls Try.prog 22 #[.agg #[.int .u64 CL, .int .u64 CH], .int .u64 a2B] W fun e w' => e = .returned (.tuple #[.agg #[.int .u64 SL, .int .u64 SH], .int .i64 0]) ∧ Below W.heap.size W w')) (HN : Hid (∀ W : World, Calls Try.prog 12 #[.agg #[.int .u64 a0Lo, .int .u64 a0Hi]] W fun e w' => e = .returned (.tuple #[.int .u64 N, .bool al, .int .i64 0]) ∧ Below W.heap.size W w')) (HO : Hid (∀ W : World, Calls Try.prog 12 #[.agg #[.int .u64 SL, .int .u64 SH]] W fun e w' => e = .returned (.tuple #[.int .u64 N, .bool al, .int .i64 0]) ∧ Below W.heap.size W w')) (HP : Hid (∀ W : World, Calls Try.prog 18 #[.agg #[.int .u64 a0Lo, .int .u64 a0Hi], .agg #[.int .u64 a1Lo, .int .u64 a1Hi]] W fun e w' => e = .returned (.tuple #[.agg #[.int .u64 pL, .int .u64 pH], .bool false]) ∧ Below W.heap.size W w')) (HQ : Hid (∀ W : World, Calls Try.prog 18 #[.agg #[.int .u64 SL, .int .u64 SH], .agg #[.int .u64 TL, .int .u64 TH]] W fun e w' => e = .returned (.tuple #[.agg #[.int .u64 qL, .int .u64 qH], .bool false]) ∧ Below W.heap.size W w')) :
    Calls Try.prog 11 #[.agg #[.int .u64 a0Lo, .int .u64 a0Hi], .agg #[.int .u64 a1Lo, .int .u64 a1Hi], .agg #[.int .u64 a2A, .int .u64 a2B]] w fun e w' => e = .returned (.bool true) ∧ Below w.heap.size w w' := by
  have b0 : Below w.heap.size w (((w.alloc (.cells #[.int .u64 a0Lo, .int .u64 a0Hi] 24)).alloc (.cells #[.int .u64 a1Lo, .int .u64 a1Hi] 24)).alloc (.cells #[.int .u64 a2A, .int .u64 a2B] 53)) := bel_alloc (bel_alloc (bel_alloc (Below.refl _ _) _) _) _
  go_enter Try.func11, Try.ntmps11
  go_wp2_with fail
  refine (HS.out _).mono ?_
  rintro r w1 ⟨rfl, b1⟩
  have y1 : w.heap.size + 1 + 1 < w1.heap.size := by have := b1.size; simp at this; omega
  have x1 : w.heap.size < w1.heap.size ∧ w.heap.size + 1 < w1.heap.size := by omega
  have p0 : w1.cell? ⟨w.heap.size, 0, none⟩ = some (.int .u64 a0Lo) := by rw [b1.cell (p := ⟨w.heap.size, 0, none⟩) (by simp <;> omega)]; first | (simp; done) | exact ca _ (by simp) | exact ca _ (ca _ (by simp)) | (rw [World.cell?_alloc_at _ _ _ _ (by simp)]; rfl)
  have p1 : w1.cell? ⟨w.heap.size, 1, none⟩ = some (.int .u64 a0Hi) := by rw [b1.cell (p := ⟨w.heap.size, 1, none⟩) (by simp <;> omega)]; first | (simp; done) | exact ca _ (by simp) | exact ca _ (ca _ (by simp)) | (rw [World.cell?_alloc_at _ _ _ _ (by simp)]; rfl)
  have p2 : w1.cell? ⟨w.heap.size + 1, 0, none⟩ = some (.int .u64 a1Lo) := by rw [b1.cell (p := ⟨w.heap.size + 1, 0, none⟩) (by simp <;> omega)]; first | (simp; done) | exact ca _ (by simp) | exact ca _ (ca _ (by simp)) | (rw [World.cell?_alloc_at _ _ _ _ (by simp)]; rfl)
  have p3 : w1.cell? ⟨w.heap.size + 1, 1, none⟩ = some (.int .u64 a1Hi) := by rw [b1.cell (p := ⟨w.heap.size + 1, 1, none⟩) (by simp <;> omega)]; first | (simp; done) | exact ca _ (by simp) | exact ca _ (ca _ (by simp)) | (rw [World.cell?_alloc_at _ _ _ _ (by simp)]; rfl)
  have p4 : w1.cell? ⟨w.heap.size + 1 + 1, 0, none⟩ = some (.int .u64 a2A) := by rw [b1.cell (p := ⟨w.heap.size + 1 + 1, 0, none⟩) (by simp <;> omega)]; first | (simp; done) | exact ca _ (by simp) | exact ca _ (ca _ (by simp)) | (rw [World.cell?_alloc_at _ _ _ _ (by simp)]; rfl)
  have p5 : w1.cell? ⟨w.heap.size + 1 + 1, 1, none⟩ = some (.int .u64 a2B) := by rw [b1.cell (p := ⟨w.heap.size + 1 + 1, 1, none⟩) (by simp <;> omega)]; first | (simp; done) | exact ca _ (by simp) | exact ca _ (ca _ (by simp)) | (rw [World.cell?_alloc_at _ _ _ _ (by simp)]; rfl)
  have B1 := bel_trans b0 b1
  clear b0
  go_wp2_with fail
  refine (HT.out _).mono ?_
  rintro r w2 ⟨rfl, b2⟩
  have y2 : w.heap.size + 1 + 1 < w2.heap.size := by have := b2.size; simp at this; omega
  have x2 : w.heap.size < w2.heap.size ∧ w.heap.size + 1 < w2.heap.size := by omega
  replace p0 := cy _ p0 b2
  replace p1 := cy _ p1 b2
  replace p2 := cy _ p2 b2
  replace p3 := cy _ p3 b2
  replace p4 := cy _ p4 b2
  replace p5 := cy _ p5 b2
  have m10 : w2.cell? ⟨w1.heap.size, 0, none⟩ = some (.int .u64 SL) := by rw [b2.cell (p := ⟨w1.heap.size, 0, none⟩) (by simp <;> omega)]; first | (simp; done) | exact ca _ (by simp) | exact ca _ (ca _ (by simp)) | (rw [World.cell?_alloc_at _ _ _ _ (by simp)]; rfl)
  have m11 : w2.cell? ⟨w1.heap.size, 1, none⟩ = some (.int .u64 SH) := by rw [b2.cell (p := ⟨w1.heap.size, 1, none⟩) (by simp <;> omega)]; first | (simp; done) | exact ca _ (by simp) | exact ca _ (ca _ (by simp)) | (rw [World.cell?_alloc_at _ _ _ _ (by simp)]; rfl)
  have B2 := bel_trans (bel_alloc B1 _) b2
  have z2 : w1.heap.size < w2.heap.size := by have := b2.size; simp at this; omega
  clear b1 B1
  go_wp2_with fail
  refine (HC.out _).mono ?_
  rintro r w3 ⟨rfl, b3⟩
  have y3 : w.heap.size + 1 + 1 < w3.heap.size := by have := b3.size; simp at this; omega
  have x3 : w.heap.size < w3.heap.size ∧ w.heap.size + 1 < w3.heap.size := by omega
  replace p0 := cy _ p0 b3
  replace p1 := cy _ p1 b3
  replace p2 := cy _ p2 b3
  replace p3 := cy _ p3 b3
  replace p4 := cy _ p4 b3
  replace p5 := cy _ p5 b3
  replace m10 := cy _ m10 b3
  replace m11 := cy _ m11 b3
  have m20 : w3.cell? ⟨w2.heap.size, 0, none⟩ = some (.int .u64 TL) := by rw [b3.cell (p := ⟨w2.heap.size, 0, none⟩) (by simp <;> omega)]; first | (simp; done) | exact ca _ (by simp) | exact ca _ (ca _ (by simp)) | (rw [World.cell?_alloc_at _ _ _ _ (by simp)]; rfl)
  have m21 : w3.cell? ⟨w2.heap.size, 1, none⟩ = some (.int .u64 TH) := by rw [b3.cell (p := ⟨w2.heap.size, 1, none⟩) (by simp <;> omega)]; first | (simp; done) | exact ca _ (by simp) | exact ca _ (ca _ (by simp)) | (rw [World.cell?_alloc_at _ _ _ _ (by simp)]; rfl)
  have B3 := bel_trans (bel_alloc B2 _) b3
  have z3 : w1.heap.size < w3.heap.size ∧ w2.heap.size < w3.heap.size := by have := b3.size; simp at this; omega
  clear b2 B2
  go_wp2_with fail
  refine (HD.out _).mono ?_
  rintro r w4 ⟨rfl, b4⟩
  have y4 : w.heap.size + 1 + 1 < w4.heap.size := by have := b4.size; simp at this; omega
  have x4 : w.heap.size < w4.heap.size ∧ w.heap.size + 1 < w4.heap.size := by omega
  replace p0 := cy _ p0 b4
  replace p1 := cy _ p1 b4
  replace p2 := cy _ p2 b4
  replace p3 := cy _ p3 b4
  replace p4 := cy _ p4 b4
  replace p5 := cy _ p5 b4
  replace m10 := cy _ m10 b4
  replace m11 := cy _ m11 b4
  replace m20 := cy _ m20 b4
  replace m21 := cy _ m21 b4
  have m30 : w4.cell? ⟨w3.heap.size, 0, none⟩ = some (.int .u64 CL) := by rw [b4.cell (p := ⟨w3.heap.size, 0, none⟩) (by simp <;> omega)]; first | (simp; done) | exact ca _ (by simp) | exact ca _ (ca _ (by simp)) | (rw [World.cell?_alloc_at _ _ _ _ (by simp)]; rfl)
  have m31 : w4.cell? ⟨w3.heap.size, 1, none⟩ = some (.int .u64 CH) := by rw [b4.cell (p := ⟨w3.heap.size, 1, none⟩) (by simp <;> omega)]; first | (simp; done) | exact ca _ (by simp) | exact ca _ (ca _ (by simp)) | (rw [World.cell?_alloc_at _ _ _ _ (by simp)]; rfl)
  have B4 := bel_trans (bel_alloc B3 _) b4
  have z4 : w1.heap.size < w4.heap.size ∧ w2.heap.size < w4.heap.size ∧ w3.heap.size < w4.heap.size := by have := b4.size; simp at this; omega
  clear b3 B3
  go_wp2_with fail
  refine (HN.out _).mono ?_
  rintro r w5 ⟨rfl, b5⟩
  have y5 : w.heap.size + 1 + 1 < w5.heap.size := by have := b5.size; simp at this; omega
  have x5 : w.heap.size < w5.heap.size ∧ w.heap.size + 1 < w5.heap.size := by omega
  replace p0 := cy _ p0 b5
  replace p1 := cy _ p1 b5
  replace p2 := cy _ p2 b5
  replace p3 := cy _ p3 b5
  replace p4 := cy _ p4 b5
  replace p5 := cy _ p5 b5
  replace m10 := cy _ m10 b5
  replace m11 := cy _ m11 b5
  replace m20 := cy _ m20 b5
  replace m21 := cy _ m21 b5
  replace m30 := cy _ m30 b5
  replace m31 := cy _ m31 b5
  have m40 : w5.cell? ⟨w4.heap.size, 0, none⟩ = some (.int .u64 SL) := by rw [b5.cell (p := ⟨w4.heap.size, 0, none⟩) (by simp <;> omega)]; first | (simp; done) | exact ca _ (by simp) | exact ca _ (ca _ (by simp)) | (rw [World.cell?_alloc_at _ _ _ _ (by simp)]; rfl)
  have m41 : w5.cell? ⟨w4.heap.size, 1, none⟩ = some (.int .u64 SH) := by rw [b5.cell (p := ⟨w4.heap.size, 1, none⟩) (by simp <;> omega)]; first | (simp; done) | exact ca _ (by simp) | exact ca _ (ca _ (by simp)) | (rw [World.cell?_alloc_at _ _ _ _ (by simp)]; rfl)
  have B5 := bel_trans (bel_alloc B4 _) b5
  have z5 : w1.heap.size < w5.heap.size ∧ w2.heap.size < w5.heap.size ∧ w3.heap.size < w5.heap.size ∧ w4.heap.size < w5.heap.size := by have := b5.size; simp at this; omega
  clear b4 B4
  go_wp2_with fail
  refine (HO.out _).mono ?_
  rintro r w6 ⟨rfl, b6⟩
  have y6 : w.heap.size + 1 + 1 < w6.heap.size := by have := b6.size; omega
  have x6 : w.heap.size < w6.heap.size ∧ w.heap.size + 1 < w6.heap.size := by omega
  replace p0 := cb p0 b6
  replace p1 := cb p1 b6
  replace p2 := cb p2 b6
  replace p3 := cb p3 b6
  replace p4 := cb p4 b6
  replace p5 := cb p5 b6
  replace m10 := cb m10 b6
  replace m11 := cb m11 b6
  replace m20 := cb m20 b6
  replace m21 := cb m21 b6
  replace m30 := cb m30 b6
  replace m31 := cb m31 b6
  replace m40 := cb m40 b6
  replace m41 := cb m41 b6
  have B6 := bel_trans B5 b6
  have z6 : w1.heap.size < w6.heap.size ∧ w2.heap.size < w6.heap.size ∧ w3.heap.size < w6.heap.size ∧ w4.heap.size < w6.heap.size := by have := b6.size; omega
  clear b5 B5
  go_wp2_with fail
  refine (HP.out _).mono ?_
  rintro r w7 ⟨rfl, b7⟩
  have y7 : w.heap.size + 1 + 1 < w7.heap.size := by have := b7.size; omega
  have x7 : w.heap.size < w7.heap.size ∧ w.heap.size + 1 < w7.heap.size := by omega
  replace p0 := cb p0 b7
  replace p1 := cb p1 b7
  replace p2 := cb p2 b7
  replace p3 := cb p3 b7
  replace p4 := cb p4 b7
  replace p5 := cb p5 b7
  replace m10 := cb m10 b7
  replace m11 := cb m11 b7
  replace m20 := cb m20 b7
  replace m21 := cb m21 b7
  replace m30 := cb m30 b7
  replace m31 := cb m31 b7
  replace m40 := cb m40 b7
  replace m41 := cb m41 b7
  have B7 := bel_trans B6 b7
  have z7 : w1.heap.size < w7.heap.size ∧ w2.heap.size < w7.heap.size ∧ w3.heap.size < w7.heap.size ∧ w4.heap.size < w7.heap.size := by have := b7.size; omega
  clear b6 B6
  go_wp2_with fail
  refine (HQ.out _).mono ?_
  rintro r w8 ⟨rfl, b8⟩
  have y8 : w.heap.size + 1 + 1 < w8.heap.size := by have := b8.size; simp at this; omega
  have x8 : w.heap.size < w8.heap.size ∧ w.heap.size + 1 < w8.heap.size := by omega
  replace p0 := cy _ p0 b8
  replace p1 := cy _ p1 b8
  replace p2 := cy _ p2 b8
  replace p3 := cy _ p3 b8
  replace p4 := cy _ p4 b8
  replace p5 := cy _ p5 b8
  replace m10 := cy _ m10 b8
  replace m11 := cy _ m11 b8
  replace m20 := cy _ m20 b8
  replace m21 := cy _ m21 b8
  replace m30 := cy _ m30 b8
  replace m31 := cy _ m31 b8
  replace m40 := cy _ m40 b8
  replace m41 := cy _ m41 b8
  have m70 : w8.cell? ⟨w7.heap.size, 0, none⟩ = some (.int .u64 pL) := by rw [b8.cell (p := ⟨w7.heap.size, 0, none⟩) (by simp <;> omega)]; first | (simp; done) | exact ca _ (by simp) | exact ca _ (ca _ (by simp)) | (rw [World.cell?_alloc_at _ _ _ _ (by simp)]; rfl)
  have m71 : w8.cell? ⟨w7.heap.size, 1, none⟩ = some (.int .u64 pH) := by rw [b8.cell (p := ⟨w7.heap.size, 1, none⟩) (by simp <;> omega)]; first | (simp; done) | exact ca _ (by simp) | exact ca _ (ca _ (by simp)) | (rw [World.cell?_alloc_at _ _ _ _ (by simp)]; rfl)
  have B8 := bel_trans (bel_alloc B7 _) b8
  have z8 : w1.heap.size < w8.heap.size ∧ w2.heap.size < w8.heap.size ∧ w3.heap.size < w8.heap.size ∧ w4.heap.size < w8.heap.size ∧ w7.heap.size < w8.heap.size := by have := b8.size; simp at this; omega
  clear b7 B7
  go_wp2_with fail
  refine (known_any _).mono ?_
  rintro r w9 ⟨rfl, b9⟩
  go_wp2
  go_ret
  exact ⟨rfl, bel_trans (bel_alloc B8 _) b9⟩
set_option maxRecDepth 100000 in
set_option maxHeartbeats 2000000 in
theorem shifts_yes (a0Lo a0Hi a1Lo a1Hi a2A a2B SL SH TL TH CL CH pL pH N : Int) (w : World) (a0Lol : 0 ≤ a0Lo) (a0Loh : a0Lo ≤ 18446744073709551615) (a0Hil : 0 ≤ a0Hi) (a0Hih : a0Hi ≤ 18446744073709551615) (a1Lol : 0 ≤ a1Lo) (a1Loh : a1Lo ≤ 18446744073709551615) (a1Hil : 0 ≤ a1Hi) (a1Hih : a1Hi ≤ 18446744073709551615) (a2Al : 0 ≤ a2A) (a2Ah : a2A ≤ 18446744073709551615) (a2Bl : 0 ≤ a2B) (a2Bh : a2B ≤ 18446744073709551615) (al : Bool) (hn : a2A + a2B ≤ 18446744073709551615) (pLl : 0 ≤ pL) (pHl : 0 ≤ pH) (pLh : pL + (a2A + a2B) ≤ 18446744073709551615) (pHh : pH + (a2A + a2B) ≤ 18446744073709551615) (HS : Hid (∀ W : World, Calls Try.prog 22 #[.agg #[.int .u64 a0Lo, .int .u64 a0Hi], .int .u64 (a2A + a2B)] W fun e w' => e = .returned (.tuple #[.agg #[.int .u64 SL, .int .u64 SH], .int .i64 0]) ∧ Below W.heap.size W w')) (HT : Hid (∀ W : World, Calls Try.prog 22 #[.agg #[.int .u64 a1Lo, .int .u64 a1Hi], .int .u64 (a2A + a2B)] W fun e w' => e = .returned (.tuple #[.agg #[.int .u64 TL, .int .u64 TH], .int .i64 0]) ∧ Below W.heap.size W w')) (HC : Hid (∀ W : World, Calls Try.prog 22 #[.agg #[.int .u64 a0Lo, .int .u64 a0Hi], .int .u64 a2A] W fun e w' => e = .returned (.tuple #[.agg #[.int .u64 CL, .int .u64 CH], .int .i64 0]) ∧ Below W.heap.size W w')) (HD : Hid (∀ W : World, Calls Try.prog 22 #[.agg #[.int .u64 CL, .int .u64 CH], .int .u64 a2B] W fun e w' => e = .returned (.tuple #[.agg #[.int .u64 SL, .int .u64 SH], .int .i64 0]) ∧ Below W.heap.size W w')) (HN : Hid (∀ W : World, Calls Try.prog 12 #[.agg #[.int .u64 a0Lo, .int .u64 a0Hi]] W fun e w' => e = .returned (.tuple #[.int .u64 N, .bool al, .int .i64 0]) ∧ Below W.heap.size W w')) (HO : Hid (∀ W : World, Calls Try.prog 12 #[.agg #[.int .u64 SL, .int .u64 SH]] W fun e w' => e = .returned (.tuple #[.int .u64 N, .bool al, .int .i64 0]) ∧ Below W.heap.size W w')) (HP : Hid (∀ W : World, Calls Try.prog 18 #[.agg #[.int .u64 a0Lo, .int .u64 a0Hi], .agg #[.int .u64 a1Lo, .int .u64 a1Hi]] W fun e w' => e = .returned (.tuple #[.agg #[.int .u64 pL, .int .u64 pH], .bool true]) ∧ Below W.heap.size W w')) (HQ : Hid (∀ W : World, Calls Try.prog 18 #[.agg #[.int .u64 SL, .int .u64 SH], .agg #[.int .u64 TL, .int .u64 TH]] W fun e w' => e = .returned (.tuple #[.agg #[.int .u64 (pL + (a2A + a2B)), .int .u64 (pH + (a2A + a2B))], .bool true]) ∧ Below W.heap.size W w')) :
    Calls Try.prog 11 #[.agg #[.int .u64 a0Lo, .int .u64 a0Hi], .agg #[.int .u64 a1Lo, .int .u64 a1Hi], .agg #[.int .u64 a2A, .int .u64 a2B]] w fun e w' => e = .returned (.bool true) ∧ Below w.heap.size w w' := by
  have b0 : Below w.heap.size w (((w.alloc (.cells #[.int .u64 a0Lo, .int .u64 a0Hi] 24)).alloc (.cells #[.int .u64 a1Lo, .int .u64 a1Hi] 24)).alloc (.cells #[.int .u64 a2A, .int .u64 a2B] 53)) := bel_alloc (bel_alloc (bel_alloc (Below.refl _ _) _) _) _
  go_enter Try.func11, Try.ntmps11
  go_wp2_with fail
  refine (HS.out _).mono ?_
  rintro r w1 ⟨rfl, b1⟩
  have y1 : w.heap.size + 1 + 1 < w1.heap.size := by have := b1.size; simp at this; omega
  have x1 : w.heap.size < w1.heap.size ∧ w.heap.size + 1 < w1.heap.size := by omega
  have p0 : w1.cell? ⟨w.heap.size, 0, none⟩ = some (.int .u64 a0Lo) := by rw [b1.cell (p := ⟨w.heap.size, 0, none⟩) (by simp <;> omega)]; first | (simp; done) | exact ca _ (by simp) | exact ca _ (ca _ (by simp)) | (rw [World.cell?_alloc_at _ _ _ _ (by simp)]; rfl)
  have p1 : w1.cell? ⟨w.heap.size, 1, none⟩ = some (.int .u64 a0Hi) := by rw [b1.cell (p := ⟨w.heap.size, 1, none⟩) (by simp <;> omega)]; first | (simp; done) | exact ca _ (by simp) | exact ca _ (ca _ (by simp)) | (rw [World.cell?_alloc_at _ _ _ _ (by simp)]; rfl)
  have p2 : w1.cell? ⟨w.heap.size + 1, 0, none⟩ = some (.int .u64 a1Lo) := by rw [b1.cell (p := ⟨w.heap.size + 1, 0, none⟩) (by simp <;> omega)]; first | (simp; done) | exact ca _ (by simp) | exact ca _ (ca _ (by simp)) | (rw [World.cell?_alloc_at _ _ _ _ (by simp)]; rfl)
  have p3 : w1.cell? ⟨w.heap.size + 1, 1, none⟩ = some (.int .u64 a1Hi) := by rw [b1.cell (p := ⟨w.heap.size + 1, 1, none⟩) (by simp <;> omega)]; first | (simp; done) | exact ca _ (by simp) | exact ca _ (ca _ (by simp)) | (rw [World.cell?_alloc_at _ _ _ _ (by simp)]; rfl)
  have p4 : w1.cell? ⟨w.heap.size + 1 + 1, 0, none⟩ = some (.int .u64 a2A) := by rw [b1.cell (p := ⟨w.heap.size + 1 + 1, 0, none⟩) (by simp <;> omega)]; first | (simp; done) | exact ca _ (by simp) | exact ca _ (ca _ (by simp)) | (rw [World.cell?_alloc_at _ _ _ _ (by simp)]; rfl)
  have p5 : w1.cell? ⟨w.heap.size + 1 + 1, 1, none⟩ = some (.int .u64 a2B) := by rw [b1.cell (p := ⟨w.heap.size + 1 + 1, 1, none⟩) (by simp <;> omega)]; first | (simp; done) | exact ca _ (by simp) | exact ca _ (ca _ (by simp)) | (rw [World.cell?_alloc_at _ _ _ _ (by simp)]; rfl)
  have B1 := bel_trans b0 b1
  clear b0
  go_wp2_with fail
  refine (HT.out _).mono ?_
  rintro r w2 ⟨rfl, b2⟩
  have y2 : w.heap.size + 1 + 1 < w2.heap.size := by have := b2.size; simp at this; omega
  have x2 : w.heap.size < w2.heap.size ∧ w.heap.size + 1 < w2.heap.size := by omega
  replace p0 := cy _ p0 b2
  replace p1 := cy _ p1 b2
  replace p2 := cy _ p2 b2
  replace p3 := cy _ p3 b2
  replace p4 := cy _ p4 b2
  replace p5 := cy _ p5 b2
  have m10 : w2.cell? ⟨w1.heap.size, 0, none⟩ = some (.int .u64 SL) := by rw [b2.cell (p := ⟨w1.heap.size, 0, none⟩) (by simp <;> omega)]; first | (simp; done) | exact ca _ (by simp) | exact ca _ (ca _ (by simp)) | (rw [World.cell?_alloc_at _ _ _ _ (by simp)]; rfl)
  have m11 : w2.cell? ⟨w1.heap.size, 1, none⟩ = some (.int .u64 SH) := by rw [b2.cell (p := ⟨w1.heap.size, 1, none⟩) (by simp <;> omega)]; first | (simp; done) | exact ca _ (by simp) | exact ca _ (ca _ (by simp)) | (rw [World.cell?_alloc_at _ _ _ _ (by simp)]; rfl)
  have B2 := bel_trans (bel_alloc B1 _) b2
  have z2 : w1.heap.size < w2.heap.size := by have := b2.size; simp at this; omega
  clear b1 B1
  go_wp2_with fail
  refine (HC.out _).mono ?_
  rintro r w3 ⟨rfl, b3⟩
  have y3 : w.heap.size + 1 + 1 < w3.heap.size := by have := b3.size; simp at this; omega
  have x3 : w.heap.size < w3.heap.size ∧ w.heap.size + 1 < w3.heap.size := by omega
  replace p0 := cy _ p0 b3
  replace p1 := cy _ p1 b3
  replace p2 := cy _ p2 b3
  replace p3 := cy _ p3 b3
  replace p4 := cy _ p4 b3
  replace p5 := cy _ p5 b3
  replace m10 := cy _ m10 b3
  replace m11 := cy _ m11 b3
  have m20 : w3.cell? ⟨w2.heap.size, 0, none⟩ = some (.int .u64 TL) := by rw [b3.cell (p := ⟨w2.heap.size, 0, none⟩) (by simp <;> omega)]; first | (simp; done) | exact ca _ (by simp) | exact ca _ (ca _ (by simp)) | (rw [World.cell?_alloc_at _ _ _ _ (by simp)]; rfl)
  have m21 : w3.cell? ⟨w2.heap.size, 1, none⟩ = some (.int .u64 TH) := by rw [b3.cell (p := ⟨w2.heap.size, 1, none⟩) (by simp <;> omega)]; first | (simp; done) | exact ca _ (by simp) | exact ca _ (ca _ (by simp)) | (rw [World.cell?_alloc_at _ _ _ _ (by simp)]; rfl)
  have B3 := bel_trans (bel_alloc B2 _) b3
  have z3 : w1.heap.size < w3.heap.size ∧ w2.heap.size < w3.heap.size := by have := b3.size; simp at this; omega
  clear b2 B2
  go_wp2_with fail
  refine (HD.out _).mono ?_
  rintro r w4 ⟨rfl, b4⟩
  have y4 : w.heap.size + 1 + 1 < w4.heap.size := by have := b4.size; simp at this; omega
  have x4 : w.heap.size < w4.heap.size ∧ w.heap.size + 1 < w4.heap.size := by omega
  replace p0 := cy _ p0 b4
  replace p1 := cy _ p1 b4
  replace p2 := cy _ p2 b4
  replace p3 := cy _ p3 b4
  replace p4 := cy _ p4 b4
  replace p5 := cy _ p5 b4
  replace m10 := cy _ m10 b4
  replace m11 := cy _ m11 b4
  replace m20 := cy _ m20 b4
  replace m21 := cy _ m21 b4
  have m30 : w4.cell? ⟨w3.heap.size, 0, none⟩ = some (.int .u64 CL) := by rw [b4.cell (p := ⟨w3.heap.size, 0, none⟩) (by simp <;> omega)]; first | (simp; done) | exact ca _ (by simp) | exact ca _ (ca _ (by simp)) | (rw [World.cell?_alloc_at _ _ _ _ (by simp)]; rfl)
  have m31 : w4.cell? ⟨w3.heap.size, 1, none⟩ = some (.int .u64 CH) := by rw [b4.cell (p := ⟨w3.heap.size, 1, none⟩) (by simp <;> omega)]; first | (simp; done) | exact ca _ (by simp) | exact ca _ (ca _ (by simp)) | (rw [World.cell?_alloc_at _ _ _ _ (by simp)]; rfl)
  have B4 := bel_trans (bel_alloc B3 _) b4
  have z4 : w1.heap.size < w4.heap.size ∧ w2.heap.size < w4.heap.size ∧ w3.heap.size < w4.heap.size := by have := b4.size; simp at this; omega
  clear b3 B3
  go_wp2_with fail
  refine (HN.out _).mono ?_
  rintro r w5 ⟨rfl, b5⟩
  have y5 : w.heap.size + 1 + 1 < w5.heap.size := by have := b5.size; simp at this; omega
  have x5 : w.heap.size < w5.heap.size ∧ w.heap.size + 1 < w5.heap.size := by omega
  replace p0 := cy _ p0 b5
  replace p1 := cy _ p1 b5
  replace p2 := cy _ p2 b5
  replace p3 := cy _ p3 b5
  replace p4 := cy _ p4 b5
  replace p5 := cy _ p5 b5
  replace m10 := cy _ m10 b5
  replace m11 := cy _ m11 b5
  replace m20 := cy _ m20 b5
  replace m21 := cy _ m21 b5
  replace m30 := cy _ m30 b5
  replace m31 := cy _ m31 b5
  have m40 : w5.cell? ⟨w4.heap.size, 0, none⟩ = some (.int .u64 SL) := by rw [b5.cell (p := ⟨w4.heap.size, 0, none⟩) (by simp <;> omega)]; first | (simp; done) | exact ca _ (by simp) | exact ca _ (ca _ (by simp)) | (rw [World.cell?_alloc_at _ _ _ _ (by simp)]; rfl)
  have m41 : w5.cell? ⟨w4.heap.size, 1, none⟩ = some (.int .u64 SH) := by rw [b5.cell (p := ⟨w4.heap.size, 1, none⟩) (by simp <;> omega)]; first | (simp; done) | exact ca _ (by simp) | exact ca _ (ca _ (by simp)) | (rw [World.cell?_alloc_at _ _ _ _ (by simp)]; rfl)
  have B5 := bel_trans (bel_alloc B4 _) b5
  have z5 : w1.heap.size < w5.heap.size ∧ w2.heap.size < w5.heap.size ∧ w3.heap.size < w5.heap.size ∧ w4.heap.size < w5.heap.size := by have := b5.size; simp at this; omega
  clear b4 B4
  go_wp2_with fail
  refine (HO.out _).mono ?_
  rintro r w6 ⟨rfl, b6⟩
  have y6 : w.heap.size + 1 + 1 < w6.heap.size := by have := b6.size; omega
  have x6 : w.heap.size < w6.heap.size ∧ w.heap.size + 1 < w6.heap.size := by omega
  replace p0 := cb p0 b6
  replace p1 := cb p1 b6
  replace p2 := cb p2 b6
  replace p3 := cb p3 b6
  replace p4 := cb p4 b6
  replace p5 := cb p5 b6
  replace m10 := cb m10 b6
  replace m11 := cb m11 b6
  replace m20 := cb m20 b6
  replace m21 := cb m21 b6
  replace m30 := cb m30 b6
  replace m31 := cb m31 b6
  replace m40 := cb m40 b6
  replace m41 := cb m41 b6
  have B6 := bel_trans B5 b6
  have z6 : w1.heap.size < w6.heap.size ∧ w2.heap.size < w6.heap.size ∧ w3.heap.size < w6.heap.size ∧ w4.heap.size < w6.heap.size := by have := b6.size; omega
  clear b5 B5
  go_wp2_with fail
  refine (HP.out _).mono ?_
  rintro r w7 ⟨rfl, b7⟩
  have y7 : w.heap.size + 1 + 1 < w7.heap.size := by have := b7.size; omega
  have x7 : w.heap.size < w7.heap.size ∧ w.heap.size + 1 < w7.heap.size := by omega
  replace p0 := cb p0 b7
  replace p1 := cb p1 b7
  replace p2 := cb p2 b7
  replace p3 := cb p3 b7
  replace p4 := cb p4 b7
  replace p5 := cb p5 b7
  replace m10 := cb m10 b7
  replace m11 := cb m11 b7
  replace m20 := cb m20 b7
  replace m21 := cb m21 b7
  replace m30 := cb m30 b7
  replace m31 := cb m31 b7
  replace m40 := cb m40 b7
  replace m41 := cb m41 b7
  have B7 := bel_trans B6 b7
  have z7 : w1.heap.size < w7.heap.size ∧ w2.heap.size < w7.heap.size ∧ w3.heap.size < w7.heap.size ∧ w4.heap.size < w7.heap.size := by have := b7.size; omega
  clear b6 B6
  go_wp2_with fail
  refine (HQ.out _).mono ?_
  rintro r w8 ⟨rfl, b8⟩
  have y8 : w.heap.size + 1 + 1 < w8.heap.size := by have := b8.size; simp at this; omega
  have x8 : w.heap.size < w8.heap.size ∧ w.heap.size + 1 < w8.heap.size := by omega
  replace p0 := cy _ p0 b8
  replace p1 := cy _ p1 b8
  replace p2 := cy _ p2 b8
  replace p3 := cy _ p3 b8
  replace p4 := cy _ p4 b8
  replace p5 := cy _ p5 b8
  replace m10 := cy _ m10 b8
  replace m11 := cy _ m11 b8
  replace m20 := cy _ m20 b8
  replace m21 := cy _ m21 b8
  replace m30 := cy _ m30 b8
  replace m31 := cy _ m31 b8
  replace m40 := cy _ m40 b8
  replace m41 := cy _ m41 b8
  have m70 : w8.cell? ⟨w7.heap.size, 0, none⟩ = some (.int .u64 pL) := by rw [b8.cell (p := ⟨w7.heap.size, 0, none⟩) (by simp <;> omega)]; first | (simp; done) | exact ca _ (by simp) | exact ca _ (ca _ (by simp)) | (rw [World.cell?_alloc_at _ _ _ _ (by simp)]; rfl)
  have m71 : w8.cell? ⟨w7.heap.size, 1, none⟩ = some (.int .u64 pH) := by rw [b8.cell (p := ⟨w7.heap.size, 1, none⟩) (by simp <;> omega)]; first | (simp; done) | exact ca _ (by simp) | exact ca _ (ca _ (by simp)) | (rw [World.cell?_alloc_at _ _ _ _ (by simp)]; rfl)
  have B8 := bel_trans (bel_alloc B7 _) b8
  have z8 : w1.heap.size < w8.heap.size ∧ w2.heap.size < w8.heap.size ∧ w3.heap.size < w8.heap.size ∧ w4.heap.size < w8.heap.size ∧ w7.heap.size < w8.heap.size := by have := b8.size; simp at this; omega
  clear b7 B7
  go_wp2_with fail
  refine (known_any _).mono ?_
  rintro r w9 ⟨rfl, b9⟩
  go_wp2
  go_ret
  exact ⟨rfl, bel_trans (bel_alloc B8 _) b9⟩
theorem sh_ok {a b n : Int} (h1 : a ≤ b) (h2 : n + b ≤ 18446744073709551615) : shL a b n = a + n ∧ shH a b n = b + n ∧ shE a b n = 0 := by
  have h : shB a b n = true := decide_eq_true ⟨h1, h2⟩
  exact ⟨by rw [shL, if_pos h], by rw [shH, if_pos h], by rw [shE, if_pos h]⟩
theorem sh_bad {a b n : Int} (h : ¬ (a ≤ b ∧ n + b ≤ 18446744073709551615)) : (shE a b n != 0) = true := by
  have e : ¬ shB a b n = true := by simpa [shB] using h
  rw [shE, if_neg e]
  split <;> rfl
theorem shift_is {a b n : Int} (h0 : 0 ≤ a) (h1 : a ≤ 18446744073709551615) (h2 : 0 ≤ b) (h3 : b ≤ 18446744073709551615) (h4 : 0 ≤ n) (h5 : n ≤ 18446744073709551615) (hab : a ≤ b) (hn : n + b ≤ 18446744073709551615) : ∀ W : World, Calls Try.prog 22 #[.agg #[.int .u64 a, .int .u64 b], .int .u64 n] W fun e w' => e = .returned (.tuple #[.agg #[.int .u64 (a + n), .int .u64 (b + n)], .int .i64 0]) ∧ Below W.heap.size W w' := fun W => by
  have h := shift_any a b n h0 h1 h2 h3 h4 h5 W
  obtain ⟨e1, e2, e3⟩ := sh_ok hab hn
  rw [e1, e2, e3] at h
  exact h
theorem szs_is {a b : Int} (h0 : 0 ≤ a) (h1 : a ≤ 18446744073709551615) (h2 : 0 ≤ b) (h3 : b ≤ 18446744073709551615) (hab : a ≤ b) : ∀ W : World, Calls Try.prog 12 #[.agg #[.int .u64 a, .int .u64 b]] W fun e w' => e = .returned (.tuple #[.int .u64 (szN a b), .bool (szA a b), .int .i64 0]) ∧ Below W.heap.size W w' := fun W => by
  have h := size_any a b h0 h1 h2 h3 W
  rw [show ckE a b = 0 by rw [ckE, if_pos hab]] at h
  exact h
theorem sz_shift {a b n : Int} (h0 : 0 ≤ a) (hab : a ≤ b) (hn : 0 ≤ n) (h : n + b ≤ 18446744073709551615) : szN (a + n) (b + n) = szN a b ∧ szA (a + n) (b + n) = szA a b := by
  have e : szA (a + n) (b + n) = szA a b := by
    simp only [szA]; rw [decide_eq_decide]; omega
  refine ⟨?_, e⟩
  rw [szN, szN, if_pos (by omega), if_pos hab, e]
  split
  · rfl
  · omega
theorem walk_spanShifts (a0Lo a0Hi a1Lo a1Hi a2A a2B : Int) (w : World) (a0Lol : 0 ≤ a0Lo) (a0Loh : a0Lo ≤ 18446744073709551615) (a0Hil : 0 ≤ a0Hi) (a0Hih : a0Hi ≤ 18446744073709551615) (a1Lol : 0 ≤ a1Lo) (a1Loh : a1Lo ≤ 18446744073709551615) (a1Hil : 0 ≤ a1Hi) (a1Hih : a1Hi ≤ 18446744073709551615) (a2Al : 0 ≤ a2A) (a2Ah : a2A ≤ 18446744073709551615) (a2Bl : 0 ≤ a2B) (a2Bh : a2B ≤ 18446744073709551615) :
    Calls Try.prog 11 #[.agg #[.int .u64 a0Lo, .int .u64 a0Hi], .agg #[.int .u64 a1Lo, .int .u64 a1Hi], .agg #[.int .u64 a2A, .int .u64 a2B]] w fun e w' => e = .returned (.bool true) ∧ Below w.heap.size w w' := by
  by_cases hn : a2A + a2B ≤ 18446744073709551615
  · by_cases hs : a0Lo ≤ a0Hi ∧ (a2A + a2B) + a0Hi ≤ 18446744073709551615
    · obtain ⟨hab, hsb⟩ := hs
      have HS := Lib.hid (shift_is a0Lol a0Loh a0Hil a0Hih (by omega) hn hab hsb)
      by_cases ht : a1Lo ≤ a1Hi ∧ (a2A + a2B) + a1Hi ≤ 18446744073709551615
      · obtain ⟨hcd, htb⟩ := ht
        have HT := Lib.hid (shift_is a1Lol a1Loh a1Hil a1Hih (by omega) hn hcd htb)
        have HC := Lib.hid (shift_is (n := a2A) a0Lol a0Loh a0Hil a0Hih (by omega) (by omega) hab (by omega))
        have HD := Lib.hid (shift_is (a := a0Lo + a2A) (b := a0Hi + a2A) (n := a2B) (by omega) (by omega) (by omega) (by omega) (by omega) (by omega) (by omega) (by omega))
        have HN := Lib.hid (szs_is a0Lol a0Loh a0Hil a0Hih hab)
        have HO0 := szs_is (a := a0Lo + (a2A + a2B)) (b := a0Hi + (a2A + a2B)) (by omega) (by omega) (by omega) (by omega) (by omega)
        obtain ⟨z1, z2⟩ := sz_shift a0Lol hab (show 0 ≤ a2A + a2B by omega) hsb
        rw [z1, z2] at HO0
        have HO := Lib.hid HO0
        rw [show a0Lo + a2A + a2B = a0Lo + (a2A + a2B) by omega, show a0Hi + a2A + a2B = a0Hi + (a2A + a2B) by omega] at HD
        have hm := fun W => meet_any a0Lo a0Hi a1Lo a1Hi a0Lol a0Loh a0Hil a0Hih a1Lol a1Loh a1Hil a1Hih W
        have hq := fun W => meet_any (a0Lo + (a2A + a2B)) (a0Hi + (a2A + a2B)) (a1Lo + (a2A + a2B)) (a1Hi + (a2A + a2B)) (by omega) (by omega) (by omega) (by omega) (by omega) (by omega) (by omega) (by omega) W
        by_cases is : a0Lo ≤ a1Hi ∧ a1Lo ≤ a0Hi
        · have m1 : mtB a0Lo a0Hi a1Lo a1Hi = true := decide_eq_true ⟨hab, hcd, is.1, is.2⟩
          have m2 : mtB (a0Lo + (a2A + a2B)) (a0Hi + (a2A + a2B)) (a1Lo + (a2A + a2B)) (a1Hi + (a2A + a2B)) = true := decide_eq_true (by omega)
          have eL : mtL (a0Lo + (a2A + a2B)) (a0Hi + (a2A + a2B)) (a1Lo + (a2A + a2B)) (a1Hi + (a2A + a2B)) = mtL a0Lo a0Hi a1Lo a1Hi + (a2A + a2B) := by rw [mtL, mtL, if_pos m1, if_pos m2]; omega
          have eH : mtH (a0Lo + (a2A + a2B)) (a0Hi + (a2A + a2B)) (a1Lo + (a2A + a2B)) (a1Hi + (a2A + a2B)) = mtH a0Lo a0Hi a1Lo a1Hi + (a2A + a2B) := by rw [mtH, mtH, if_pos m1, if_pos m2]; omega
          have vL : mtL a0Lo a0Hi a1Lo a1Hi = max a0Lo a1Lo := by rw [mtL, if_pos m1]
          have vH : mtH a0Lo a0Hi a1Lo a1Hi = min a0Hi a1Hi := by rw [mtH, if_pos m1]
          rw [m1] at hm
          rw [eL, eH, m2] at hq
          exact shifts_yes a0Lo a0Hi a1Lo a1Hi a2A a2B _ _ _ _ _ _ _ _ _ w a0Lol a0Loh a0Hil a0Hih a1Lol a1Loh a1Hil a1Hih a2Al a2Ah a2Bl a2Bh _ hn (by omega) (by omega) (by omega) (by omega) HS HT HC HD HN HO (Lib.hid hm) (Lib.hid hq)
        · have m1 : mtB a0Lo a0Hi a1Lo a1Hi = false := decide_eq_false (by omega)
          have m2 : mtB (a0Lo + (a2A + a2B)) (a0Hi + (a2A + a2B)) (a1Lo + (a2A + a2B)) (a1Hi + (a2A + a2B)) = false := decide_eq_false (by omega)
          rw [m1] at hm
          rw [m2] at hq
          exact shifts_no a0Lo a0Hi a1Lo a1Hi a2A a2B _ _ _ _ _ _ _ _ _ _ _ w a0Lol a0Loh a0Hil a0Hih a1Lol a1Loh a1Hil a1Hih a2Al a2Ah a2Bl a2Bh _ hn HS HT HC HD HN HO (Lib.hid hm) (Lib.hid hq)
      · exact shifts_t a0Lo a0Hi a1Lo a1Hi a2A a2B _ _ _ _ _ w a0Lol a0Loh a0Hil a0Hih a1Lol a1Loh a1Hil a1Hih a2Al a2Ah a2Bl a2Bh hn (sh_bad ht) HS (Lib.hid fun W => shift_any a1Lo a1Hi (a2A + a2B) a1Lol a1Loh a1Hil a1Hih (by omega) hn W)
    · exact shifts_s a0Lo a0Hi a1Lo a1Hi a2A a2B _ _ _ _ _ _ w a0Lol a0Loh a0Hil a0Hih a1Lol a1Loh a1Hil a1Hih a2Al a2Ah a2Bl a2Bh hn (sh_bad hs) (Lib.hid fun W => shift_any a0Lo a0Hi (a2A + a2B) a0Lol a0Loh a0Hil a0Hih (by omega) hn W) (Lib.hid fun W => shift_any a1Lo a1Hi (a2A + a2B) a1Lol a1Loh a1Hil a1Hih (by omega) hn W)
  · exact shifts_far a0Lo a0Hi a1Lo a1Hi a2A a2B w a0Lol a0Loh a0Hil a0Hih a1Lol a1Loh a1Hil a1Hih a2Al a2Ah a2Bl a2Bh (by omega)
end Wk
end Go.Proofs.Ytmnoljnjnmcgpaa
