/- The walk of SpanSizes (package leapfroglaw02), from the contracts. Conditions: the bounds of each argument's kind. -/
import Derived.Test.YtmnoljnjnmcgpaaWkSp3
namespace Go.Proofs.Ytmnoljnjnmcgpaa
open Go.RowKit Go.Sort
set_option linter.unusedVariables false
set_option linter.unusedSimpArgs false
namespace Wk
open Sp
theorem hu_val {a b c d : Int} (h1 : a ≤ b) (h2 : c ≤ d) : huL a b c d = min a c ∧ huH a b c d = max b d ∧ huE a b c d = 0 := by
  have hb : huB a b c d = true := decide_eq_true ⟨h1, h2⟩
  exact ⟨by rw [huL, if_pos hb], by rw [huH, if_pos hb], by rw [huE, if_pos hb]⟩
/-- the ranges have these hulls and common keys; then the sizes add up -/
theorem size_sum {a b c d : Int} (h1 : a ≤ b) (h2 : c ≤ d) (h0 : 0 ≤ a) (h0' : 0 ≤ c) (hb : b ≤ 18446744073709551615) (hd : d ≤ 18446744073709551615) (hf : ¬ (min a c = 0 ∧ max b d = 18446744073709551615)) (n : Int)
    (hn : (a ≤ d ∧ c ≤ b ∧ n = szN (max a c) (min b d)) ∨ ((b + 1 = c ∨ d + 1 = a) ∧ n = 0)) :
    szN a b + szN c d = szN (min a c) (max b d) + n := by
  have e : ∀ x y : Int, x ≤ y → ¬ (x = 0 ∧ y = 18446744073709551615) → szN x y = y - x + 1 := fun x y hxy hz => by
    simp only [szN, szA, if_pos hxy, decide_eq_true_eq, if_neg hz]
  rw [e a b h1 (by omega), e c d h2 (by omega), e _ _ (by omega) hf]
  rcases hn with ⟨p, q, rfl⟩ | ⟨p, rfl⟩
  · rw [e _ _ (by omega) (by omega)]; omega
  · omega
set_option maxRecDepth 100000 in
set_option maxHeartbeats 2000000 in
theorem sizes_full_is (a0Lo a0Hi a1Lo a1Hi hL hH mL mH : Int) (w : World) (a0Lol : 0 ≤ a0Lo) (a0Loh : a0Lo ≤ 18446744073709551615) (a0Hil : 0 ≤ a0Hi) (a0Hih : a0Hi ≤ 18446744073709551615) (a1Lol : 0 ≤ a1Lo) (a1Loh : a1Lo ≤ 18446744073709551615) (a1Hil : 0 ≤ a1Hi) (a1Hih : a1Hi ≤ 18446744073709551615) (hab : a0Lo ≤ a0Hi) (hcd : a1Lo ≤ a1Hi) (i1 : a0Lo ≤ a1Hi) (i2 : a1Lo ≤ a0Hi) (f1 : (hL == 0) = true) (f2 : (hH == 18446744073709551615) = true) (HU : Hid (∀ W : World, Calls Try.prog 20 #[.agg #[.int .u64 a0Lo, .int .u64 a0Hi], .agg #[.int .u64 a1Lo, .int .u64 a1Hi]] W fun e w' => e = .returned (.tuple #[.agg #[.int .u64 hL, .int .u64 hH], .int .i64 0]) ∧ Below W.heap.size W w')) (HM : Hid (∀ W : World, Calls Try.prog 18 #[.agg #[.int .u64 a0Lo, .int .u64 a0Hi], .agg #[.int .u64 a1Lo, .int .u64 a1Hi]] W fun e w' => e = .returned (.tuple #[.agg #[.int .u64 mL, .int .u64 mH], .bool true]) ∧ Below W.heap.size W w')) (HO : Hid (∀ W : World, Calls Try.prog 24 #[.agg #[.int .u64 a0Lo, .int .u64 a0Hi], .agg #[.int .u64 a1Lo, .int .u64 a1Hi]] W fun e w' => e = .returned (.bool true) ∧ Below W.heap.size W w')) :
    Calls Try.prog 10 #[.agg #[.int .u64 a0Lo, .int .u64 a0Hi], .agg #[.int .u64 a1Lo, .int .u64 a1Hi]] w fun e w' => e = .returned (.bool true) ∧ Below w.heap.size w w' := by
  have b0 : Below w.heap.size w ((w.alloc (.cells #[.int .u64 a0Lo, .int .u64 a0Hi] 24)).alloc (.cells #[.int .u64 a1Lo, .int .u64 a1Hi] 24)) := bel_alloc (bel_alloc (Below.refl _ _) _) _
  go_enter Try.func10, Try.ntmps10
  go_wp2_with fail
  refine (HU.out _).mono ?_
  rintro r w1 ⟨rfl, b1⟩
  have y1 : w.heap.size + 1 < w1.heap.size := by have := b1.size; simp at this; omega
  have x1 : w.heap.size < w1.heap.size := by omega
  have p0 : w1.cell? ⟨w.heap.size, 0, none⟩ = some (.int .u64 a0Lo) := by rw [b1.cell (p := ⟨w.heap.size, 0, none⟩) (by simp <;> omega)]; simp
  have p1 : w1.cell? ⟨w.heap.size, 1, none⟩ = some (.int .u64 a0Hi) := by rw [b1.cell (p := ⟨w.heap.size, 1, none⟩) (by simp <;> omega)]; simp
  have q0 : w1.cell? ⟨w.heap.size + 1, 0, none⟩ = some (.int .u64 a1Lo) := by rw [b1.cell (p := ⟨w.heap.size + 1, 0, none⟩) (by simp <;> omega)]; simp
  have q1 : w1.cell? ⟨w.heap.size + 1, 1, none⟩ = some (.int .u64 a1Hi) := by rw [b1.cell (p := ⟨w.heap.size + 1, 1, none⟩) (by simp <;> omega)]; simp
  have B1 := bel_trans b0 b1
  clear b0 b1
  go_wp2_with fail
  refine (HM.out _).mono ?_
  rintro r w2 ⟨rfl, b2⟩
  have y2 : w.heap.size + 1 < w2.heap.size := by have := b2.size; simp at this; omega
  have x2 : w.heap.size < w2.heap.size := by omega
  replace p0 := cy _ p0 b2
  replace p1 := cy _ p1 b2
  replace q0 := cy _ q0 b2
  replace q1 := cy _ q1 b2
  have h0 : w2.cell? ⟨w1.heap.size, 0, none⟩ = some (.int .u64 hL) := by rw [b2.cell (p := ⟨w1.heap.size, 0, none⟩) (by simp <;> omega)]; simp
  have h1 : w2.cell? ⟨w1.heap.size, 1, none⟩ = some (.int .u64 hH) := by rw [b2.cell (p := ⟨w1.heap.size, 1, none⟩) (by simp <;> omega)]; simp
  have z2 : w1.heap.size < w2.heap.size := by have := b2.size; simp at this; omega
  have B2 := bel_trans (bel_alloc B1 _) b2
  clear b2 B1
  go_wp2_with fail
  refine (HO.out _).mono ?_
  rintro r w3 ⟨rfl, b3⟩
  have y3 : w.heap.size + 1 < w3.heap.size := by have := b3.size; simp at this; omega
  have x3 : w.heap.size < w3.heap.size := by omega
  replace p0 := cy _ p0 b3
  replace p1 := cy _ p1 b3
  replace q0 := cy _ q0 b3
  replace q1 := cy _ q1 b3
  replace h0 := cy _ h0 b3
  replace h1 := cy _ h1 b3
  have m0 : w3.cell? ⟨w2.heap.size, 0, none⟩ = some (.int .u64 mL) := by rw [b3.cell (p := ⟨w2.heap.size, 0, none⟩) (by simp <;> omega)]; simp
  have m1 : w3.cell? ⟨w2.heap.size, 1, none⟩ = some (.int .u64 mH) := by rw [b3.cell (p := ⟨w2.heap.size, 1, none⟩) (by simp <;> omega)]; simp
  have z3 : w1.heap.size < w3.heap.size ∧ w2.heap.size < w3.heap.size := by have := b3.size; simp at this; omega
  have B3 := bel_trans (bel_alloc B2 _) b3
  clear b3 B2
  go_wp2_with fail
  refine (known_any _).mono ?_
  rintro r w4 ⟨rfl, b4⟩
  go_wp2
  go_ret
  exact ⟨rfl, bel_trans B3 b4⟩
set_option maxRecDepth 100000 in
set_option maxHeartbeats 2000000 in
theorem sizes_full_lo (a0Lo a0Hi a1Lo a1Hi hL hH mL mH : Int) (w : World) (a0Lol : 0 ≤ a0Lo) (a0Loh : a0Lo ≤ 18446744073709551615) (a0Hil : 0 ≤ a0Hi) (a0Hih : a0Hi ≤ 18446744073709551615) (a1Lol : 0 ≤ a1Lo) (a1Loh : a1Lo ≤ 18446744073709551615) (a1Hil : 0 ≤ a1Hi) (a1Hih : a1Hi ≤ 18446744073709551615) (hab : a0Lo ≤ a0Hi) (hcd : a1Lo ≤ a1Hi) (i1 : a1Hi < a0Lo) (f1 : (hL == 0) = true) (f2 : (hH == 18446744073709551615) = true) (HU : Hid (∀ W : World, Calls Try.prog 20 #[.agg #[.int .u64 a0Lo, .int .u64 a0Hi], .agg #[.int .u64 a1Lo, .int .u64 a1Hi]] W fun e w' => e = .returned (.tuple #[.agg #[.int .u64 hL, .int .u64 hH], .int .i64 0]) ∧ Below W.heap.size W w')) (HM : Hid (∀ W : World, Calls Try.prog 18 #[.agg #[.int .u64 a0Lo, .int .u64 a0Hi], .agg #[.int .u64 a1Lo, .int .u64 a1Hi]] W fun e w' => e = .returned (.tuple #[.agg #[.int .u64 mL, .int .u64 mH], .bool false]) ∧ Below W.heap.size W w')) (HO : Hid (∀ W : World, Calls Try.prog 24 #[.agg #[.int .u64 a0Lo, .int .u64 a0Hi], .agg #[.int .u64 a1Lo, .int .u64 a1Hi]] W fun e w' => e = .returned (.bool false) ∧ Below W.heap.size W w')) :
    Calls Try.prog 10 #[.agg #[.int .u64 a0Lo, .int .u64 a0Hi], .agg #[.int .u64 a1Lo, .int .u64 a1Hi]] w fun e w' => e = .returned (.bool true) ∧ Below w.heap.size w w' := by
  have b0 : Below w.heap.size w ((w.alloc (.cells #[.int .u64 a0Lo, .int .u64 a0Hi] 24)).alloc (.cells #[.int .u64 a1Lo, .int .u64 a1Hi] 24)) := bel_alloc (bel_alloc (Below.refl _ _) _) _
  go_enter Try.func10, Try.ntmps10
  go_wp2_with fail
  refine (HU.out _).mono ?_
  rintro r w1 ⟨rfl, b1⟩
  have y1 : w.heap.size + 1 < w1.heap.size := by have := b1.size; simp at this; omega
  have x1 : w.heap.size < w1.heap.size := by omega
  have p0 : w1.cell? ⟨w.heap.size, 0, none⟩ = some (.int .u64 a0Lo) := by rw [b1.cell (p := ⟨w.heap.size, 0, none⟩) (by simp <;> omega)]; simp
  have p1 : w1.cell? ⟨w.heap.size, 1, none⟩ = some (.int .u64 a0Hi) := by rw [b1.cell (p := ⟨w.heap.size, 1, none⟩) (by simp <;> omega)]; simp
  have q0 : w1.cell? ⟨w.heap.size + 1, 0, none⟩ = some (.int .u64 a1Lo) := by rw [b1.cell (p := ⟨w.heap.size + 1, 0, none⟩) (by simp <;> omega)]; simp
  have q1 : w1.cell? ⟨w.heap.size + 1, 1, none⟩ = some (.int .u64 a1Hi) := by rw [b1.cell (p := ⟨w.heap.size + 1, 1, none⟩) (by simp <;> omega)]; simp
  have B1 := bel_trans b0 b1
  clear b0 b1
  go_wp2_with fail
  refine (HM.out _).mono ?_
  rintro r w2 ⟨rfl, b2⟩
  have y2 : w.heap.size + 1 < w2.heap.size := by have := b2.size; simp at this; omega
  have x2 : w.heap.size < w2.heap.size := by omega
  replace p0 := cy _ p0 b2
  replace p1 := cy _ p1 b2
  replace q0 := cy _ q0 b2
  replace q1 := cy _ q1 b2
  have h0 : w2.cell? ⟨w1.heap.size, 0, none⟩ = some (.int .u64 hL) := by rw [b2.cell (p := ⟨w1.heap.size, 0, none⟩) (by simp <;> omega)]; simp
  have h1 : w2.cell? ⟨w1.heap.size, 1, none⟩ = some (.int .u64 hH) := by rw [b2.cell (p := ⟨w1.heap.size, 1, none⟩) (by simp <;> omega)]; simp
  have z2 : w1.heap.size < w2.heap.size := by have := b2.size; simp at this; omega
  have B2 := bel_trans (bel_alloc B1 _) b2
  clear b2 B1
  go_wp2_with fail
  refine (HO.out _).mono ?_
  rintro r w3 ⟨rfl, b3⟩
  have y3 : w.heap.size + 1 < w3.heap.size := by have := b3.size; simp at this; omega
  have x3 : w.heap.size < w3.heap.size := by omega
  replace p0 := cy _ p0 b3
  replace p1 := cy _ p1 b3
  replace q0 := cy _ q0 b3
  replace q1 := cy _ q1 b3
  replace h0 := cy _ h0 b3
  replace h1 := cy _ h1 b3
  have m0 : w3.cell? ⟨w2.heap.size, 0, none⟩ = some (.int .u64 mL) := by rw [b3.cell (p := ⟨w2.heap.size, 0, none⟩) (by simp <;> omega)]; simp
  have m1 : w3.cell? ⟨w2.heap.size, 1, none⟩ = some (.int .u64 mH) := by rw [b3.cell (p := ⟨w2.heap.size, 1, none⟩) (by simp <;> omega)]; simp
  have z3 : w1.heap.size < w3.heap.size ∧ w2.heap.size < w3.heap.size := by have := b3.size; simp at this; omega
  have B3 := bel_trans (bel_alloc B2 _) b3
  clear b3 B2
  go_wp2_with fail
  refine (known_any _).mono ?_
  rintro r w4 ⟨rfl, b4⟩
  go_wp2
  go_ret
  exact ⟨rfl, bel_trans B3 b4⟩
set_option maxRecDepth 100000 in
set_option maxHeartbeats 2000000 in
theorem sizes_full_hi (a0Lo a0Hi a1Lo a1Hi hL hH mL mH : Int) (w : World) (a0Lol : 0 ≤ a0Lo) (a0Loh : a0Lo ≤ 18446744073709551615) (a0Hil : 0 ≤ a0Hi) (a0Hih : a0Hi ≤ 18446744073709551615) (a1Lol : 0 ≤ a1Lo) (a1Loh : a1Lo ≤ 18446744073709551615) (a1Hil : 0 ≤ a1Hi) (a1Hih : a1Hi ≤ 18446744073709551615) (hab : a0Lo ≤ a0Hi) (hcd : a1Lo ≤ a1Hi) (i0 : a0Lo ≤ a1Hi) (i1 : a0Hi < a1Lo) (f1 : (hL == 0) = true) (f2 : (hH == 18446744073709551615) = true) (HU : Hid (∀ W : World, Calls Try.prog 20 #[.agg #[.int .u64 a0Lo, .int .u64 a0Hi], .agg #[.int .u64 a1Lo, .int .u64 a1Hi]] W fun e w' => e = .returned (.tuple #[.agg #[.int .u64 hL, .int .u64 hH], .int .i64 0]) ∧ Below W.heap.size W w')) (HM : Hid (∀ W : World, Calls Try.prog 18 #[.agg #[.int .u64 a0Lo, .int .u64 a0Hi], .agg #[.int .u64 a1Lo, .int .u64 a1Hi]] W fun e w' => e = .returned (.tuple #[.agg #[.int .u64 mL, .int .u64 mH], .bool false]) ∧ Below W.heap.size W w')) (HO : Hid (∀ W : World, Calls Try.prog 24 #[.agg #[.int .u64 a0Lo, .int .u64 a0Hi], .agg #[.int .u64 a1Lo, .int .u64 a1Hi]] W fun e w' => e = .returned (.bool false) ∧ Below W.heap.size W w')) :
    Calls Try.prog 10 #[.agg #[.int .u64 a0Lo, .int .u64 a0Hi], .agg #[.int .u64 a1Lo, .int .u64 a1Hi]] w fun e w' => e = .returned (.bool true) ∧ Below w.heap.size w w' := by
  have b0 : Below w.heap.size w ((w.alloc (.cells #[.int .u64 a0Lo, .int .u64 a0Hi] 24)).alloc (.cells #[.int .u64 a1Lo, .int .u64 a1Hi] 24)) := bel_alloc (bel_alloc (Below.refl _ _) _) _
  go_enter Try.func10, Try.ntmps10
  go_wp2_with fail
  refine (HU.out _).mono ?_
  rintro r w1 ⟨rfl, b1⟩
  have y1 : w.heap.size + 1 < w1.heap.size := by have := b1.size; simp at this; omega
  have x1 : w.heap.size < w1.heap.size := by omega
  have p0 : w1.cell? ⟨w.heap.size, 0, none⟩ = some (.int .u64 a0Lo) := by rw [b1.cell (p := ⟨w.heap.size, 0, none⟩) (by simp <;> omega)]; simp
  have p1 : w1.cell? ⟨w.heap.size, 1, none⟩ = some (.int .u64 a0Hi) := by rw [b1.cell (p := ⟨w.heap.size, 1, none⟩) (by simp <;> omega)]; simp
  have q0 : w1.cell? ⟨w.heap.size + 1, 0, none⟩ = some (.int .u64 a1Lo) := by rw [b1.cell (p := ⟨w.heap.size + 1, 0, none⟩) (by simp <;> omega)]; simp
  have q1 : w1.cell? ⟨w.heap.size + 1, 1, none⟩ = some (.int .u64 a1Hi) := by rw [b1.cell (p := ⟨w.heap.size + 1, 1, none⟩) (by simp <;> omega)]; simp
  have B1 := bel_trans b0 b1
  clear b0 b1
  go_wp2_with fail
  refine (HM.out _).mono ?_
  rintro r w2 ⟨rfl, b2⟩
  have y2 : w.heap.size + 1 < w2.heap.size := by have := b2.size; simp at this; omega
  have x2 : w.heap.size < w2.heap.size := by omega
  replace p0 := cy _ p0 b2
  replace p1 := cy _ p1 b2
  replace q0 := cy _ q0 b2
  replace q1 := cy _ q1 b2
  have h0 : w2.cell? ⟨w1.heap.size, 0, none⟩ = some (.int .u64 hL) := by rw [b2.cell (p := ⟨w1.heap.size, 0, none⟩) (by simp <;> omega)]; simp
  have h1 : w2.cell? ⟨w1.heap.size, 1, none⟩ = some (.int .u64 hH) := by rw [b2.cell (p := ⟨w1.heap.size, 1, none⟩) (by simp <;> omega)]; simp
  have z2 : w1.heap.size < w2.heap.size := by have := b2.size; simp at this; omega
  have B2 := bel_trans (bel_alloc B1 _) b2
  clear b2 B1
  go_wp2_with fail
  refine (HO.out _).mono ?_
  rintro r w3 ⟨rfl, b3⟩
  have y3 : w.heap.size + 1 < w3.heap.size := by have := b3.size; simp at this; omega
  have x3 : w.heap.size < w3.heap.size := by omega
  replace p0 := cy _ p0 b3
  replace p1 := cy _ p1 b3
  replace q0 := cy _ q0 b3
  replace q1 := cy _ q1 b3
  replace h0 := cy _ h0 b3
  replace h1 := cy _ h1 b3
  have m0 : w3.cell? ⟨w2.heap.size, 0, none⟩ = some (.int .u64 mL) := by rw [b3.cell (p := ⟨w2.heap.size, 0, none⟩) (by simp <;> omega)]; simp
  have m1 : w3.cell? ⟨w2.heap.size, 1, none⟩ = some (.int .u64 mH) := by rw [b3.cell (p := ⟨w2.heap.size, 1, none⟩) (by simp <;> omega)]; simp
  have z3 : w1.heap.size < w3.heap.size ∧ w2.heap.size < w3.heap.size := by have := b3.size; simp at this; omega
  have B3 := bel_trans (bel_alloc B2 _) b3
  clear b3 B2
  go_wp2_with fail
  refine (known_any _).mono ?_
  rintro r w4 ⟨rfl, b4⟩
  go_wp2
  go_ret
  exact ⟨rfl, bel_trans B3 b4⟩
set_option maxRecDepth 100000 in
set_option maxHeartbeats 2000000 in
theorem sizes_is_a (a0Lo a0Hi a1Lo a1Hi hL hH mL mH : Int) (w : World) (a0Lol : 0 ≤ a0Lo) (a0Loh : a0Lo ≤ 18446744073709551615) (a0Hil : 0 ≤ a0Hi) (a0Hih : a0Hi ≤ 18446744073709551615) (a1Lol : 0 ≤ a1Lo) (a1Loh : a1Lo ≤ 18446744073709551615) (a1Hil : 0 ≤ a1Hi) (a1Hih : a1Hi ≤ 18446744073709551615) (hab : a0Lo ≤ a0Hi) (hcd : a1Lo ≤ a1Hi) (X Y Z N : Int) (i1 : a0Lo ≤ a1Hi) (i2 : a1Lo ≤ a0Hi) (f1 : (hL == 0) = false) (HU : Hid (∀ W : World, Calls Try.prog 20 #[.agg #[.int .u64 a0Lo, .int .u64 a0Hi], .agg #[.int .u64 a1Lo, .int .u64 a1Hi]] W fun e w' => e = .returned (.tuple #[.agg #[.int .u64 hL, .int .u64 hH], .int .i64 0]) ∧ Below W.heap.size W w')) (HM : Hid (∀ W : World, Calls Try.prog 18 #[.agg #[.int .u64 a0Lo, .int .u64 a0Hi], .agg #[.int .u64 a1Lo, .int .u64 a1Hi]] W fun e w' => e = .returned (.tuple #[.agg #[.int .u64 mL, .int .u64 mH], .bool true]) ∧ Below W.heap.size W w')) (HO : Hid (∀ W : World, Calls Try.prog 24 #[.agg #[.int .u64 a0Lo, .int .u64 a0Hi], .agg #[.int .u64 a1Lo, .int .u64 a1Hi]] W fun e w' => e = .returned (.bool true) ∧ Below W.heap.size W w')) (SA : Hid (∀ W : World, Calls Try.prog 12 #[.agg #[.int .u64 a0Lo, .int .u64 a0Hi]] W fun e w' => e = .returned (.tuple #[.int .u64 X, .bool false, .int .i64 0]) ∧ Below W.heap.size W w')) (SB : Hid (∀ W : World, Calls Try.prog 12 #[.agg #[.int .u64 a1Lo, .int .u64 a1Hi]] W fun e w' => e = .returned (.tuple #[.int .u64 Y, .bool false, .int .i64 0]) ∧ Below W.heap.size W w')) (SH : Hid (∀ W : World, Calls Try.prog 12 #[.agg #[.int .u64 hL, .int .u64 hH]] W fun e w' => e = .returned (.tuple #[.int .u64 Z, .bool false, .int .i64 0]) ∧ Below W.heap.size W w')) (SM : Hid (∀ W : World, Calls Try.prog 12 #[.agg #[.int .u64 mL, .int .u64 mH]] W fun e w' => e = .returned (.tuple #[.int .u64 N, .bool false, .int .i64 0]) ∧ Below W.heap.size W w')) (hs : X + Y = Z + N) :
    Calls Try.prog 10 #[.agg #[.int .u64 a0Lo, .int .u64 a0Hi], .agg #[.int .u64 a1Lo, .int .u64 a1Hi]] w fun e w' => e = .returned (.bool true) ∧ Below w.heap.size w w' := by
  have b0 : Below w.heap.size w ((w.alloc (.cells #[.int .u64 a0Lo, .int .u64 a0Hi] 24)).alloc (.cells #[.int .u64 a1Lo, .int .u64 a1Hi] 24)) := bel_alloc (bel_alloc (Below.refl _ _) _) _
  go_enter Try.func10, Try.ntmps10
  go_wp2_with fail
  refine (HU.out _).mono ?_
  rintro r w1 ⟨rfl, b1⟩
  have y1 : w.heap.size + 1 < w1.heap.size := by have := b1.size; simp at this; omega
  have x1 : w.heap.size < w1.heap.size := by omega
  have p0 : w1.cell? ⟨w.heap.size, 0, none⟩ = some (.int .u64 a0Lo) := by rw [b1.cell (p := ⟨w.heap.size, 0, none⟩) (by simp <;> omega)]; simp
  have p1 : w1.cell? ⟨w.heap.size, 1, none⟩ = some (.int .u64 a0Hi) := by rw [b1.cell (p := ⟨w.heap.size, 1, none⟩) (by simp <;> omega)]; simp
  have q0 : w1.cell? ⟨w.heap.size + 1, 0, none⟩ = some (.int .u64 a1Lo) := by rw [b1.cell (p := ⟨w.heap.size + 1, 0, none⟩) (by simp <;> omega)]; simp
  have q1 : w1.cell? ⟨w.heap.size + 1, 1, none⟩ = some (.int .u64 a1Hi) := by rw [b1.cell (p := ⟨w.heap.size + 1, 1, none⟩) (by simp <;> omega)]; simp
  have B1 := bel_trans b0 b1
  clear b0 b1
  go_wp2_with fail
  refine (HM.out _).mono ?_
  rintro r w2 ⟨rfl, b2⟩
  have y2 : w.heap.size + 1 < w2.heap.size := by have := b2.size; simp at this; omega
  have x2 : w.heap.size < w2.heap.size := by omega
  replace p0 := cy _ p0 b2
  replace p1 := cy _ p1 b2
  replace q0 := cy _ q0 b2
  replace q1 := cy _ q1 b2
  have h0 : w2.cell? ⟨w1.heap.size, 0, none⟩ = some (.int .u64 hL) := by rw [b2.cell (p := ⟨w1.heap.size, 0, none⟩) (by simp <;> omega)]; simp
  have h1 : w2.cell? ⟨w1.heap.size, 1, none⟩ = some (.int .u64 hH) := by rw [b2.cell (p := ⟨w1.heap.size, 1, none⟩) (by simp <;> omega)]; simp
  have z2 : w1.heap.size < w2.heap.size := by have := b2.size; simp at this; omega
  have B2 := bel_trans (bel_alloc B1 _) b2
  clear b2 B1
  go_wp2_with fail
  refine (HO.out _).mono ?_
  rintro r w3 ⟨rfl, b3⟩
  have y3 : w.heap.size + 1 < w3.heap.size := by have := b3.size; simp at this; omega
  have x3 : w.heap.size < w3.heap.size := by omega
  replace p0 := cy _ p0 b3
  replace p1 := cy _ p1 b3
  replace q0 := cy _ q0 b3
  replace q1 := cy _ q1 b3
  replace h0 := cy _ h0 b3
  replace h1 := cy _ h1 b3
  have m0 : w3.cell? ⟨w2.heap.size, 0, none⟩ = some (.int .u64 mL) := by rw [b3.cell (p := ⟨w2.heap.size, 0, none⟩) (by simp <;> omega)]; simp
  have m1 : w3.cell? ⟨w2.heap.size, 1, none⟩ = some (.int .u64 mH) := by rw [b3.cell (p := ⟨w2.heap.size, 1, none⟩) (by simp <;> omega)]; simp
  have z3 : w1.heap.size < w3.heap.size ∧ w2.heap.size < w3.heap.size := by have := b3.size; simp at this; omega
  have B3 := bel_trans (bel_alloc B2 _) b3
  clear b3 B2
  go_wp2_with fail
  refine (SA.out _).mono ?_
  rintro r w4 ⟨rfl, b4⟩
  replace p0 := cb p0 b4
  replace p1 := cb p1 b4
  replace q0 := cb q0 b4
  replace q1 := cb q1 b4
  replace h0 := cb h0 b4
  replace h1 := cb h1 b4
  replace m0 := cb m0 b4
  replace m1 := cb m1 b4
  have B4 := bel_trans B3 b4
  clear b4 B3
  go_wp2_with fail
  refine (SB.out _).mono ?_
  rintro r w5 ⟨rfl, b5⟩
  replace p0 := cb p0 b5
  replace p1 := cb p1 b5
  replace q0 := cb q0 b5
  replace q1 := cb q1 b5
  replace h0 := cb h0 b5
  replace h1 := cb h1 b5
  replace m0 := cb m0 b5
  replace m1 := cb m1 b5
  have B5 := bel_trans B4 b5
  clear b5 B4
  go_wp2_with fail
  refine (SH.out _).mono ?_
  rintro r w6 ⟨rfl, b6⟩
  replace p0 := cb p0 b6
  replace p1 := cb p1 b6
  replace q0 := cb q0 b6
  replace q1 := cb q1 b6
  replace h0 := cb h0 b6
  replace h1 := cb h1 b6
  replace m0 := cb m0 b6
  replace m1 := cb m1 b6
  have B6 := bel_trans B5 b6
  clear b6 B5
  go_wp2_with fail
  refine (SM.out _).mono ?_
  rintro r w7 ⟨rfl, b7⟩
  replace p0 := cb p0 b7
  replace p1 := cb p1 b7
  replace q0 := cb q0 b7
  replace q1 := cb q1 b7
  replace h0 := cb h0 b7
  replace h1 := cb h1 b7
  replace m0 := cb m0 b7
  replace m1 := cb m1 b7
  have B7 := bel_trans B6 b7
  clear b7 B6
  go_wp2_with fail
  refine (known_any _).mono ?_
  rintro r w8 ⟨rfl, b8⟩
  go_wp2
  go_ret
  exact ⟨rfl, bel_trans B7 b8⟩
set_option maxRecDepth 100000 in
set_option maxHeartbeats 2000000 in
theorem sizes_is_b (a0Lo a0Hi a1Lo a1Hi hL hH mL mH : Int) (w : World) (a0Lol : 0 ≤ a0Lo) (a0Loh : a0Lo ≤ 18446744073709551615) (a0Hil : 0 ≤ a0Hi) (a0Hih : a0Hi ≤ 18446744073709551615) (a1Lol : 0 ≤ a1Lo) (a1Loh : a1Lo ≤ 18446744073709551615) (a1Hil : 0 ≤ a1Hi) (a1Hih : a1Hi ≤ 18446744073709551615) (hab : a0Lo ≤ a0Hi) (hcd : a1Lo ≤ a1Hi) (X Y Z N : Int) (i1 : a0Lo ≤ a1Hi) (i2 : a1Lo ≤ a0Hi) (f1 : (hL == 0) = true) (f2 : (hH == 18446744073709551615) = false) (HU : Hid (∀ W : World, Calls Try.prog 20 #[.agg #[.int .u64 a0Lo, .int .u64 a0Hi], .agg #[.int .u64 a1Lo, .int .u64 a1Hi]] W fun e w' => e = .returned (.tuple #[.agg #[.int .u64 hL, .int .u64 hH], .int .i64 0]) ∧ Below W.heap.size W w')) (HM : Hid (∀ W : World, Calls Try.prog 18 #[.agg #[.int .u64 a0Lo, .int .u64 a0Hi], .agg #[.int .u64 a1Lo, .int .u64 a1Hi]] W fun e w' => e = .returned (.tuple #[.agg #[.int .u64 mL, .int .u64 mH], .bool true]) ∧ Below W.heap.size W w')) (HO : Hid (∀ W : World, Calls Try.prog 24 #[.agg #[.int .u64 a0Lo, .int .u64 a0Hi], .agg #[.int .u64 a1Lo, .int .u64 a1Hi]] W fun e w' => e = .returned (.bool true) ∧ Below W.heap.size W w')) (SA : Hid (∀ W : World, Calls Try.prog 12 #[.agg #[.int .u64 a0Lo, .int .u64 a0Hi]] W fun e w' => e = .returned (.tuple #[.int .u64 X, .bool false, .int .i64 0]) ∧ Below W.heap.size W w')) (SB : Hid (∀ W : World, Calls Try.prog 12 #[.agg #[.int .u64 a1Lo, .int .u64 a1Hi]] W fun e w' => e = .returned (.tuple #[.int .u64 Y, .bool false, .int .i64 0]) ∧ Below W.heap.size W w')) (SH : Hid (∀ W : World, Calls Try.prog 12 #[.agg #[.int .u64 hL, .int .u64 hH]] W fun e w' => e = .returned (.tuple #[.int .u64 Z, .bool false, .int .i64 0]) ∧ Below W.heap.size W w')) (SM : Hid (∀ W : World, Calls Try.prog 12 #[.agg #[.int .u64 mL, .int .u64 mH]] W fun e w' => e = .returned (.tuple #[.int .u64 N, .bool false, .int .i64 0]) ∧ Below W.heap.size W w')) (hs : X + Y = Z + N) :
    Calls Try.prog 10 #[.agg #[.int .u64 a0Lo, .int .u64 a0Hi], .agg #[.int .u64 a1Lo, .int .u64 a1Hi]] w fun e w' => e = .returned (.bool true) ∧ Below w.heap.size w w' := by
  have b0 : Below w.heap.size w ((w.alloc (.cells #[.int .u64 a0Lo, .int .u64 a0Hi] 24)).alloc (.cells #[.int .u64 a1Lo, .int .u64 a1Hi] 24)) := bel_alloc (bel_alloc (Below.refl _ _) _) _
  go_enter Try.func10, Try.ntmps10
  go_wp2_with fail
  refine (HU.out _).mono ?_
  rintro r w1 ⟨rfl, b1⟩
  have y1 : w.heap.size + 1 < w1.heap.size := by have := b1.size; simp at this; omega
  have x1 : w.heap.size < w1.heap.size := by omega
  have p0 : w1.cell? ⟨w.heap.size, 0, none⟩ = some (.int .u64 a0Lo) := by rw [b1.cell (p := ⟨w.heap.size, 0, none⟩) (by simp <;> omega)]; simp
  have p1 : w1.cell? ⟨w.heap.size, 1, none⟩ = some (.int .u64 a0Hi) := by rw [b1.cell (p := ⟨w.heap.size, 1, none⟩) (by simp <;> omega)]; simp
  have q0 : w1.cell? ⟨w.heap.size + 1, 0, none⟩ = some (.int .u64 a1Lo) := by rw [b1.cell (p := ⟨w.heap.size + 1, 0, none⟩) (by simp <;> omega)]; simp
  have q1 : w1.cell? ⟨w.heap.size + 1, 1, none⟩ = some (.int .u64 a1Hi) := by rw [b1.cell (p := ⟨w.heap.size + 1, 1, none⟩) (by simp <;> omega)]; simp
  have B1 := bel_trans b0 b1
  clear b0 b1
  go_wp2_with fail
  refine (HM.out _).mono ?_
  rintro r w2 ⟨rfl, b2⟩
  have y2 : w.heap.size + 1 < w2.heap.size := by have := b2.size; simp at this; omega
  have x2 : w.heap.size < w2.heap.size := by omega
  replace p0 := cy _ p0 b2
  replace p1 := cy _ p1 b2
  replace q0 := cy _ q0 b2
  replace q1 := cy _ q1 b2
  have h0 : w2.cell? ⟨w1.heap.size, 0, none⟩ = some (.int .u64 hL) := by rw [b2.cell (p := ⟨w1.heap.size, 0, none⟩) (by simp <;> omega)]; simp
  have h1 : w2.cell? ⟨w1.heap.size, 1, none⟩ = some (.int .u64 hH) := by rw [b2.cell (p := ⟨w1.heap.size, 1, none⟩) (by simp <;> omega)]; simp
  have z2 : w1.heap.size < w2.heap.size := by have := b2.size; simp at this; omega
  have B2 := bel_trans (bel_alloc B1 _) b2
  clear b2 B1
  go_wp2_with fail
  refine (HO.out _).mono ?_
  rintro r w3 ⟨rfl, b3⟩
  have y3 : w.heap.size + 1 < w3.heap.size := by have := b3.size; simp at this; omega
  have x3 : w.heap.size < w3.heap.size := by omega
  replace p0 := cy _ p0 b3
  replace p1 := cy _ p1 b3
  replace q0 := cy _ q0 b3
  replace q1 := cy _ q1 b3
  replace h0 := cy _ h0 b3
  replace h1 := cy _ h1 b3
  have m0 : w3.cell? ⟨w2.heap.size, 0, none⟩ = some (.int .u64 mL) := by rw [b3.cell (p := ⟨w2.heap.size, 0, none⟩) (by simp <;> omega)]; simp
  have m1 : w3.cell? ⟨w2.heap.size, 1, none⟩ = some (.int .u64 mH) := by rw [b3.cell (p := ⟨w2.heap.size, 1, none⟩) (by simp <;> omega)]; simp
  have z3 : w1.heap.size < w3.heap.size ∧ w2.heap.size < w3.heap.size := by have := b3.size; simp at this; omega
  have B3 := bel_trans (bel_alloc B2 _) b3
  clear b3 B2
  go_wp2_with fail
  refine (SA.out _).mono ?_
  rintro r w4 ⟨rfl, b4⟩
  replace p0 := cb p0 b4
  replace p1 := cb p1 b4
  replace q0 := cb q0 b4
  replace q1 := cb q1 b4
  replace h0 := cb h0 b4
  replace h1 := cb h1 b4
  replace m0 := cb m0 b4
  replace m1 := cb m1 b4
  have B4 := bel_trans B3 b4
  clear b4 B3
  go_wp2_with fail
  refine (SB.out _).mono ?_
  rintro r w5 ⟨rfl, b5⟩
  replace p0 := cb p0 b5
  replace p1 := cb p1 b5
  replace q0 := cb q0 b5
  replace q1 := cb q1 b5
  replace h0 := cb h0 b5
  replace h1 := cb h1 b5
  replace m0 := cb m0 b5
  replace m1 := cb m1 b5
  have B5 := bel_trans B4 b5
  clear b5 B4
  go_wp2_with fail
  refine (SH.out _).mono ?_
  rintro r w6 ⟨rfl, b6⟩
  replace p0 := cb p0 b6
  replace p1 := cb p1 b6
  replace q0 := cb q0 b6
  replace q1 := cb q1 b6
  replace h0 := cb h0 b6
  replace h1 := cb h1 b6
  replace m0 := cb m0 b6
  replace m1 := cb m1 b6
  have B6 := bel_trans B5 b6
  clear b6 B5
  go_wp2_with fail
  refine (SM.out _).mono ?_
  rintro r w7 ⟨rfl, b7⟩
  replace p0 := cb p0 b7
  replace p1 := cb p1 b7
  replace q0 := cb q0 b7
  replace q1 := cb q1 b7
  replace h0 := cb h0 b7
  replace h1 := cb h1 b7
  replace m0 := cb m0 b7
  replace m1 := cb m1 b7
  have B7 := bel_trans B6 b7
  clear b7 B6
  go_wp2_with fail
  refine (known_any _).mono ?_
  rintro r w8 ⟨rfl, b8⟩
  go_wp2
  go_ret
  exact ⟨rfl, bel_trans B7 b8⟩
set_option maxRecDepth 100000 in
set_option maxHeartbeats 2000000 in
theorem sizes_lo_ta (a0Lo a0Hi a1Lo a1Hi hL hH mL mH : Int) (w : World) (a0Lol : 0 ≤ a0Lo) (a0Loh : a0Lo ≤ 18446744073709551615) (a0Hil : 0 ≤ a0Hi) (a0Hih : a0Hi ≤ 18446744073709551615) (a1Lol : 0 ≤ a1Lo) (a1Loh : a1Lo ≤ 18446744073709551615) (a1Hil : 0 ≤ a1Hi) (a1Hih : a1Hi ≤ 18446744073709551615) (hab : a0Lo ≤ a0Hi) (hcd : a1Lo ≤ a1Hi) (X Y Z : Int) (i1 : a1Hi < a0Lo) (f1 : (hL == 0) = false) (ta0Hi : a0Hi + 1 ≤ 18446744073709551615) (ta1Hi : a1Hi + 1 ≤ 18446744073709551615) (g1 : (a0Hi + 1 != a1Lo) = true) (g2 : (a1Hi + 1 != a0Lo) = false) (HU : Hid (∀ W : World, Calls Try.prog 20 #[.agg #[.int .u64 a0Lo, .int .u64 a0Hi], .agg #[.int .u64 a1Lo, .int .u64 a1Hi]] W fun e w' => e = .returned (.tuple #[.agg #[.int .u64 hL, .int .u64 hH], .int .i64 0]) ∧ Below W.heap.size W w')) (HM : Hid (∀ W : World, Calls Try.prog 18 #[.agg #[.int .u64 a0Lo, .int .u64 a0Hi], .agg #[.int .u64 a1Lo, .int .u64 a1Hi]] W fun e w' => e = .returned (.tuple #[.agg #[.int .u64 mL, .int .u64 mH], .bool false]) ∧ Below W.heap.size W w')) (HO : Hid (∀ W : World, Calls Try.prog 24 #[.agg #[.int .u64 a0Lo, .int .u64 a0Hi], .agg #[.int .u64 a1Lo, .int .u64 a1Hi]] W fun e w' => e = .returned (.bool false) ∧ Below W.heap.size W w')) (SA : Hid (∀ W : World, Calls Try.prog 12 #[.agg #[.int .u64 a0Lo, .int .u64 a0Hi]] W fun e w' => e = .returned (.tuple #[.int .u64 X, .bool false, .int .i64 0]) ∧ Below W.heap.size W w')) (SB : Hid (∀ W : World, Calls Try.prog 12 #[.agg #[.int .u64 a1Lo, .int .u64 a1Hi]] W fun e w' => e = .returned (.tuple #[.int .u64 Y, .bool false, .int .i64 0]) ∧ Below W.heap.size W w')) (SH : Hid (∀ W : World, Calls Try.prog 12 #[.agg #[.int .u64 hL, .int .u64 hH]] W fun e w' => e = .returned (.tuple #[.int .u64 Z, .bool false, .int .i64 0]) ∧ Below W.heap.size W w')) (hs : X + Y = Z) :
    Calls Try.prog 10 #[.agg #[.int .u64 a0Lo, .int .u64 a0Hi], .agg #[.int .u64 a1Lo, .int .u64 a1Hi]] w fun e w' => e = .returned (.bool true) ∧ Below w.heap.size w w' := by
  have b0 : Below w.heap.size w ((w.alloc (.cells #[.int .u64 a0Lo, .int .u64 a0Hi] 24)).alloc (.cells #[.int .u64 a1Lo, .int .u64 a1Hi] 24)) := bel_alloc (bel_alloc (Below.refl _ _) _) _
  go_enter Try.func10, Try.ntmps10
  go_wp2_with fail
  refine (HU.out _).mono ?_
  rintro r w1 ⟨rfl, b1⟩
  have y1 : w.heap.size + 1 < w1.heap.size := by have := b1.size; simp at this; omega
  have x1 : w.heap.size < w1.heap.size := by omega
  have p0 : w1.cell? ⟨w.heap.size, 0, none⟩ = some (.int .u64 a0Lo) := by rw [b1.cell (p := ⟨w.heap.size, 0, none⟩) (by simp <;> omega)]; simp
  have p1 : w1.cell? ⟨w.heap.size, 1, none⟩ = some (.int .u64 a0Hi) := by rw [b1.cell (p := ⟨w.heap.size, 1, none⟩) (by simp <;> omega)]; simp
  have q0 : w1.cell? ⟨w.heap.size + 1, 0, none⟩ = some (.int .u64 a1Lo) := by rw [b1.cell (p := ⟨w.heap.size + 1, 0, none⟩) (by simp <;> omega)]; simp
  have q1 : w1.cell? ⟨w.heap.size + 1, 1, none⟩ = some (.int .u64 a1Hi) := by rw [b1.cell (p := ⟨w.heap.size + 1, 1, none⟩) (by simp <;> omega)]; simp
  have B1 := bel_trans b0 b1
  clear b0 b1
  go_wp2_with fail
  refine (HM.out _).mono ?_
  rintro r w2 ⟨rfl, b2⟩
  have y2 : w.heap.size + 1 < w2.heap.size := by have := b2.size; simp at this; omega
  have x2 : w.heap.size < w2.heap.size := by omega
  replace p0 := cy _ p0 b2
  replace p1 := cy _ p1 b2
  replace q0 := cy _ q0 b2
  replace q1 := cy _ q1 b2
  have h0 : w2.cell? ⟨w1.heap.size, 0, none⟩ = some (.int .u64 hL) := by rw [b2.cell (p := ⟨w1.heap.size, 0, none⟩) (by simp <;> omega)]; simp
  have h1 : w2.cell? ⟨w1.heap.size, 1, none⟩ = some (.int .u64 hH) := by rw [b2.cell (p := ⟨w1.heap.size, 1, none⟩) (by simp <;> omega)]; simp
  have z2 : w1.heap.size < w2.heap.size := by have := b2.size; simp at this; omega
  have B2 := bel_trans (bel_alloc B1 _) b2
  clear b2 B1
  go_wp2_with fail
  refine (HO.out _).mono ?_
  rintro r w3 ⟨rfl, b3⟩
  have y3 : w.heap.size + 1 < w3.heap.size := by have := b3.size; simp at this; omega
  have x3 : w.heap.size < w3.heap.size := by omega
  replace p0 := cy _ p0 b3
  replace p1 := cy _ p1 b3
  replace q0 := cy _ q0 b3
  replace q1 := cy _ q1 b3
  replace h0 := cy _ h0 b3
  replace h1 := cy _ h1 b3
  have m0 : w3.cell? ⟨w2.heap.size, 0, none⟩ = some (.int .u64 mL) := by rw [b3.cell (p := ⟨w2.heap.size, 0, none⟩) (by simp <;> omega)]; simp
  have m1 : w3.cell? ⟨w2.heap.size, 1, none⟩ = some (.int .u64 mH) := by rw [b3.cell (p := ⟨w2.heap.size, 1, none⟩) (by simp <;> omega)]; simp
  have z3 : w1.heap.size < w3.heap.size ∧ w2.heap.size < w3.heap.size := by have := b3.size; simp at this; omega
  have B3 := bel_trans (bel_alloc B2 _) b3
  clear b3 B2
  go_wp2_with fail
  refine (SA.out _).mono ?_
  rintro r w4 ⟨rfl, b4⟩
  replace p0 := cb p0 b4
  replace p1 := cb p1 b4
  replace q0 := cb q0 b4
  replace q1 := cb q1 b4
  replace h0 := cb h0 b4
  replace h1 := cb h1 b4
  replace m0 := cb m0 b4
  replace m1 := cb m1 b4
  have B4 := bel_trans B3 b4
  clear b4 B3
  go_wp2_with fail
  refine (SB.out _).mono ?_
  rintro r w5 ⟨rfl, b5⟩
  replace p0 := cb p0 b5
  replace p1 := cb p1 b5
  replace q0 := cb q0 b5
  replace q1 := cb q1 b5
  replace h0 := cb h0 b5
  replace h1 := cb h1 b5
  replace m0 := cb m0 b5
  replace m1 := cb m1 b5
  have B5 := bel_trans B4 b5
  clear b5 B4
  go_wp2_with fail
  refine (SH.out _).mono ?_
  rintro r w6 ⟨rfl, b6⟩
  replace p0 := cb p0 b6
  replace p1 := cb p1 b6
  replace q0 := cb q0 b6
  replace q1 := cb q1 b6
  replace h0 := cb h0 b6
  replace h1 := cb h1 b6
  replace m0 := cb m0 b6
  replace m1 := cb m1 b6
  have B6 := bel_trans B5 b6
  clear b6 B5
  go_wp2_with fail
  refine (known_any _).mono ?_
  rintro r w7 ⟨rfl, b7⟩
  go_wp2
  go_ret
  exact ⟨rfl, bel_trans B6 b7⟩
set_option maxRecDepth 100000 in
set_option maxHeartbeats 2000000 in
theorem sizes_lo_ka (a0Lo a0Hi a1Lo a1Hi hL hH mL mH : Int) (w : World) (a0Lol : 0 ≤ a0Lo) (a0Loh : a0Lo ≤ 18446744073709551615) (a0Hil : 0 ≤ a0Hi) (a0Hih : a0Hi ≤ 18446744073709551615) (a1Lol : 0 ≤ a1Lo) (a1Loh : a1Lo ≤ 18446744073709551615) (a1Hil : 0 ≤ a1Hi) (a1Hih : a1Hi ≤ 18446744073709551615) (hab : a0Lo ≤ a0Hi) (hcd : a1Lo ≤ a1Hi) (i1 : a1Hi < a0Lo) (f1 : (hL == 0) = false) (ta0Hi : a0Hi + 1 ≤ 18446744073709551615) (ta1Hi : a1Hi + 1 ≤ 18446744073709551615) (g1 : (a0Hi + 1 != a1Lo) = true) (g2 : (a1Hi + 1 != a0Lo) = true) (HU : Hid (∀ W : World, Calls Try.prog 20 #[.agg #[.int .u64 a0Lo, .int .u64 a0Hi], .agg #[.int .u64 a1Lo, .int .u64 a1Hi]] W fun e w' => e = .returned (.tuple #[.agg #[.int .u64 hL, .int .u64 hH], .int .i64 0]) ∧ Below W.heap.size W w')) (HM : Hid (∀ W : World, Calls Try.prog 18 #[.agg #[.int .u64 a0Lo, .int .u64 a0Hi], .agg #[.int .u64 a1Lo, .int .u64 a1Hi]] W fun e w' => e = .returned (.tuple #[.agg #[.int .u64 mL, .int .u64 mH], .bool false]) ∧ Below W.heap.size W w')) (HO : Hid (∀ W : World, Calls Try.prog 24 #[.agg #[.int .u64 a0Lo, .int .u64 a0Hi], .agg #[.int .u64 a1Lo, .int .u64 a1Hi]] W fun e w' => e = .returned (.bool false) ∧ Below W.heap.size W w')) :
    Calls Try.prog 10 #[.agg #[.int .u64 a0Lo, .int .u64 a0Hi], .agg #[.int .u64 a1Lo, .int .u64 a1Hi]] w fun e w' => e = .returned (.bool true) ∧ Below w.heap.size w w' := by
  have b0 : Below w.heap.size w ((w.alloc (.cells #[.int .u64 a0Lo, .int .u64 a0Hi] 24)).alloc (.cells #[.int .u64 a1Lo, .int .u64 a1Hi] 24)) := bel_alloc (bel_alloc (Below.refl _ _) _) _
  go_enter Try.func10, Try.ntmps10
  go_wp2_with fail
  refine (HU.out _).mono ?_
  rintro r w1 ⟨rfl, b1⟩
  have y1 : w.heap.size + 1 < w1.heap.size := by have := b1.size; simp at this; omega
  have x1 : w.heap.size < w1.heap.size := by omega
  have p0 : w1.cell? ⟨w.heap.size, 0, none⟩ = some (.int .u64 a0Lo) := by rw [b1.cell (p := ⟨w.heap.size, 0, none⟩) (by simp <;> omega)]; simp
  have p1 : w1.cell? ⟨w.heap.size, 1, none⟩ = some (.int .u64 a0Hi) := by rw [b1.cell (p := ⟨w.heap.size, 1, none⟩) (by simp <;> omega)]; simp
  have q0 : w1.cell? ⟨w.heap.size + 1, 0, none⟩ = some (.int .u64 a1Lo) := by rw [b1.cell (p := ⟨w.heap.size + 1, 0, none⟩) (by simp <;> omega)]; simp
  have q1 : w1.cell? ⟨w.heap.size + 1, 1, none⟩ = some (.int .u64 a1Hi) := by rw [b1.cell (p := ⟨w.heap.size + 1, 1, none⟩) (by simp <;> omega)]; simp
  have B1 := bel_trans b0 b1
  clear b0 b1
  go_wp2_with fail
  refine (HM.out _).mono ?_
  rintro r w2 ⟨rfl, b2⟩
  have y2 : w.heap.size + 1 < w2.heap.size := by have := b2.size; simp at this; omega
  have x2 : w.heap.size < w2.heap.size := by omega
  replace p0 := cy _ p0 b2
  replace p1 := cy _ p1 b2
  replace q0 := cy _ q0 b2
  replace q1 := cy _ q1 b2
  have h0 : w2.cell? ⟨w1.heap.size, 0, none⟩ = some (.int .u64 hL) := by rw [b2.cell (p := ⟨w1.heap.size, 0, none⟩) (by simp <;> omega)]; simp
  have h1 : w2.cell? ⟨w1.heap.size, 1, none⟩ = some (.int .u64 hH) := by rw [b2.cell (p := ⟨w1.heap.size, 1, none⟩) (by simp <;> omega)]; simp
  have z2 : w1.heap.size < w2.heap.size := by have := b2.size; simp at this; omega
  have B2 := bel_trans (bel_alloc B1 _) b2
  clear b2 B1
  go_wp2_with fail
  refine (HO.out _).mono ?_
  rintro r w3 ⟨rfl, b3⟩
  have y3 : w.heap.size + 1 < w3.heap.size := by have := b3.size; simp at this; omega
  have x3 : w.heap.size < w3.heap.size := by omega
  replace p0 := cy _ p0 b3
  replace p1 := cy _ p1 b3
  replace q0 := cy _ q0 b3
  replace q1 := cy _ q1 b3
  replace h0 := cy _ h0 b3
  replace h1 := cy _ h1 b3
  have m0 : w3.cell? ⟨w2.heap.size, 0, none⟩ = some (.int .u64 mL) := by rw [b3.cell (p := ⟨w2.heap.size, 0, none⟩) (by simp <;> omega)]; simp
  have m1 : w3.cell? ⟨w2.heap.size, 1, none⟩ = some (.int .u64 mH) := by rw [b3.cell (p := ⟨w2.heap.size, 1, none⟩) (by simp <;> omega)]; simp
  have z3 : w1.heap.size < w3.heap.size ∧ w2.heap.size < w3.heap.size := by have := b3.size; simp at this; omega
  have B3 := bel_trans (bel_alloc B2 _) b3
  clear b3 B2
  go_wp2_with fail
  refine (known_any _).mono ?_
  rintro r w4 ⟨rfl, b4⟩
  go_wp2
  go_ret
  exact ⟨rfl, bel_trans B3 b4⟩
set_option maxRecDepth 100000 in
set_option maxHeartbeats 2000000 in
theorem sizes_hi_ta (a0Lo a0Hi a1Lo a1Hi hL hH mL mH : Int) (w : World) (a0Lol : 0 ≤ a0Lo) (a0Loh : a0Lo ≤ 18446744073709551615) (a0Hil : 0 ≤ a0Hi) (a0Hih : a0Hi ≤ 18446744073709551615) (a1Lol : 0 ≤ a1Lo) (a1Loh : a1Lo ≤ 18446744073709551615) (a1Hil : 0 ≤ a1Hi) (a1Hih : a1Hi ≤ 18446744073709551615) (hab : a0Lo ≤ a0Hi) (hcd : a1Lo ≤ a1Hi) (X Y Z : Int) (i0 : a0Lo ≤ a1Hi) (i1 : a0Hi < a1Lo) (f1 : (hL == 0) = false) (ta0Hi : a0Hi + 1 ≤ 18446744073709551615) (g1 : (a0Hi + 1 != a1Lo) = false) (HU : Hid (∀ W : World, Calls Try.prog 20 #[.agg #[.int .u64 a0Lo, .int .u64 a0Hi], .agg #[.int .u64 a1Lo, .int .u64 a1Hi]] W fun e w' => e = .returned (.tuple #[.agg #[.int .u64 hL, .int .u64 hH], .int .i64 0]) ∧ Below W.heap.size W w')) (HM : Hid (∀ W : World, Calls Try.prog 18 #[.agg #[.int .u64 a0Lo, .int .u64 a0Hi], .agg #[.int .u64 a1Lo, .int .u64 a1Hi]] W fun e w' => e = .returned (.tuple #[.agg #[.int .u64 mL, .int .u64 mH], .bool false]) ∧ Below W.heap.size W w')) (HO : Hid (∀ W : World, Calls Try.prog 24 #[.agg #[.int .u64 a0Lo, .int .u64 a0Hi], .agg #[.int .u64 a1Lo, .int .u64 a1Hi]] W fun e w' => e = .returned (.bool false) ∧ Below W.heap.size W w')) (SA : Hid (∀ W : World, Calls Try.prog 12 #[.agg #[.int .u64 a0Lo, .int .u64 a0Hi]] W fun e w' => e = .returned (.tuple #[.int .u64 X, .bool false, .int .i64 0]) ∧ Below W.heap.size W w')) (SB : Hid (∀ W : World, Calls Try.prog 12 #[.agg #[.int .u64 a1Lo, .int .u64 a1Hi]] W fun e w' => e = .returned (.tuple #[.int .u64 Y, .bool false, .int .i64 0]) ∧ Below W.heap.size W w')) (SH : Hid (∀ W : World, Calls Try.prog 12 #[.agg #[.int .u64 hL, .int .u64 hH]] W fun e w' => e = .returned (.tuple #[.int .u64 Z, .bool false, .int .i64 0]) ∧ Below W.heap.size W w')) (hs : X + Y = Z) :
    Calls Try.prog 10 #[.agg #[.int .u64 a0Lo, .int .u64 a0Hi], .agg #[.int .u64 a1Lo, .int .u64 a1Hi]] w fun e w' => e = .returned (.bool true) ∧ Below w.heap.size w w' := by
  have b0 : Below w.heap.size w ((w.alloc (.cells #[.int .u64 a0Lo, .int .u64 a0Hi] 24)).alloc (.cells #[.int .u64 a1Lo, .int .u64 a1Hi] 24)) := bel_alloc (bel_alloc (Below.refl _ _) _) _
  go_enter Try.func10, Try.ntmps10
  go_wp2_with fail
  refine (HU.out _).mono ?_
  rintro r w1 ⟨rfl, b1⟩
  have y1 : w.heap.size + 1 < w1.heap.size := by have := b1.size; simp at this; omega
  have x1 : w.heap.size < w1.heap.size := by omega
  have p0 : w1.cell? ⟨w.heap.size, 0, none⟩ = some (.int .u64 a0Lo) := by rw [b1.cell (p := ⟨w.heap.size, 0, none⟩) (by simp <;> omega)]; simp
  have p1 : w1.cell? ⟨w.heap.size, 1, none⟩ = some (.int .u64 a0Hi) := by rw [b1.cell (p := ⟨w.heap.size, 1, none⟩) (by simp <;> omega)]; simp
  have q0 : w1.cell? ⟨w.heap.size + 1, 0, none⟩ = some (.int .u64 a1Lo) := by rw [b1.cell (p := ⟨w.heap.size + 1, 0, none⟩) (by simp <;> omega)]; simp
  have q1 : w1.cell? ⟨w.heap.size + 1, 1, none⟩ = some (.int .u64 a1Hi) := by rw [b1.cell (p := ⟨w.heap.size + 1, 1, none⟩) (by simp <;> omega)]; simp
  have B1 := bel_trans b0 b1
  clear b0 b1
  go_wp2_with fail
  refine (HM.out _).mono ?_
  rintro r w2 ⟨rfl, b2⟩
  have y2 : w.heap.size + 1 < w2.heap.size := by have := b2.size; simp at this; omega
  have x2 : w.heap.size < w2.heap.size := by omega
  replace p0 := cy _ p0 b2
  replace p1 := cy _ p1 b2
  replace q0 := cy _ q0 b2
  replace q1 := cy _ q1 b2
  have h0 : w2.cell? ⟨w1.heap.size, 0, none⟩ = some (.int .u64 hL) := by rw [b2.cell (p := ⟨w1.heap.size, 0, none⟩) (by simp <;> omega)]; simp
  have h1 : w2.cell? ⟨w1.heap.size, 1, none⟩ = some (.int .u64 hH) := by rw [b2.cell (p := ⟨w1.heap.size, 1, none⟩) (by simp <;> omega)]; simp
  have z2 : w1.heap.size < w2.heap.size := by have := b2.size; simp at this; omega
  have B2 := bel_trans (bel_alloc B1 _) b2
  clear b2 B1
  go_wp2_with fail
  refine (HO.out _).mono ?_
  rintro r w3 ⟨rfl, b3⟩
  have y3 : w.heap.size + 1 < w3.heap.size := by have := b3.size; simp at this; omega
  have x3 : w.heap.size < w3.heap.size := by omega
  replace p0 := cy _ p0 b3
  replace p1 := cy _ p1 b3
  replace q0 := cy _ q0 b3
  replace q1 := cy _ q1 b3
  replace h0 := cy _ h0 b3
  replace h1 := cy _ h1 b3
  have m0 : w3.cell? ⟨w2.heap.size, 0, none⟩ = some (.int .u64 mL) := by rw [b3.cell (p := ⟨w2.heap.size, 0, none⟩) (by simp <;> omega)]; simp
  have m1 : w3.cell? ⟨w2.heap.size, 1, none⟩ = some (.int .u64 mH) := by rw [b3.cell (p := ⟨w2.heap.size, 1, none⟩) (by simp <;> omega)]; simp
  have z3 : w1.heap.size < w3.heap.size ∧ w2.heap.size < w3.heap.size := by have := b3.size; simp at this; omega
  have B3 := bel_trans (bel_alloc B2 _) b3
  clear b3 B2
  go_wp2_with fail
  refine (SA.out _).mono ?_
  rintro r w4 ⟨rfl, b4⟩
  replace p0 := cb p0 b4
  replace p1 := cb p1 b4
  replace q0 := cb q0 b4
  replace q1 := cb q1 b4
  replace h0 := cb h0 b4
  replace h1 := cb h1 b4
  replace m0 := cb m0 b4
  replace m1 := cb m1 b4
  have B4 := bel_trans B3 b4
  clear b4 B3
  go_wp2_with fail
  refine (SB.out _).mono ?_
  rintro r w5 ⟨rfl, b5⟩
  replace p0 := cb p0 b5
  replace p1 := cb p1 b5
  replace q0 := cb q0 b5
  replace q1 := cb q1 b5
  replace h0 := cb h0 b5
  replace h1 := cb h1 b5
  replace m0 := cb m0 b5
  replace m1 := cb m1 b5
  have B5 := bel_trans B4 b5
  clear b5 B4
  go_wp2_with fail
  refine (SH.out _).mono ?_
  rintro r w6 ⟨rfl, b6⟩
  replace p0 := cb p0 b6
  replace p1 := cb p1 b6
  replace q0 := cb q0 b6
  replace q1 := cb q1 b6
  replace h0 := cb h0 b6
  replace h1 := cb h1 b6
  replace m0 := cb m0 b6
  replace m1 := cb m1 b6
  have B6 := bel_trans B5 b6
  clear b6 B5
  go_wp2_with fail
  refine (known_any _).mono ?_
  rintro r w7 ⟨rfl, b7⟩
  go_wp2
  go_ret
  exact ⟨rfl, bel_trans B6 b7⟩
set_option maxRecDepth 100000 in
set_option maxHeartbeats 2000000 in
theorem sizes_hi_ka (a0Lo a0Hi a1Lo a1Hi hL hH mL mH : Int) (w : World) (a0Lol : 0 ≤ a0Lo) (a0Loh : a0Lo ≤ 18446744073709551615) (a0Hil : 0 ≤ a0Hi) (a0Hih : a0Hi ≤ 18446744073709551615) (a1Lol : 0 ≤ a1Lo) (a1Loh : a1Lo ≤ 18446744073709551615) (a1Hil : 0 ≤ a1Hi) (a1Hih : a1Hi ≤ 18446744073709551615) (hab : a0Lo ≤ a0Hi) (hcd : a1Lo ≤ a1Hi) (i0 : a0Lo ≤ a1Hi) (i1 : a0Hi < a1Lo) (f1 : (hL == 0) = false) (ta0Hi : a0Hi + 1 ≤ 18446744073709551615) (ta1Hi : a1Hi + 1 ≤ 18446744073709551615) (g1 : (a0Hi + 1 != a1Lo) = true) (g2 : (a1Hi + 1 != a0Lo) = true) (HU : Hid (∀ W : World, Calls Try.prog 20 #[.agg #[.int .u64 a0Lo, .int .u64 a0Hi], .agg #[.int .u64 a1Lo, .int .u64 a1Hi]] W fun e w' => e = .returned (.tuple #[.agg #[.int .u64 hL, .int .u64 hH], .int .i64 0]) ∧ Below W.heap.size W w')) (HM : Hid (∀ W : World, Calls Try.prog 18 #[.agg #[.int .u64 a0Lo, .int .u64 a0Hi], .agg #[.int .u64 a1Lo, .int .u64 a1Hi]] W fun e w' => e = .returned (.tuple #[.agg #[.int .u64 mL, .int .u64 mH], .bool false]) ∧ Below W.heap.size W w')) (HO : Hid (∀ W : World, Calls Try.prog 24 #[.agg #[.int .u64 a0Lo, .int .u64 a0Hi], .agg #[.int .u64 a1Lo, .int .u64 a1Hi]] W fun e w' => e = .returned (.bool false) ∧ Below W.heap.size W w')) :
    Calls Try.prog 10 #[.agg #[.int .u64 a0Lo, .int .u64 a0Hi], .agg #[.int .u64 a1Lo, .int .u64 a1Hi]] w fun e w' => e = .returned (.bool true) ∧ Below w.heap.size w w' := by
  have b0 : Below w.heap.size w ((w.alloc (.cells #[.int .u64 a0Lo, .int .u64 a0Hi] 24)).alloc (.cells #[.int .u64 a1Lo, .int .u64 a1Hi] 24)) := bel_alloc (bel_alloc (Below.refl _ _) _) _
  go_enter Try.func10, Try.ntmps10
  go_wp2_with fail
  refine (HU.out _).mono ?_
  rintro r w1 ⟨rfl, b1⟩
  have y1 : w.heap.size + 1 < w1.heap.size := by have := b1.size; simp at this; omega
  have x1 : w.heap.size < w1.heap.size := by omega
  have p0 : w1.cell? ⟨w.heap.size, 0, none⟩ = some (.int .u64 a0Lo) := by rw [b1.cell (p := ⟨w.heap.size, 0, none⟩) (by simp <;> omega)]; simp
  have p1 : w1.cell? ⟨w.heap.size, 1, none⟩ = some (.int .u64 a0Hi) := by rw [b1.cell (p := ⟨w.heap.size, 1, none⟩) (by simp <;> omega)]; simp
  have q0 : w1.cell? ⟨w.heap.size + 1, 0, none⟩ = some (.int .u64 a1Lo) := by rw [b1.cell (p := ⟨w.heap.size + 1, 0, none⟩) (by simp <;> omega)]; simp
  have q1 : w1.cell? ⟨w.heap.size + 1, 1, none⟩ = some (.int .u64 a1Hi) := by rw [b1.cell (p := ⟨w.heap.size + 1, 1, none⟩) (by simp <;> omega)]; simp
  have B1 := bel_trans b0 b1
  clear b0 b1
  go_wp2_with fail
  refine (HM.out _).mono ?_
  rintro r w2 ⟨rfl, b2⟩
  have y2 : w.heap.size + 1 < w2.heap.size := by have := b2.size; simp at this; omega
  have x2 : w.heap.size < w2.heap.size := by omega
  replace p0 := cy _ p0 b2
  replace p1 := cy _ p1 b2
  replace q0 := cy _ q0 b2
  replace q1 := cy _ q1 b2
  have h0 : w2.cell? ⟨w1.heap.size, 0, none⟩ = some (.int .u64 hL) := by rw [b2.cell (p := ⟨w1.heap.size, 0, none⟩) (by simp <;> omega)]; simp
  have h1 : w2.cell? ⟨w1.heap.size, 1, none⟩ = some (.int .u64 hH) := by rw [b2.cell (p := ⟨w1.heap.size, 1, none⟩) (by simp <;> omega)]; simp
  have z2 : w1.heap.size < w2.heap.size := by have := b2.size; simp at this; omega
  have B2 := bel_trans (bel_alloc B1 _) b2
  clear b2 B1
  go_wp2_with fail
  refine (HO.out _).mono ?_
  rintro r w3 ⟨rfl, b3⟩
  have y3 : w.heap.size + 1 < w3.heap.size := by have := b3.size; simp at this; omega
  have x3 : w.heap.size < w3.heap.size := by omega
  replace p0 := cy _ p0 b3
  replace p1 := cy _ p1 b3
  replace q0 := cy _ q0 b3
  replace q1 := cy _ q1 b3
  replace h0 := cy _ h0 b3
  replace h1 := cy _ h1 b3
  have m0 : w3.cell? ⟨w2.heap.size, 0, none⟩ = some (.int .u64 mL) := by rw [b3.cell (p := ⟨w2.heap.size, 0, none⟩) (by simp <;> omega)]; simp
  have m1 : w3.cell? ⟨w2.heap.size, 1, none⟩ = some (.int .u64 mH) := by rw [b3.cell (p := ⟨w2.heap.size, 1, none⟩) (by simp <;> omega)]; simp
  have z3 : w1.heap.size < w3.heap.size ∧ w2.heap.size < w3.heap.size := by have := b3.size; simp at this; omega
  have B3 := bel_trans (bel_alloc B2 _) b3
  clear b3 B2
  go_wp2_with fail
  refine (known_any _).mono ?_
  rintro r w4 ⟨rfl, b4⟩
  go_wp2
  go_ret
  exact ⟨rfl, bel_trans B3 b4⟩
set_option maxRecDepth 100000 in
set_option maxHeartbeats 2000000 in
theorem sizes_lo_tb (a0Lo a0Hi a1Lo a1Hi hL hH mL mH : Int) (w : World) (a0Lol : 0 ≤ a0Lo) (a0Loh : a0Lo ≤ 18446744073709551615) (a0Hil : 0 ≤ a0Hi) (a0Hih : a0Hi ≤ 18446744073709551615) (a1Lol : 0 ≤ a1Lo) (a1Loh : a1Lo ≤ 18446744073709551615) (a1Hil : 0 ≤ a1Hi) (a1Hih : a1Hi ≤ 18446744073709551615) (hab : a0Lo ≤ a0Hi) (hcd : a1Lo ≤ a1Hi) (X Y Z : Int) (i1 : a1Hi < a0Lo) (f1 : (hL == 0) = true) (f2 : (hH == 18446744073709551615) = false) (ta0Hi : a0Hi + 1 ≤ 18446744073709551615) (ta1Hi : a1Hi + 1 ≤ 18446744073709551615) (g1 : (a0Hi + 1 != a1Lo) = true) (g2 : (a1Hi + 1 != a0Lo) = false) (HU : Hid (∀ W : World, Calls Try.prog 20 #[.agg #[.int .u64 a0Lo, .int .u64 a0Hi], .agg #[.int .u64 a1Lo, .int .u64 a1Hi]] W fun e w' => e = .returned (.tuple #[.agg #[.int .u64 hL, .int .u64 hH], .int .i64 0]) ∧ Below W.heap.size W w')) (HM : Hid (∀ W : World, Calls Try.prog 18 #[.agg #[.int .u64 a0Lo, .int .u64 a0Hi], .agg #[.int .u64 a1Lo, .int .u64 a1Hi]] W fun e w' => e = .returned (.tuple #[.agg #[.int .u64 mL, .int .u64 mH], .bool false]) ∧ Below W.heap.size W w')) (HO : Hid (∀ W : World, Calls Try.prog 24 #[.agg #[.int .u64 a0Lo, .int .u64 a0Hi], .agg #[.int .u64 a1Lo, .int .u64 a1Hi]] W fun e w' => e = .returned (.bool false) ∧ Below W.heap.size W w')) (SA : Hid (∀ W : World, Calls Try.prog 12 #[.agg #[.int .u64 a0Lo, .int .u64 a0Hi]] W fun e w' => e = .returned (.tuple #[.int .u64 X, .bool false, .int .i64 0]) ∧ Below W.heap.size W w')) (SB : Hid (∀ W : World, Calls Try.prog 12 #[.agg #[.int .u64 a1Lo, .int .u64 a1Hi]] W fun e w' => e = .returned (.tuple #[.int .u64 Y, .bool false, .int .i64 0]) ∧ Below W.heap.size W w')) (SH : Hid (∀ W : World, Calls Try.prog 12 #[.agg #[.int .u64 hL, .int .u64 hH]] W fun e w' => e = .returned (.tuple #[.int .u64 Z, .bool false, .int .i64 0]) ∧ Below W.heap.size W w')) (hs : X + Y = Z) :
    Calls Try.prog 10 #[.agg #[.int .u64 a0Lo, .int .u64 a0Hi], .agg #[.int .u64 a1Lo, .int .u64 a1Hi]] w fun e w' => e = .returned (.bool true) ∧ Below w.heap.size w w' := by
  have b0 : Below w.heap.size w ((w.alloc (.cells #[.int .u64 a0Lo, .int .u64 a0Hi] 24)).alloc (.cells #[.int .u64 a1Lo, .int .u64 a1Hi] 24)) := bel_alloc (bel_alloc (Below.refl _ _) _) _
  go_enter Try.func10, Try.ntmps10
  go_wp2_with fail
  refine (HU.out _).mono ?_
  rintro r w1 ⟨rfl, b1⟩
  have y1 : w.heap.size + 1 < w1.heap.size := by have := b1.size; simp at this; omega
  have x1 : w.heap.size < w1.heap.size := by omega
  have p0 : w1.cell? ⟨w.heap.size, 0, none⟩ = some (.int .u64 a0Lo) := by rw [b1.cell (p := ⟨w.heap.size, 0, none⟩) (by simp <;> omega)]; simp
  have p1 : w1.cell? ⟨w.heap.size, 1, none⟩ = some (.int .u64 a0Hi) := by rw [b1.cell (p := ⟨w.heap.size, 1, none⟩) (by simp <;> omega)]; simp
  have q0 : w1.cell? ⟨w.heap.size + 1, 0, none⟩ = some (.int .u64 a1Lo) := by rw [b1.cell (p := ⟨w.heap.size + 1, 0, none⟩) (by simp <;> omega)]; simp
  have q1 : w1.cell? ⟨w.heap.size + 1, 1, none⟩ = some (.int .u64 a1Hi) := by rw [b1.cell (p := ⟨w.heap.size + 1, 1, none⟩) (by simp <;> omega)]; simp
  have B1 := bel_trans b0 b1
  clear b0 b1
  go_wp2_with fail
  refine (HM.out _).mono ?_
  rintro r w2 ⟨rfl, b2⟩
  have y2 : w.heap.size + 1 < w2.heap.size := by have := b2.size; simp at this; omega
  have x2 : w.heap.size < w2.heap.size := by omega
  replace p0 := cy _ p0 b2
  replace p1 := cy _ p1 b2
  replace q0 := cy _ q0 b2
  replace q1 := cy _ q1 b2
  have h0 : w2.cell? ⟨w1.heap.size, 0, none⟩ = some (.int .u64 hL) := by rw [b2.cell (p := ⟨w1.heap.size, 0, none⟩) (by simp <;> omega)]; simp
  have h1 : w2.cell? ⟨w1.heap.size, 1, none⟩ = some (.int .u64 hH) := by rw [b2.cell (p := ⟨w1.heap.size, 1, none⟩) (by simp <;> omega)]; simp
  have z2 : w1.heap.size < w2.heap.size := by have := b2.size; simp at this; omega
  have B2 := bel_trans (bel_alloc B1 _) b2
  clear b2 B1
  go_wp2_with fail
  refine (HO.out _).mono ?_
  rintro r w3 ⟨rfl, b3⟩
  have y3 : w.heap.size + 1 < w3.heap.size := by have := b3.size; simp at this; omega
  have x3 : w.heap.size < w3.heap.size := by omega
  replace p0 := cy _ p0 b3
  replace p1 := cy _ p1 b3
  replace q0 := cy _ q0 b3
  replace q1 := cy _ q1 b3
  replace h0 := cy _ h0 b3
  replace h1 := cy _ h1 b3
  have m0 : w3.cell? ⟨w2.heap.size, 0, none⟩ = some (.int .u64 mL) := by rw [b3.cell (p := ⟨w2.heap.size, 0, none⟩) (by simp <;> omega)]; simp
  have m1 : w3.cell? ⟨w2.heap.size, 1, none⟩ = some (.int .u64 mH) := by rw [b3.cell (p := ⟨w2.heap.size, 1, none⟩) (by simp <;> omega)]; simp
  have z3 : w1.heap.size < w3.heap.size ∧ w2.heap.size < w3.heap.size := by have := b3.size; simp at this; omega
  have B3 := bel_trans (bel_alloc B2 _) b3
  clear b3 B2
  go_wp2_with fail
  refine (SA.out _).mono ?_
  rintro r w4 ⟨rfl, b4⟩
  replace p0 := cb p0 b4
  replace p1 := cb p1 b4
  replace q0 := cb q0 b4
  replace q1 := cb q1 b4
  replace h0 := cb h0 b4
  replace h1 := cb h1 b4
  replace m0 := cb m0 b4
  replace m1 := cb m1 b4
  have B4 := bel_trans B3 b4
  clear b4 B3
  go_wp2_with fail
  refine (SB.out _).mono ?_
  rintro r w5 ⟨rfl, b5⟩
  replace p0 := cb p0 b5
  replace p1 := cb p1 b5
  replace q0 := cb q0 b5
  replace q1 := cb q1 b5
  replace h0 := cb h0 b5
  replace h1 := cb h1 b5
  replace m0 := cb m0 b5
  replace m1 := cb m1 b5
  have B5 := bel_trans B4 b5
  clear b5 B4
  go_wp2_with fail
  refine (SH.out _).mono ?_
  rintro r w6 ⟨rfl, b6⟩
  replace p0 := cb p0 b6
  replace p1 := cb p1 b6
  replace q0 := cb q0 b6
  replace q1 := cb q1 b6
  replace h0 := cb h0 b6
  replace h1 := cb h1 b6
  replace m0 := cb m0 b6
  replace m1 := cb m1 b6
  have B6 := bel_trans B5 b6
  clear b6 B5
  go_wp2_with fail
  refine (known_any _).mono ?_
  rintro r w7 ⟨rfl, b7⟩
  go_wp2
  go_ret
  exact ⟨rfl, bel_trans B6 b7⟩
set_option maxRecDepth 100000 in
set_option maxHeartbeats 2000000 in
theorem sizes_lo_kb (a0Lo a0Hi a1Lo a1Hi hL hH mL mH : Int) (w : World) (a0Lol : 0 ≤ a0Lo) (a0Loh : a0Lo ≤ 18446744073709551615) (a0Hil : 0 ≤ a0Hi) (a0Hih : a0Hi ≤ 18446744073709551615) (a1Lol : 0 ≤ a1Lo) (a1Loh : a1Lo ≤ 18446744073709551615) (a1Hil : 0 ≤ a1Hi) (a1Hih : a1Hi ≤ 18446744073709551615) (hab : a0Lo ≤ a0Hi) (hcd : a1Lo ≤ a1Hi) (i1 : a1Hi < a0Lo) (f1 : (hL == 0) = true) (f2 : (hH == 18446744073709551615) = false) (ta0Hi : a0Hi + 1 ≤ 18446744073709551615) (ta1Hi : a1Hi + 1 ≤ 18446744073709551615) (g1 : (a0Hi + 1 != a1Lo) = true) (g2 : (a1Hi + 1 != a0Lo) = true) (HU : Hid (∀ W : World, Calls Try.prog 20 #[.agg #[.int .u64 a0Lo, .int .u64 a0Hi], .agg #[.int .u64 a1Lo, .int .u64 a1Hi]] W fun e w' => e = .returned (.tuple #[.agg #[.int .u64 hL, .int .u64 hH], .int .i64 0]) ∧ Below W.heap.size W w')) (HM : Hid (∀ W : World, Calls Try.prog 18 #[.agg #[.int .u64 a0Lo, .int .u64 a0Hi], .agg #[.int .u64 a1Lo, .int .u64 a1Hi]] W fun e w' => e = .returned (.tuple #[.agg #[.int .u64 mL, .int .u64 mH], .bool false]) ∧ Below W.heap.size W w')) (HO : Hid (∀ W : World, Calls Try.prog 24 #[.agg #[.int .u64 a0Lo, .int .u64 a0Hi], .agg #[.int .u64 a1Lo, .int .u64 a1Hi]] W fun e w' => e = .returned (.bool false) ∧ Below W.heap.size W w')) :
    Calls Try.prog 10 #[.agg #[.int .u64 a0Lo, .int .u64 a0Hi], .agg #[.int .u64 a1Lo, .int .u64 a1Hi]] w fun e w' => e = .returned (.bool true) ∧ Below w.heap.size w w' := by
  have b0 : Below w.heap.size w ((w.alloc (.cells #[.int .u64 a0Lo, .int .u64 a0Hi] 24)).alloc (.cells #[.int .u64 a1Lo, .int .u64 a1Hi] 24)) := bel_alloc (bel_alloc (Below.refl _ _) _) _
  go_enter Try.func10, Try.ntmps10
  go_wp2_with fail
  refine (HU.out _).mono ?_
  rintro r w1 ⟨rfl, b1⟩
  have y1 : w.heap.size + 1 < w1.heap.size := by have := b1.size; simp at this; omega
  have x1 : w.heap.size < w1.heap.size := by omega
  have p0 : w1.cell? ⟨w.heap.size, 0, none⟩ = some (.int .u64 a0Lo) := by rw [b1.cell (p := ⟨w.heap.size, 0, none⟩) (by simp <;> omega)]; simp
  have p1 : w1.cell? ⟨w.heap.size, 1, none⟩ = some (.int .u64 a0Hi) := by rw [b1.cell (p := ⟨w.heap.size, 1, none⟩) (by simp <;> omega)]; simp
  have q0 : w1.cell? ⟨w.heap.size + 1, 0, none⟩ = some (.int .u64 a1Lo) := by rw [b1.cell (p := ⟨w.heap.size + 1, 0, none⟩) (by simp <;> omega)]; simp
  have q1 : w1.cell? ⟨w.heap.size + 1, 1, none⟩ = some (.int .u64 a1Hi) := by rw [b1.cell (p := ⟨w.heap.size + 1, 1, none⟩) (by simp <;> omega)]; simp
  have B1 := bel_trans b0 b1
  clear b0 b1
  go_wp2_with fail
  refine (HM.out _).mono ?_
  rintro r w2 ⟨rfl, b2⟩
  have y2 : w.heap.size + 1 < w2.heap.size := by have := b2.size; simp at this; omega
  have x2 : w.heap.size < w2.heap.size := by omega
  replace p0 := cy _ p0 b2
  replace p1 := cy _ p1 b2
  replace q0 := cy _ q0 b2
  replace q1 := cy _ q1 b2
  have h0 : w2.cell? ⟨w1.heap.size, 0, none⟩ = some (.int .u64 hL) := by rw [b2.cell (p := ⟨w1.heap.size, 0, none⟩) (by simp <;> omega)]; simp
  have h1 : w2.cell? ⟨w1.heap.size, 1, none⟩ = some (.int .u64 hH) := by rw [b2.cell (p := ⟨w1.heap.size, 1, none⟩) (by simp <;> omega)]; simp
  have z2 : w1.heap.size < w2.heap.size := by have := b2.size; simp at this; omega
  have B2 := bel_trans (bel_alloc B1 _) b2
  clear b2 B1
  go_wp2_with fail
  refine (HO.out _).mono ?_
  rintro r w3 ⟨rfl, b3⟩
  have y3 : w.heap.size + 1 < w3.heap.size := by have := b3.size; simp at this; omega
  have x3 : w.heap.size < w3.heap.size := by omega
  replace p0 := cy _ p0 b3
  replace p1 := cy _ p1 b3
  replace q0 := cy _ q0 b3
  replace q1 := cy _ q1 b3
  replace h0 := cy _ h0 b3
  replace h1 := cy _ h1 b3
  have m0 : w3.cell? ⟨w2.heap.size, 0, none⟩ = some (.int .u64 mL) := by rw [b3.cell (p := ⟨w2.heap.size, 0, none⟩) (by simp <;> omega)]; simp
  have m1 : w3.cell? ⟨w2.heap.size, 1, none⟩ = some (.int .u64 mH) := by rw [b3.cell (p := ⟨w2.heap.size, 1, none⟩) (by simp <;> omega)]; simp
  have z3 : w1.heap.size < w3.heap.size ∧ w2.heap.size < w3.heap.size := by have := b3.size; simp at this; omega
  have B3 := bel_trans (bel_alloc B2 _) b3
  clear b3 B2
  go_wp2_with fail
  refine (known_any _).mono ?_
  rintro r w4 ⟨rfl, b4⟩
  go_wp2
  go_ret
  exact ⟨rfl, bel_trans B3 b4⟩
set_option maxRecDepth 100000 in
set_option maxHeartbeats 2000000 in
theorem sizes_hi_tb (a0Lo a0Hi a1Lo a1Hi hL hH mL mH : Int) (w : World) (a0Lol : 0 ≤ a0Lo) (a0Loh : a0Lo ≤ 18446744073709551615) (a0Hil : 0 ≤ a0Hi) (a0Hih : a0Hi ≤ 18446744073709551615) (a1Lol : 0 ≤ a1Lo) (a1Loh : a1Lo ≤ 18446744073709551615) (a1Hil : 0 ≤ a1Hi) (a1Hih : a1Hi ≤ 18446744073709551615) (hab : a0Lo ≤ a0Hi) (hcd : a1Lo ≤ a1Hi) (X Y Z : Int) (i0 : a0Lo ≤ a1Hi) (i1 : a0Hi < a1Lo) (f1 : (hL == 0) = true) (f2 : (hH == 18446744073709551615) = false) (ta0Hi : a0Hi + 1 ≤ 18446744073709551615) (g1 : (a0Hi + 1 != a1Lo) = false) (HU : Hid (∀ W : World, Calls Try.prog 20 #[.agg #[.int .u64 a0Lo, .int .u64 a0Hi], .agg #[.int .u64 a1Lo, .int .u64 a1Hi]] W fun e w' => e = .returned (.tuple #[.agg #[.int .u64 hL, .int .u64 hH], .int .i64 0]) ∧ Below W.heap.size W w')) (HM : Hid (∀ W : World, Calls Try.prog 18 #[.agg #[.int .u64 a0Lo, .int .u64 a0Hi], .agg #[.int .u64 a1Lo, .int .u64 a1Hi]] W fun e w' => e = .returned (.tuple #[.agg #[.int .u64 mL, .int .u64 mH], .bool false]) ∧ Below W.heap.size W w')) (HO : Hid (∀ W : World, Calls Try.prog 24 #[.agg #[.int .u64 a0Lo, .int .u64 a0Hi], .agg #[.int .u64 a1Lo, .int .u64 a1Hi]] W fun e w' => e = .returned (.bool false) ∧ Below W.heap.size W w')) (SA : Hid (∀ W : World, Calls Try.prog 12 #[.agg #[.int .u64 a0Lo, .int .u64 a0Hi]] W fun e w' => e = .returned (.tuple #[.int .u64 X, .bool false, .int .i64 0]) ∧ Below W.heap.size W w')) (SB : Hid (∀ W : World, Calls Try.prog 12 #[.agg #[.int .u64 a1Lo, .int .u64 a1Hi]] W fun e w' => e = .returned (.tuple #[.int .u64 Y, .bool false, .int .i64 0]) ∧ Below W.heap.size W w')) (SH : Hid (∀ W : World, Calls Try.prog 12 #[.agg #[.int .u64 hL, .int .u64 hH]] W fun e w' => e = .returned (.tuple #[.int .u64 Z, .bool false, .int .i64 0]) ∧ Below W.heap.size W w')) (hs : X + Y = Z) :
    Calls Try.prog 10 #[.agg #[.int .u64 a0Lo, .int .u64 a0Hi], .agg #[.int .u64 a1Lo, .int .u64 a1Hi]] w fun e w' => e = .returned (.bool true) ∧ Below w.heap.size w w' := by
  have b0 : Below w.heap.size w ((w.alloc (.cells #[.int .u64 a0Lo, .int .u64 a0Hi] 24)).alloc (.cells #[.int .u64 a1Lo, .int .u64 a1Hi] 24)) := bel_alloc (bel_alloc (Below.refl _ _) _) _
  go_enter Try.func10, Try.ntmps10
  go_wp2_with fail
  refine (HU.out _).mono ?_
  rintro r w1 ⟨rfl, b1⟩
  have y1 : w.heap.size + 1 < w1.heap.size := by have := b1.size; simp at this; omega
  have x1 : w.heap.size < w1.heap.size := by omega
  have p0 : w1.cell? ⟨w.heap.size, 0, none⟩ = some (.int .u64 a0Lo) := by rw [b1.cell (p := ⟨w.heap.size, 0, none⟩) (by simp <;> omega)]; simp
  have p1 : w1.cell? ⟨w.heap.size, 1, none⟩ = some (.int .u64 a0Hi) := by rw [b1.cell (p := ⟨w.heap.size, 1, none⟩) (by simp <;> omega)]; simp
  have q0 : w1.cell? ⟨w.heap.size + 1, 0, none⟩ = some (.int .u64 a1Lo) := by rw [b1.cell (p := ⟨w.heap.size + 1, 0, none⟩) (by simp <;> omega)]; simp
  have q1 : w1.cell? ⟨w.heap.size + 1, 1, none⟩ = some (.int .u64 a1Hi) := by rw [b1.cell (p := ⟨w.heap.size + 1, 1, none⟩) (by simp <;> omega)]; simp
  have B1 := bel_trans b0 b1
  clear b0 b1
  go_wp2_with fail
  refine (HM.out _).mono ?_
  rintro r w2 ⟨rfl, b2⟩
  have y2 : w.heap.size + 1 < w2.heap.size := by have := b2.size; simp at this; omega
  have x2 : w.heap.size < w2.heap.size := by omega
  replace p0 := cy _ p0 b2
  replace p1 := cy _ p1 b2
  replace q0 := cy _ q0 b2
  replace q1 := cy _ q1 b2
  have h0 : w2.cell? ⟨w1.heap.size, 0, none⟩ = some (.int .u64 hL) := by rw [b2.cell (p := ⟨w1.heap.size, 0, none⟩) (by simp <;> omega)]; simp
  have h1 : w2.cell? ⟨w1.heap.size, 1, none⟩ = some (.int .u64 hH) := by rw [b2.cell (p := ⟨w1.heap.size, 1, none⟩) (by simp <;> omega)]; simp
  have z2 : w1.heap.size < w2.heap.size := by have := b2.size; simp at this; omega
  have B2 := bel_trans (bel_alloc B1 _) b2
  clear b2 B1
  go_wp2_with fail
  refine (HO.out _).mono ?_
  rintro r w3 ⟨rfl, b3⟩
  have y3 : w.heap.size + 1 < w3.heap.size := by have := b3.size; simp at this; omega
  have x3 : w.heap.size < w3.heap.size := by omega
  replace p0 := cy _ p0 b3
  replace p1 := cy _ p1 b3
  replace q0 := cy _ q0 b3
  replace q1 := cy _ q1 b3
  replace h0 := cy _ h0 b3
  replace h1 := cy _ h1 b3
  have m0 : w3.cell? ⟨w2.heap.size, 0, none⟩ = some (.int .u64 mL) := by rw [b3.cell (p := ⟨w2.heap.size, 0, none⟩) (by simp <;> omega)]; simp
  have m1 : w3.cell? ⟨w2.heap.size, 1, none⟩ = some (.int .u64 mH) := by rw [b3.cell (p := ⟨w2.heap.size, 1, none⟩) (by simp <;> omega)]; simp
  have z3 : w1.heap.size < w3.heap.size ∧ w2.heap.size < w3.heap.size := by have := b3.size; simp at this; omega
  have B3 := bel_trans (bel_alloc B2 _) b3
  clear b3 B2
  go_wp2_with fail
  refine (SA.out _).mono ?_
  rintro r w4 ⟨rfl, b4⟩
  replace p0 := cb p0 b4
  replace p1 := cb p1 b4
  replace q0 := cb q0 b4
  replace q1 := cb q1 b4
  replace h0 := cb h0 b4
  replace h1 := cb h1 b4
  replace m0 := cb m0 b4
  replace m1 := cb m1 b4
  have B4 := bel_trans B3 b4
  clear b4 B3
  go_wp2_with fail
  refine (SB.out _).mono ?_
  rintro r w5 ⟨rfl, b5⟩
  replace p0 := cb p0 b5
  replace p1 := cb p1 b5
  replace q0 := cb q0 b5
  replace q1 := cb q1 b5
  replace h0 := cb h0 b5
  replace h1 := cb h1 b5
  replace m0 := cb m0 b5
  replace m1 := cb m1 b5
  have B5 := bel_trans B4 b5
  clear b5 B4
  go_wp2_with fail
  refine (SH.out _).mono ?_
  rintro r w6 ⟨rfl, b6⟩
  replace p0 := cb p0 b6
  replace p1 := cb p1 b6
  replace q0 := cb q0 b6
  replace q1 := cb q1 b6
  replace h0 := cb h0 b6
  replace h1 := cb h1 b6
  replace m0 := cb m0 b6
  replace m1 := cb m1 b6
  have B6 := bel_trans B5 b6
  clear b6 B5
  go_wp2_with fail
  refine (known_any _).mono ?_
  rintro r w7 ⟨rfl, b7⟩
  go_wp2
  go_ret
  exact ⟨rfl, bel_trans B6 b7⟩
set_option maxRecDepth 100000 in
set_option maxHeartbeats 2000000 in
theorem sizes_hi_kb (a0Lo a0Hi a1Lo a1Hi hL hH mL mH : Int) (w : World) (a0Lol : 0 ≤ a0Lo) (a0Loh : a0Lo ≤ 18446744073709551615) (a0Hil : 0 ≤ a0Hi) (a0Hih : a0Hi ≤ 18446744073709551615) (a1Lol : 0 ≤ a1Lo) (a1Loh : a1Lo ≤ 18446744073709551615) (a1Hil : 0 ≤ a1Hi) (a1Hih : a1Hi ≤ 18446744073709551615) (hab : a0Lo ≤ a0Hi) (hcd : a1Lo ≤ a1Hi) (i0 : a0Lo ≤ a1Hi) (i1 : a0Hi < a1Lo) (f1 : (hL == 0) = true) (f2 : (hH == 18446744073709551615) = false) (ta0Hi : a0Hi + 1 ≤ 18446744073709551615) (ta1Hi : a1Hi + 1 ≤ 18446744073709551615) (g1 : (a0Hi + 1 != a1Lo) = true) (g2 : (a1Hi + 1 != a0Lo) = true) (HU : Hid (∀ W : World, Calls Try.prog 20 #[.agg #[.int .u64 a0Lo, .int .u64 a0Hi], .agg #[.int .u64 a1Lo, .int .u64 a1Hi]] W fun e w' => e = .returned (.tuple #[.agg #[.int .u64 hL, .int .u64 hH], .int .i64 0]) ∧ Below W.heap.size W w')) (HM : Hid (∀ W : World, Calls Try.prog 18 #[.agg #[.int .u64 a0Lo, .int .u64 a0Hi], .agg #[.int .u64 a1Lo, .int .u64 a1Hi]] W fun e w' => e = .returned (.tuple #[.agg #[.int .u64 mL, .int .u64 mH], .bool false]) ∧ Below W.heap.size W w')) (HO : Hid (∀ W : World, Calls Try.prog 24 #[.agg #[.int .u64 a0Lo, .int .u64 a0Hi], .agg #[.int .u64 a1Lo, .int .u64 a1Hi]] W fun e w' => e = .returned (.bool false) ∧ Below W.heap.size W w')) :
    Calls Try.prog 10 #[.agg #[.int .u64 a0Lo, .int .u64 a0Hi], .agg #[.int .u64 a1Lo, .int .u64 a1Hi]] w fun e w' => e = .returned (.bool true) ∧ Below w.heap.size w w' := by
  have b0 : Below w.heap.size w ((w.alloc (.cells #[.int .u64 a0Lo, .int .u64 a0Hi] 24)).alloc (.cells #[.int .u64 a1Lo, .int .u64 a1Hi] 24)) := bel_alloc (bel_alloc (Below.refl _ _) _) _
  go_enter Try.func10, Try.ntmps10
  go_wp2_with fail
  refine (HU.out _).mono ?_
  rintro r w1 ⟨rfl, b1⟩
  have y1 : w.heap.size + 1 < w1.heap.size := by have := b1.size; simp at this; omega
  have x1 : w.heap.size < w1.heap.size := by omega
  have p0 : w1.cell? ⟨w.heap.size, 0, none⟩ = some (.int .u64 a0Lo) := by rw [b1.cell (p := ⟨w.heap.size, 0, none⟩) (by simp <;> omega)]; simp
  have p1 : w1.cell? ⟨w.heap.size, 1, none⟩ = some (.int .u64 a0Hi) := by rw [b1.cell (p := ⟨w.heap.size, 1, none⟩) (by simp <;> omega)]; simp
  have q0 : w1.cell? ⟨w.heap.size + 1, 0, none⟩ = some (.int .u64 a1Lo) := by rw [b1.cell (p := ⟨w.heap.size + 1, 0, none⟩) (by simp <;> omega)]; simp
  have q1 : w1.cell? ⟨w.heap.size + 1, 1, none⟩ = some (.int .u64 a1Hi) := by rw [b1.cell (p := ⟨w.heap.size + 1, 1, none⟩) (by simp <;> omega)]; simp
  have B1 := bel_trans b0 b1
  clear b0 b1
  go_wp2_with fail
  refine (HM.out _).mono ?_
  rintro r w2 ⟨rfl, b2⟩
  have y2 : w.heap.size + 1 < w2.heap.size := by have := b2.size; simp at this; omega
  have x2 : w.heap.size < w2.heap.size := by omega
  replace p0 := cy _ p0 b2
  replace p1 := cy _ p1 b2
  replace q0 := cy _ q0 b2
  replace q1 := cy _ q1 b2
  have h0 : w2.cell? ⟨w1.heap.size, 0, none⟩ = some (.int .u64 hL) := by rw [b2.cell (p := ⟨w1.heap.size, 0, none⟩) (by simp <;> omega)]; simp
  have h1 : w2.cell? ⟨w1.heap.size, 1, none⟩ = some (.int .u64 hH) := by rw [b2.cell (p := ⟨w1.heap.size, 1, none⟩) (by simp <;> omega)]; simp
  have z2 : w1.heap.size < w2.heap.size := by have := b2.size; simp at this; omega
  have B2 := bel_trans (bel_alloc B1 _) b2
  clear b2 B1
  go_wp2_with fail
  refine (HO.out _).mono ?_
  rintro r w3 ⟨rfl, b3⟩
  have y3 : w.heap.size + 1 < w3.heap.size := by have := b3.size; simp at this; omega
  have x3 : w.heap.size < w3.heap.size := by omega
  replace p0 := cy _ p0 b3
  replace p1 := cy _ p1 b3
  replace q0 := cy _ q0 b3
  replace q1 := cy _ q1 b3
  replace h0 := cy _ h0 b3
  replace h1 := cy _ h1 b3
  have m0 : w3.cell? ⟨w2.heap.size, 0, none⟩ = some (.int .u64 mL) := by rw [b3.cell (p := ⟨w2.heap.size, 0, none⟩) (by simp <;> omega)]; simp
  have m1 : w3.cell? ⟨w2.heap.size, 1, none⟩ = some (.int .u64 mH) := by rw [b3.cell (p := ⟨w2.heap.size, 1, none⟩) (by simp <;> omega)]; simp
  have z3 : w1.heap.size < w3.heap.size ∧ w2.heap.size < w3.heap.size := by have := b3.size; simp at this; omega
  have B3 := bel_trans (bel_alloc B2 _) b3
  clear b3 B2
  go_wp2_with fail
  refine (known_any _).mono ?_
  rintro r w4 ⟨rfl, b4⟩
  go_wp2
  go_ret
  exact ⟨rfl, bel_trans B3 b4⟩
set_option maxRecDepth 100000 in
set_option maxHeartbeats 2000000 in
theorem sizes_lo_tm (a0Lo a0Hi a1Lo a1Hi hL hH mL mH : Int) (w : World) (a0Lol : 0 ≤ a0Lo) (a0Loh : a0Lo ≤ 18446744073709551615) (a0Hil : 0 ≤ a0Hi) (a0Hih : a0Hi ≤ 18446744073709551615) (a1Lol : 0 ≤ a1Lo) (a1Loh : a1Lo ≤ 18446744073709551615) (a1Hil : 0 ≤ a1Hi) (a1Hih : a1Hi ≤ 18446744073709551615) (hab : a0Lo ≤ a0Hi) (hcd : a1Lo ≤ a1Hi) (X Y Z : Int) (i1 : a1Hi < a0Lo) (f1 : (hL == 0) = false) (ta1Hi : a1Hi + 1 ≤ 18446744073709551615) (e0 : a0Hi = 18446744073709551615) (g1 : (0 != a1Lo) = true) (g2 : (a1Hi + 1 != a0Lo) = false) (wt : IntKind.u64.wrap 18446744073709551616 = 0) (HU : Hid (∀ W : World, Calls Try.prog 20 #[.agg #[.int .u64 a0Lo, .int .u64 a0Hi], .agg #[.int .u64 a1Lo, .int .u64 a1Hi]] W fun e w' => e = .returned (.tuple #[.agg #[.int .u64 hL, .int .u64 hH], .int .i64 0]) ∧ Below W.heap.size W w')) (HM : Hid (∀ W : World, Calls Try.prog 18 #[.agg #[.int .u64 a0Lo, .int .u64 a0Hi], .agg #[.int .u64 a1Lo, .int .u64 a1Hi]] W fun e w' => e = .returned (.tuple #[.agg #[.int .u64 mL, .int .u64 mH], .bool false]) ∧ Below W.heap.size W w')) (HO : Hid (∀ W : World, Calls Try.prog 24 #[.agg #[.int .u64 a0Lo, .int .u64 a0Hi], .agg #[.int .u64 a1Lo, .int .u64 a1Hi]] W fun e w' => e = .returned (.bool false) ∧ Below W.heap.size W w')) (SA : Hid (∀ W : World, Calls Try.prog 12 #[.agg #[.int .u64 a0Lo, .int .u64 a0Hi]] W fun e w' => e = .returned (.tuple #[.int .u64 X, .bool false, .int .i64 0]) ∧ Below W.heap.size W w')) (SB : Hid (∀ W : World, Calls Try.prog 12 #[.agg #[.int .u64 a1Lo, .int .u64 a1Hi]] W fun e w' => e = .returned (.tuple #[.int .u64 Y, .bool false, .int .i64 0]) ∧ Below W.heap.size W w')) (SH : Hid (∀ W : World, Calls Try.prog 12 #[.agg #[.int .u64 hL, .int .u64 hH]] W fun e w' => e = .returned (.tuple #[.int .u64 Z, .bool false, .int .i64 0]) ∧ Below W.heap.size W w')) (hs : X + Y = Z) :
    Calls Try.prog 10 #[.agg #[.int .u64 a0Lo, .int .u64 a0Hi], .agg #[.int .u64 a1Lo, .int .u64 a1Hi]] w fun e w' => e = .returned (.bool true) ∧ Below w.heap.size w w' := by
  subst e0
  have b0 : Below w.heap.size w ((w.alloc (.cells #[.int .u64 a0Lo, .int .u64 18446744073709551615] 24)).alloc (.cells #[.int .u64 a1Lo, .int .u64 a1Hi] 24)) := bel_alloc (bel_alloc (Below.refl _ _) _) _
  go_enter Try.func10, Try.ntmps10
  go_wp2_with fail
  refine (HU.out _).mono ?_
  rintro r w1 ⟨rfl, b1⟩
  have y1 : w.heap.size + 1 < w1.heap.size := by have := b1.size; simp at this; omega
  have x1 : w.heap.size < w1.heap.size := by omega
  have p0 : w1.cell? ⟨w.heap.size, 0, none⟩ = some (.int .u64 a0Lo) := by rw [b1.cell (p := ⟨w.heap.size, 0, none⟩) (by simp <;> omega)]; simp
  have p1 : w1.cell? ⟨w.heap.size, 1, none⟩ = some (.int .u64 18446744073709551615) := by rw [b1.cell (p := ⟨w.heap.size, 1, none⟩) (by simp <;> omega)]; simp
  have q0 : w1.cell? ⟨w.heap.size + 1, 0, none⟩ = some (.int .u64 a1Lo) := by rw [b1.cell (p := ⟨w.heap.size + 1, 0, none⟩) (by simp <;> omega)]; simp
  have q1 : w1.cell? ⟨w.heap.size + 1, 1, none⟩ = some (.int .u64 a1Hi) := by rw [b1.cell (p := ⟨w.heap.size + 1, 1, none⟩) (by simp <;> omega)]; simp
  have B1 := bel_trans b0 b1
  clear b0 b1
  go_wp2_with fail
  refine (HM.out _).mono ?_
  rintro r w2 ⟨rfl, b2⟩
  have y2 : w.heap.size + 1 < w2.heap.size := by have := b2.size; simp at this; omega
  have x2 : w.heap.size < w2.heap.size := by omega
  replace p0 := cy _ p0 b2
  replace p1 := cy _ p1 b2
  replace q0 := cy _ q0 b2
  replace q1 := cy _ q1 b2
  have h0 : w2.cell? ⟨w1.heap.size, 0, none⟩ = some (.int .u64 hL) := by rw [b2.cell (p := ⟨w1.heap.size, 0, none⟩) (by simp <;> omega)]; simp
  have h1 : w2.cell? ⟨w1.heap.size, 1, none⟩ = some (.int .u64 hH) := by rw [b2.cell (p := ⟨w1.heap.size, 1, none⟩) (by simp <;> omega)]; simp
  have z2 : w1.heap.size < w2.heap.size := by have := b2.size; simp at this; omega
  have B2 := bel_trans (bel_alloc B1 _) b2
  clear b2 B1
  go_wp2_with fail
  refine (HO.out _).mono ?_
  rintro r w3 ⟨rfl, b3⟩
  have y3 : w.heap.size + 1 < w3.heap.size := by have := b3.size; simp at this; omega
  have x3 : w.heap.size < w3.heap.size := by omega
  replace p0 := cy _ p0 b3
  replace p1 := cy _ p1 b3
  replace q0 := cy _ q0 b3
  replace q1 := cy _ q1 b3
  replace h0 := cy _ h0 b3
  replace h1 := cy _ h1 b3
  have m0 : w3.cell? ⟨w2.heap.size, 0, none⟩ = some (.int .u64 mL) := by rw [b3.cell (p := ⟨w2.heap.size, 0, none⟩) (by simp <;> omega)]; simp
  have m1 : w3.cell? ⟨w2.heap.size, 1, none⟩ = some (.int .u64 mH) := by rw [b3.cell (p := ⟨w2.heap.size, 1, none⟩) (by simp <;> omega)]; simp
  have z3 : w1.heap.size < w3.heap.size ∧ w2.heap.size < w3.heap.size := by have := b3.size; simp at this; omega
  have B3 := bel_trans (bel_alloc B2 _) b3
  clear b3 B2
  go_wp2_with fail
  refine (SA.out _).mono ?_
  rintro r w4 ⟨rfl, b4⟩
  replace p0 := cb p0 b4
  replace p1 := cb p1 b4
  replace q0 := cb q0 b4
  replace q1 := cb q1 b4
  replace h0 := cb h0 b4
  replace h1 := cb h1 b4
  replace m0 := cb m0 b4
  replace m1 := cb m1 b4
  have B4 := bel_trans B3 b4
  clear b4 B3
  go_wp2_with fail
  refine (SB.out _).mono ?_
  rintro r w5 ⟨rfl, b5⟩
  replace p0 := cb p0 b5
  replace p1 := cb p1 b5
  replace q0 := cb q0 b5
  replace q1 := cb q1 b5
  replace h0 := cb h0 b5
  replace h1 := cb h1 b5
  replace m0 := cb m0 b5
  replace m1 := cb m1 b5
  have B5 := bel_trans B4 b5
  clear b5 B4
  go_wp2_with fail
  refine (SH.out _).mono ?_
  rintro r w6 ⟨rfl, b6⟩
  replace p0 := cb p0 b6
  replace p1 := cb p1 b6
  replace q0 := cb q0 b6
  replace q1 := cb q1 b6
  replace h0 := cb h0 b6
  replace h1 := cb h1 b6
  replace m0 := cb m0 b6
  replace m1 := cb m1 b6
  have B6 := bel_trans B5 b6
  clear b6 B5
  go_wp2_with fail
  refine (known_any _).mono ?_
  rintro r w7 ⟨rfl, b7⟩
  go_wp2
  go_ret
  exact ⟨rfl, bel_trans B6 b7⟩
set_option maxRecDepth 100000 in
set_option maxHeartbeats 2000000 in
theorem sizes_lo_km (a0Lo a0Hi a1Lo a1Hi hL hH mL mH : Int) (w : World) (a0Lol : 0 ≤ a0Lo) (a0Loh : a0Lo ≤ 18446744073709551615) (a0Hil : 0 ≤ a0Hi) (a0Hih : a0Hi ≤ 18446744073709551615) (a1Lol : 0 ≤ a1Lo) (a1Loh : a1Lo ≤ 18446744073709551615) (a1Hil : 0 ≤ a1Hi) (a1Hih : a1Hi ≤ 18446744073709551615) (hab : a0Lo ≤ a0Hi) (hcd : a1Lo ≤ a1Hi) (i1 : a1Hi < a0Lo) (f1 : (hL == 0) = false) (ta1Hi : a1Hi + 1 ≤ 18446744073709551615) (e0 : a0Hi = 18446744073709551615) (g1 : (0 != a1Lo) = true) (g2 : (a1Hi + 1 != a0Lo) = true) (wt : IntKind.u64.wrap 18446744073709551616 = 0) (HU : Hid (∀ W : World, Calls Try.prog 20 #[.agg #[.int .u64 a0Lo, .int .u64 a0Hi], .agg #[.int .u64 a1Lo, .int .u64 a1Hi]] W fun e w' => e = .returned (.tuple #[.agg #[.int .u64 hL, .int .u64 hH], .int .i64 0]) ∧ Below W.heap.size W w')) (HM : Hid (∀ W : World, Calls Try.prog 18 #[.agg #[.int .u64 a0Lo, .int .u64 a0Hi], .agg #[.int .u64 a1Lo, .int .u64 a1Hi]] W fun e w' => e = .returned (.tuple #[.agg #[.int .u64 mL, .int .u64 mH], .bool false]) ∧ Below W.heap.size W w')) (HO : Hid (∀ W : World, Calls Try.prog 24 #[.agg #[.int .u64 a0Lo, .int .u64 a0Hi], .agg #[.int .u64 a1Lo, .int .u64 a1Hi]] W fun e w' => e = .returned (.bool false) ∧ Below W.heap.size W w')) :
    Calls Try.prog 10 #[.agg #[.int .u64 a0Lo, .int .u64 a0Hi], .agg #[.int .u64 a1Lo, .int .u64 a1Hi]] w fun e w' => e = .returned (.bool true) ∧ Below w.heap.size w w' := by
  subst e0
  have b0 : Below w.heap.size w ((w.alloc (.cells #[.int .u64 a0Lo, .int .u64 18446744073709551615] 24)).alloc (.cells #[.int .u64 a1Lo, .int .u64 a1Hi] 24)) := bel_alloc (bel_alloc (Below.refl _ _) _) _
  go_enter Try.func10, Try.ntmps10
  go_wp2_with fail
  refine (HU.out _).mono ?_
  rintro r w1 ⟨rfl, b1⟩
  have y1 : w.heap.size + 1 < w1.heap.size := by have := b1.size; simp at this; omega
  have x1 : w.heap.size < w1.heap.size := by omega
  have p0 : w1.cell? ⟨w.heap.size, 0, none⟩ = some (.int .u64 a0Lo) := by rw [b1.cell (p := ⟨w.heap.size, 0, none⟩) (by simp <;> omega)]; simp
  have p1 : w1.cell? ⟨w.heap.size, 1, none⟩ = some (.int .u64 18446744073709551615) := by rw [b1.cell (p := ⟨w.heap.size, 1, none⟩) (by simp <;> omega)]; simp
  have q0 : w1.cell? ⟨w.heap.size + 1, 0, none⟩ = some (.int .u64 a1Lo) := by rw [b1.cell (p := ⟨w.heap.size + 1, 0, none⟩) (by simp <;> omega)]; simp
  have q1 : w1.cell? ⟨w.heap.size + 1, 1, none⟩ = some (.int .u64 a1Hi) := by rw [b1.cell (p := ⟨w.heap.size + 1, 1, none⟩) (by simp <;> omega)]; simp
  have B1 := bel_trans b0 b1
  clear b0 b1
  go_wp2_with fail
  refine (HM.out _).mono ?_
  rintro r w2 ⟨rfl, b2⟩
  have y2 : w.heap.size + 1 < w2.heap.size := by have := b2.size; simp at this; omega
  have x2 : w.heap.size < w2.heap.size := by omega
  replace p0 := cy _ p0 b2
  replace p1 := cy _ p1 b2
  replace q0 := cy _ q0 b2
  replace q1 := cy _ q1 b2
  have h0 : w2.cell? ⟨w1.heap.size, 0, none⟩ = some (.int .u64 hL) := by rw [b2.cell (p := ⟨w1.heap.size, 0, none⟩) (by simp <;> omega)]; simp
  have h1 : w2.cell? ⟨w1.heap.size, 1, none⟩ = some (.int .u64 hH) := by rw [b2.cell (p := ⟨w1.heap.size, 1, none⟩) (by simp <;> omega)]; simp
  have z2 : w1.heap.size < w2.heap.size := by have := b2.size; simp at this; omega
  have B2 := bel_trans (bel_alloc B1 _) b2
  clear b2 B1
  go_wp2_with fail
  refine (HO.out _).mono ?_
  rintro r w3 ⟨rfl, b3⟩
  have y3 : w.heap.size + 1 < w3.heap.size := by have := b3.size; simp at this; omega
  have x3 : w.heap.size < w3.heap.size := by omega
  replace p0 := cy _ p0 b3
  replace p1 := cy _ p1 b3
  replace q0 := cy _ q0 b3
  replace q1 := cy _ q1 b3
  replace h0 := cy _ h0 b3
  replace h1 := cy _ h1 b3
  have m0 : w3.cell? ⟨w2.heap.size, 0, none⟩ = some (.int .u64 mL) := by rw [b3.cell (p := ⟨w2.heap.size, 0, none⟩) (by simp <;> omega)]; simp
  have m1 : w3.cell? ⟨w2.heap.size, 1, none⟩ = some (.int .u64 mH) := by rw [b3.cell (p := ⟨w2.heap.size, 1, none⟩) (by simp <;> omega)]; simp
  have z3 : w1.heap.size < w3.heap.size ∧ w2.heap.size < w3.heap.size := by have := b3.size; simp at this; omega
  have B3 := bel_trans (bel_alloc B2 _) b3
  clear b3 B2
  go_wp2_with fail
  refine (known_any _).mono ?_
  rintro r w4 ⟨rfl, b4⟩
  go_wp2
  go_ret
  exact ⟨rfl, bel_trans B3 b4⟩
set_option maxRecDepth 100000 in
set_option maxHeartbeats 2000000 in
theorem sizes_hi_km (a0Lo a0Hi a1Lo a1Hi hL hH mL mH : Int) (w : World) (a0Lol : 0 ≤ a0Lo) (a0Loh : a0Lo ≤ 18446744073709551615) (a0Hil : 0 ≤ a0Hi) (a0Hih : a0Hi ≤ 18446744073709551615) (a1Lol : 0 ≤ a1Lo) (a1Loh : a1Lo ≤ 18446744073709551615) (a1Hil : 0 ≤ a1Hi) (a1Hih : a1Hi ≤ 18446744073709551615) (hab : a0Lo ≤ a0Hi) (hcd : a1Lo ≤ a1Hi) (i0 : a0Lo ≤ a1Hi) (i1 : a0Hi < a1Lo) (f1 : (hL == 0) = false) (ta0Hi : a0Hi + 1 ≤ 18446744073709551615) (e0 : a1Hi = 18446744073709551615) (g1 : (a0Hi + 1 != a1Lo) = true) (g2 : (0 != a0Lo) = true) (wt : IntKind.u64.wrap 18446744073709551616 = 0) (HU : Hid (∀ W : World, Calls Try.prog 20 #[.agg #[.int .u64 a0Lo, .int .u64 a0Hi], .agg #[.int .u64 a1Lo, .int .u64 a1Hi]] W fun e w' => e = .returned (.tuple #[.agg #[.int .u64 hL, .int .u64 hH], .int .i64 0]) ∧ Below W.heap.size W w')) (HM : Hid (∀ W : World, Calls Try.prog 18 #[.agg #[.int .u64 a0Lo, .int .u64 a0Hi], .agg #[.int .u64 a1Lo, .int .u64 a1Hi]] W fun e w' => e = .returned (.tuple #[.agg #[.int .u64 mL, .int .u64 mH], .bool false]) ∧ Below W.heap.size W w')) (HO : Hid (∀ W : World, Calls Try.prog 24 #[.agg #[.int .u64 a0Lo, .int .u64 a0Hi], .agg #[.int .u64 a1Lo, .int .u64 a1Hi]] W fun e w' => e = .returned (.bool false) ∧ Below W.heap.size W w')) :
    Calls Try.prog 10 #[.agg #[.int .u64 a0Lo, .int .u64 a0Hi], .agg #[.int .u64 a1Lo, .int .u64 a1Hi]] w fun e w' => e = .returned (.bool true) ∧ Below w.heap.size w w' := by
  subst e0
  have b0 : Below w.heap.size w ((w.alloc (.cells #[.int .u64 a0Lo, .int .u64 a0Hi] 24)).alloc (.cells #[.int .u64 a1Lo, .int .u64 18446744073709551615] 24)) := bel_alloc (bel_alloc (Below.refl _ _) _) _
  go_enter Try.func10, Try.ntmps10
  go_wp2_with fail
  refine (HU.out _).mono ?_
  rintro r w1 ⟨rfl, b1⟩
  have y1 : w.heap.size + 1 < w1.heap.size := by have := b1.size; simp at this; omega
  have x1 : w.heap.size < w1.heap.size := by omega
  have p0 : w1.cell? ⟨w.heap.size, 0, none⟩ = some (.int .u64 a0Lo) := by rw [b1.cell (p := ⟨w.heap.size, 0, none⟩) (by simp <;> omega)]; simp
  have p1 : w1.cell? ⟨w.heap.size, 1, none⟩ = some (.int .u64 a0Hi) := by rw [b1.cell (p := ⟨w.heap.size, 1, none⟩) (by simp <;> omega)]; simp
  have q0 : w1.cell? ⟨w.heap.size + 1, 0, none⟩ = some (.int .u64 a1Lo) := by rw [b1.cell (p := ⟨w.heap.size + 1, 0, none⟩) (by simp <;> omega)]; simp
  have q1 : w1.cell? ⟨w.heap.size + 1, 1, none⟩ = some (.int .u64 18446744073709551615) := by rw [b1.cell (p := ⟨w.heap.size + 1, 1, none⟩) (by simp <;> omega)]; simp
  have B1 := bel_trans b0 b1
  clear b0 b1
  go_wp2_with fail
  refine (HM.out _).mono ?_
  rintro r w2 ⟨rfl, b2⟩
  have y2 : w.heap.size + 1 < w2.heap.size := by have := b2.size; simp at this; omega
  have x2 : w.heap.size < w2.heap.size := by omega
  replace p0 := cy _ p0 b2
  replace p1 := cy _ p1 b2
  replace q0 := cy _ q0 b2
  replace q1 := cy _ q1 b2
  have h0 : w2.cell? ⟨w1.heap.size, 0, none⟩ = some (.int .u64 hL) := by rw [b2.cell (p := ⟨w1.heap.size, 0, none⟩) (by simp <;> omega)]; simp
  have h1 : w2.cell? ⟨w1.heap.size, 1, none⟩ = some (.int .u64 hH) := by rw [b2.cell (p := ⟨w1.heap.size, 1, none⟩) (by simp <;> omega)]; simp
  have z2 : w1.heap.size < w2.heap.size := by have := b2.size; simp at this; omega
  have B2 := bel_trans (bel_alloc B1 _) b2
  clear b2 B1
  go_wp2_with fail
  refine (HO.out _).mono ?_
  rintro r w3 ⟨rfl, b3⟩
  have y3 : w.heap.size + 1 < w3.heap.size := by have := b3.size; simp at this; omega
  have x3 : w.heap.size < w3.heap.size := by omega
  replace p0 := cy _ p0 b3
  replace p1 := cy _ p1 b3
  replace q0 := cy _ q0 b3
  replace q1 := cy _ q1 b3
  replace h0 := cy _ h0 b3
  replace h1 := cy _ h1 b3
  have m0 : w3.cell? ⟨w2.heap.size, 0, none⟩ = some (.int .u64 mL) := by rw [b3.cell (p := ⟨w2.heap.size, 0, none⟩) (by simp <;> omega)]; simp
  have m1 : w3.cell? ⟨w2.heap.size, 1, none⟩ = some (.int .u64 mH) := by rw [b3.cell (p := ⟨w2.heap.size, 1, none⟩) (by simp <;> omega)]; simp
  have z3 : w1.heap.size < w3.heap.size ∧ w2.heap.size < w3.heap.size := by have := b3.size; simp at this; omega
  have B3 := bel_trans (bel_alloc B2 _) b3
  clear b3 B2
  go_wp2_with fail
  refine (known_any _).mono ?_
  rintro r w4 ⟨rfl, b4⟩
  go_wp2
  go_ret
  exact ⟨rfl, bel_trans B3 b4⟩
end Wk
end Go.Proofs.Ytmnoljnjnmcgpaa
