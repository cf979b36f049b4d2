/- The walk of DomainExamples (package leapfroglaw03), from the contracts. No conditions beside Tz. (Written by tools/mk5dom.py.) -/
import Derived.Test.YtnjgolbghcjijaaDoorWkDo5
namespace Go.Proofs.YtnjgolbghcjijaaDoor
open Go.RowKit Go.Sort
set_option linter.unusedVariables false
set_option linter.unusedSimpArgs false
namespace Dm
theorem rd0 (κ : IntKind) (w : World) (A : Option Addr) : RdK κ w A [] := fun k hk => by simp at hk
theorem rd1 {κ : IntKind} {w : World} {g : Nat} {x : Int} (h0 : w.cell? ⟨g, 0, none⟩ = some (.int κ x)) : RdK κ w (some ⟨g, 0, none⟩) [x] := fun k hk => by
  match k, hk with
  | 0, _ => exact ⟨g, 0, rfl, h0⟩
  | k + 1, hk => exact absurd (show k + 1 < 1 from hk) (by omega)
theorem rd2 {κ : IntKind} {w : World} {g : Nat} {x y : Int} (h0 : w.cell? ⟨g, 0, none⟩ = some (.int κ x)) (h1 : w.cell? ⟨g, 1, none⟩ = some (.int κ y)) : RdK κ w (some ⟨g, 0, none⟩) [x, y] := fun k hk => by
  match k, hk with
  | 0, _ => exact ⟨g, 0, rfl, h0⟩
  | 1, _ => exact ⟨g, 0, rfl, h1⟩
  | k + 2, hk => exact absurd (show k + 2 < 2 from hk) (by omega)
theorem rd3 {κ : IntKind} {w : World} {g : Nat} {x y z : Int} (h0 : w.cell? ⟨g, 0, none⟩ = some (.int κ x)) (h1 : w.cell? ⟨g, 1, none⟩ = some (.int κ y)) (h2 : w.cell? ⟨g, 2, none⟩ = some (.int κ z)) : RdK κ w (some ⟨g, 0, none⟩) [x, y, z] := fun k hk => by
  match k, hk with
  | 0, _ => exact ⟨g, 0, rfl, h0⟩
  | 1, _ => exact ⟨g, 0, rfl, h1⟩
  | 2, _ => exact ⟨g, 0, rfl, h2⟩
  | k + 3, hk => exact absurd (show k + 3 < 3 from hk) (by omega)
theorem bdU_dec {l : List Int} (h : ((List.range l.length).all fun k => decide (0 ≤ l.getD k 0 ∧ l.getD k 0 ≤ 18446744073709551615)) = true) : BdU l := fun k hk => of_decide_eq_true (List.all_eq_true.1 h k (List.mem_range.2 hk))
theorem bdI_dec {l : List Int} (h : ((List.range l.length).all fun k => decide (-9223372036854775808 ≤ l.getD k 0 ∧ l.getD k 0 ≤ 9223372036854775807)) = true) : ∀ k, k < l.length → -9223372036854775808 ≤ l.getD k 0 ∧ l.getD k 0 ≤ 9223372036854775807 := fun k hk => of_decide_eq_true (List.all_eq_true.1 h k (List.mem_range.2 hk))
end Dm
namespace Wk
open Dm
set_option maxRecDepth 200000 in
set_option maxHeartbeats 16000000 in
theorem walk_domainExamples (w : World) (hT : Dm.Tz w) :
    Calls Tryd.prog 7 #[] w fun e w' => e = .returned (.bool true) ∧ Below w.heap.size w w' := by
  have HT := Lib.hid hT; clear hT
  have E1 := Lib.hid (show dmV 2 3 [] 7 = 1 by decide +kernel)
  have E2 := Lib.hid (show dmE 2 3 [] = 0 by decide +kernel)
  have E3 := Lib.hid (show dmV 3 0 [5, 9] 4 = 0 by decide +kernel)
  have E4 := Lib.hid (show dmE 3 0 [5, 9] = 0 by decide +kernel)
  have E5 := Lib.hid (show dmV 3 0 [5, 9] 5 = 1 by decide +kernel)
  have E6 := Lib.hid (show dmE 3 0 [5, 9] = 0 by decide +kernel)
  have E7 := Lib.hid (show dmV 3 0 [5, 9] 100 = 2 by decide +kernel)
  have E8 := Lib.hid (show dmE 3 0 [5, 9] = 0 by decide +kernel)
  have E9 := Lib.hid (show dmE 0 0 [] = 2 by decide +kernel)
  have E10 := Lib.hid (show dmE 2 65 [] = 2 by decide +kernel)
  have E11 := Lib.hid (show dmE 2 0 [] = 2 by decide +kernel)
  have E12 := Lib.hid (show dmE 3 0 [5, 5] = 2 by decide +kernel)
  have E13 := Lib.hid (show dmE 3 0 [0] = 2 by decide +kernel)
  have E14 := Lib.hid (show dmE 3 0 [] = 2 by decide +kernel)
  have E15 := Lib.hid (show dmE 1 1 [] = 2 by decide +kernel)
  have E16 := Lib.hid (show dmE 2 2 [1] = 2 by decide +kernel)
  have E17 := Lib.hid (show dmE 4 0 [] = 2 by decide +kernel)
  have E18 := Lib.hid (show imV 2 4 [] 6 7 = 12 by decide +kernel)
  have E19 := Lib.hid (show imE 2 4 [] 6 7 = 0 by decide +kernel)
  have E20 := Lib.hid (show imV 2 4 [] 6 9 = 15 by decide +kernel)
  have E21 := Lib.hid (show imE 2 4 [] 6 9 = 0 by decide +kernel)
  have E22 := Lib.hid (show imV 3 0 [5, 9] 3 5 = 3 by decide +kernel)
  have E23 := Lib.hid (show imE 3 0 [5, 9] 3 5 = 0 by decide +kernel)
  have E24 := Lib.hid (show imV 2 4 [] 18446744073709551614 18446744073709551615 = 12 by decide +kernel)
  have E25 := Lib.hid (show imE 2 4 [] 18446744073709551614 18446744073709551615 = 0 by decide +kernel)
  have E26 := Lib.hid (show imV 2 4 [] 2 1 = 0 by decide +kernel)
  have E27 := Lib.hid (show imE 2 4 [] 2 1 = 13 by decide +kernel)
  have E28 := Lib.hid (show lsT (dmL 2 4 [] 1 6) (lsE 2 4 [] 1) = .tuple #[.int .u64 9, .bool true, .int .i64 0] by kernel_rfl)
  have E29 := Lib.hid (show lsT (dmL 2 4 [] 1 18446744073709551614) (lsE 2 4 [] 1) = .tuple #[.int .u64 0, .bool false, .int .i64 0] by kernel_rfl)
  have E30 := Lib.hid (show lsT (dmL 3 0 [5, 9] 1 2) (lsE 3 0 [5, 9] 1) = .tuple #[.int .u64 5, .bool true, .int .i64 0] by kernel_rfl)
  have E31 := Lib.hid (show lsT (dmL 3 0 [5, 9] 1 9) (lsE 3 0 [5, 9] 1) = .tuple #[.int .u64 0, .bool false, .int .i64 0] by kernel_rfl)
  have E32 := Lib.hid (show lsT (dmL 3 0 [5, 9] 3 9) (lsE 3 0 [5, 9] 3) = .tuple #[.int .u64 0, .bool false, .int .i64 3] by kernel_rfl)
  have E33 := Lib.hid (show stT [3, 0, 3] = .tuple #[.int .u64 9, .int .i64 0] by kernel_rfl)
  have E34 := Lib.hid (show stT [64] = .tuple #[.int .u64 0, .int .i64 3] by kernel_rfl)
  have E35 := Lib.hid (show bkS 9 2 2 = [0, 1] by decide +kernel)
  have E36 := Lib.hid (show bkT 9 0 = .tuple #[.int .i64 0, .int .i64 2] by kernel_rfl)
  have E37 := Lib.hid (show bkT 64 4 = .tuple #[.int .i64 0, .int .i64 3] by kernel_rfl)
  have E38 := Lib.hid (show memL 9 64 = [0, 3] by decide +kernel)
  obtain ⟨w0, hw0⟩ : ∃ w0 : World, w0 = ((w.alloc (Obj.cells #[.int .u64 5, .int .u64 9] 25)).alloc (Obj.cells #[.int .u8 2, .int .i64 4, .slice none 0 0] 24)).alloc (Obj.cells #[.int .u8 3, .int .i64 0, .slice (some ⟨w.heap.size, 0, none⟩) 2 2] 24) := ⟨_, rfl⟩
  have B0 : Below w.heap.size w w0 := by rw [hw0]; exact bel_alloc (bel_alloc (bel_alloc (Below.refl _ _) _) _) _
  have m0 : w0.cell? ⟨w.heap.size + 1, 0, none⟩ = some (.int .u8 2) := by rw [hw0]; simp [World.cell?_alloc_at, World.cell?_alloc_past]
  have m1 : w0.cell? ⟨w.heap.size + 1, 1, none⟩ = some (.int .i64 4) := by rw [hw0]; simp [World.cell?_alloc_at, World.cell?_alloc_past]
  have m2 : w0.cell? ⟨w.heap.size + 1, 2, none⟩ = some (.slice none 0 0) := by rw [hw0]; simp [World.cell?_alloc_at, World.cell?_alloc_past]
  have c0 : w0.cell? ⟨w.heap.size + 1 + 1, 0, none⟩ = some (.int .u8 3) := by rw [hw0]; simp [World.cell?_alloc_at, World.cell?_alloc_past]
  have c1 : w0.cell? ⟨w.heap.size + 1 + 1, 1, none⟩ = some (.int .i64 0) := by rw [hw0]; simp [World.cell?_alloc_at, World.cell?_alloc_past]
  have c2 : w0.cell? ⟨w.heap.size + 1 + 1, 2, none⟩ = some (.slice (some ⟨w.heap.size, 0, none⟩) 2 2) := by rw [hw0]; simp [World.cell?_alloc_at, World.cell?_alloc_past]
  have d0 : w0.cell? ⟨w.heap.size, 0, none⟩ = some (.int .u64 5) := by rw [hw0, World.cell?_alloc_lt _ _ _ (by simp; omega)]; simp
  have d1 : w0.cell? ⟨w.heap.size, 1, none⟩ = some (.int .u64 9) := by rw [hw0, World.cell?_alloc_lt _ _ _ (by simp; omega)]; simp
  have HW := Lib.hid hw0; clear hw0
  go_enter Tryd.func7, Tryd.ntmps7
  go_wp2_with fail
  rw [← HW.out]
  clear HW
  refine (of_any 2 3 7 none 0 0 [] _ (by omega) (by omega) (by omega) (by omega) (by omega) (by omega) rfl (Nat.zero_le _) (rd0 _ _ _) (bdU_dec (by decide +kernel))).mono ?_
  rw [E1.out, E2.out]
  rintro r w1 ⟨rfl, b1⟩
  have B1 := bel_trans B0 b1
  replace m0 := cy m0 b1
  replace m1 := cy m1 b1
  replace m2 := cy m2 b1
  replace c0 := cy c0 b1
  replace c1 := cy c1 b1
  replace c2 := cy c2 b1
  replace d0 := cy d0 b1
  replace d1 := cy d1 b1
  go_wp2_with fail
  refine (of_any 3 0 4 (some ⟨w.heap.size, 0, none⟩) 2 2 [5, 9] _ (by omega) (by omega) (by omega) (by omega) (by omega) (by omega) rfl (by unfold maxLen; omega) (rd2 d0 d1) (bdU_dec (by decide +kernel))).mono ?_
  rw [E3.out, E4.out]
  rintro r w2 ⟨rfl, b2⟩
  have B2 := bel_trans B1 b2
  replace m0 := cy m0 b2
  replace m1 := cy m1 b2
  replace m2 := cy m2 b2
  replace c0 := cy c0 b2
  replace c1 := cy c1 b2
  replace c2 := cy c2 b2
  replace d0 := cy d0 b2
  replace d1 := cy d1 b2
  go_wp2_with fail
  refine (of_any 3 0 5 (some ⟨w.heap.size, 0, none⟩) 2 2 [5, 9] _ (by omega) (by omega) (by omega) (by omega) (by omega) (by omega) rfl (by unfold maxLen; omega) (rd2 d0 d1) (bdU_dec (by decide +kernel))).mono ?_
  rw [E5.out, E6.out]
  rintro r w3 ⟨rfl, b3⟩
  have B3 := bel_trans B2 b3
  replace m0 := cy m0 b3
  replace m1 := cy m1 b3
  replace m2 := cy m2 b3
  replace c0 := cy c0 b3
  replace c1 := cy c1 b3
  replace c2 := cy c2 b3
  replace d0 := cy d0 b3
  replace d1 := cy d1 b3
  go_wp2_with fail
  refine (of_any 3 0 100 (some ⟨w.heap.size, 0, none⟩) 2 2 [5, 9] _ (by omega) (by omega) (by omega) (by omega) (by omega) (by omega) rfl (by unfold maxLen; omega) (rd2 d0 d1) (bdU_dec (by decide +kernel))).mono ?_
  rw [E7.out, E8.out]
  rintro r w4 ⟨rfl, b4⟩
  have B4 := bel_trans B3 b4
  replace m0 := cy m0 b4
  replace m1 := cy m1 b4
  replace m2 := cy m2 b4
  replace c0 := cy c0 b4
  replace c1 := cy c1 b4
  replace c2 := cy c2 b4
  replace d0 := cy d0 b4
  replace d1 := cy d1 b4
  go_wp2
  obtain ⟨w5, hw5⟩ : ∃ w5 : World, w5 = (((w4.alloc (Obj.cells #[.int .u64 5, .int .u64 5] 25)).alloc (Obj.cells #[.int .u64 0] 25)).alloc (Obj.cells #[.int .u64 1] 25)).alloc (Obj.cells #[.int .u8 0, .int .i64 0, .slice none 0 0, .int .u8 2, .int .i64 65, .slice none 0 0, .int .u8 2, .int .i64 0, .slice none 0 0, .int .u8 3, .int .i64 0, .slice (some ⟨w4.heap.size, 0, none⟩) 2 2, .int .u8 3, .int .i64 0, .slice (some ⟨w4.heap.size + 1, 0, none⟩) 1 1, .int .u8 3, .int .i64 0, .slice none 0 0, .int .u8 1, .int .i64 1, .slice none 0 0, .int .u8 2, .int .i64 2, .slice (some ⟨w4.heap.size + 1 + 1, 0, none⟩) 1 1, .int .u8 4, .int .i64 0, .slice none 0 0] 24) := ⟨_, rfl⟩
  have b5 : Below w4.heap.size w4 w5 := by rw [hw5]; exact bel_alloc (bel_alloc (bel_alloc (bel_alloc (Below.refl _ _) _) _) _) _
  have B5 := bel_trans B4 b5
  replace m0 := cy m0 b5
  replace m1 := cy m1 b5
  replace m2 := cy m2 b5
  replace c0 := cy c0 b5
  replace c1 := cy c1 b5
  replace c2 := cy c2 b5
  replace d0 := cy d0 b5
  replace d1 := cy d1 b5
  have t0 : w5.cell? ⟨w4.heap.size + 1 + 1 + 1, 0, none⟩ = some (.int .u8 0) := by rw [hw5]; simp [World.cell?_alloc_at, World.cell?_alloc_past]
  have t1 : w5.cell? ⟨w4.heap.size + 1 + 1 + 1, 1, none⟩ = some (.int .i64 0) := by rw [hw5]; simp [World.cell?_alloc_at, World.cell?_alloc_past]
  have t2 : w5.cell? ⟨w4.heap.size + 1 + 1 + 1, 2, none⟩ = some (.slice none 0 0) := by rw [hw5]; simp [World.cell?_alloc_at, World.cell?_alloc_past]
  have t3 : w5.cell? ⟨w4.heap.size + 1 + 1 + 1, 3, none⟩ = some (.int .u8 2) := by rw [hw5]; simp [World.cell?_alloc_at, World.cell?_alloc_past]
  have t4 : w5.cell? ⟨w4.heap.size + 1 + 1 + 1, 4, none⟩ = some (.int .i64 65) := by rw [hw5]; simp [World.cell?_alloc_at, World.cell?_alloc_past]
  have t5 : w5.cell? ⟨w4.heap.size + 1 + 1 + 1, 5, none⟩ = some (.slice none 0 0) := by rw [hw5]; simp [World.cell?_alloc_at, World.cell?_alloc_past]
  have t6 : w5.cell? ⟨w4.heap.size + 1 + 1 + 1, 6, none⟩ = some (.int .u8 2) := by rw [hw5]; simp [World.cell?_alloc_at, World.cell?_alloc_past]
  have t7 : w5.cell? ⟨w4.heap.size + 1 + 1 + 1, 7, none⟩ = some (.int .i64 0) := by rw [hw5]; simp [World.cell?_alloc_at, World.cell?_alloc_past]
  have t8 : w5.cell? ⟨w4.heap.size + 1 + 1 + 1, 8, none⟩ = some (.slice none 0 0) := by rw [hw5]; simp [World.cell?_alloc_at, World.cell?_alloc_past]
  have t9 : w5.cell? ⟨w4.heap.size + 1 + 1 + 1, 9, none⟩ = some (.int .u8 3) := by rw [hw5]; simp [World.cell?_alloc_at, World.cell?_alloc_past]
  have t10 : w5.cell? ⟨w4.heap.size + 1 + 1 + 1, 10, none⟩ = some (.int .i64 0) := by rw [hw5]; simp [World.cell?_alloc_at, World.cell?_alloc_past]
  have t11 : w5.cell? ⟨w4.heap.size + 1 + 1 + 1, 11, none⟩ = some (.slice (some ⟨w4.heap.size, 0, none⟩) 2 2) := by rw [hw5]; simp [World.cell?_alloc_at, World.cell?_alloc_past]
  have t12 : w5.cell? ⟨w4.heap.size + 1 + 1 + 1, 12, none⟩ = some (.int .u8 3) := by rw [hw5]; simp [World.cell?_alloc_at, World.cell?_alloc_past]
  have t13 : w5.cell? ⟨w4.heap.size + 1 + 1 + 1, 13, none⟩ = some (.int .i64 0) := by rw [hw5]; simp [World.cell?_alloc_at, World.cell?_alloc_past]
  have t14 : w5.cell? ⟨w4.heap.size + 1 + 1 + 1, 14, none⟩ = some (.slice (some ⟨w4.heap.size + 1, 0, none⟩) 1 1) := by rw [hw5]; simp [World.cell?_alloc_at, World.cell?_alloc_past]
  have t15 : w5.cell? ⟨w4.heap.size + 1 + 1 + 1, 15, none⟩ = some (.int .u8 3) := by rw [hw5]; simp [World.cell?_alloc_at, World.cell?_alloc_past]
  have t16 : w5.cell? ⟨w4.heap.size + 1 + 1 + 1, 16, none⟩ = some (.int .i64 0) := by rw [hw5]; simp [World.cell?_alloc_at, World.cell?_alloc_past]
  have t17 : w5.cell? ⟨w4.heap.size + 1 + 1 + 1, 17, none⟩ = some (.slice none 0 0) := by rw [hw5]; simp [World.cell?_alloc_at, World.cell?_alloc_past]
  have t18 : w5.cell? ⟨w4.heap.size + 1 + 1 + 1, 18, none⟩ = some (.int .u8 1) := by rw [hw5]; simp [World.cell?_alloc_at, World.cell?_alloc_past]
  have t19 : w5.cell? ⟨w4.heap.size + 1 + 1 + 1, 19, none⟩ = some (.int .i64 1) := by rw [hw5]; simp [World.cell?_alloc_at, World.cell?_alloc_past]
  have t20 : w5.cell? ⟨w4.heap.size + 1 + 1 + 1, 20, none⟩ = some (.slice none 0 0) := by rw [hw5]; simp [World.cell?_alloc_at, World.cell?_alloc_past]
  have t21 : w5.cell? ⟨w4.heap.size + 1 + 1 + 1, 21, none⟩ = some (.int .u8 2) := by rw [hw5]; simp [World.cell?_alloc_at, World.cell?_alloc_past]
  have t22 : w5.cell? ⟨w4.heap.size + 1 + 1 + 1, 22, none⟩ = some (.int .i64 2) := by rw [hw5]; simp [World.cell?_alloc_at, World.cell?_alloc_past]
  have t23 : w5.cell? ⟨w4.heap.size + 1 + 1 + 1, 23, none⟩ = some (.slice (some ⟨w4.heap.size + 1 + 1, 0, none⟩) 1 1) := by rw [hw5]; simp [World.cell?_alloc_at, World.cell?_alloc_past]
  have t24 : w5.cell? ⟨w4.heap.size + 1 + 1 + 1, 24, none⟩ = some (.int .u8 4) := by rw [hw5]; simp [World.cell?_alloc_at, World.cell?_alloc_past]
  have t25 : w5.cell? ⟨w4.heap.size + 1 + 1 + 1, 25, none⟩ = some (.int .i64 0) := by rw [hw5]; simp [World.cell?_alloc_at, World.cell?_alloc_past]
  have t26 : w5.cell? ⟨w4.heap.size + 1 + 1 + 1, 26, none⟩ = some (.slice none 0 0) := by rw [hw5]; simp [World.cell?_alloc_at, World.cell?_alloc_past]
  have s0 : w5.cell? ⟨w4.heap.size, 0, none⟩ = some (.int .u64 5) := by rw [hw5, World.cell?_alloc_lt _ _ _ (by simp; omega), World.cell?_alloc_lt _ _ _ (by simp; omega)]; simp
  have s1 : w5.cell? ⟨w4.heap.size, 1, none⟩ = some (.int .u64 5) := by rw [hw5, World.cell?_alloc_lt _ _ _ (by simp; omega), World.cell?_alloc_lt _ _ _ (by simp; omega)]; simp
  have s2 : w5.cell? ⟨w4.heap.size + 1, 0, none⟩ = some (.int .u64 0) := by rw [hw5]; simp [World.cell?_alloc_at, World.cell?_alloc_past]
  have s3 : w5.cell? ⟨w4.heap.size + 1 + 1, 0, none⟩ = some (.int .u64 1) := by rw [hw5]; simp [World.cell?_alloc_at, World.cell?_alloc_past]
  rw [← hw5]
  have hz5 : w5.heap.size = w4.heap.size + 4 := by rw [hw5]; simp
  clear hw5
  have T := Lib.hid (show True from trivial)
  go_loopw [96] (fun i wr => ∃ k : Nat, k ≤ 9 ∧ i = .int .i64 k ∧ Below w5.heap.size w5 wr) (fun i _ => (9 - intOf i).toNat)
  case atStart => exact ⟨0, by omega, rfl, Below.refl _ _⟩
  case round =>
    obtain ⟨k, hk, rfl, bel⟩ := hrel
    have BR := bel_trans B5 bel
    rcases k with _ | _ | _ | _ | _ | _ | _ | _ | _ | _ | k
    · have x0 := cy t0 bel
      have x1 := cy t1 bel
      have x2 := cy t2 bel
      have hzr : w4.heap.size + 1 + 1 + 1 < wr.heap.size := cell_lt x0
      have bb := bel_alloc (Below.refl wr.heap.size wr) (Obj.cells #[.int .u8 0, .int .i64 0, .slice none 0 0] 24)
      go_wp2_with fail
      refine (check_any 0 0 none 0 0 [] _ (by omega) (by omega) (by omega) (by omega) rfl (by unfold maxLen; omega) (rd0 _ _ _) (bdU_dec (by decide +kernel))).mono ?_
      rw [E9.out]
      rintro r w6 ⟨rfl, b6⟩
      go_wp2
      go_roundw
      case rel => exact ⟨1, by omega, by go_num, bel_trans (bel_trans bel bb) b6⟩
      case measure => simp [intOf]
    · have x0 := cy t3 bel
      have x1 := cy t4 bel
      have x2 := cy t5 bel
      have hzr : w4.heap.size + 1 + 1 + 1 < wr.heap.size := cell_lt x0
      have bb := bel_alloc (Below.refl wr.heap.size wr) (Obj.cells #[.int .u8 2, .int .i64 65, .slice none 0 0] 24)
      go_wp2_with fail
      refine (check_any 2 65 none 0 0 [] _ (by omega) (by omega) (by omega) (by omega) rfl (by unfold maxLen; omega) (rd0 _ _ _) (bdU_dec (by decide +kernel))).mono ?_
      rw [E10.out]
      rintro r w6 ⟨rfl, b6⟩
      go_wp2
      go_roundw
      case rel => exact ⟨2, by omega, by go_num, bel_trans (bel_trans bel bb) b6⟩
      case measure => simp [intOf]
    · have x0 := cy t6 bel
      have x1 := cy t7 bel
      have x2 := cy t8 bel
      have hzr : w4.heap.size + 1 + 1 + 1 < wr.heap.size := cell_lt x0
      have bb := bel_alloc (Below.refl wr.heap.size wr) (Obj.cells #[.int .u8 2, .int .i64 0, .slice none 0 0] 24)
      go_wp2_with fail
      refine (check_any 2 0 none 0 0 [] _ (by omega) (by omega) (by omega) (by omega) rfl (by unfold maxLen; omega) (rd0 _ _ _) (bdU_dec (by decide +kernel))).mono ?_
      rw [E11.out]
      rintro r w6 ⟨rfl, b6⟩
      go_wp2
      go_roundw
      case rel => exact ⟨3, by omega, by go_num, bel_trans (bel_trans bel bb) b6⟩
      case measure => simp [intOf]
    · have x0 := cy t9 bel
      have x1 := cy t10 bel
      have x2 := cy t11 bel
      have hzr : w4.heap.size + 1 + 1 + 1 < wr.heap.size := cell_lt x0
      have bb := bel_alloc (Below.refl wr.heap.size wr) (Obj.cells #[.int .u8 3, .int .i64 0, .slice (some ⟨w4.heap.size, 0, none⟩) 2 2] 24)
      go_wp2_with fail
      refine (check_any 3 0 (some ⟨w4.heap.size, 0, none⟩) 2 2 [5, 5] _ (by omega) (by omega) (by omega) (by omega) rfl (by unfold maxLen; omega) (rd2 (cy (cy s0 bel) bb) (cy (cy s1 bel) bb)) (bdU_dec (by decide +kernel))).mono ?_
      rw [E12.out]
      rintro r w6 ⟨rfl, b6⟩
      go_wp2
      go_roundw
      case rel => exact ⟨4, by omega, by go_num, bel_trans (bel_trans bel bb) b6⟩
      case measure => simp [intOf]
    · have x0 := cy t12 bel
      have x1 := cy t13 bel
      have x2 := cy t14 bel
      have hzr : w4.heap.size + 1 + 1 + 1 < wr.heap.size := cell_lt x0
      have bb := bel_alloc (Below.refl wr.heap.size wr) (Obj.cells #[.int .u8 3, .int .i64 0, .slice (some ⟨w4.heap.size + 1, 0, none⟩) 1 1] 24)
      go_wp2_with fail
      refine (check_any 3 0 (some ⟨w4.heap.size + 1, 0, none⟩) 1 1 [0] _ (by omega) (by omega) (by omega) (by omega) rfl (by unfold maxLen; omega) (rd1 (cy (cy s2 bel) bb)) (bdU_dec (by decide +kernel))).mono ?_
      rw [E13.out]
      rintro r w6 ⟨rfl, b6⟩
      go_wp2
      go_roundw
      case rel => exact ⟨5, by omega, by go_num, bel_trans (bel_trans bel bb) b6⟩
      case measure => simp [intOf]
    · have x0 := cy t15 bel
      have x1 := cy t16 bel
      have x2 := cy t17 bel
      have hzr : w4.heap.size + 1 + 1 + 1 < wr.heap.size := cell_lt x0
      have bb := bel_alloc (Below.refl wr.heap.size wr) (Obj.cells #[.int .u8 3, .int .i64 0, .slice none 0 0] 24)
      go_wp2_with fail
      refine (check_any 3 0 none 0 0 [] _ (by omega) (by omega) (by omega) (by omega) rfl (by unfold maxLen; omega) (rd0 _ _ _) (bdU_dec (by decide +kernel))).mono ?_
      rw [E14.out]
      rintro r w6 ⟨rfl, b6⟩
      go_wp2
      go_roundw
      case rel => exact ⟨6, by omega, by go_num, bel_trans (bel_trans bel bb) b6⟩
      case measure => simp [intOf]
    · have x0 := cy t18 bel
      have x1 := cy t19 bel
      have x2 := cy t20 bel
      have hzr : w4.heap.size + 1 + 1 + 1 < wr.heap.size := cell_lt x0
      have bb := bel_alloc (Below.refl wr.heap.size wr) (Obj.cells #[.int .u8 1, .int .i64 1, .slice none 0 0] 24)
      go_wp2_with fail
      refine (check_any 1 1 none 0 0 [] _ (by omega) (by omega) (by omega) (by omega) rfl (by unfold maxLen; omega) (rd0 _ _ _) (bdU_dec (by decide +kernel))).mono ?_
      rw [E15.out]
      rintro r w6 ⟨rfl, b6⟩
      go_wp2
      go_roundw
      case rel => exact ⟨7, by omega, by go_num, bel_trans (bel_trans bel bb) b6⟩
      case measure => simp [intOf]
    · have x0 := cy t21 bel
      have x1 := cy t22 bel
      have x2 := cy t23 bel
      have hzr : w4.heap.size + 1 + 1 + 1 < wr.heap.size := cell_lt x0
      have bb := bel_alloc (Below.refl wr.heap.size wr) (Obj.cells #[.int .u8 2, .int .i64 2, .slice (some ⟨w4.heap.size + 1 + 1, 0, none⟩) 1 1] 24)
      go_wp2_with fail
      refine (check_any 2 2 (some ⟨w4.heap.size + 1 + 1, 0, none⟩) 1 1 [1] _ (by omega) (by omega) (by omega) (by omega) rfl (by unfold maxLen; omega) (rd1 (cy (cy s3 bel) bb)) (bdU_dec (by decide +kernel))).mono ?_
      rw [E16.out]
      rintro r w6 ⟨rfl, b6⟩
      go_wp2
      go_roundw
      case rel => exact ⟨8, by omega, by go_num, bel_trans (bel_trans bel bb) b6⟩
      case measure => simp [intOf]
    · have x0 := cy t24 bel
      have x1 := cy t25 bel
      have x2 := cy t26 bel
      have hzr : w4.heap.size + 1 + 1 + 1 < wr.heap.size := cell_lt x0
      have bb := bel_alloc (Below.refl wr.heap.size wr) (Obj.cells #[.int .u8 4, .int .i64 0, .slice none 0 0] 24)
      go_wp2_with fail
      refine (check_any 4 0 none 0 0 [] _ (by omega) (by omega) (by omega) (by omega) rfl (by unfold maxLen; omega) (rd0 _ _ _) (bdU_dec (by decide +kernel))).mono ?_
      rw [E17.out]
      rintro r w6 ⟨rfl, b6⟩
      go_wp2
      go_roundw
      case rel => exact ⟨9, by omega, by go_num, bel_trans (bel_trans bel bb) b6⟩
      case measure => simp [intOf]
    · clear t0 t1 t2 t3 t4 t5 t6 t7 t8 t9 t10 t11 t12 t13 t14 t15 t16 t17 t18 t19 t20 t21 t22 t23 t24 t25 t26 s0 s1 s2 s3
      replace m0 := cy m0 bel
      replace m1 := cy m1 bel
      replace m2 := cy m2 bel
      replace c0 := cy c0 bel
      replace c1 := cy c1 bel
      replace c2 := cy c2 bel
      replace d0 := cy d0 bel
      replace d1 := cy d1 bel
      have B100 := BR
      clear BR bel
      go_wp2_with fail
      refine (img_any 2 4 6 7 none 0 0 [] _ (by omega) (by omega) (by omega) (by omega) (by omega) (by omega) (by omega) (by omega) rfl (Nat.zero_le _) (rd0 _ _ _) (bdU_dec (by decide +kernel))).mono ?_
      rw [E18.out, E19.out]
      rintro r w101 ⟨rfl, b101⟩
      have B101 := bel_trans B100 b101
      replace m0 := cy m0 b101
      replace m1 := cy m1 b101
      replace m2 := cy m2 b101
      replace c0 := cy c0 b101
      replace c1 := cy c1 b101
      replace c2 := cy c2 b101
      replace d0 := cy d0 b101
      replace d1 := cy d1 b101
      go_wp2_with fail
      refine (img_any 2 4 6 9 none 0 0 [] _ (by omega) (by omega) (by omega) (by omega) (by omega) (by omega) (by omega) (by omega) rfl (Nat.zero_le _) (rd0 _ _ _) (bdU_dec (by decide +kernel))).mono ?_
      rw [E20.out, E21.out]
      rintro r w102 ⟨rfl, b102⟩
      have B102 := bel_trans B101 b102
      replace m0 := cy m0 b102
      replace m1 := cy m1 b102
      replace m2 := cy m2 b102
      replace c0 := cy c0 b102
      replace c1 := cy c1 b102
      replace c2 := cy c2 b102
      replace d0 := cy d0 b102
      replace d1 := cy d1 b102
      go_wp2_with fail
      refine (img_any 3 0 3 5 (some ⟨w.heap.size, 0, none⟩) 2 2 [5, 9] _ (by omega) (by omega) (by omega) (by omega) (by omega) (by omega) (by omega) (by omega) rfl (by unfold maxLen; omega) (rd2 d0 d1) (bdU_dec (by decide +kernel))).mono ?_
      rw [E22.out, E23.out]
      rintro r w103 ⟨rfl, b103⟩
      have B103 := bel_trans B102 b103
      replace m0 := cy m0 b103
      replace m1 := cy m1 b103
      replace m2 := cy m2 b103
      replace c0 := cy c0 b103
      replace c1 := cy c1 b103
      replace c2 := cy c2 b103
      replace d0 := cy d0 b103
      replace d1 := cy d1 b103
      go_wp2_with fail
      refine (img_any 2 4 18446744073709551614 18446744073709551615 none 0 0 [] _ (by omega) (by omega) (by omega) (by omega) (by omega) (by omega) (by omega) (by omega) rfl (Nat.zero_le _) (rd0 _ _ _) (bdU_dec (by decide +kernel))).mono ?_
      rw [E24.out, E25.out]
      rintro r w104 ⟨rfl, b104⟩
      have B104 := bel_trans B103 b104
      replace m0 := cy m0 b104
      replace m1 := cy m1 b104
      replace m2 := cy m2 b104
      replace c0 := cy c0 b104
      replace c1 := cy c1 b104
      replace c2 := cy c2 b104
      replace d0 := cy d0 b104
      replace d1 := cy d1 b104
      go_wp2_with fail
      refine (img_any 2 4 2 1 none 0 0 [] _ (by omega) (by omega) (by omega) (by omega) (by omega) (by omega) (by omega) (by omega) rfl (Nat.zero_le _) (rd0 _ _ _) (bdU_dec (by decide +kernel))).mono ?_
      rw [E26.out, E27.out]
      rintro r w105 ⟨rfl, b105⟩
      have B105 := bel_trans B104 b105
      replace m0 := cy m0 b105
      replace m1 := cy m1 b105
      replace m2 := cy m2 b105
      replace c0 := cy c0 b105
      replace c1 := cy c1 b105
      replace c2 := cy c2 b105
      replace d0 := cy d0 b105
      replace d1 := cy d1 b105
      go_wp2_with fail
      refine (least_any 2 4 1 6 none 0 0 [] _ (by omega) (by omega) (by omega) (by omega) (by omega) (by omega) (by omega) (by omega) rfl (Nat.zero_le _) (rd0 _ _ _) (bdU_dec (by decide +kernel))).mono ?_
      rw [E28.out]
      rintro r w106 ⟨rfl, b106⟩
      have B106 := bel_trans B105 b106
      replace m0 := cy m0 b106
      replace m1 := cy m1 b106
      replace m2 := cy m2 b106
      replace c0 := cy c0 b106
      replace c1 := cy c1 b106
      replace c2 := cy c2 b106
      replace d0 := cy d0 b106
      replace d1 := cy d1 b106
      go_wp2_with fail
      refine (least_any 2 4 1 18446744073709551614 none 0 0 [] _ (by omega) (by omega) (by omega) (by omega) (by omega) (by omega) (by omega) (by omega) rfl (Nat.zero_le _) (rd0 _ _ _) (bdU_dec (by decide +kernel))).mono ?_
      rw [E29.out]
      rintro r w107 ⟨rfl, b107⟩
      have B107 := bel_trans B106 b107
      replace m0 := cy m0 b107
      replace m1 := cy m1 b107
      replace m2 := cy m2 b107
      replace c0 := cy c0 b107
      replace c1 := cy c1 b107
      replace c2 := cy c2 b107
      replace d0 := cy d0 b107
      replace d1 := cy d1 b107
      go_wp2_with fail
      refine (least_any 3 0 1 2 (some ⟨w.heap.size, 0, none⟩) 2 2 [5, 9] _ (by omega) (by omega) (by omega) (by omega) (by omega) (by omega) (by omega) (by omega) rfl (by unfold maxLen; omega) (rd2 d0 d1) (bdU_dec (by decide +kernel))).mono ?_
      rw [E30.out]
      rintro r w108 ⟨rfl, b108⟩
      have B108 := bel_trans B107 b108
      replace m0 := cy m0 b108
      replace m1 := cy m1 b108
      replace m2 := cy m2 b108
      replace c0 := cy c0 b108
      replace c1 := cy c1 b108
      replace c2 := cy c2 b108
      replace d0 := cy d0 b108
      replace d1 := cy d1 b108
      go_wp2_with fail
      refine (least_any 3 0 1 9 (some ⟨w.heap.size, 0, none⟩) 2 2 [5, 9] _ (by omega) (by omega) (by omega) (by omega) (by omega) (by omega) (by omega) (by omega) rfl (by unfold maxLen; omega) (rd2 d0 d1) (bdU_dec (by decide +kernel))).mono ?_
      rw [E31.out]
      rintro r w109 ⟨rfl, b109⟩
      have B109 := bel_trans B108 b109
      replace m0 := cy m0 b109
      replace m1 := cy m1 b109
      replace m2 := cy m2 b109
      replace c0 := cy c0 b109
      replace c1 := cy c1 b109
      replace c2 := cy c2 b109
      replace d0 := cy d0 b109
      replace d1 := cy d1 b109
      go_wp2_with fail
      refine (least_any 3 0 3 9 (some ⟨w.heap.size, 0, none⟩) 2 2 [5, 9] _ (by omega) (by omega) (by omega) (by omega) (by omega) (by omega) (by omega) (by omega) rfl (by unfold maxLen; omega) (rd2 d0 d1) (bdU_dec (by decide +kernel))).mono ?_
      rw [E32.out]
      rintro r w110 ⟨rfl, b110⟩
      have B110 := bel_trans B109 b110
      replace m0 := cy m0 b110
      replace m1 := cy m1 b110
      replace m2 := cy m2 b110
      replace c0 := cy c0 b110
      replace c1 := cy c1 b110
      replace c2 := cy c2 b110
      replace d0 := cy d0 b110
      replace d1 := cy d1 b110
      clear m0 m1 m2 c0 c1 c2 d0 d1
      have ba := bel_alloc (Below.refl w110.heap.size w110) (Obj.cells #[.int .i64 3, .int .i64 0, .int .i64 3] 3)
      have s := set_any (some ⟨w110.heap.size, 0, none⟩) 3 3 [3, 0, 3] (w110.alloc (Obj.cells #[.int .i64 3, .int .i64 0, .int .i64 3] 3)) rfl (by unfold maxLen; omega) (rd3 (by simp) (by simp) (by simp)) (bdI_dec (by decide +kernel))
      rw [E33.out] at s
      have S := Lib.hid s
      clear s
      go_wp2_with fail
      refine S.out.mono ?_
      clear S
      rintro r w111 ⟨rfl, hw⟩
      have bs : Below w110.heap.size w110 w111 := by rw [← hw]; exact ba
      clear hw ba
      have B111 := bel_trans B110 bs
      clear bs
      have ba := bel_alloc (Below.refl w111.heap.size w111) (Obj.cells #[.int .i64 64] 3)
      have s := set_any (some ⟨w111.heap.size, 0, none⟩) 1 1 [64] (w111.alloc (Obj.cells #[.int .i64 64] 3)) rfl (by unfold maxLen; omega) (rd1 (by simp)) (bdI_dec (by decide +kernel))
      rw [E34.out] at s
      have S := Lib.hid s
      clear s
      go_wp2_with fail
      refine S.out.mono ?_
      clear S
      rintro r w112 ⟨rfl, hw⟩
      have bs : Below w111.heap.size w111 w112 := by rw [← hw]; exact ba
      clear hw ba
      have B112 := bel_trans B111 bs
      clear bs
      have CB := Lib.hid (bucketsP_any 9 2 (by omega) (by omega) (by omega) w112 (HT.out.below B112) (HT.out.below B112).pos)
      go_wp2_with fail
      refine CB.out.mono ?_
      clear CB
      rintro r w113 ⟨⟨A1, c1, rfl, rd⟩, b1⟩
      rw [E35.out] at rd ⊢
      have R1 := Lib.hid rd; clear rd
      have B113 := bel_trans B112 b1
      go_wp2_with fail
      refine (bucket_any 9 0 _ (by omega) (by omega) (by omega) (by omega)).mono ?_
      rw [E36.out]
      rintro r w114 ⟨rfl, rfl⟩
      go_wp2_with fail
      refine (bucket_any 64 4 _ (by omega) (by omega) (by omega) (by omega)).mono ?_
      rw [E37.out]
      rintro r w114 ⟨rfl, rfl⟩
      have ba := bel_alloc (Below.refl w113.heap.size w113) (Obj.cells #[.int .i64 0, .int .i64 1] 3)
      have CS := Lib.hid (sameR_any A1 (some ⟨w113.heap.size, 0, none⟩) 2 c1 2 2 [0, 1] [0, 1] (w113.alloc (Obj.cells #[.int .i64 0, .int .i64 1] 3)) rfl rfl (by unfold maxLen; omega) (by unfold maxLen; omega) (R1.out.below ba) (rd2 (by simp) (by simp)))
      rw [show decide (([0, 1] : List Int) = [0, 1]) = true by decide] at CS
      go_wp2_with fail
      refine CS.out.mono ?_
      clear CS
      rintro r w114 ⟨rfl, b2⟩
      have B114 := bel_trans (bel_trans B113 ba) b2
      have CM := Lib.hid (members_any 9 (by omega) w114 (HT.out.below B114))
      go_wp2_with fail
      refine CM.out.mono ?_
      clear CM
      rintro r w115 ⟨⟨A2, c2, rfl, rd⟩, b3⟩
      rw [E38.out] at rd ⊢
      have R2 := Lib.hid rd; clear rd
      have B115 := bel_trans B114 b3
      have bc := bel_alloc (Below.refl w115.heap.size w115) (Obj.cells #[.int .i64 0, .int .i64 3] 3)
      have CS := Lib.hid (sameR_any A2 (some ⟨w115.heap.size, 0, none⟩) 2 c2 2 2 [0, 3] [0, 3] (w115.alloc (Obj.cells #[.int .i64 0, .int .i64 3] 3)) rfl rfl (by unfold maxLen; omega) (by unfold maxLen; omega) (R2.out.below bc) (rd2 (by simp) (by simp)))
      rw [show decide (([0, 3] : List Int) = [0, 3]) = true by decide] at CS
      go_wp2_with fail
      refine CS.out.mono ?_
      clear CS
      rintro r w116 ⟨rfl, b4⟩
      go_wp2
      go_ret
      exact ⟨rfl, bel_trans (bel_trans B115 bc) b4⟩
    · omega
end Wk
end Go.Proofs.YtnjgolbghcjijaaDoor
