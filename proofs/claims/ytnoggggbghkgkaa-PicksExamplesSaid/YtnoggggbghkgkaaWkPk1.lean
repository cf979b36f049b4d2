/- PicksSame: the walk. Conditions: the bounds of each argument's kind. -/
import Derived.Test.YtnoggggbghkgkaaPkAw
namespace Go.Proofs.Ytnoggggbghkgkaa
open Go.RowKit Go.Shelf Go.Sort
set_option linter.unusedVariables false
set_option linter.unusedSimpArgs false
namespace Wk
open Pk
open Dm (RdK BdI bel_alloc bel_trans cell_lt flatI info info_parts row_rd app1 appAll addr_lit ret_eq)
theorem thV_ok {t : Int} (p : Int) (h1 : 1 ≤ t) (h2 : t ≤ 64) : thV t p = .tuple #[.int .i64 (p % t), .int .i64 0] := by
  unfold thV
  rw [if_pos (by unfold fitE; rw [if_neg (by omega), if_neg (by omega)])]
/-- 1 + mod(x, 64) -/
theorem threads_any (a : Int) (w : World) : ∃ u : Nat, u < 64 ∧ Hid (Calls Try.prog 31 #[.int .i64 a, .int .i64 64] w fun e w' => e = .returned (.int .i64 (u : Int)) ∧ w = w') := by
  have t0 := Int.emod_nonneg a (show (64 : Int) ≠ 0 by omega)
  have t1 := Int.emod_lt_of_pos a (show (0 : Int) < 64 by omega)
  refine ⟨(a % 64).toNat, by omega, Lib.hid ?_⟩
  rw [show (((a % 64).toNat : Nat) : Int) = a % 64 by omega]
  exact mod_any a 64 (by omega) (by omega) w
theorem modT (p : Int) {u : Nat} {T : Int} (hu : u < 64) (hT : T = 1 + (u : Int)) (w : World) : Calls Try.prog 31 #[.int .i64 p, .int .i64 T] w fun e w' => e = .returned (.int .i64 (p % T)) ∧ w = w' := by
  have := mod_any p (1 + u) (by omega) (by omega) w
  rw [show ((1 + u : Nat) : Int) = T by omega] at this
  exact this
theorem walk_picksSame (a0 : Int) (a1 : Int) (a2 : Int) (w : World) (a0l : (-9223372036854775808) ≤ a0) (a0h : a0 ≤ 9223372036854775807) (a1l : (-9223372036854775808) ≤ a1) (a1h : a1 ≤ 9223372036854775807) (a2l : (-9223372036854775808) ≤ a2) (a2h : a2 ≤ 9223372036854775807) :
    Calls Try.prog 9 #[.int .i64 a0, .int .i64 a1, .int .i64 a2] w fun e w' => e = .returned (.bool true) ∧ Below w.heap.size w w' := by
  obtain ⟨u, hu, C0⟩ := threads_any a0 w
  obtain ⟨T, hT⟩ : ∃ T : Int, T = 1 + (u : Int) := ⟨_, rfl⟩
  have t3 : 1 ≤ T := by omega
  have t4 : T ≤ 64 := by omega
  have D1 := fun W => Lib.hid (thread_any T a1 W)
  have D2 := fun W => Lib.hid (thread_any T a2 W)
  rw [thV_ok a1 t3 t4] at D1
  rw [thV_ok a2 t3 t4] at D2
  have M1 := fun W => Lib.hid (modT a1 hu hT W)
  have M2 := fun W => Lib.hid (modT a2 hu hT W)
  have p0 := Int.emod_nonneg a1 (show T ≠ 0 by omega)
  have p1 := Int.emod_lt_of_pos a1 (show 0 < T by omega)
  have q0 := Int.emod_nonneg a2 (show T ≠ 0 by omega)
  have q1 := Int.emod_lt_of_pos a2 (show 0 < T by omega)
  generalize a1 % T = x at *
  generalize a2 % T = y at *
  subst hT
  have d1 : decide (x < 0) = false := decide_eq_false (by omega)
  have d2 : decide (1 + (u : Int) ≤ x) = false := decide_eq_false (by omega)
  have d3 : decide (y < 0) = false := decide_eq_false (by omega)
  have d4 : decide (1 + (u : Int) ≤ y) = false := decide_eq_false (by omega)
  have d5 : ((x == y) == (x == y)) = true := by simp
  have hu' : (u : Int) < 64 := by omega
  go_enter Try.func9, Try.ntmps9
  go_wp2_with fail
  refine C0.out.mono ?_
  rintro e w' ⟨rfl, rfl⟩
  go_wp2_with fail
  refine (D1 _).out.mono ?_
  rintro e w' ⟨rfl, rfl⟩
  go_wp2_with fail
  refine (D2 _).out.mono ?_
  rintro e w' ⟨rfl, rfl⟩
  go_wp2_with fail
  refine (M1 _).out.mono ?_
  rintro e w' ⟨rfl, rfl⟩
  go_wp2_with fail
  refine (M2 _).out.mono ?_
  rintro e w' ⟨rfl, rfl⟩
  go_wp2_with fail
  refine (M1 _).out.mono ?_
  rintro e w' ⟨rfl, rfl⟩
  go_wp2_with fail
  refine (awake_any _).mono ?_
  rintro e w' ⟨rfl, b1⟩
  go_wp2
  go_ret
  exact ⟨rfl, b1⟩
end Wk
end Go.Proofs.Ytnoggggbghkgkaa
