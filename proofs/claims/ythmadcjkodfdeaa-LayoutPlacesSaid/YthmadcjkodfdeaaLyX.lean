/- Facts of LayoutExamples: configurations of nothing are equal; values compared. Conditions: none. -/
import Derived.Test.YthmadcjkodfdeaaWkLy2
import Derived.Test.YthmadcjkodfdeaaLyIn
import Derived.Test.YthmadcjkodfdeaaLyY
import Derived.Test.YthmadcjkodfdeaaLyZ
import Derived.Test.YthmadcjkodfdeaaLyW
namespace Go.Proofs.Ythmadcjkodfdeaa
open Go.RowKit Go.Sort
set_option linter.unusedVariables false
set_option linter.unusedSimpArgs false
attribute [local go_sem] Ly.eq6 Ly.guard6
namespace Ly
open Dm (RdK bel_alloc bel_trans cell_lt)
theorem equints_nil (w : World) : Calls Try.prog 30 #[.slice none 0 0, .slice none 0 0] w fun e w' => e = .returned (.bool true) ∧ Below w.heap.size w w' := by
  go_enter Try.func30, Try.ntmps30
  go_wp2
  go_loop [5] (fun i => i = .int .i64 0) (fun _ => 0)
  case atStart => rfl
  case round =>
    obtain rfl := hrel
    go_wp2
    go_ret
    exact ⟨rfl, Below.refl _ _⟩
theorem eqdomain_zero (w : World) : Calls Try.prog 41 #[.agg #[.int .u8 0, .int .i64 0, .slice none 0 0], .agg #[.int .u8 0, .int .i64 0, .slice none 0 0]] w fun e w' => e = .returned (.bool true) ∧ Below w.heap.size w w' := by
  go_enter Try.func41, Try.ntmps41
  go_wp2_with fail
  refine (equints_nil _).mono ?_
  rintro r w2 ⟨rfl, b2⟩
  have B2 := Lib.hid (b2.mono (show w.heap.size ≤ _ by simp only [World.size_alloc]; omega))
  clear b2
  go_wp2
  go_ret
  exact ⟨rfl, (bel_alloc (bel_alloc (Below.refl w.heap.size w) _) _).trans B2.out⟩
set_option maxRecDepth 100000 in
set_option maxHeartbeats 2000000 in
theorem eqconfig_zero (w : World) : Calls Try.prog 16 #[zcV, zcV] w fun e w' => e = .returned (.bool true) ∧ Below w.heap.size w w' := by
  unfold zcV
  go_enter Try.func16, Try.ntmps16
  have hA := heap_new w (.cells #[.int .i64 0, .int .i64 0, .int .u8 0, .int .i64 0, .int .u8 0, .int .i64 0, .slice none 0 0, .int .i64 0, .int .i64 0, .int .i64 0, .int .i64 0, .int .i64 0, .int .i64 0, .int .i64 0, .int .i64 0, .int .i64 0] 27)
  have hB := heap_new (w.alloc (.cells #[.int .i64 0, .int .i64 0, .int .u8 0, .int .i64 0, .int .u8 0, .int .i64 0, .slice none 0 0, .int .i64 0, .int .i64 0, .int .i64 0, .int .i64 0, .int .i64 0, .int .i64 0, .int .i64 0, .int .i64 0, .int .i64 0] 27)) (.cells #[.int .i64 0, .int .i64 0, .int .u8 0, .int .i64 0, .int .u8 0, .int .i64 0, .slice none 0 0, .int .i64 0, .int .i64 0, .int .i64 0, .int .i64 0, .int .i64 0, .int .i64 0, .int .i64 0, .int .i64 0, .int .i64 0] 27)
  rw [World.size_alloc] at hB
  have HA := Lib.hid ((Below.heap_alloc (w.alloc (.cells #[.int .i64 0, .int .i64 0, .int .u8 0, .int .i64 0, .int .u8 0, .int .i64 0, .slice none 0 0, .int .i64 0, .int .i64 0, .int .i64 0, .int .i64 0, .int .i64 0, .int .i64 0, .int .i64 0, .int .i64 0, .int .i64 0] 27)) (.cells #[.int .i64 0, .int .i64 0, .int .u8 0, .int .i64 0, .int .u8 0, .int .i64 0, .slice none 0 0, .int .i64 0, .int .i64 0, .int .i64 0, .int .i64 0, .int .i64 0, .int .i64 0, .int .i64 0, .int .i64 0, .int .i64 0] 27) w.heap.size (by rw [World.size_alloc]; omega)).trans hA)
  have HB := Lib.hid hB
  clear hA hB
  go_wp2_with fail
  refine (eqdomain_zero _).mono ?_
  rintro r w2 ⟨rfl, b2⟩
  have kA := (b2.block w.heap.size (by simp only [World.size_alloc]; omega)).trans HA.out
  have kB := (b2.block (w.heap.size + 1) (by simp only [World.size_alloc]; omega)).trans HB.out
  have B2 := Lib.hid ((bel_alloc (bel_alloc (Below.refl w.heap.size w) _) _).trans (b2.mono (show w.heap.size ≤ _ by simp only [World.size_alloc]; omega)))
  have qa7 := cell_of (j := 7) kA rfl
  have qb7 := cell_of (j := 7) kB rfl
  have qa8 := cell_of (j := 8) kA rfl
  have qb8 := cell_of (j := 8) kB rfl
  have qa9 := cell_of (j := 9) kA rfl
  have qb9 := cell_of (j := 9) kB rfl
  have qa10 := cell_of (j := 10) kA rfl
  have qb10 := cell_of (j := 10) kB rfl
  have qa11 := cell_of (j := 11) kA rfl
  have qb11 := cell_of (j := 11) kB rfl
  have qa12 := cell_of (j := 12) kA rfl
  have qb12 := cell_of (j := 12) kB rfl
  have qa13 := cell_of (j := 13) kA rfl
  have qb13 := cell_of (j := 13) kB rfl
  have qa14 := cell_of (j := 14) kA rfl
  have qb14 := cell_of (j := 14) kB rfl
  have qa15 := cell_of (j := 15) kA rfl
  have qb15 := cell_of (j := 15) kB rfl
  clear kA kB b2 HA HB
  go_wp2
  go_ret
  exact ⟨rfl, B2.out⟩
def exPL : Value := .agg #[.int .i64 0, .int .i64 2, .int .i64 6, .int .i64 7, .int .i64 10, .int .i64 11, .int .i64 17, .int .i64 20, .int .i64 34, .int .i64 53]
def zPL : Value := .agg #[.int .i64 0, .int .i64 0, .int .i64 0, .int .i64 0, .int .i64 0, .int .i64 0, .int .i64 0, .int .i64 0, .int .i64 0, .int .i64 0]
theorem ex_pl : plV (geo exF []) = exPL := by
  have h : ∀ i, i < 10 → plN (geo exF []) i = [0, 2, 6, 7, 10, 11, 17, 20, 34, 53].getD i 0 := by decide +kernel
  unfold plV exPL
  rw [h 0 (by omega), h 1 (by omega), h 2 (by omega), h 3 (by omega), h 4 (by omega), h 5 (by omega), h 6 (by omega), h 7 (by omega), h 8 (by omega), h 9 (by omega)]
  rfl
theorem guard10 : Try.prog.eqGuardType Try.prog.depth 41 = false := by kernel_rfl
theorem guard3 : Try.prog.eqGuardType Try.prog.depth 59 = false := by kernel_rfl
theorem eqPL (w : World) : (Op.equalIn 10000 41 exPL exPL).run Try.prog w = .ok true w := by
  kernel_rfl
end Ly
end Go.Proofs.Ythmadcjkodfdeaa
