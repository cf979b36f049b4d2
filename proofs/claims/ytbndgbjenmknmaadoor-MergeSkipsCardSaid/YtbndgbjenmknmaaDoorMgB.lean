/- known of leapfroglaw07. Conditions: Tz. -/
import Derived.Test.YtbndgbjenmknmaaDoorMgX
namespace Go.Proofs.YtbndgbjenmknmaaDoor
open Go.RowKit Go.Sort
set_option linter.unusedVariables false
set_option linter.unusedSimpArgs false
namespace Wk
open Hq
open Om (bel_alloc)
open Mg (popT)
open Dm (cell_lt)
def K0 : Mg.Mg := Mg.Mg.new fun v => (2 : Nat).testBit v
def K1 := K0.put 1 (5, 6)
def K2 := K1.popped 1
theorem ko : K0.offE 1 (5, 6) = 0 := by rw [offE_c]; decide +kernel
theorem kp : ∀ r N, K1.pops r N → r = popT (K1.p 1) 1 true 0 ∧ N = K2 := pops_least (by decide +kernel) 1 (by omega) (by decide +kernel) (by decide +kernel)
theorem km : K2.missN 64 = [1] := by decide +kernel
set_option maxRecDepth 100000 in
set_option maxHeartbeats 4000000 in
theorem known_any (w : World) (hT : Dm.Tz w) : Calls Tryd.prog 8 #[] w fun e w' => e = .returned (.bool true) ∧ Below w.heap.size w w' := by
  have hw0 : (fun i => i < w.heap.size) 0 := by have := cell_lt (hT 0 (by decide)); exact this
  have T0 := Lib.hid hT; clear hT
  have BW := Lib.hid (Below.refl w.heap.size w)
  go_enter Tryd.func8, Tryd.ntmps8
  go_wp2_with fail
  refine (newS (fun i => i < w.heap.size) 2 w (by omega) (fun i h => h)).mono ?_
  rintro r V1 ⟨rfl, sm, bb⟩
  have HS := Lib.hid (show Sm (fun i => i < w.heap.size) _ _ K0 from sm)
  clear sm
  have T0 := Lib.hid (T0.out.below bb)
  have BW := Lib.hid bb
  clear bb
  go_wp2_with fail
  refine (offerE HS.out (by repeat (first | exact Below.refl _ _ | apply bel_alloc)) 1 (5, 6) 0 K1 ko rfl (by omega) (by omega) (by simp) (by simp)).mono ?_
  rintro r V2 ⟨rfl, sm, kx⟩
  have T0 := Lib.hid (kx.tz hw0 T0.out)
  have BW := Lib.hid (BW.out.trans (kx.below fun _ h => h))
  have HS := Lib.hid sm
  clear sm kx
  go_wp2_with fail
  refine (popE HS.out (by repeat (first | exact Below.refl _ _ | apply bel_alloc)) (.tuple #[.agg #[.int .u64 5, .int .u64 6], .int .i64 1, .bool true, .int .i64 0]) K2 kp).mono ?_
  rintro r V3 ⟨rfl, sm, kx⟩
  have T0 := Lib.hid (kx.tz hw0 T0.out)
  have BW := Lib.hid (BW.out.trans (kx.below fun _ h => h))
  have HS := Lib.hid sm
  clear sm kx
  go_wp2_with fail
  refine (missE HS.out (by repeat (first | exact Below.refl _ _ | apply bel_alloc)) T0.out [1] 1 km rfl).mono ?_
  rintro r V4 ⟨MA, MC, rfl, mr, bb⟩
  clear mr
  have BW := Lib.hid (BW.out.trans (bb.mono BW.out.size))
  go_wp2_with fail
  go_ret
  exact ⟨rfl, BW.out⟩
end Wk
end Go.Proofs.YtbndgbjenmknmaaDoor
