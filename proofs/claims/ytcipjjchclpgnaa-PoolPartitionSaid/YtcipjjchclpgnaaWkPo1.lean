/- The walks of the laws PoolStack and PoolPartition, from the contracts of package pool and of the run. Conditions: none. (Written by tools/mk14w1.py.) -/
import Derived.Test.YtcipjjchclpgnaaPsG
namespace Go.Proofs.Ytcipjjchclpgnaa
open Go.RowKit Go.Sort
set_option linter.unusedVariables false
set_option linter.unusedSimpArgs false
namespace Wk
open Wd Po
open Ly (Ge tot pP)
open Dm (bel_alloc bel_trans)
set_option maxRecDepth 100000 in
set_option maxHeartbeats 2000000 in
theorem walk_poolStack (a0 : Nat → Int) (a1 : Option Addr) (a1n a1c : Nat) (a1v : List Po.Ax) (w : World) (a1e : a1v.length = a1n) (a1m : a1n ≤ maxLen) (a1r : Po.RdX w a1 a1v) (a1b : Po.BdX a1v) (a1z : a1 = none → a1c = 0) :
    Calls Try.prog 4 #[.agg (Po.six a0), .slice a1 a1n a1c] w fun e w' => e = .returned (.bool true) ∧ Below w.heap.size w w' := by
  have CF := fun W => Lib.hid (few_any a0 W)
  have HE := Lib.hid a1e
  have HR := Lib.hid a1r
  have HB := Lib.hid a1b
  obtain ⟨W0, hW0⟩ : ∃ W, W = w.alloc (.cells #[.int .i64 (a0 0), .int .i64 (a0 1), .int .i64 (a0 2), .int .i64 (a0 3), .int .i64 (a0 4), .int .i64 (a0 5)] 29) := ⟨_, rfl⟩
  have HB0 := Lib.hid (show Below w.heap.size w W0 by rw [hW0]; exact bel_new (Below.refl _ _) _)
  have HS0 := Lib.hid (show ∀ W, Below W0.heap.size W0 W → ∀ i, i < 6 → W.cell? ⟨w.heap.size, i, none⟩ = some (.int .i64 (a0 i)) from fun W hb i hi => by
    have hh : W0.heap[w.heap.size]? = some (.cells (six a0) 29 (0, 0)) := by rw [hW0]; exact heap_alloc_new w _
    have hlt : w.heap.size < W0.heap.size := by rw [hW0, World.size_alloc]; omega
    exact (World.cell?_of_block (a := ⟨w.heap.size, i, none⟩) (hb.block _ hlt)).trans (six_cell hh hi))
  have HW0 := Lib.hid hW0
  clear a1e a1r a1b hW0
  unfold six
  go_enter Try.func4, Try.ntmps4
  go_wp2_with fail
  rw [← HW0.out]
  refine (CF W0).out.mono ?_
  rintro r1 W1 ⟨bb, rfl, hbb, hb1⟩
  have k0 := HS0.out W1 hb1 0 (by omega)
  have k1 := HS0.out W1 hb1 1 (by omega)
  have k2 := HS0.out W1 hb1 2 (by omega)
  have k3 := HS0.out W1 hb1 3 (by omega)
  have k4 := HS0.out W1 hb1 4 (by omega)
  have k5 := HS0.out W1 hb1 5 (by omega)
  have HB1 := Lib.hid (HB0.out.trans (hb1.mono HB0.out.size))
  clear hb1
  cases bb with
  | false =>
    clear hbb
    go_wp2
    go_ret
    exact ⟨rfl, HB1.out⟩
  | true =>
    have hF := hbb.1 rfl
    clear hbb
    by_cases hn : 400 < a1n
    · have d1 : decide ((400 : Int) < (a1n : Int)) = true := decide_eq_true (by omega)
      have d1' : decide (400 < a1n) = true := decide_eq_true hn
      clear hn
      go_wp2
      go_ret
      exact ⟨rfl, HB1.out⟩
    have d1 : decide ((400 : Int) < (a1n : Int)) = false := decide_eq_false (by omega)
    have d1' : decide (400 < a1n) = false := decide_eq_false hn
    have HN := Lib.hid (show a1n ≤ 400 by omega)
    have CB := Lib.hid (begin_any hF W1)
    have HF := Lib.hid hF
    clear hn hF
    go_wp2_with fail
    refine CB.out.mono ?_
    rintro r1 W2 ⟨K, b, c, sk0, rfl, hg, hri, hlow, hb2⟩
    have HB2 := Lib.hid (HB1.out.trans (hb2.mono HB1.out.size))
    have H40 := Lib.hid (show tot K.g.t 6 ≤ 40 by rw [hg]; exact g0_n HF.out)
    have hlow0 : ∀ i, i < w.heap.size → c i = 0 := fun i hi => hlow i (Nat.lt_of_lt_of_le hi HB1.out.size)
    have hac : Aa W2 c a1 a1v := ⟨fun i x hx => by
      obtain ⟨b', o', q1, q2⟩ := HR.out i x hx
      exact ⟨b', o', q1, q2.keep (HB2.out.block _ q2.lt)⟩, HB.out, fun i x hx b' o' hA => by
      obtain ⟨b2, o2, q1, q2⟩ := HR.out i x hx
      rw [hA] at q1
      injection q1 with q1
      injection q1 with q1 _
      subst q1
      exact hlow0 _ q2.lt⟩
    have HLOW := Lib.hid hlow0
    have CP := Lib.hid (play_any hri.ex H40.out hac HE.out (cp := a1c) (by have := HN.out; omega) false)
    clear hri hg hlow hlow0 hac hb2 CB CF k0 k1 k2 k3 k4 k5
    go_wp2_with fail
    refine CP.out.mono ?_
    rintro r1 W3 ⟨rfl, c3, S3, X3, hre, hf⟩
    obtain ⟨a, stk, sw, of, mn, sk, mine, sn, st, hri3⟩ := hre
    have CPA := Lib.hid (parts_any hri3 H40.out)
    have HB3 := Lib.hid (HB2.out.trans (hf.below HB2.out.size HLOW.out TA0))
    clear hri3 hf CP
    go_wp2_with fail
    refine CPA.out.mono ?_
    rintro r1 W4 ⟨rfl, hb4⟩
    have HB4 := Lib.hid (HB3.out.trans (hb4.mono HB3.out.size))
    have CSI := Lib.hid (simple_any W4)
    clear hb4 CPA
    go_wp2_with fail
    refine CSI.out.mono ?_
    rintro r1 W5 ⟨rfl, hb5⟩
    have HB5 := Lib.hid (HB4.out.trans (hb5.mono HB4.out.size))
    clear hb5
    go_wp2
    go_ret
    exact ⟨rfl, HB5.out⟩
set_option maxRecDepth 100000 in
set_option maxHeartbeats 2000000 in
theorem walk_poolPartition (a0 : Nat → Int) (a1 : Option Addr) (a1n a1c : Nat) (a1v : List Po.Ax) (w : World) (a1e : a1v.length = a1n) (a1m : a1n ≤ maxLen) (a1r : Po.RdX w a1 a1v) (a1b : Po.BdX a1v) (a1z : a1 = none → a1c = 0) :
    Calls Try.prog 5 #[.agg (Po.six a0), .slice a1 a1n a1c] w fun e w' => e = .returned (.bool true) ∧ Below w.heap.size w w' := by
  have CF := fun W => Lib.hid (few_any a0 W)
  have HE := Lib.hid a1e
  have HR := Lib.hid a1r
  have HB := Lib.hid a1b
  obtain ⟨W0, hW0⟩ : ∃ W, W = w.alloc (.cells #[.int .i64 (a0 0), .int .i64 (a0 1), .int .i64 (a0 2), .int .i64 (a0 3), .int .i64 (a0 4), .int .i64 (a0 5)] 29) := ⟨_, rfl⟩
  have HB0 := Lib.hid (show Below w.heap.size w W0 by rw [hW0]; exact bel_new (Below.refl _ _) _)
  have HS0 := Lib.hid (show ∀ W, Below W0.heap.size W0 W → ∀ i, i < 6 → W.cell? ⟨w.heap.size, i, none⟩ = some (.int .i64 (a0 i)) from fun W hb i hi => by
    have hh : W0.heap[w.heap.size]? = some (.cells (six a0) 29 (0, 0)) := by rw [hW0]; exact heap_alloc_new w _
    have hlt : w.heap.size < W0.heap.size := by rw [hW0, World.size_alloc]; omega
    exact (World.cell?_of_block (a := ⟨w.heap.size, i, none⟩) (hb.block _ hlt)).trans (six_cell hh hi))
  have HW0 := Lib.hid hW0
  clear a1e a1r a1b hW0
  unfold six
  go_enter Try.func5, Try.ntmps5
  go_wp2_with fail
  rw [← HW0.out]
  refine (CF W0).out.mono ?_
  rintro r1 W1 ⟨bb, rfl, hbb, hb1⟩
  have k0 := HS0.out W1 hb1 0 (by omega)
  have k1 := HS0.out W1 hb1 1 (by omega)
  have k2 := HS0.out W1 hb1 2 (by omega)
  have k3 := HS0.out W1 hb1 3 (by omega)
  have k4 := HS0.out W1 hb1 4 (by omega)
  have k5 := HS0.out W1 hb1 5 (by omega)
  have HB1 := Lib.hid (HB0.out.trans (hb1.mono HB0.out.size))
  clear hb1
  cases bb with
  | false =>
    clear hbb
    go_wp2
    go_ret
    exact ⟨rfl, HB1.out⟩
  | true =>
    have hF := hbb.1 rfl
    clear hbb
    by_cases hn : 200 < a1n
    · have d1 : decide ((200 : Int) < (a1n : Int)) = true := decide_eq_true (by omega)
      have d1' : decide (200 < a1n) = true := decide_eq_true hn
      clear hn
      go_wp2
      go_ret
      exact ⟨rfl, HB1.out⟩
    have d1 : decide ((200 : Int) < (a1n : Int)) = false := decide_eq_false (by omega)
    have d1' : decide (200 < a1n) = false := decide_eq_false hn
    have HN := Lib.hid (show a1n ≤ 200 by omega)
    have CB := Lib.hid (begin_any hF W1)
    have HF := Lib.hid hF
    clear hn hF
    go_wp2_with fail
    refine CB.out.mono ?_
    rintro r1 W2 ⟨K, b, c, sk0, rfl, hg, hri, hlow, hb2⟩
    have HB2 := Lib.hid (HB1.out.trans (hb2.mono HB1.out.size))
    have H40 := Lib.hid (show tot K.g.t 6 ≤ 40 by rw [hg]; exact g0_n HF.out)
    have hlow0 : ∀ i, i < w.heap.size → c i = 0 := fun i hi => hlow i (Nat.lt_of_lt_of_le hi HB1.out.size)
    have hac : Aa W2 c a1 a1v := ⟨fun i x hx => by
      obtain ⟨b', o', q1, q2⟩ := HR.out i x hx
      exact ⟨b', o', q1, q2.keep (HB2.out.block _ q2.lt)⟩, HB.out, fun i x hx b' o' hA => by
      obtain ⟨b2, o2, q1, q2⟩ := HR.out i x hx
      rw [hA] at q1
      injection q1 with q1
      injection q1 with q1 _
      subst q1
      exact hlow0 _ q2.lt⟩
    have HLOW := Lib.hid hlow0
    have CPA := Lib.hid (parts_any hri H40.out)
    have CP := Lib.hid (fun (W : World) (hb : Below W2.heap.size W2 W) => play_any (hri.below hb).ex H40.out (hac.fc (Fc.of_below (S := fun _ => False) hb) id) HE.out (cp := a1c) (by have := HN.out; omega) true)
    clear hri hg hlow hlow0 hac hb2 CB CF k0 k1 k2 k3 k4 k5
    go_wp2_with fail
    refine CPA.out.mono ?_
    rintro r1 W3 ⟨rfl, hb3⟩
    have HB3 := Lib.hid (HB2.out.trans (hb3.mono HB2.out.size))
    have CP3 := Lib.hid (CP.out W3 hb3)
    clear hb3 CPA CP
    go_wp2_with fail
    refine CP3.out.mono ?_
    rintro r1 W4 ⟨rfl, c3, S3, X3, hre, hf⟩
    have HB4 := Lib.hid (HB3.out.trans (hf.below HB3.out.size HLOW.out TA0))
    have CSI := Lib.hid (simple_any W4)
    clear hre hf CP3
    go_wp2_with fail
    refine CSI.out.mono ?_
    rintro r1 W5 ⟨rfl, hb5⟩
    have HB5 := Lib.hid (HB4.out.trans (hb5.mono HB4.out.size))
    clear hb5
    go_wp2
    go_ret
    exact ⟨rfl, HB5.out⟩
end Wk
end Go.Proofs.Ytcipjjchclpgnaa
