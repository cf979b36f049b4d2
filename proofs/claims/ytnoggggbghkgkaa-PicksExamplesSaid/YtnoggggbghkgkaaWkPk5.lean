/- PicksMakes: the walk. Conditions: the bounds of each argument's kind. -/
import Derived.Test.YtnoggggbghkgkaaPkRe
namespace Go.Proofs.Ytnoggggbghkgkaa
open Go.RowKit Go.Shelf Go.Sort
set_option linter.unusedVariables false
set_option linter.unusedSimpArgs false
namespace Wk
open Pk
open Dm (RdK BdI bel_alloc bel_trans cell_lt flatI info info_parts row_rd app1 appAll addr_lit ret_eq)
set_option maxRecDepth 100000 in
set_option maxHeartbeats 2000000 in
theorem walk_picksMakes (a0 : Int) (a1 : Int) (a2 : Int) (w : World) (a0l : 0 ≤ a0) (a0h : a0 ≤ 18446744073709551615) (a1l : (-9223372036854775808) ≤ a1) (a1h : a1 ≤ 9223372036854775807) (a2l : (-9223372036854775808) ≤ a2) (a2h : a2 ≤ 9223372036854775807) :
    Calls Try.prog 4 #[.int .u64 a0, .int .i64 a1, .int .i64 a2] w fun e w' => e = .returned (.bool true) ∧ Below w.heap.size w w' := by
  obtain ⟨s, rfl⟩ := Int.eq_ofNat_of_zero_le a0l
  by_cases hb : 5000 < a2 ∧ a2 ≤ 65536
  · have d0 : decide (a2 > 5000) = true := decide_eq_true hb.1
    have d1 : decide (5000 < a2) = true := decide_eq_true hb.1
    have d2 : decide (a2 ≤ 65536) = true := decide_eq_true hb.2
    have d3 : 5000 < a2 := hb.1
    have d4 : a2 ≤ 65536 := hb.2
    obtain ⟨N, hN⟩ : ∃ N : Int, N = 5000 := ⟨_, rfl⟩
    have N1 : N ≤ 9223372036854775807 := by omega
    obtain ⟨er1, m1, l1, H1⟩ := mk_same a1 N (rdL a1 N.toNat) (by simp [rdL])
    obtain ⟨er2, m2, l2, H2⟩ := mk_same a1 N (mxL s a1 N.toNat) (by simp [mxL])
    have C1 := fun (W : World) => Lib.hid ((round_any a1 N W).mono (H1 W))
    have C2 := fun (W : World) => Lib.hid ((roundR_any a1 N W).mono (H1 W))
    have C3 := fun (W : World) => Lib.hid ((mixed_any s (by omega) a1 N W).mono (H2 W))
    have C4 := fun (W : World) => Lib.hid ((mixedR_any s (by omega) a1 N W).mono (H2 W))
    clear H1 H2
    subst hN
    go_enter Try.func4, Try.ntmps4
    go_wp2_with fail
    refine (C1 _).out.mono ?_
    rintro e w1 ⟨A1, c1, rfl, _, li1, b1, _⟩
    go_wp2_with fail
    refine (C2 _).out.mono ?_
    rintro e w2 ⟨A2, c2, rfl, _, li2, b2, _⟩
    go_wp2_with fail
    refine (C3 _).out.mono ?_
    rintro e w3 ⟨A3, c3, rfl, _, li3, b3, _⟩
    go_wp2_with fail
    refine (C4 _).out.mono ?_
    rintro e w4 ⟨A4, c4, rfl, _, li4, b4, _⟩
    have L1 := Lib.hid (((li1.below b2).below b3).below b4)
    have L2 := Lib.hid ((li2.below b3).below b4)
    have L3 := Lib.hid (li3.below b4)
    have L4 := Lib.hid li4
    have B4 := Lib.hid (bel_trans (bel_trans (bel_trans b1 b2) b3) b4)
    clear li1 li2 li3 li4 b1 b2 b3 b4 C1 C2 C3 C4
    go_wp2_with fail
    refine (equ_same L1.out L2.out rfl).mono ?_
    rintro e w5 ⟨rfl, b5⟩
    have K3 := Lib.hid (L3.out.below b5)
    have K4 := Lib.hid (L4.out.below b5)
    have B5 := Lib.hid (bel_trans B4.out b5)
    clear L1 L2 L3 L4 b5 B4
    go_wp2_with fail
    refine (equ_same K3.out K4.out rfl).mono ?_
    rintro e w6 ⟨rfl, b6⟩
    have B6 := Lib.hid (bel_trans B5.out b6)
    clear K3 K4 b6 B5
    go_wp2_with fail
    refine (awake_any _).mono ?_
    rintro e w' ⟨rfl, b7⟩
    go_wp2
    go_ret
    exact ⟨rfl, bel_trans B6.out b7⟩
  · obtain ⟨N, hN⟩ : ∃ N : Int, N = a2 := ⟨_, rfl⟩
    subst hN
    by_cases h5 : 5000 < N
    · have d0 : decide (N > 5000) = true := decide_eq_true h5
      have d1 : decide (5000 < N) = true := decide_eq_true h5
      have d2 : decide (N ≤ 65536) = false := decide_eq_false (by omega)
      have d4 : ¬ N ≤ 65536 := by omega
      obtain ⟨er1, m1, l1, H1⟩ := mk_same a1 N (rdL a1 N.toNat) (by simp [rdL])
      obtain ⟨er2, m2, l2, H2⟩ := mk_same a1 N (mxL s a1 N.toNat) (by simp [mxL])
      have C1 := fun (W : World) => Lib.hid ((round_any a1 N W).mono (H1 W))
      have C2 := fun (W : World) => Lib.hid ((roundR_any a1 N W).mono (H1 W))
      have C3 := fun (W : World) => Lib.hid ((mixed_any s (by omega) a1 N W).mono (H2 W))
      have C4 := fun (W : World) => Lib.hid ((mixedR_any s (by omega) a1 N W).mono (H2 W))
      clear H1 H2
      go_enter Try.func4, Try.ntmps4
      go_wp2_with fail
      refine (C1 _).out.mono ?_
      rintro e w1 ⟨A1, c1, rfl, _, li1, b1, _⟩
      go_wp2_with fail
      refine (C2 _).out.mono ?_
      rintro e w2 ⟨A2, c2, rfl, _, li2, b2, _⟩
      go_wp2_with fail
      refine (C3 _).out.mono ?_
      rintro e w3 ⟨A3, c3, rfl, _, li3, b3, _⟩
      go_wp2_with fail
      refine (C4 _).out.mono ?_
      rintro e w4 ⟨A4, c4, rfl, _, li4, b4, _⟩
      have L1 := Lib.hid (((li1.below b2).below b3).below b4)
      have L2 := Lib.hid ((li2.below b3).below b4)
      have L3 := Lib.hid (li3.below b4)
      have L4 := Lib.hid li4
      have B4 := Lib.hid (bel_trans (bel_trans (bel_trans b1 b2) b3) b4)
      clear li1 li2 li3 li4 b1 b2 b3 b4 C1 C2 C3 C4
      go_wp2_with fail
      refine (equ_same L1.out L2.out rfl).mono ?_
      rintro e w5 ⟨rfl, b5⟩
      have K3 := Lib.hid (L3.out.below b5)
      have K4 := Lib.hid (L4.out.below b5)
      have B5 := Lib.hid (bel_trans B4.out b5)
      clear L1 L2 L3 L4 b5 B4
      go_wp2_with fail
      refine (equ_same K3.out K4.out rfl).mono ?_
      rintro e w6 ⟨rfl, b6⟩
      have B6 := Lib.hid (bel_trans B5.out b6)
      clear K3 K4 b6 B5
      go_wp2_with fail
      refine (awake_any _).mono ?_
      rintro e w' ⟨rfl, b7⟩
      go_wp2
      go_ret
      exact ⟨rfl, bel_trans B6.out b7⟩
    · have d0 : decide (N > 5000) = false := decide_eq_false h5
      have d1 : decide (5000 < N) = false := decide_eq_false h5
      obtain ⟨er1, m1, l1, H1⟩ := mk_same a1 N (rdL a1 N.toNat) (by simp [rdL])
      obtain ⟨er2, m2, l2, H2⟩ := mk_same a1 N (mxL s a1 N.toNat) (by simp [mxL])
      have C1 := fun (W : World) => Lib.hid ((round_any a1 N W).mono (H1 W))
      have C2 := fun (W : World) => Lib.hid ((roundR_any a1 N W).mono (H1 W))
      have C3 := fun (W : World) => Lib.hid ((mixed_any s (by omega) a1 N W).mono (H2 W))
      have C4 := fun (W : World) => Lib.hid ((mixedR_any s (by omega) a1 N W).mono (H2 W))
      clear H1 H2
      go_enter Try.func4, Try.ntmps4
      go_wp2_with fail
      refine (C1 _).out.mono ?_
      rintro e w1 ⟨A1, c1, rfl, _, li1, b1, _⟩
      go_wp2_with fail
      refine (C2 _).out.mono ?_
      rintro e w2 ⟨A2, c2, rfl, _, li2, b2, _⟩
      go_wp2_with fail
      refine (C3 _).out.mono ?_
      rintro e w3 ⟨A3, c3, rfl, _, li3, b3, _⟩
      go_wp2_with fail
      refine (C4 _).out.mono ?_
      rintro e w4 ⟨A4, c4, rfl, _, li4, b4, _⟩
      have L1 := Lib.hid (((li1.below b2).below b3).below b4)
      have L2 := Lib.hid ((li2.below b3).below b4)
      have L3 := Lib.hid (li3.below b4)
      have L4 := Lib.hid li4
      have B4 := Lib.hid (bel_trans (bel_trans (bel_trans b1 b2) b3) b4)
      clear li1 li2 li3 li4 b1 b2 b3 b4 C1 C2 C3 C4
      go_wp2_with fail
      refine (equ_same L1.out L2.out rfl).mono ?_
      rintro e w5 ⟨rfl, b5⟩
      have K3 := Lib.hid (L3.out.below b5)
      have K4 := Lib.hid (L4.out.below b5)
      have B5 := Lib.hid (bel_trans B4.out b5)
      clear L1 L2 L3 L4 b5 B4
      go_wp2_with fail
      refine (equ_same K3.out K4.out rfl).mono ?_
      rintro e w6 ⟨rfl, b6⟩
      have B6 := Lib.hid (bel_trans B5.out b6)
      clear K3 K4 b6 B5
      go_wp2_with fail
      refine (awake_any _).mono ?_
      rintro e w' ⟨rfl, b7⟩
      go_wp2
      go_ret
      exact ⟨rfl, bel_trans B6.out b7⟩
end Wk
end Go.Proofs.Ytnoggggbghkgkaa
