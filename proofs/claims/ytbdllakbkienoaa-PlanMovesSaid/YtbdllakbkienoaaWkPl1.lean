/- PlanMoves: the walk. Conditions: those of the given row. -/
import Derived.Test.YtbdllakbkienoaaPlE
namespace Go.Proofs.Ytbdllakbkienoaa
open Go.RowKit Go.Sort
set_option linter.unusedVariables false
set_option linter.unusedSimpArgs false
namespace Wk
open Pl
open Om (addr_lit bel_alloc bel_trans below_drewN ret_eq Asc)
set_option maxRecDepth 100000 in
set_option maxHeartbeats 2000000 in
theorem walk_planMoves (a0 : Option Addr) (a0n a0c : Nat) (a0v : List Om.Pr) (a1Lo : Int) (a1Hi : Int) (a2 : Int) (w : World) (a0e : a0v.length = a0n) (a0m : a0n ≤ maxLen) (a0r : Om.Rd w a0 a0v) (a0b : Om.Bd a0v) (a0z : a0 = none → a0c = 0) (a0s : a0n * 16 ≤ 140737488351232) (a0y : a0n ≤ a0c) (a1Lol : 0 ≤ a1Lo) (a1Loh : a1Lo ≤ 18446744073709551615) (a1Hil : 0 ≤ a1Hi) (a1Hih : a1Hi ≤ 18446744073709551615) (a2l : 0 ≤ a2) (a2h : a2 ≤ 18446744073709551615) :
    Calls Try.prog 3 #[.slice a0 a0n a0c, .agg #[.int .u64 a1Lo, .int .u64 a1Hi], .int .u64 a2] w fun e w' => e = .returned (.bool true) ∧ Below w.heap.size w w' := by
  have b0 : Below w.heap.size w (w.alloc (.cells #[.int .u64 a1Lo, .int .u64 a1Hi] 25)) := bel_alloc (Below.refl _ _) _
  have s0 : (w.alloc (.cells #[.int .u64 a1Lo, .int .u64 a1Hi] 25)).cell? ⟨w.heap.size, 0, none⟩ = some (.int .u64 a1Lo) := by simp
  have s1 : (w.alloc (.cells #[.int .u64 a1Lo, .int .u64 a1Hi] 25)).cell? ⟨w.heap.size, 1, none⟩ = some (.int .u64 a1Hi) := by simp
  have hsz : w.heap.size < (w.alloc (.cells #[.int .u64 a1Lo, .int .u64 a1Hi] 25)).heap.size := by simp
  have HR := Lib.hid (a0r.below b0); have HB := Lib.hid a0b; have HZ := Lib.hid a0z; have HL := Lib.hid a0e
  clear a0r a0b a0z a0e a0s a0m
  by_cases hbig : 60 < a0n
  · have t0 : decide ((60 : Int) < a0n) = true := decide_eq_true (by omega)
    go_enter Try.func3, Try.ntmps3
    go_wp2_with fail
    refine (known_any _).mono ?_
    rintro r W1 ⟨rfl, b1⟩
    go_wp2
    go_ret
    exact ⟨rfl, bel_trans b0 b1⟩
  · have t0 : decide ((60 : Int) < a0n) = false := decide_eq_false (by omega)
    have h60 : a0n ≤ 60 := by omega
    clear hbig
    have Lm := mvR_len a0v a1Lo a1Hi a2
    have Ld := deR_len a0v a1Lo a1Hi
    rw [HL.out] at Lm Ld
    go_enter Try.func3, Try.ntmps3
    go_upto_region 3 with fail
    generalize w.alloc (.cells #[.int .u64 a1Lo, .int .u64 a1Hi] 25) = W0 at *
    go_wp2_with (at_builtin; refine Om.appAll rfl (.tmp 20) (.tmp 21) rfl W0 a0 a0n a0c a0v rfl rfl HL.out (by omega) HR.out HZ.out ?_; intro v1 w1 h1 b1; obtain ⟨XA, XC, e1, _, hxc, xr, xz⟩ := prow_use h1; subst e1; have XR := Lib.hid xr; have XZ := Lib.hid xz; clear xr xz h1; have p0 := (b1.cell (p := ⟨w.heap.size, 0, none⟩) hsz).trans s0; have p1 := (b1.cell (p := ⟨w.heap.size, 1, none⟩) hsz).trans s1)
    have hsz1 := Nat.lt_of_lt_of_le hsz b1.size
    refine (moveP_any XA a0n XC a0v a1Lo a1Hi a2 w1 HL.out (by omega) hxc XZ.out XR.out HB.out a1Lol a1Loh a1Hil a1Hih a2l a2h).mono ?_
    rintro r W2 ⟨va, rfl, oa, b2⟩
    obtain ⟨AA, AC, rfl, la, _, ra, _⟩ := row_use oa
    have RA := Lib.hid ra; clear ra oa
    replace p0 := (b2.cell (p := ⟨w.heap.size, 0, none⟩) hsz1).trans p0
    replace p1 := (b2.cell (p := ⟨w.heap.size, 1, none⟩) hsz1).trans p1
    have hsz2 := Nat.lt_of_lt_of_le hsz1 b2.size
    have q2 := bel_trans b1 b2
    go_wp2_with fail
    refine (moveR a0 a0n a0c a0v a1Lo a1Hi a2 W2 HL.out (by omega) HZ.out (HR.out.below q2) HB.out a1Lol a1Loh a1Hil a1Hih a2l a2h).mono ?_
    rintro r W3 ⟨vb, rfl, ob, b3⟩
    obtain ⟨BA, BC, rfl, lb, _, rb, _⟩ := row_use ob
    have RB := Lib.hid rb; clear rb ob
    replace p0 := (b3.cell (p := ⟨w.heap.size, 0, none⟩) hsz2).trans p0
    replace p1 := (b3.cell (p := ⟨w.heap.size, 1, none⟩) hsz2).trans p1
    have hsz3 := Nat.lt_of_lt_of_le hsz2 b3.size
    have q3 := bel_trans q2 b3
    have b23 := bel_trans b2 b3
    go_wp2_with fail
    refine (deleteP_any XA a0n XC a0v a1Lo a1Hi W3 HL.out (by omega) (XR.out.below b23) HB.out a1Lol a1Loh a1Hil a1Hih).mono ?_
    rintro r W4 ⟨vc, rfl, oc, b4⟩
    obtain ⟨CA, CC, rfl, lc, _, rc, _⟩ := row_use oc
    have RC := Lib.hid rc; clear rc oc
    replace p0 := (b4.cell (p := ⟨w.heap.size, 0, none⟩) hsz3).trans p0
    replace p1 := (b4.cell (p := ⟨w.heap.size, 1, none⟩) hsz3).trans p1
    have q4 := bel_trans q3 b4
    go_wp2_with fail
    refine (deleteR a0 a0n a0c a0v a1Lo a1Hi W4 HL.out (by omega) HZ.out (HR.out.below q4) HB.out a1Lol a1Loh a1Hil a1Hih).mono ?_
    rintro r W5 ⟨vd, rfl, od, b5⟩
    obtain ⟨DA, DC, rfl, ld, _, rd, _⟩ := row_use od
    have RD := Lib.hid rd; clear rd od p0 p1
    have b34 := bel_trans b3 b4
    have b345 := bel_trans b34 b5
    have b45 := bel_trans b4 b5
    have q5 := bel_trans q4 b5
    go_wp2_with fail
    refine (sameR_any AA BA _ AC _ BC _ _ W5 rfl rfl (by omega) (by omega) (RA.out.below b345) (RB.out.below b45)).mono ?_
    simp only [decide_true]
    rintro r W6 ⟨rfl, b6⟩
    go_wp2_with fail
    refine (sameR_any CA DA _ CC _ DC _ _ W6 rfl rfl (by omega) (by omega) (RC.out.below (bel_trans b5 b6)) (RD.out.below b6)).mono ?_
    simp only [decide_true]
    rintro r W7 ⟨rfl, b7⟩
    have b67 := bel_trans b6 b7
    go_wp2_with fail
    refine (Om.sameR_any XA a0 _ XC _ a0c _ _ W7 HL.out HL.out (by omega) (by omega) (XR.out.below (bel_trans b23 (bel_trans b45 b67))) (HR.out.below (bel_trans q5 b67))).mono ?_
    simp only [decide_true]
    rintro r W8 ⟨rfl, b8⟩
    go_wp2
    go_ret
    exact ⟨rfl, bel_trans b0 (bel_trans (bel_trans q5 b67) b8)⟩
end Wk
end Go.Proofs.Ytbdllakbkienoaa
