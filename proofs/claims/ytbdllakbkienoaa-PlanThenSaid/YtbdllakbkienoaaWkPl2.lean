/- PlanThen: the walk. Conditions: those of the given row. -/
import Derived.Test.YtbdllakbkienoaaPlX
namespace Go.Proofs.Ytbdllakbkienoaa
open Go.RowKit Go.Sort
set_option linter.unusedVariables false
set_option linter.unusedSimpArgs false
namespace Wk
open Pl
open Om (addr_lit bel_alloc bel_trans below_drewN ret_eq Asc)
set_option maxRecDepth 100000 in
set_option maxHeartbeats 2000000 in
theorem walk_planThen (a0 : Option Addr) (a0n a0c : Nat) (a0v : List Pl.Rc) (a1 : Option Addr) (a1n a1c : Nat) (a1v : List Pl.Rc) (w : World) (a0e : a0v.length = a0n) (a0m : a0n ≤ maxLen) (a0r : Pl.Rd w a0 a0v) (a0b : Pl.Bd a0v) (a0z : a0 = none → a0c = 0) (a0s : a0n * 40 ≤ 140737488351232) (a0y : a0n ≤ a0c) (a1e : a1v.length = a1n) (a1m : a1n ≤ maxLen) (a1r : Pl.Rd w a1 a1v) (a1b : Pl.Bd a1v) (a1z : a1 = none → a1c = 0) (a1s : a1n * 40 ≤ 140737488351232) (a1y : a1n ≤ a1c) :
    Calls Try.prog 5 #[.slice a0 a0n a0c, .slice a1 a1n a1c] w fun e w' => e = .returned (.bool true) ∧ Below w.heap.size w w' := by
  have HR := Lib.hid a0r; have HZ := Lib.hid a0z; have HL := Lib.hid a0e
  have HR2 := Lib.hid a1r; have HZ2 := Lib.hid a1z; have HL2 := Lib.hid a1e
  clear a0r a0b a0z a0e a0s a0m a1r a1b a1z a1e a1s a1m
  by_cases hbig : 60 < a0n
  · have t0 : decide ((60 : Int) < a0n) = true := decide_eq_true (by omega)
    go_enter Try.func5, Try.ntmps5
    go_wp2_with fail
    refine (known_any _).mono ?_
    rintro r W1 ⟨rfl, b1⟩
    go_wp2
    go_ret
    exact ⟨rfl, b1⟩
  have t0 : decide ((60 : Int) < a0n) = false := decide_eq_false (by omega)
  have h60 : a0n ≤ 60 := by omega
  clear hbig
  by_cases hbig : 60 < a1n
  · have t1 : decide ((60 : Int) < a1n) = true := decide_eq_true (by omega)
    go_enter Try.func5, Try.ntmps5
    go_wp2_with fail
    refine (known_any _).mono ?_
    rintro r W1 ⟨rfl, b1⟩
    go_wp2
    go_ret
    exact ⟨rfl, b1⟩
  have t1 : decide ((60 : Int) < a1n) = false := decide_eq_false (by omega)
  have h61 : a1n ≤ 60 := by omega
  clear hbig
  have Lt := thR_len a0v a1v
  rw [HL.out, HL2.out] at Lt
  go_enter Try.func5, Try.ntmps5
  go_wp2_with (first | (at_builtin; refine Pl.appAll rfl (.tmp 21) (.tmp 22) rfl w w.heap.size rfl a0 a0n a0c a0v rfl rfl HL.out (by omega) HR.out HZ.out ?_; intro v1 w1 h1 b1; obtain ⟨XA, XC, e1, _, hxc, xr, xz⟩ := row_use h1; subst e1; have XR := Lib.hid xr; have XZ := Lib.hid xz; clear xr xz h1) | (at_builtin; refine Pl.appAll rfl (.tmp 24) (.tmp 25) rfl w1 w1.heap.size rfl a1 a1n a1c a1v rfl rfl HL2.out (by omega) (HR2.out.below b1) HZ2.out ?_; intro v2 w2 h2 b2; obtain ⟨YA, YC, e2, _, hyc, yr, yz⟩ := row_use h2; subst e2; have YR := Lib.hid yr; have YZ := Lib.hid yz; clear yr yz h2; have b12 := bel_trans b1 b2))
  refine (thenP XA YA a0n XC a1n YC a0v a1v w2 HL.out HL2.out (by omega) (by omega) hyc YZ.out (XR.out.below b2) YR.out).mono ?_
  rintro r W2 ⟨va, rfl, oa, b3⟩
  obtain ⟨AA, AC, rfl, la, _, ra, _⟩ := row_use oa
  have WA := Lib.hid (wq_changes oa)
  have RA := Lib.hid ra; clear ra oa
  obtain ⟨q, hq⟩ : ∃ q, (thR a0v a1v).length = q := ⟨_, rfl⟩
  rw [hq] at WA Lt
  rw [hq]
  have LQ := Lib.hid hq; clear hq la
  have q3 := bel_trans b12 b3
  go_wp2_with fail
  refine (thenR a0 a1 a0n a0c a1n a1c a0v a1v W2 HL.out HL2.out (by omega) (by omega) (HR.out.below q3) (HR2.out.below q3)).mono ?_
  rintro r W3 ⟨vb, rfl, ob, b4⟩
  obtain ⟨BA, BC, rfl, lb, _, rb, _⟩ := row_use ob
  have RB := Lib.hid rb; clear rb ob
  rw [LQ.out]
  go_wp2_with fail
  refine (sameR_any AA BA q AC q BC _ _ W3 LQ.out LQ.out (by omega) (by omega) (RA.out.below b4) RB.out).mono ?_
  simp only [decide_true]
  rintro r W4 ⟨rfl, b5⟩
  have b45 := bel_trans b4 b5
  have WA4 := Lib.hid (WA.out.below b45)
  have q5 := bel_trans b3 b45
  clear RA RB WA b3 b4 b5 q3 lb
  go_wp2
  go_loopw [11] (fun i wr => ∃ j : Nat, j ≤ q ∧ i = .int .i64 j ∧ Hid (Wq wr AA 5 q w2.heap.size) ∧ Below w2.heap.size w2 wr) (fun i _ => (q - intOf i).toNat)
  case atStart => exact ⟨0, Nat.zero_le _, rfl, WA4, q5⟩
  case round =>
    clear WA4 q5 b45
    obtain ⟨j, hj, rfl, WQ, bel⟩ := hrel
    by_cases hlt : j < q
    · have u0 : decide ((j : Int) < q) = true := decide_eq_true (by omega)
      have hji : (j : Int) < q := by omega
      obtain ⟨g, rfl, hg, hc⟩ := WQ.out j hlt
      obtain ⟨⟨z0, c0⟩, f0⟩ := hc 0 (by omega)
      obtain ⟨⟨z1, c1⟩, f1⟩ := hc 1 (by omega)
      obtain ⟨⟨z2, c2⟩, f2⟩ := hc 2 (by omega)
      obtain ⟨⟨z3, c3⟩, f3⟩ := hc 3 (by omega)
      obtain ⟨⟨z4, c4⟩, f4⟩ := hc 4 (by omega)
      simp only [Nat.add_zero] at c0 f0
      clear hc
      go_wp2
      go_roundw
      case rel => exact ⟨j + 1, by omega, by go_num, Lib.hid (((((WQ.out.set _ _).set _ _).set _ _).set _ _).set _ _), ((((bel.setCell hg _).setCell hg _).setCell hg _).setCell hg _).setCell hg _⟩
      case measure => simp [intOf]; omega
    · obtain rfl : j = q := by omega
      have u0 : decide ((j : Int) < j) = false := decide_eq_false (by omega)
      go_wp2_with fail
      refine (sameR_any XA a0 a0n XC a0n a0c _ _ wr HL.out HL.out (by omega) (by omega) (XR.out.below (bel_trans b2 bel)) (HR.out.below (bel_trans b12 bel))).mono ?_
      simp only [decide_true]
      rintro r W5 ⟨rfl, b6⟩
      go_wp2_with fail
      refine (sameR_any YA a1 a1n YC a1n a1c _ _ W5 HL2.out HL2.out (by omega) (by omega) (YR.out.below (bel_trans bel b6)) (HR2.out.below (bel_trans b12 (bel_trans bel b6)))).mono ?_
      simp only [decide_true]
      rintro r W6 ⟨rfl, b7⟩
      go_wp2
      go_ret
      exact ⟨rfl, bel_trans b12 (bel_trans bel (bel_trans b6 b7))⟩
end Wk
end Go.Proofs.Ytbdllakbkienoaa
