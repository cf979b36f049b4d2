/- PlanApplies: the walk. Conditions: those of the given row. -/
import Derived.Test.YtbdllakbkienoaaPlX
namespace Go.Proofs.Ytbdllakbkienoaa
open Go.RowKit Go.Sort
set_option linter.unusedVariables false
set_option linter.unusedSimpArgs false
namespace Wk
open Pl
open Om (addr_lit bel_alloc bel_trans below_drewN ret_eq Asc)
theorem nT_form (l : List Rc) : ∃ n1 n2 n3 e : Int, nTl l = .tuple #[.int .i64 n1, .int .i64 n2, .int .i64 n3, .int .i64 e] := by
  unfold nTl nT
  split
  · exact ⟨_, _, _, _, rfl⟩
  · exact ⟨_, _, _, _, rfl⟩
set_option maxRecDepth 100000 in
set_option maxHeartbeats 4000000 in
theorem walk_planApplies (a0 : Option Addr) (a0n a0c : Nat) (a0v : List Om.Pr) (a1 : Option Addr) (a1n a1c : Nat) (a1v : List Pl.Rc) (w : World) (a0e : a0v.length = a0n) (a0m : a0n ≤ maxLen) (a0r : Om.Rd w a0 a0v) (a0b : Om.Bd a0v) (a0z : a0 = none → a0c = 0) (a0s : a0n * 16 ≤ 140737488351232) (a0y : a0n ≤ a0c) (a1e : a1v.length = a1n) (a1m : a1n ≤ maxLen) (a1r : Pl.Rd w a1 a1v) (a1b : Pl.Bd a1v) (a1z : a1 = none → a1c = 0) (a1s : a1n * 40 ≤ 140737488351232) (a1y : a1n ≤ a1c) :
    Calls Try.prog 4 #[.slice a0 a0n a0c, .slice a1 a1n a1c] w fun e w' => e = .returned (.bool true) ∧ Below w.heap.size w w' := by
  have HR := Lib.hid a0r; have HZ := Lib.hid a0z; have HL := Lib.hid a0e; have HB := Lib.hid a0b
  have HR2 := Lib.hid a1r; have HZ2 := Lib.hid a1z; have HL2 := Lib.hid a1e; have HB2 := Lib.hid a1b
  clear a0r a0b a0z a0e a0s a0m a1r a1b a1z a1e a1s a1m
  by_cases hbig : 60 < a0n
  · have t0 : decide ((60 : Int) < a0n) = true := decide_eq_true (by omega)
    go_enter Try.func4, Try.ntmps4
    go_wp2_with fail
    refine (known_any _).mono ?_
    rintro r W1 ⟨rfl, b1⟩
    go_wp2
    go_ret
    exact ⟨rfl, b1⟩
  have t0 : decide ((60 : Int) < a0n) = false := decide_eq_false (by omega)
  have h60 : a0n ≤ 60 := by omega
  clear hbig
  by_cases hbig : 60 < a1n
  · have t1 : decide ((60 : Int) < a1n) = true := decide_eq_true (by omega)
    go_enter Try.func4, Try.ntmps4
    go_wp2_with fail
    refine (known_any _).mono ?_
    rintro r W1 ⟨rfl, b1⟩
    go_wp2
    go_ret
    exact ⟨rfl, b1⟩
  have t1 : decide ((60 : Int) < a1n) = false := decide_eq_false (by omega)
  have h61 : a1n ≤ 60 := by omega
  clear hbig
  have La := apR_len a0v a1v
  have Li := ivR_len a1v
  rw [HL.out, HL2.out] at La
  rw [HL2.out] at Li
  go_enter Try.func4, Try.ntmps4
  go_wp2_with (first | (at_builtin; refine Om.appAll rfl (.tmp 32) (.tmp 33) rfl w a0 a0n a0c a0v rfl rfl HL.out (by omega) HR.out HZ.out ?_; intro v1 w1 h1 b1; obtain ⟨XA, XC, e1, _, hxc, xr, xz⟩ := prow_use h1; subst e1; have XR := Lib.hid xr; have XZ := Lib.hid xz; clear xr xz h1) | (at_builtin; refine Pl.appAll rfl (.tmp 35) (.tmp 36) rfl w1 w1.heap.size rfl a1 a1n a1c a1v rfl rfl HL2.out (by omega) (HR2.out.below b1) HZ2.out ?_; intro v2 w2 h2 b2; obtain ⟨YA, YC, e2, _, hyc, yr, yz⟩ := row_use h2; subst e2; have YR := Lib.hid yr; have YZ := Lib.hid yz; clear yr yz h2; have b12 := bel_trans b1 b2))
  refine (applyP XA YA a0n XC a1n YC a0v a1v w2 HL.out HL2.out (by omega) (by omega) hyc YZ.out (XR.out.below b2) YR.out).mono ?_
  rintro r W2 ⟨va, rfl, oa, b3⟩
  obtain ⟨AA, AC, rfl, la, _, ra, _⟩ := prow_use oa
  have WA := Lib.hid (wq_pairs oa)
  have RA := Lib.hid ra; clear ra oa
  obtain ⟨q, hq⟩ : ∃ q, (apR a0v a1v).length = q := ⟨_, rfl⟩
  rw [hq] at WA La
  rw [hq]
  have LQ := Lib.hid hq; clear hq la
  have q3 := bel_trans b12 b3
  go_wp2_with fail
  refine (applyR a0 a1 a0n a0c a1n a1c a0v a1v W2 HL.out HL2.out (by omega) (by omega) (HR.out.below q3) (HR2.out.below q3) HZ.out HB.out HB2.out).mono ?_
  rintro r W3 ⟨vb, rfl, ob, b4⟩
  obtain ⟨BA, BC, rfl, lb, _, rb, _⟩ := prow_use ob
  have RB := Lib.hid rb; clear rb ob
  rw [LQ.out]
  go_wp2_with fail
  refine (Om.sameR_any AA BA q AC q BC _ _ W3 LQ.out LQ.out (by omega) (by omega) (RA.out.below b4) RB.out).mono ?_
  simp only [decide_true]
  rintro r W4 ⟨rfl, b5⟩
  have b34 := bel_trans b3 (bel_trans b4 b5)
  have WA4 := Lib.hid (WA.out.below (bel_trans b4 b5))
  clear RA RB WA b3 b4 b5 q3 lb
  go_wp2_with fail
  refine (chkP YA a1n YC a1v W4 HL2.out (by omega) (YR.out.below b34)).mono ?_
  rintro r W5 ⟨rfl, b6⟩
  have b36 := bel_trans b34 b6
  go_wp2_with fail
  refine (chkR a1 a1n a1c a1v W5 HL2.out (by omega) (HR2.out.below (bel_trans b12 b36))).mono ?_
  rintro r W6 ⟨rfl, b7⟩
  have b37 := bel_trans b36 b7
  have WA6 := Lib.hid (WA4.out.below (bel_trans b6 b7))
  clear WA4 b6 b7 b36 b34
  go_wp2_with fail
  refine (invP YA a1n YC a1v W6 HL2.out (by omega) (YR.out.below b37)).mono ?_
  rintro r W7 ⟨vc, rfl, oc, b8⟩
  obtain ⟨CA, CC, rfl, lc, _, rc, _⟩ := row_use oc
  have WC := Lib.hid (wq_changes oc)
  have RC := Lib.hid rc; clear rc oc
  obtain ⟨q2, hq2⟩ : ∃ q2, (ivR a1v).length = q2 := ⟨_, rfl⟩
  rw [hq2] at WC Li
  rw [hq2]
  have LQ2 := Lib.hid hq2; clear hq2 lc
  have b38 := bel_trans b37 b8
  have q38 := bel_trans b12 b38
  go_wp2_with fail
  refine (invR a1 a1n a1c a1v W7 HL2.out (by omega) (HR2.out.below q38)).mono ?_
  rintro r W8 ⟨vd, rfl, od, b9⟩
  obtain ⟨DA, DC, rfl, ld, _, rd, _⟩ := row_use od
  have RD := Lib.hid rd; clear rd od
  rw [LQ2.out]
  go_wp2_with fail
  refine (sameR_any CA DA q2 CC q2 DC _ _ W8 LQ2.out LQ2.out (by omega) (by omega) (RC.out.below b9) RD.out).mono ?_
  simp only [decide_true]
  rintro r W9 ⟨rfl, b10⟩
  have WC9 := Lib.hid (WC.out.below (bel_trans b9 b10))
  have WA9 := Lib.hid (WA6.out.below (bel_trans b8 (bel_trans b9 b10)))
  have q9 := bel_trans b38 (bel_trans b9 b10)
  have base2 : w2.heap.size ≤ W6.heap.size := b37.size
  clear RC RD WC WA6 b8 b9 b10 b37 b38 q38 ld
  go_wp2
  go_loopw [13] (fun i wr => ∃ j : Nat, j ≤ q ∧ i = .int .i64 j ∧ Hid (Wq wr AA 2 q w2.heap.size) ∧ Hid (Wq wr CA 5 q2 W6.heap.size) ∧ Below w2.heap.size w2 wr) (fun i _ => (q - intOf i).toNat)
  case atStart => exact ⟨0, Nat.zero_le _, rfl, WA9, WC9, q9⟩
  case round =>
    clear WA9 WC9 q9
    obtain ⟨j, hj, rfl, WQ, WC, bel⟩ := hrel
    by_cases hlt : j < q
    · have u0 : decide ((j : Int) < q) = true := decide_eq_true (by omega)
      have hji : (j : Int) < q := by omega
      obtain ⟨g, rfl, hg, hc⟩ := WQ.out j hlt
      obtain ⟨⟨z0, c0⟩, f0⟩ := hc 0 (by omega)
      obtain ⟨⟨z1, c1⟩, f1⟩ := hc 1 (by omega)
      simp only [Nat.add_zero] at c0 f0
      clear hc
      go_wp2
      go_roundw
      case rel => exact ⟨j + 1, by omega, by go_num, Lib.hid ((WQ.out.set _ _).set _ _), Lib.hid ((WC.out.set _ _).set _ _), (bel.setCell hg _).setCell hg _⟩
      case measure => simp [intOf]; omega
    · obtain rfl : j = q := by omega
      have u0 : decide ((j : Int) < j) = false := decide_eq_false (by omega)
      clear WQ
      go_wp2
      go_loopw [14] (fun i wr => ∃ j : Nat, j ≤ q2 ∧ i = .int .i64 j ∧ Hid (Wq wr CA 5 q2 W6.heap.size) ∧ Below w2.heap.size w2 wr) (fun i _ => (q2 - intOf i).toNat)
      case atStart => exact ⟨0, Nat.zero_le _, rfl, WC, bel⟩
      case round =>
        clear WC bel
        obtain ⟨k, hk, rfl, WQ, bel⟩ := hrel
        by_cases hlt : k < q2
        · have u1 : decide ((k : Int) < q2) = true := decide_eq_true (by omega)
          have hji : (k : Int) < q2 := by omega
          obtain ⟨g, rfl, hg6, hc⟩ := WQ.out k hlt
          have hg := Nat.le_trans base2 hg6
          obtain ⟨⟨z0, c0⟩, f0⟩ := hc 0 (by omega)
          obtain ⟨⟨z1, c1⟩, f1⟩ := hc 1 (by omega)
          obtain ⟨⟨z2, c2⟩, f2⟩ := hc 2 (by omega)
          obtain ⟨⟨z3, c3⟩, f3⟩ := hc 3 (by omega)
          obtain ⟨⟨z4, c4⟩, f4⟩ := hc 4 (by omega)
          simp only [Nat.add_zero] at c0 f0
          clear hc
          go_wp2
          go_roundw
          case rel => exact ⟨k + 1, by omega, by go_num, Lib.hid (((((WQ.out.set _ _).set _ _).set _ _).set _ _).set _ _), ((((bel.setCell hg _).setCell hg _).setCell hg _).setCell hg _).setCell hg _⟩
          case measure => simp [intOf]; omega
        · obtain rfl : k = q2 := by omega
          have u1 : decide ((k : Int) < k) = false := decide_eq_false (by omega)
          clear WQ
          obtain ⟨n1, n2, n3, ee, hn⟩ := nT_form a1v
          go_wp2_with fail
          refine (cntP YA a1n YC a1v wr HL2.out (by omega) (YR.out.below bel)).mono ?_
          rw [hn]
          rintro r X1 ⟨rfl, b11⟩
          have bel11 := bel_trans bel b11
          go_wp2_with fail
          refine (cntR a1 a1n a1c a1v X1 HL2.out (by omega) (HR2.out.below (bel_trans b12 bel11))).mono ?_
          rw [hn]
          rintro r X2 ⟨rfl, b12'⟩
          have bel12 := bel_trans bel11 b12'
          go_wp2_with fail
          refine (Om.sameR_any XA a0 a0n XC a0n a0c _ _ X2 HL.out HL.out (by omega) (by omega) (XR.out.below (bel_trans b2 bel12)) (HR.out.below (bel_trans b12 bel12))).mono ?_
          simp only [decide_true]
          rintro r X3 ⟨rfl, b13⟩
          have bel13 := bel_trans bel12 b13
          go_wp2_with fail
          refine (sameR_any YA a1 a1n YC a1n a1c _ _ X3 HL2.out HL2.out (by omega) (by omega) (YR.out.below bel13) (HR2.out.below (bel_trans b12 bel13))).mono ?_
          simp only [decide_true]
          rintro r X4 ⟨rfl, b14⟩
          go_wp2
          go_ret
          exact ⟨rfl, bel_trans b12 (bel_trans bel13 b14)⟩
end Wk
end Go.Proofs.Ytbdllakbkienoaa
