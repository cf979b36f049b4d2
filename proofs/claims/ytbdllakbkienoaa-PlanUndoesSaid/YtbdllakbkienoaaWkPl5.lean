/- PlanUndoes: the walk. Conditions: those of the given row. -/
import Derived.Test.YtbdllakbkienoaaPlX
import Derived.Test.YtbdllakbkienoaaPlLw
namespace Go.Proofs.Ytbdllakbkienoaa
open Go.RowKit Go.Sort
set_option linter.unusedVariables false
set_option linter.unusedSimpArgs false
namespace Wk
open Pl
open Om (addr_lit bel_alloc bel_trans below_drewN ret_eq Asc)
set_option maxRecDepth 100000 in
set_option maxHeartbeats 4000000 in
theorem walk_planUndoes (a0 : Option Addr) (a0n a0c : Nat) (a0v : List Om.Pr) (a1 : Option Addr) (a1n a1c : Nat) (a1v : List Pl.Rc) (w : World) (a0e : a0v.length = a0n) (a0m : a0n ≤ maxLen) (a0r : Om.Rd w a0 a0v) (a0b : Om.Bd a0v) (a0z : a0 = none → a0c = 0) (a0s : a0n * 16 ≤ 140737488351232) (a0y : a0n ≤ a0c) (a1e : a1v.length = a1n) (a1m : a1n ≤ maxLen) (a1r : Pl.Rd w a1 a1v) (a1b : Pl.Bd a1v) (a1z : a1 = none → a1c = 0) (a1s : a1n * 40 ≤ 140737488351232) (a1y : a1n ≤ a1c) :
    Calls Try.prog 8 #[.slice a0 a0n a0c, .slice a1 a1n a1c] w fun e w' => e = .returned (.bool true) ∧ Below w.heap.size w w' := by
  have HR := Lib.hid a0r; have HZ := Lib.hid a0z; have HL := Lib.hid a0e; have HB := Lib.hid a0b
  have HR2 := Lib.hid a1r; have HZ2 := Lib.hid a1z; have HL2 := Lib.hid a1e; have HB2 := Lib.hid a1b
  clear a0r a0b a0z a0e a0s a0m a1r a1b a1z a1e a1s a1m
  by_cases hbig : 60 < a0n
  · have t0 : decide ((60 : Int) < a0n) = true := decide_eq_true (by omega)
    go_enter Try.func8, Try.ntmps8
    go_wp2_with fail
    refine (known_any _).mono ?_
    rintro r W1 ⟨rfl, b1⟩
    go_wp2
    go_ret
    exact ⟨rfl, b1⟩
  have t0 : decide ((60 : Int) < a0n) = false := decide_eq_false (by omega)
  have h60 : a0n ≤ 60 := by omega
  clear hbig
  by_cases hbig : 60 < a1n
  · have t1 : decide ((60 : Int) < a1n) = true := decide_eq_true (by omega)
    go_enter Try.func8, Try.ntmps8
    go_wp2_with fail
    refine (known_any _).mono ?_
    rintro r W1 ⟨rfl, b1⟩
    go_wp2
    go_ret
    exact ⟨rfl, b1⟩
  have t1 : decide ((60 : Int) < a1n) = false := decide_eq_false (by omega)
  have h61 : a1n ≤ 60 := by omega
  clear hbig
  have La := apR_len a0v a1v
  rw [HL.out, HL2.out] at La
  have CA := Lib.hid (applyP a0 a1 a0n a0c a1n a1c a0v a1v w HL.out HL2.out (by omega) (by omega) a1y HZ2.out HR.out HR2.out)
  by_cases hE : apE a0v a1v = 0
  · have hz := apE_zero hE
    have hu := undo hE
    have hul := undo_len hE
    have hcr := cnt_rev hz.2.1.1
    have hca := cnt_all a1v
    rw [hE] at CA
    have HK := Lib.hid hz.2.1
    have HKR := Lib.hid (chk_rev hz.2.1)
    have HU := Lib.hid hu
    obtain ⟨nb, hnb⟩ : ∃ nb, cnt isB a1v = nb := ⟨_, rfl⟩
    obtain ⟨ng, hng⟩ : ∃ ng, cnt isG a1v = ng := ⟨_, rfl⟩
    obtain ⟨ns, hns⟩ : ∃ ns, cnt isS a1v = ns := ⟨_, rfl⟩
    obtain ⟨na, hna⟩ : ∃ na, (apR a0v a1v).length = na := ⟨_, rfl⟩
    rw [hnb, hng, hns, HL2.out] at hca
    rw [hng, hnb, hna, HL.out] at hul
    rw [hna] at La
    have HNA := Lib.hid hna
    have c1 := hcr.1; have c2 := hcr.2.1; have c3 := hcr.2.2.1
    rw [hnb] at c1; rw [hng] at c2; rw [hns] at c3
    have HC1 := Lib.hid (show nT true a1v = .tuple #[.int .i64 (nb : Nat), .int .i64 (ng : Nat), .int .i64 (ns : Nat), .int .i64 0] by unfold nT; rw [if_pos rfl, hnb, hng, hns])
    have HC2 := Lib.hid (show nT true (a1v.map revR) = .tuple #[.int .i64 (ng : Nat), .int .i64 (nb : Nat), .int .i64 (ns : Nat), .int .i64 0] by unfold nT; rw [if_pos rfl, c1, c2, c3])
    have v1 : (((nb : Int) + ng) + ns != a1n) = false := by
      have : ((nb : Int) + ng) + ns = a1n := by omega
      simp [this]
    have v2 : ((na : Int) == (a0n : Int) + nb - ng) = true := by
      have : (na : Int) = (a0n : Int) + nb - ng := by omega
      simp [this]
    have w1 : nb ≤ 60 := by omega
    have w2 : ng ≤ 60 := by omega
    have w3 : ns ≤ 60 := by omega
    have v3 : ((nb : Int) != nb) = false := by simp
    have v4 : ((ng : Int) != ng) = false := by simp
    have v5 : ((ns : Int) != ns) = false := by simp
    have LR : (a1v.map revR).length = a1n := by rw [List.length_map]; exact HL2.out
    have HLR := Lib.hid LR
    clear hz hu hul hcr hca hnb hng hns hna c1 c2 c3 LR hE
    go_enter Try.func8, Try.ntmps8
    go_wp2_with fail
    refine CA.out.mono ?_
    rintro r W1 ⟨va, rfl, oa, b1⟩
    rw [HNA.out] at oa
    obtain ⟨AA, AC, rfl, la, hac, ra, az⟩ := prow_use oa
    have RA := Lib.hid ra; clear ra oa CA
    go_wp2_with fail
    refine (invP a1 a1n a1c a1v W1 HL2.out (by omega) (HR2.out.below b1)).mono ?_
    rw [ckE_yes HK.out, ivR_yes HK.out]
    rintro r W2 ⟨vi, rfl, oi, b2⟩
    rw [HLR.out] at oi
    obtain ⟨IA, IC, rfl, li, hic, ri, iz⟩ := row_use oi
    have RI := Lib.hid ri; clear ri oi
    go_wp2_with fail
    refine (invP IA a1n IC (a1v.map revR) W2 HLR.out (by omega) RI.out).mono ?_
    rw [ckE_yes HKR.out, ivR_yes HKR.out, map_rev_rev]
    rintro r W3 ⟨vj, rfl, oj, b3⟩
    rw [HL2.out] at oj
    obtain ⟨JA, JC, rfl, lj, hjc, rj, jz⟩ := row_use oj
    have RJ := Lib.hid rj; clear rj oj
    have b23 := bel_trans b2 b3
    have b13 := bel_trans b1 b23
    go_wp2_with fail
    refine (applyP AA IA na AC a1n IC (apR a0v a1v) (a1v.map revR) W3 HNA.out HLR.out (by omega) (by omega) hic iz (RA.out.below b23) (RI.out.below b3)).mono ?_
    rw [HU.out.1, HU.out.2]
    rintro r W4 ⟨vb, rfl, ob, b4⟩
    rw [HL.out] at ob
    obtain ⟨BA, BC, rfl, lb, hbc, rb, bz⟩ := prow_use ob
    have RB := Lib.hid rb; clear rb ob
    have b14 := bel_trans b13 b4
    go_wp2_with fail
    refine (equalL_any JA a1 a1n JC a1n a1c a1v a1v W4 HL2.out HL2.out (by omega) (by omega) (RJ.out.below b4) (HR2.out.below b14)).mono ?_
    simp only [decide_true]
    rintro r W5 ⟨rfl, b5⟩
    have b15 := bel_trans b14 b5
    go_wp2_with fail
    refine (sameL_any BA a0 a0n BC a0n a0c a0v a0v W5 HL.out HL.out (by omega) (by omega) (RB.out.below b5) (HR.out.below b15)).mono ?_
    simp only [decide_true]
    rintro r W6 ⟨rfl, b6⟩
    have b16 := bel_trans b15 b6
    go_wp2_with fail
    refine (countsP_any a1 a1n a1c a1v W6 HL2.out (by omega) (HR2.out.below b16) true ⟨fun _ => HK.out, fun _ => rfl⟩).mono ?_
    rw [HC1.out]
    rintro r W7 ⟨rfl, b7⟩
    have b17 := bel_trans b16 b7
    have b27 := bel_trans b3 (bel_trans b4 (bel_trans b5 (bel_trans b6 b7)))
    go_wp2_with fail
    refine (countsP_any IA a1n IC (a1v.map revR) W7 HLR.out (by omega) (RI.out.below b27) true ⟨fun _ => HKR.out, fun _ => rfl⟩).mono ?_
    rw [HC2.out]
    rintro r W8 ⟨rfl, b8⟩
    have b18 := bel_trans b17 b8
    clear b1 b2 b3 b4 b5 b6 b7 b8 b13 b14 b15 b16 b17 b23 b27
    go_wp2_with fail
    refine (known_any _).mono ?_
    rintro r W9 ⟨rfl, b9⟩
    go_wp2
    go_ret
    exact ⟨rfl, bel_trans b18 b9⟩
  · have u1 : (apE a0v a1v != 0) = true := by simp [hE]
    generalize apE a0v a1v = EE at *
    clear hE
    go_enter Try.func8, Try.ntmps8
    go_wp2_with fail
    refine CA.out.mono ?_
    rintro r W1 ⟨va, rfl, oa, b1⟩
    clear oa CA
    go_wp2_with fail
    refine (known_any _).mono ?_
    rintro r W2 ⟨rfl, b2⟩
    go_wp2
    go_ret
    exact ⟨rfl, bel_trans b1 b2⟩
end Wk
end Go.Proofs.Ytbdllakbkienoaa
