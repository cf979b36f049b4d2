/- PlanJoins (written by tools/mk6joins.py): the walk. Conditions: those of the given row. -/
import Derived.Test.YtbdllakbkienoaaPlMv
namespace Go.Proofs.Ytbdllakbkienoaa
open Go.RowKit Go.Sort
set_option linter.unusedVariables false
set_option linter.unusedSimpArgs false
namespace Wk
open Pl
open Om (addr_lit bel_alloc bel_trans below_drewN ret_eq Asc)
set_option maxRecDepth 100000 in
set_option maxHeartbeats 4000000 in
theorem walk_planJoins (a0 : Option Addr) (a0n a0c : Nat) (a0v : List Om.Pr) (m0 m1 m2 m3 m4 m5 m6 m7 m8 : Int) (w : World) (a0e : a0v.length = a0n) (a0m : a0n ≤ maxLen) (a0r : Om.Rd w a0 a0v) (a0b : Om.Bd a0v) (a0z : a0 = none → a0c = 0) (a0s : a0n * 16 ≤ 140737488351232) (a0y : a0n ≤ a0c) (u0 : Pl.U64 m0) (u1 : Pl.U64 m1) (u2 : Pl.U64 m2) (u3 : Pl.U64 m3) (u4 : Pl.U64 m4) (u5 : Pl.U64 m5) (u6 : Pl.U64 m6) (u7 : Pl.U64 m7) (u8 : Pl.U64 m8) :
    Calls Try.prog 9 #[.slice a0 a0n a0c, .agg #[.int .u64 m0, .int .u64 m1, .int .u64 m2, .int .u64 m3, .int .u64 m4, .int .u64 m5, .int .u64 m6, .int .u64 m7, .int .u64 m8]] w fun e w' => e = .returned (.bool true) ∧ Below w.heap.size w w' := by
  have b0 : Below w.heap.size w (w.alloc (.cells #[.int .u64 m0, .int .u64 m1, .int .u64 m2, .int .u64 m3, .int .u64 m4, .int .u64 m5, .int .u64 m6, .int .u64 m7, .int .u64 m8] 64)) := bel_alloc (Below.refl _ _) _
  have MM := Lib.hid (M9.made w m0 m1 m2 m3 m4 m5 m6 m7 m8)
  have HR := Lib.hid (a0r.below b0); have HZ := Lib.hid a0z; have HL := Lib.hid a0e; have HB := Lib.hid a0b
  have UU := Lib.hid (show (U64 m0 ∧ U64 m1 ∧ U64 m2) ∧ (U64 m3 ∧ U64 m4 ∧ U64 m5) ∧ U64 m6 ∧ U64 m7 ∧ U64 m8 from ⟨⟨u0, u1, u2⟩, ⟨u3, u4, u5⟩, u6, u7, u8⟩)
  clear a0r a0b a0z a0e a0s a0m u0 u1 u2 u3 u4 u5 u6 u7 u8
  by_cases hbig : 40 < a0n
  · have t0 : decide ((40 : Int) < a0n) = true := decide_eq_true (by omega)
    go_enter Try.func9, Try.ntmps9
    go_wp2_with fail
    refine (known_any _).mono ?_
    rintro r W1 ⟨rfl, b1⟩
    go_wp2
    go_ret
    exact ⟨rfl, bel_trans b0 b1⟩
  have t0 : decide ((40 : Int) < a0n) = false := decide_eq_false (by omega)
  have h40 : a0n ≤ 40 := by omega
  clear hbig
  have nil : ∀ W, Rd W none [] := fun W q y hq => by simp at hq
  by_cases ha : Asc a0v
  · obtain ⟨A, B, C, AB, BC, L, P1, P2, P3, J, e1, e2, e3⟩ := joins (m0 := m0) (m1 := m1) (m2 := m2) (m3 := m3) (m4 := m4) (m5 := m5) ha HB.out UU.out.2.2.1.1 UU.out.2.2.2.1.1 UU.out.2.2.2.2.1
    have lAB := thR_len A B
    rw [J.t1.2] at lAB
    have lBC := thR_len B C
    rw [J.t2.2] at lBC
    have lL := thR_len AB C
    rw [J.t3.2] at lL
    have l3 := apR_len P2 C
    rw [J.u3.2] at l3
    have la := J.la; have lb := J.lb; have lc := J.lc; have l1 := J.l1; have l2 := J.l2
    rw [HL.out] at la lb lc l1 l2
    obtain ⟨nA, hnA⟩ : ∃ nA, A.length = nA := ⟨_, rfl⟩
    obtain ⟨nB, hnB⟩ : ∃ nB, B.length = nB := ⟨_, rfl⟩
    obtain ⟨nC, hnC⟩ : ∃ nC, C.length = nC := ⟨_, rfl⟩
    obtain ⟨nAB, hnAB⟩ : ∃ nAB, AB.length = nAB := ⟨_, rfl⟩
    obtain ⟨nBC, hnBC⟩ : ∃ nBC, BC.length = nBC := ⟨_, rfl⟩
    obtain ⟨nL, hnL⟩ : ∃ nL, L.length = nL := ⟨_, rfl⟩
    obtain ⟨n1, hn1⟩ : ∃ n1, P1.length = n1 := ⟨_, rfl⟩
    obtain ⟨n2, hn2⟩ : ∃ n2, P2.length = n2 := ⟨_, rfl⟩
    obtain ⟨n3, hn3⟩ : ∃ n3, P3.length = n3 := ⟨_, rfl⟩
    simp only [hnA, hnB, hnC, hnAB, hnBC, hnL, hn1, hn2, hn3] at la lb lc l1 l2 lAB lBC lL l3
    have EA := Lib.hid hnA
    have EB := Lib.hid hnB
    have EC := Lib.hid hnC
    have EAB := Lib.hid hnAB
    have EBC := Lib.hid hnBC
    have EL := Lib.hid hnL
    have EP1 := Lib.hid hn1
    have EP2 := Lib.hid hn2
    have EP3 := Lib.hid hn3
    have HJ := Lib.hid J
    have HE := Lib.hid (show oneR a0v m0 m1 m6 = A ∧ oneR P1 m2 m3 m7 = B ∧ oneR P2 m4 m5 m8 = C from ⟨e1, e2, e3⟩)
    have HA := Lib.hid ha
    clear ha J e1 e2 e3 hnA hnB hnC hnAB hnBC hnL hn1 hn2 hn3
    have q1 : nA ≤ 80 := by omega
    have q2 : nB ≤ 80 := by omega
    have q3 : nC ≤ 80 := by omega
    have q4 : nAB ≤ 160 := by omega
    have q5 : nBC ≤ 160 := by omega
    have q6 : nL ≤ 240 := by omega
    have q7 : n1 ≤ 40 := by omega
    have q8 : n2 ≤ 40 := by omega
    have q9 : n3 ≤ 120 := by omega
    clear la lb lc l1 l2 lAB lBC lL l3
    go_enter Try.func9, Try.ntmps9
    go_upto_region 3 with fail
    generalize w.alloc (.cells #[.int .u64 m0, .int .u64 m1, .int .u64 m2, .int .u64 m3, .int .u64 m4, .int .u64 m5, .int .u64 m6, .int .u64 m7, .int .u64 m8] 64) = V0 at *
    have BW := Lib.hid b0
    clear b0
    go_wp2_with fail
    refine (applyP a0 none a0n a0c 0 0 a0v [] V0 HL.out rfl (by omega) (by omega) (Nat.le_refl _) (fun _ => rfl) HR.out (nil _)).mono ?_
    rw [HJ.out.s0.1, HJ.out.s0.2]
    rintro r V1 ⟨vv, rfl, oo, bb⟩
    rw [HL.out] at oo
    obtain ⟨xSA, xSC, rfl, xSl, xSc, xSr, xSz⟩ := prow_use oo
    have RxS := Lib.hid xSr; have ZxS := Lib.hid xSz
    clear oo xSr xSz xSl
    have HR := Lib.hid (HR.out.below bb)
    have MM := Lib.hid (MM.out.below bb)
    have BW := Lib.hid (bel_trans BW.out bb)
    clear bb
    go_wp2_with fail
    refine (ascL_any a0 a0n a0c a0v V1 HL.out (by omega) HR.out true ⟨fun _ => HA.out, fun _ => rfl⟩).mono ?_
    rintro r V2 ⟨rfl, bb⟩
    have HR := Lib.hid (HR.out.below bb)
    have MM := Lib.hid (MM.out.below bb)
    have RxS := Lib.hid (RxS.out.below bb)
    have BW := Lib.hid (bel_trans BW.out bb)
    clear bb
    go_wp2_with fail
    refine (sameL_any xSA a0 a0n xSC a0n a0c a0v a0v V2 HL.out HL.out (by omega) (by omega) RxS.out HR.out).mono ?_
    simp only [decide_true]
    rintro r V3 ⟨rfl, bb⟩
    have HR := Lib.hid (HR.out.below bb)
    have MM := Lib.hid (MM.out.below bb)
    have RxS := Lib.hid (RxS.out.below bb)
    have BW := Lib.hid (bel_trans BW.out bb)
    clear bb
    have c0 := MM.out.c0; have c1 := MM.out.c1; have c6 := MM.out.c6
    go_wp2_with fail
    refine (one_any a0 a0n a0c a0v m0 m1 m6 V3 HL.out (by omega) a0y HZ.out HR.out HB.out UU.out.1.1.1 UU.out.1.1.2 UU.out.1.2.1.1 UU.out.1.2.1.2 UU.out.2.2.1.1 UU.out.2.2.1.2).mono ?_
    rw [HE.out.1]
    rintro r V4 ⟨vv, rfl, oo, bb⟩
    rw [EA.out] at oo
    obtain ⟨xAA, xAC, rfl, xAl, xAc, xAr, xAz⟩ := row_use oo
    have RxA := Lib.hid xAr; have ZxA := Lib.hid xAz
    clear oo xAr xAz xAl
    have HR := Lib.hid (HR.out.below bb)
    have MM := Lib.hid (MM.out.below bb)
    have BW := Lib.hid (bel_trans BW.out bb)
    clear bb
    clear c0 c1 c6
    go_wp2_with fail
    refine (applyP a0 xAA a0n a0c nA xAC a0v A V4 HL.out EA.out (by omega) (by omega) xAc ZxA.out HR.out RxA.out).mono ?_
    rw [HJ.out.u1.1, HJ.out.u1.2]
    rintro r V5 ⟨vv, rfl, oo, bb⟩
    rw [EP1.out] at oo
    obtain ⟨xPA, xPC, rfl, xPl, xPc, xPr, xPz⟩ := prow_use oo
    have RxP := Lib.hid xPr; have ZxP := Lib.hid xPz
    clear oo xPr xPz xPl
    have HR := Lib.hid (HR.out.below bb)
    have MM := Lib.hid (MM.out.below bb)
    have RxA := Lib.hid (RxA.out.below bb)
    have BW := Lib.hid (bel_trans BW.out bb)
    clear bb
    have c2 := MM.out.c2; have c3 := MM.out.c3; have c7 := MM.out.c7
    go_wp2_with fail
    refine (one_any xPA n1 xPC P1 m2 m3 m7 V5 EP1.out (by omega) xPc ZxP.out RxP.out HJ.out.b1 UU.out.1.2.2.1 UU.out.1.2.2.2 UU.out.2.1.1.1 UU.out.2.1.1.2 UU.out.2.2.2.1.1 UU.out.2.2.2.1.2).mono ?_
    rw [HE.out.2.1]
    rintro r V6 ⟨vv, rfl, oo, bb⟩
    rw [EB.out] at oo
    obtain ⟨xBA, xBC, rfl, xBl, xBc, xBr, xBz⟩ := row_use oo
    have RxB := Lib.hid xBr; have ZxB := Lib.hid xBz
    clear oo xBr xBz xBl
    have HR := Lib.hid (HR.out.below bb)
    have MM := Lib.hid (MM.out.below bb)
    have RxA := Lib.hid (RxA.out.below bb)
    have RxP := Lib.hid (RxP.out.below bb)
    have BW := Lib.hid (bel_trans BW.out bb)
    clear bb
    clear c2 c3 c7
    go_wp2_with fail
    refine (applyP xPA xBA n1 xPC nB xBC P1 B V6 EP1.out EB.out (by omega) (by omega) xBc ZxB.out RxP.out RxB.out).mono ?_
    rw [HJ.out.u2.1, HJ.out.u2.2]
    rintro r V7 ⟨vv, rfl, oo, bb⟩
    rw [EP2.out] at oo
    obtain ⟨xQA, xQC, rfl, xQl, xQc, xQr, xQz⟩ := prow_use oo
    have RxQ := Lib.hid xQr; have ZxQ := Lib.hid xQz
    clear oo xQr xQz xQl
    have HR := Lib.hid (HR.out.below bb)
    have MM := Lib.hid (MM.out.below bb)
    have RxA := Lib.hid (RxA.out.below bb)
    have RxP := Lib.hid (RxP.out.below bb)
    have RxB := Lib.hid (RxB.out.below bb)
    have BW := Lib.hid (bel_trans BW.out bb)
    clear bb
    have c4 := MM.out.c4; have c5 := MM.out.c5; have c8 := MM.out.c8
    go_wp2_with fail
    refine (one_any xQA n2 xQC P2 m4 m5 m8 V7 EP2.out (by omega) xQc ZxQ.out RxQ.out HJ.out.b2 UU.out.2.1.2.1.1 UU.out.2.1.2.1.2 UU.out.2.1.2.2.1 UU.out.2.1.2.2.2 UU.out.2.2.2.2.1 UU.out.2.2.2.2.2).mono ?_
    rw [HE.out.2.2]
    rintro r V8 ⟨vv, rfl, oo, bb⟩
    rw [EC.out] at oo
    obtain ⟨xCA, xCC, rfl, xCl, xCc, xCr, xCz⟩ := row_use oo
    have RxC := Lib.hid xCr; have ZxC := Lib.hid xCz
    clear oo xCr xCz xCl
    have HR := Lib.hid (HR.out.below bb)
    have MM := Lib.hid (MM.out.below bb)
    have RxA := Lib.hid (RxA.out.below bb)
    have RxB := Lib.hid (RxB.out.below bb)
    have RxQ := Lib.hid (RxQ.out.below bb)
    have BW := Lib.hid (bel_trans BW.out bb)
    clear bb
    clear c4 c5 c8
    go_wp2_with fail
    refine (applyP xQA xCA n2 xQC nC xCC P2 C V8 EP2.out EC.out (by omega) (by omega) xCc ZxC.out RxQ.out RxC.out).mono ?_
    rw [HJ.out.u3.1, HJ.out.u3.2]
    rintro r V9 ⟨vv, rfl, oo, bb⟩
    rw [EP3.out] at oo
    obtain ⟨xXA, xXC, rfl, xXl, xXc, xXr, xXz⟩ := prow_use oo
    have RxX := Lib.hid xXr; have ZxX := Lib.hid xXz
    clear oo xXr xXz xXl
    have HR := Lib.hid (HR.out.below bb)
    have RxA := Lib.hid (RxA.out.below bb)
    have RxB := Lib.hid (RxB.out.below bb)
    have RxQ := Lib.hid (RxQ.out.below bb)
    have RxC := Lib.hid (RxC.out.below bb)
    have BW := Lib.hid (bel_trans BW.out bb)
    clear bb
    go_wp2_with fail
    refine (thenP xAA xBA nA xAC nB xBC A B V9 EA.out EB.out (by omega) (by omega) xBc ZxB.out RxA.out RxB.out).mono ?_
    rw [HJ.out.t1.1, HJ.out.t1.2]
    rintro r V10 ⟨vv, rfl, oo, bb⟩
    rw [EAB.out] at oo
    obtain ⟨xDA, xDC, rfl, xDl, xDc, xDr, xDz⟩ := row_use oo
    have RxD := Lib.hid xDr; have ZxD := Lib.hid xDz
    clear oo xDr xDz xDl
    have HR := Lib.hid (HR.out.below bb)
    have RxA := Lib.hid (RxA.out.below bb)
    have RxB := Lib.hid (RxB.out.below bb)
    have RxQ := Lib.hid (RxQ.out.below bb)
    have RxC := Lib.hid (RxC.out.below bb)
    have RxX := Lib.hid (RxX.out.below bb)
    have BW := Lib.hid (bel_trans BW.out bb)
    clear bb
    go_wp2_with fail
    refine (thenP xBA xCA nB xBC nC xCC B C V10 EB.out EC.out (by omega) (by omega) xCc ZxC.out RxB.out RxC.out).mono ?_
    rw [HJ.out.t2.1, HJ.out.t2.2]
    rintro r V11 ⟨vv, rfl, oo, bb⟩
    rw [EBC.out] at oo
    obtain ⟨xFA, xFC, rfl, xFl, xFc, xFr, xFz⟩ := row_use oo
    have RxF := Lib.hid xFr; have ZxF := Lib.hid xFz
    clear oo xFr xFz xFl
    have HR := Lib.hid (HR.out.below bb)
    have RxA := Lib.hid (RxA.out.below bb)
    have RxB := Lib.hid (RxB.out.below bb)
    have RxQ := Lib.hid (RxQ.out.below bb)
    have RxC := Lib.hid (RxC.out.below bb)
    have RxX := Lib.hid (RxX.out.below bb)
    have RxD := Lib.hid (RxD.out.below bb)
    have BW := Lib.hid (bel_trans BW.out bb)
    clear bb
    go_wp2_with fail
    refine (thenP xDA xCA nAB xDC nC xCC AB C V11 EAB.out EC.out (by omega) (by omega) xCc ZxC.out RxD.out RxC.out).mono ?_
    rw [HJ.out.t3.1, HJ.out.t3.2]
    rintro r V12 ⟨vv, rfl, oo, bb⟩
    rw [EL.out] at oo
    obtain ⟨xGA, xGC, rfl, xGl, xGc, xGr, xGz⟩ := row_use oo
    have RxG := Lib.hid xGr; have ZxG := Lib.hid xGz
    clear oo xGr xGz xGl
    have HR := Lib.hid (HR.out.below bb)
    have RxA := Lib.hid (RxA.out.below bb)
    have RxQ := Lib.hid (RxQ.out.below bb)
    have RxC := Lib.hid (RxC.out.below bb)
    have RxX := Lib.hid (RxX.out.below bb)
    have RxD := Lib.hid (RxD.out.below bb)
    have RxF := Lib.hid (RxF.out.below bb)
    have BW := Lib.hid (bel_trans BW.out bb)
    clear bb
    go_wp2_with fail
    refine (thenP xAA xFA nA xAC nBC xFC A BC V12 EA.out EBC.out (by omega) (by omega) xFc ZxF.out RxA.out RxF.out).mono ?_
    rw [HJ.out.t4.1, HJ.out.t4.2]
    rintro r V13 ⟨vv, rfl, oo, bb⟩
    rw [EL.out] at oo
    obtain ⟨xHA, xHC, rfl, xHl, xHc, xHr, xHz⟩ := row_use oo
    have RxH := Lib.hid xHr; have ZxH := Lib.hid xHz
    clear oo xHr xHz xHl
    have HR := Lib.hid (HR.out.below bb)
    have RxA := Lib.hid (RxA.out.below bb)
    have RxQ := Lib.hid (RxQ.out.below bb)
    have RxX := Lib.hid (RxX.out.below bb)
    have RxD := Lib.hid (RxD.out.below bb)
    have RxF := Lib.hid (RxF.out.below bb)
    have RxG := Lib.hid (RxG.out.below bb)
    have BW := Lib.hid (bel_trans BW.out bb)
    clear bb
    go_wp2_with fail
    refine (equalL_any xGA xHA nL xGC nL xHC L L V13 EL.out EL.out (by omega) (by omega) RxG.out RxH.out).mono ?_
    simp only [decide_true]
    rintro r V14 ⟨rfl, bb⟩
    have HR := Lib.hid (HR.out.below bb)
    have RxQ := Lib.hid (RxQ.out.below bb)
    have RxX := Lib.hid (RxX.out.below bb)
    have RxD := Lib.hid (RxD.out.below bb)
    have RxG := Lib.hid (RxG.out.below bb)
    have RxH := Lib.hid (RxH.out.below bb)
    have BW := Lib.hid (bel_trans BW.out bb)
    clear bb
    go_wp2_with fail
    refine (applyP a0 xDA a0n a0c nAB xDC a0v AB V14 HL.out EAB.out (by omega) (by omega) xDc ZxD.out HR.out RxD.out).mono ?_
    rw [HJ.out.v1.1, HJ.out.v1.2]
    rintro r V15 ⟨vv, rfl, oo, bb⟩
    rw [EP2.out] at oo
    obtain ⟨xKA, xKC, rfl, xKl, xKc, xKr, xKz⟩ := prow_use oo
    have RxK := Lib.hid xKr; have ZxK := Lib.hid xKz
    clear oo xKr xKz xKl
    have HR := Lib.hid (HR.out.below bb)
    have RxQ := Lib.hid (RxQ.out.below bb)
    have RxX := Lib.hid (RxX.out.below bb)
    have RxD := Lib.hid (RxD.out.below bb)
    have RxG := Lib.hid (RxG.out.below bb)
    have BW := Lib.hid (bel_trans BW.out bb)
    clear bb
    go_wp2_with fail
    refine (applyP a0 xGA a0n a0c nL xGC a0v L V15 HL.out EL.out (by omega) (by omega) xGc ZxG.out HR.out RxG.out).mono ?_
    rw [HJ.out.v2.1, HJ.out.v2.2]
    rintro r V16 ⟨vv, rfl, oo, bb⟩
    rw [EP3.out] at oo
    obtain ⟨xNA, xNC, rfl, xNl, xNc, xNr, xNz⟩ := prow_use oo
    have RxN := Lib.hid xNr; have ZxN := Lib.hid xNz
    clear oo xNr xNz xNl
    have HR := Lib.hid (HR.out.below bb)
    have RxQ := Lib.hid (RxQ.out.below bb)
    have RxX := Lib.hid (RxX.out.below bb)
    have RxG := Lib.hid (RxG.out.below bb)
    have RxK := Lib.hid (RxK.out.below bb)
    have BW := Lib.hid (bel_trans BW.out bb)
    clear bb
    go_wp2_with fail
    refine (sameL_any xKA xQA n2 xKC n2 xQC P2 P2 V16 EP2.out EP2.out (by omega) (by omega) RxK.out RxQ.out).mono ?_
    simp only [decide_true]
    rintro r V17 ⟨rfl, bb⟩
    have RxQ := Lib.hid (RxQ.out.below bb)
    have RxX := Lib.hid (RxX.out.below bb)
    have RxK := Lib.hid (RxK.out.below bb)
    have RxN := Lib.hid (RxN.out.below bb)
    have BW := Lib.hid (bel_trans BW.out bb)
    clear bb
    go_wp2_with fail
    refine (sameL_any xNA xXA n3 xNC n3 xXC P3 P3 V17 EP3.out EP3.out (by omega) (by omega) RxN.out RxX.out).mono ?_
    simp only [decide_true]
    rintro r V18 ⟨rfl, bb⟩
    have RxX := Lib.hid (RxX.out.below bb)
    have RxN := Lib.hid (RxN.out.below bb)
    have BW := Lib.hid (bel_trans BW.out bb)
    clear bb
    go_wp2_with fail
    refine (known_any V18).mono ?_
    rintro r V19 ⟨rfl, bb⟩
    have BW := Lib.hid (bel_trans BW.out bb)
    clear bb
    go_wp2
    go_ret
    exact ⟨rfl, BW.out⟩
  · have e2 : apE a0v [] = 2 := apE_no (fun h => ha h.1)
    have e3 := apR_no e2 (by omega)
    have CA := Lib.hid (applyP a0 none a0n a0c 0 0 a0v [] _ HL.out rfl (by omega) (by omega) (Nat.le_refl _) (fun _ => rfl) HR.out (nil _))
    rw [e2, e3] at CA
    have CL := fun W (b : Below w.heap.size w W) (hr : Om.Rd W a0 a0v) => Lib.hid (ascL_any a0 a0n a0c a0v W HL.out (by omega) hr false ⟨fun q => by (cases q), fun q => absurd q ha⟩)
    clear e2 e3 ha
    go_enter Try.func9, Try.ntmps9
    go_wp2_with fail
    refine CA.out.mono ?_
    rintro r W1 ⟨vv, rfl, oo, b1⟩
    clear oo
    go_wp2_with fail
    refine (CL _ (bel_trans b0 b1) (HR.out.below b1)).out.mono ?_
    rintro r W2 ⟨rfl, b2⟩
    go_wp2_with fail
    refine (known_any _).mono ?_
    rintro r W3 ⟨rfl, b3⟩
    go_wp2
    go_ret
    exact ⟨rfl, bel_trans b0 (bel_trans b1 (bel_trans b2 b3))⟩
end Wk
end Go.Proofs.Ytbdllakbkienoaa
