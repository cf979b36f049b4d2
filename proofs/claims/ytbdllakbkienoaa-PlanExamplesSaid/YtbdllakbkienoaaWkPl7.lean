/- PlanExamples (written by tools/mk6ex.py): the walk. Conditions: none. -/
import Derived.Test.YtbdllakbkienoaaPlXm
namespace Go.Proofs.Ytbdllakbkienoaa
open Go.RowKit Go.Sort
set_option linter.unusedVariables false
set_option linter.unusedSimpArgs false
namespace Wk
open Pl
open Om (addr_lit bel_alloc bel_trans below_drewN ret_eq Asc)
set_option maxRecDepth 100000 in
set_option maxHeartbeats 8000000 in
theorem walk_planExamples (w : World) :
    Calls Try.prog 6 #[] w fun e w' => e = .returned (.bool true) ∧ Below w.heap.size w w' := by
  have BW := Lib.hid (Below.refl w.heap.size w)
  go_enter Try.func6, Try.ntmps6
  go_upto_region 2 with fail
  have T1 := lit_p w pA #[.int .u64 1, .int .u64 10, .int .u64 2, .int .u64 20, .int .u64 3, .int .u64 30] rfl
  have ba : Below w.heap.size w (w.alloc (.cells #[.int .u64 1, .int .u64 10, .int .u64 2, .int .u64 20, .int .u64 3, .int .u64 30] 43)) := bel_alloc (Below.refl _ _) _
  have T1 := Lib.hid T1
  have BW := Lib.hid (bel_trans BW.out ba)
  clear ba
  generalize w.alloc (.cells #[.int .u64 1, .int .u64 10, .int .u64 2, .int .u64 20, .int .u64 3, .int .u64 30] 43) = V1 at *
  go_wp2_with fail
  refine (moveP_any (some ⟨w.heap.size, 0, none⟩) 3 3 pA 1 2 1 V1 rfl (by omega) (by omega) (fun h => by cases h) T1.out bA (by omega) (by omega) (by omega) (by omega) (by omega) (by omega)).mono ?_
  rw [x1.1, x1.2]
  rintro r V2 ⟨vv, rfl, oo, bb⟩
  obtain ⟨MA, MC, rfl, _, Mc, Mr, Mz⟩ := row_use oo
  have RM := Lib.hid Mr; have ZM := Lib.hid Mz
  clear Mr Mz oo
  have T1 := Lib.hid (T1.out.below bb)
  have BW := Lib.hid (bel_trans BW.out bb)
  clear bb
  go_wp2_with fail
  have T2 := lit_c V2 r1 #[.int .u64 1, .bool true, .int .u64 10, .bool false, .int .u64 0, .int .u64 2, .bool true, .int .u64 20, .bool true, .int .u64 10, .int .u64 3, .bool true, .int .u64 30, .bool true, .int .u64 20] rfl
  have ba : Below V2.heap.size V2 (V2.alloc (.cells #[.int .u64 1, .bool true, .int .u64 10, .bool false, .int .u64 0, .int .u64 2, .bool true, .int .u64 20, .bool true, .int .u64 10, .int .u64 3, .bool true, .int .u64 30, .bool true, .int .u64 20] 45)) := bel_alloc (Below.refl _ _) _
  have T1 := Lib.hid (T1.out.below ba)
  have RM := Lib.hid (RM.out.below ba)
  have T2 := Lib.hid T2
  have BW := Lib.hid (bel_trans BW.out ba)
  clear ba
  generalize V2.alloc (.cells #[.int .u64 1, .bool true, .int .u64 10, .bool false, .int .u64 0, .int .u64 2, .bool true, .int .u64 20, .bool true, .int .u64 10, .int .u64 3, .bool true, .int .u64 30, .bool true, .int .u64 20] 45) = V3 at *
  refine (sameR_any MA (some ⟨V2.heap.size, 0, none⟩) 3 MC 3 3 r1 r1 V3 rfl rfl (by omega) (by omega) RM.out T2.out).mono ?_
  simp only [decide_true]
  rintro r V4 ⟨rfl, bb⟩
  have T1 := Lib.hid (T1.out.below bb)
  have RM := Lib.hid (RM.out.below bb)
  have BW := Lib.hid (bel_trans BW.out bb)
  clear bb
  clear T2
  go_wp2_with fail
  refine (applyP (some ⟨w.heap.size, 0, none⟩) MA 3 3 3 MC pA r1 V4 rfl rfl (by omega) (by omega) Mc ZM.out T1.out RM.out).mono ?_
  rw [x2.1, x2.2]
  rintro r V5 ⟨vv, rfl, oo, bb⟩
  obtain ⟨AA, AC, rfl, _, Ac, Ar, Az⟩ := prow_use oo
  have RA := Lib.hid Ar; have ZA := Lib.hid Az
  clear Ar Az oo
  have T1 := Lib.hid (T1.out.below bb)
  have RM := Lib.hid (RM.out.below bb)
  have BW := Lib.hid (bel_trans BW.out bb)
  clear bb
  go_wp2_with fail
  have T3 := lit_p V5 pB #[.int .u64 1, .int .u64 11, .int .u64 2, .int .u64 20, .int .u64 3, .int .u64 30] rfl
  have ba : Below V5.heap.size V5 (V5.alloc (.cells #[.int .u64 1, .int .u64 11, .int .u64 2, .int .u64 20, .int .u64 3, .int .u64 30] 43)) := bel_alloc (Below.refl _ _) _
  have T1 := Lib.hid (T1.out.below ba)
  have RM := Lib.hid (RM.out.below ba)
  have RA := Lib.hid (RA.out.below ba)
  have T3 := Lib.hid T3
  have BW := Lib.hid (bel_trans BW.out ba)
  clear ba
  generalize V5.alloc (.cells #[.int .u64 1, .int .u64 11, .int .u64 2, .int .u64 20, .int .u64 3, .int .u64 30] 43) = V6 at *
  refine (applyP (some ⟨V5.heap.size, 0, none⟩) MA 3 3 3 MC pB r1 V6 rfl rfl (by omega) (by omega) Mc ZM.out T3.out RM.out).mono ?_
  rw [x3.1, x3.2]
  rintro r V7 ⟨vv, rfl, oo, bb⟩
  have T1 := Lib.hid (T1.out.below bb)
  have RM := Lib.hid (RM.out.below bb)
  have RA := Lib.hid (RA.out.below bb)
  have BW := Lib.hid (bel_trans BW.out bb)
  clear bb
  obtain ⟨ZA0, ZC0, rfl, _, _, _, _⟩ := prow_use oo
  clear oo T3
  go_wp2_with fail
  have T4 := lit_p V7 pC #[.int .u64 2, .int .u64 10, .int .u64 3, .int .u64 20] rfl
  have ba : Below V7.heap.size V7 (V7.alloc (.cells #[.int .u64 2, .int .u64 10, .int .u64 3, .int .u64 20] 43)) := bel_alloc (Below.refl _ _) _
  have T1 := Lib.hid (T1.out.below ba)
  have RM := Lib.hid (RM.out.below ba)
  have RA := Lib.hid (RA.out.below ba)
  have T4 := Lib.hid T4
  have BW := Lib.hid (bel_trans BW.out ba)
  clear ba
  generalize V7.alloc (.cells #[.int .u64 2, .int .u64 10, .int .u64 3, .int .u64 20] 43) = V8 at *
  refine (Om.sameR_any AA (some ⟨V7.heap.size, 0, none⟩) 2 AC 2 2 pC pC V8 rfl rfl (by omega) (by omega) RA.out T4.out).mono ?_
  simp only [decide_true]
  rintro r V9 ⟨rfl, bb⟩
  have T1 := Lib.hid (T1.out.below bb)
  have RM := Lib.hid (RM.out.below bb)
  have RA := Lib.hid (RA.out.below bb)
  have BW := Lib.hid (bel_trans BW.out bb)
  clear bb
  clear RA
  clear T4
  go_wp2_with fail
  refine (invP MA 3 MC r1 V9 rfl (by omega) RM.out).mono ?_
  rw [x4.1, x4.2]
  rintro r V10 ⟨vv, rfl, oo, bb⟩
  obtain ⟨IA, IC, rfl, _, Ic, Ir, Iz⟩ := row_use oo
  have RI := Lib.hid Ir; have ZI := Lib.hid Iz
  clear Ir Iz oo
  have T1 := Lib.hid (T1.out.below bb)
  have RM := Lib.hid (RM.out.below bb)
  have BW := Lib.hid (bel_trans BW.out bb)
  clear bb
  go_wp2_with fail
  refine (countsP_any MA 3 MC r1 V10 rfl (by omega) RM.out true ⟨fun _ => k1.1, fun _ => rfl⟩).mono ?_
  rw [x5]
  rintro r V11 ⟨rfl, bb⟩
  have T1 := Lib.hid (T1.out.below bb)
  have RM := Lib.hid (RM.out.below bb)
  have RI := Lib.hid (RI.out.below bb)
  have BW := Lib.hid (bel_trans BW.out bb)
  clear bb
  go_wp2_with fail
  have T5 := lit_c V11 r2 #[.int .u64 1, .bool false, .int .u64 0, .bool true, .int .u64 10, .int .u64 2, .bool true, .int .u64 10, .bool true, .int .u64 20, .int .u64 3, .bool true, .int .u64 20, .bool true, .int .u64 30] rfl
  have ba : Below V11.heap.size V11 (V11.alloc (.cells #[.int .u64 1, .bool false, .int .u64 0, .bool true, .int .u64 10, .int .u64 2, .bool true, .int .u64 10, .bool true, .int .u64 20, .int .u64 3, .bool true, .int .u64 20, .bool true, .int .u64 30] 45)) := bel_alloc (Below.refl _ _) _
  have T1 := Lib.hid (T1.out.below ba)
  have RM := Lib.hid (RM.out.below ba)
  have RI := Lib.hid (RI.out.below ba)
  have T5 := Lib.hid T5
  have BW := Lib.hid (bel_trans BW.out ba)
  clear ba
  generalize V11.alloc (.cells #[.int .u64 1, .bool false, .int .u64 0, .bool true, .int .u64 10, .int .u64 2, .bool true, .int .u64 10, .bool true, .int .u64 20, .int .u64 3, .bool true, .int .u64 20, .bool true, .int .u64 30] 45) = V12 at *
  refine (sameR_any IA (some ⟨V11.heap.size, 0, none⟩) 3 IC 3 3 r2 r2 V12 rfl rfl (by omega) (by omega) RI.out T5.out).mono ?_
  simp only [decide_true]
  rintro r V13 ⟨rfl, bb⟩
  have T1 := Lib.hid (T1.out.below bb)
  have RM := Lib.hid (RM.out.below bb)
  have RI := Lib.hid (RI.out.below bb)
  have BW := Lib.hid (bel_trans BW.out bb)
  clear bb
  clear RI RM
  clear T5
  go_wp2_with fail
  have T6 := lit_p V13 pD #[.int .u64 1, .int .u64 10, .int .u64 7, .int .u64 70] rfl
  have ba : Below V13.heap.size V13 (V13.alloc (.cells #[.int .u64 1, .int .u64 10, .int .u64 7, .int .u64 70] 43)) := bel_alloc (Below.refl _ _) _
  have T1 := Lib.hid (T1.out.below ba)
  have T6 := Lib.hid T6
  have BW := Lib.hid (bel_trans BW.out ba)
  clear ba
  generalize V13.alloc (.cells #[.int .u64 1, .int .u64 10, .int .u64 7, .int .u64 70] 43) = V14 at *
  refine (moveP_any (some ⟨V13.heap.size, 0, none⟩) 2 2 pD 1 1 2 V14 rfl (by omega) (by omega) (fun h => by cases h) T6.out bD (by omega) (by omega) (by omega) (by omega) (by omega) (by omega)).mono ?_
  rw [x6.1, x6.2]
  rintro r V15 ⟨vv, rfl, oo, bb⟩
  obtain ⟨NA, NC, rfl, _, Nc, Nr, Nz⟩ := row_use oo
  have RN := Lib.hid Nr; have ZN := Lib.hid Nz
  clear Nr Nz oo
  have T1 := Lib.hid (T1.out.below bb)
  have BW := Lib.hid (bel_trans BW.out bb)
  clear bb
  clear T6
  go_wp2_with fail
  refine (moveP_any (some ⟨w.heap.size, 0, none⟩) 3 3 pA 5 6 1 V15 rfl (by omega) (by omega) (fun h => by cases h) T1.out bA (by omega) (by omega) (by omega) (by omega) (by omega) (by omega)).mono ?_
  rw [x7.1, x7.2]
  rintro r V16 ⟨vv, rfl, oo, bb⟩
  have T1 := Lib.hid (T1.out.below bb)
  have RN := Lib.hid (RN.out.below bb)
  have BW := Lib.hid (bel_trans BW.out bb)
  clear bb
  obtain ⟨EA, EC, rfl, _, _, _, _⟩ := row_use oo
  clear oo
  go_wp2_with fail
  have T7 := lit_p V16 pE #[.int .u64 1, .int .u64 10, .int .u64 2, .int .u64 20, .int .u64 9, .int .u64 90] rfl
  have ba : Below V16.heap.size V16 (V16.alloc (.cells #[.int .u64 1, .int .u64 10, .int .u64 2, .int .u64 20, .int .u64 9, .int .u64 90] 43)) := bel_alloc (Below.refl _ _) _
  have T1 := Lib.hid (T1.out.below ba)
  have RN := Lib.hid (RN.out.below ba)
  have T7 := Lib.hid T7
  have BW := Lib.hid (bel_trans BW.out ba)
  clear ba
  generalize V16.alloc (.cells #[.int .u64 1, .int .u64 10, .int .u64 2, .int .u64 20, .int .u64 9, .int .u64 90] 43) = V17 at *
  refine (deleteP_any (some ⟨V16.heap.size, 0, none⟩) 3 3 pE 2 9 V17 rfl (by omega) T7.out bE (by omega) (by omega) (by omega) (by omega)).mono ?_
  rw [x8.1, x8.2]
  rintro r V18 ⟨vv, rfl, oo, bb⟩
  obtain ⟨DA, DC, rfl, _, Dc, Dr, Dz⟩ := row_use oo
  have RD := Lib.hid Dr; have ZD := Lib.hid Dz
  clear Dr Dz oo
  have T1 := Lib.hid (T1.out.below bb)
  have RN := Lib.hid (RN.out.below bb)
  have BW := Lib.hid (bel_trans BW.out bb)
  clear bb
  clear T7
  go_wp2_with fail
  have T8 := lit_c V18 r3 #[.int .u64 1, .bool true, .int .u64 10, .bool false, .int .u64 0, .int .u64 3, .bool false, .int .u64 0, .bool true, .int .u64 10] rfl
  have ba : Below V18.heap.size V18 (V18.alloc (.cells #[.int .u64 1, .bool true, .int .u64 10, .bool false, .int .u64 0, .int .u64 3, .bool false, .int .u64 0, .bool true, .int .u64 10] 45)) := bel_alloc (Below.refl _ _) _
  have T1 := Lib.hid (T1.out.below ba)
  have RN := Lib.hid (RN.out.below ba)
  have RD := Lib.hid (RD.out.below ba)
  have T8 := Lib.hid T8
  have BW := Lib.hid (bel_trans BW.out ba)
  clear ba
  generalize V18.alloc (.cells #[.int .u64 1, .bool true, .int .u64 10, .bool false, .int .u64 0, .int .u64 3, .bool false, .int .u64 0, .bool true, .int .u64 10] 45) = V19 at *
  refine (sameR_any NA (some ⟨V18.heap.size, 0, none⟩) 2 NC 2 2 r3 r3 V19 rfl rfl (by omega) (by omega) RN.out T8.out).mono ?_
  simp only [decide_true]
  rintro r V20 ⟨rfl, bb⟩
  have T1 := Lib.hid (T1.out.below bb)
  have RN := Lib.hid (RN.out.below bb)
  have RD := Lib.hid (RD.out.below bb)
  have BW := Lib.hid (bel_trans BW.out bb)
  clear bb
  clear T8
  go_wp2_with fail
  have T9 := lit_c V20 r4 #[.int .u64 2, .bool true, .int .u64 20, .bool false, .int .u64 0, .int .u64 9, .bool true, .int .u64 90, .bool false, .int .u64 0] rfl
  have ba : Below V20.heap.size V20 (V20.alloc (.cells #[.int .u64 2, .bool true, .int .u64 20, .bool false, .int .u64 0, .int .u64 9, .bool true, .int .u64 90, .bool false, .int .u64 0] 45)) := bel_alloc (Below.refl _ _) _
  have T1 := Lib.hid (T1.out.below ba)
  have RN := Lib.hid (RN.out.below ba)
  have RD := Lib.hid (RD.out.below ba)
  have T9 := Lib.hid T9
  have BW := Lib.hid (bel_trans BW.out ba)
  clear ba
  generalize V20.alloc (.cells #[.int .u64 2, .bool true, .int .u64 20, .bool false, .int .u64 0, .int .u64 9, .bool true, .int .u64 90, .bool false, .int .u64 0] 45) = V21 at *
  refine (sameR_any DA (some ⟨V20.heap.size, 0, none⟩) 2 DC 2 2 r4 r4 V21 rfl rfl (by omega) (by omega) RD.out T9.out).mono ?_
  simp only [decide_true]
  rintro r V22 ⟨rfl, bb⟩
  have T1 := Lib.hid (T1.out.below bb)
  have RN := Lib.hid (RN.out.below bb)
  have RD := Lib.hid (RD.out.below bb)
  have BW := Lib.hid (bel_trans BW.out bb)
  clear bb
  clear RD
  clear T9
  go_wp2_with fail
  refine (moveP_any (some ⟨w.heap.size, 0, none⟩) 3 3 pA 1 1 0 V22 rfl (by omega) (by omega) (fun h => by cases h) T1.out bA (by omega) (by omega) (by omega) (by omega) (by omega) (by omega)).mono ?_
  rw [x9.1, x9.2]
  rintro r V23 ⟨vv, rfl, oo, bb⟩
  have T1 := Lib.hid (T1.out.below bb)
  have RN := Lib.hid (RN.out.below bb)
  have BW := Lib.hid (bel_trans BW.out bb)
  clear bb
  clear oo
  go_wp2_with fail
  have T10 := lit_p V23 pF #[.int .u64 2, .int .u64 0, .int .u64 1, .int .u64 0] rfl
  have ba : Below V23.heap.size V23 (V23.alloc (.cells #[.int .u64 2, .int .u64 0, .int .u64 1, .int .u64 0] 43)) := bel_alloc (Below.refl _ _) _
  have T1 := Lib.hid (T1.out.below ba)
  have RN := Lib.hid (RN.out.below ba)
  have T10 := Lib.hid T10
  have BW := Lib.hid (bel_trans BW.out ba)
  clear ba
  generalize V23.alloc (.cells #[.int .u64 2, .int .u64 0, .int .u64 1, .int .u64 0] 43) = V24 at *
  refine (moveP_any (some ⟨V23.heap.size, 0, none⟩) 2 2 pF 2 1 1 V24 rfl (by omega) (by omega) (fun h => by cases h) T10.out bF (by omega) (by omega) (by omega) (by omega) (by omega) (by omega)).mono ?_
  rw [x10.1, x10.2]
  rintro r V25 ⟨vv, rfl, oo, bb⟩
  have T1 := Lib.hid (T1.out.below bb)
  have RN := Lib.hid (RN.out.below bb)
  have BW := Lib.hid (bel_trans BW.out bb)
  clear bb
  clear oo T10
  go_wp2_with fail
  refine (moveP_any (some ⟨w.heap.size, 0, none⟩) 3 3 pA 1 9 18446744073709551607 V25 rfl (by omega) (by omega) (fun h => by cases h) T1.out bA (by omega) (by omega) (by omega) (by omega) (by omega) (by omega)).mono ?_
  rw [x11.1, x11.2]
  rintro r V26 ⟨vv, rfl, oo, bb⟩
  have T1 := Lib.hid (T1.out.below bb)
  have RN := Lib.hid (RN.out.below bb)
  have BW := Lib.hid (bel_trans BW.out bb)
  clear bb
  clear oo
  clear T1
  go_wp2_with fail
  have T11 := lit_c V26 r5 #[.int .u64 3, .bool true, .int .u64 10, .bool false, .int .u64 0] rfl
  have ba : Below V26.heap.size V26 (V26.alloc (.cells #[.int .u64 3, .bool true, .int .u64 10, .bool false, .int .u64 0] 45)) := bel_alloc (Below.refl _ _) _
  have RN := Lib.hid (RN.out.below ba)
  have T11 := Lib.hid T11
  have BW := Lib.hid (bel_trans BW.out ba)
  clear ba
  generalize V26.alloc (.cells #[.int .u64 3, .bool true, .int .u64 10, .bool false, .int .u64 0] 45) = V27 at *
  refine (thenP NA (some ⟨V26.heap.size, 0, none⟩) 2 NC 1 1 r3 r5 V27 rfl rfl (by omega) (by omega) (by omega) (fun h => by cases h) RN.out T11.out).mono ?_
  rw [x12.1, x12.2]
  rintro r V28 ⟨vv, rfl, oo, bb⟩
  obtain ⟨TA, TC, rfl, _, Tc, Tr, Tz⟩ := row_use oo
  have RT := Lib.hid Tr; have ZT := Lib.hid Tz
  clear Tr Tz oo
  have RN := Lib.hid (RN.out.below bb)
  have BW := Lib.hid (bel_trans BW.out bb)
  clear bb
  clear RN
  clear T11
  go_wp2_with fail
  have T12 := lit_c V28 r7 #[.int .u64 1, .bool true, .int .u64 10, .bool true, .int .u64 11] rfl
  have T13 := lit_c (V28.alloc (.cells #[.int .u64 1, .bool true, .int .u64 10, .bool true, .int .u64 11] 45)) r8 #[.int .u64 1, .bool true, .int .u64 10, .bool true, .int .u64 12] rfl
  rw [show (V28.alloc (.cells #[.int .u64 1, .bool true, .int .u64 10, .bool true, .int .u64 11] 45)).heap.size = V28.heap.size + 1 by simp] at T13
  have ba : Below V28.heap.size V28 ((V28.alloc (.cells #[.int .u64 1, .bool true, .int .u64 10, .bool true, .int .u64 11] 45)).alloc (.cells #[.int .u64 1, .bool true, .int .u64 10, .bool true, .int .u64 12] 45)) := bel_alloc (bel_alloc (Below.refl _ _) _) _
  have bb2 : Below (V28.alloc (.cells #[.int .u64 1, .bool true, .int .u64 10, .bool true, .int .u64 11] 45)).heap.size (V28.alloc (.cells #[.int .u64 1, .bool true, .int .u64 10, .bool true, .int .u64 11] 45)) ((V28.alloc (.cells #[.int .u64 1, .bool true, .int .u64 10, .bool true, .int .u64 11] 45)).alloc (.cells #[.int .u64 1, .bool true, .int .u64 10, .bool true, .int .u64 12] 45)) := bel_alloc (Below.refl _ _) _
  have T12 := T12.below bb2
  clear bb2
  have RT := Lib.hid (RT.out.below ba)
  have T12 := Lib.hid T12
  have T13 := Lib.hid T13
  have BW := Lib.hid (bel_trans BW.out ba)
  clear ba
  generalize (V28.alloc (.cells #[.int .u64 1, .bool true, .int .u64 10, .bool true, .int .u64 11] 45)).alloc (.cells #[.int .u64 1, .bool true, .int .u64 10, .bool true, .int .u64 12] 45) = V29 at *
  refine (thenP (some ⟨V28.heap.size, 0, none⟩) (some ⟨V28.heap.size + 1, 0, none⟩) 1 1 1 1 r7 r8 V29 rfl rfl (by omega) (by omega) (by omega) (fun h => by cases h) T12.out T13.out).mono ?_
  rw [x13.1, x13.2]
  rintro r V30 ⟨vv, rfl, oo, bb⟩
  have RT := Lib.hid (RT.out.below bb)
  have BW := Lib.hid (bel_trans BW.out bb)
  clear bb
  clear oo T12 T13
  go_wp2_with fail
  have T14 := lit_c V30 r9 #[.int .u64 1, .bool false, .int .u64 0, .bool true, .int .u64 5] rfl
  have T15 := lit_c (V30.alloc (.cells #[.int .u64 1, .bool false, .int .u64 0, .bool true, .int .u64 5] 45)) r10 #[.int .u64 1, .bool true, .int .u64 5, .bool false, .int .u64 0] rfl
  rw [show (V30.alloc (.cells #[.int .u64 1, .bool false, .int .u64 0, .bool true, .int .u64 5] 45)).heap.size = V30.heap.size + 1 by simp] at T15
  have ba : Below V30.heap.size V30 ((V30.alloc (.cells #[.int .u64 1, .bool false, .int .u64 0, .bool true, .int .u64 5] 45)).alloc (.cells #[.int .u64 1, .bool true, .int .u64 5, .bool false, .int .u64 0] 45)) := bel_alloc (bel_alloc (Below.refl _ _) _) _
  have bb2 : Below (V30.alloc (.cells #[.int .u64 1, .bool false, .int .u64 0, .bool true, .int .u64 5] 45)).heap.size (V30.alloc (.cells #[.int .u64 1, .bool false, .int .u64 0, .bool true, .int .u64 5] 45)) ((V30.alloc (.cells #[.int .u64 1, .bool false, .int .u64 0, .bool true, .int .u64 5] 45)).alloc (.cells #[.int .u64 1, .bool true, .int .u64 5, .bool false, .int .u64 0] 45)) := bel_alloc (Below.refl _ _) _
  have T14 := T14.below bb2
  clear bb2
  have RT := Lib.hid (RT.out.below ba)
  have T14 := Lib.hid T14
  have T15 := Lib.hid T15
  have BW := Lib.hid (bel_trans BW.out ba)
  clear ba
  generalize (V30.alloc (.cells #[.int .u64 1, .bool false, .int .u64 0, .bool true, .int .u64 5] 45)).alloc (.cells #[.int .u64 1, .bool true, .int .u64 5, .bool false, .int .u64 0] 45) = V31 at *
  refine (thenP (some ⟨V30.heap.size, 0, none⟩) (some ⟨V30.heap.size + 1, 0, none⟩) 1 1 1 1 r9 r10 V31 rfl rfl (by omega) (by omega) (by omega) (fun h => by cases h) T14.out T15.out).mono ?_
  rw [x14.1, x14.2]
  rintro r V32 ⟨vv, rfl, oo, bb⟩
  have RT := Lib.hid (RT.out.below bb)
  have BW := Lib.hid (bel_trans BW.out bb)
  clear bb
  obtain ⟨UA, UC, rfl, _, _, _, _⟩ := row_use oo
  clear oo T14 T15
  go_wp2_with fail
  have T16 := lit_c V32 r6 #[.int .u64 1, .bool true, .int .u64 10, .bool false, .int .u64 0] rfl
  have ba : Below V32.heap.size V32 (V32.alloc (.cells #[.int .u64 1, .bool true, .int .u64 10, .bool false, .int .u64 0] 45)) := bel_alloc (Below.refl _ _) _
  have RT := Lib.hid (RT.out.below ba)
  have T16 := Lib.hid T16
  have BW := Lib.hid (bel_trans BW.out ba)
  clear ba
  generalize V32.alloc (.cells #[.int .u64 1, .bool true, .int .u64 10, .bool false, .int .u64 0] 45) = V33 at *
  refine (sameR_any TA (some ⟨V32.heap.size, 0, none⟩) 1 TC 1 1 r6 r6 V33 rfl rfl (by omega) (by omega) RT.out T16.out).mono ?_
  simp only [decide_true]
  rintro r V34 ⟨rfl, bb⟩
  have RT := Lib.hid (RT.out.below bb)
  have BW := Lib.hid (bel_trans BW.out bb)
  clear bb
  clear RT
  clear T16
  go_wp2_with fail
  have T17 := lit_c V34 [⟨1, false, 0, false, 0⟩] #[.int .u64 1, .bool false, .int .u64 0, .bool false, .int .u64 0] rfl
  have ba : Below V34.heap.size V34 (V34.alloc (.cells #[.int .u64 1, .bool false, .int .u64 0, .bool false, .int .u64 0] 45)) := bel_alloc (Below.refl _ _) _
  have T17 := Lib.hid T17
  have BW := Lib.hid (bel_trans BW.out ba)
  clear ba
  generalize V34.alloc (.cells #[.int .u64 1, .bool false, .int .u64 0, .bool false, .int .u64 0] 45) = V35 at *
  refine (chkP (some ⟨V34.heap.size, 0, none⟩) 1 1 [⟨1, false, 0, false, 0⟩] V35 rfl (by omega) T17.out).mono ?_
  rw [x15]
  rintro r V36 ⟨rfl, bb⟩
  have BW := Lib.hid (bel_trans BW.out bb)
  clear bb
  clear T17
  go_wp2_with fail
  have T18 := lit_c V36 [⟨2, true, 1, false, 0⟩, ⟨2, false, 0, true, 1⟩] #[.int .u64 2, .bool true, .int .u64 1, .bool false, .int .u64 0, .int .u64 2, .bool false, .int .u64 0, .bool true, .int .u64 1] rfl
  have ba : Below V36.heap.size V36 (V36.alloc (.cells #[.int .u64 2, .bool true, .int .u64 1, .bool false, .int .u64 0, .int .u64 2, .bool false, .int .u64 0, .bool true, .int .u64 1] 45)) := bel_alloc (Below.refl _ _) _
  have T18 := Lib.hid T18
  have BW := Lib.hid (bel_trans BW.out ba)
  clear ba
  generalize V36.alloc (.cells #[.int .u64 2, .bool true, .int .u64 1, .bool false, .int .u64 0, .int .u64 2, .bool false, .int .u64 0, .bool true, .int .u64 1] 45) = V37 at *
  refine (chkP (some ⟨V36.heap.size, 0, none⟩) 2 2 [⟨2, true, 1, false, 0⟩, ⟨2, false, 0, true, 1⟩] V37 rfl (by omega) T18.out).mono ?_
  rw [x16]
  rintro r V38 ⟨rfl, bb⟩
  have BW := Lib.hid (bel_trans BW.out bb)
  clear bb
  clear T18
  go_wp2_with fail
  have T19 := lit_c V38 [⟨2, false, 1, true, 0⟩] #[.int .u64 2, .bool false, .int .u64 1, .bool true, .int .u64 0] rfl
  have ba : Below V38.heap.size V38 (V38.alloc (.cells #[.int .u64 2, .bool false, .int .u64 1, .bool true, .int .u64 0] 45)) := bel_alloc (Below.refl _ _) _
  have T19 := Lib.hid T19
  have BW := Lib.hid (bel_trans BW.out ba)
  clear ba
  generalize V38.alloc (.cells #[.int .u64 2, .bool false, .int .u64 1, .bool true, .int .u64 0] 45) = V39 at *
  refine (chkP (some ⟨V38.heap.size, 0, none⟩) 1 1 [⟨2, false, 1, true, 0⟩] V39 rfl (by omega) T19.out).mono ?_
  rw [x17]
  rintro r V40 ⟨rfl, bb⟩
  have BW := Lib.hid (bel_trans BW.out bb)
  clear bb
  clear T19
  go_wp2_with fail
  refine (chkP none 0 0 [] V40 rfl (by omega) (fun q y hq => by simp at hq)).mono ?_
  rw [x18]
  rintro r V41 ⟨rfl, bb⟩
  have BW := Lib.hid (bel_trans BW.out bb)
  clear bb
  go_wp2
  go_ret
  exact ⟨rfl, BW.out⟩
end Wk
end Go.Proofs.Ytbdllakbkienoaa
