/- The walk of SpanExamples (package leapfroglaw02), from the contracts. No conditions. -/
import Derived.Test.YtmnoljnjnmcgpaaWkSp3
import Derived.Test.YtmnoljnjnmcgpaaSpanA
namespace Go.Proofs.Ytmnoljnjnmcgpaa
open Go.RowKit Go.Sort
set_option linter.unusedVariables false
set_option linter.unusedSimpArgs false
namespace Wk
open Sp
theorem rd_four {w : World} {g : Nat} {a b c d e f h i : Int} (h0 : w.cell? ⟨g, 0, none⟩ = some (.int .u64 a)) (h1 : w.cell? ⟨g, 1, none⟩ = some (.int .u64 b)) (h2 : w.cell? ⟨g, 2, none⟩ = some (.int .u64 c)) (h3 : w.cell? ⟨g, 3, none⟩ = some (.int .u64 d))
    (h4 : w.cell? ⟨g, 4, none⟩ = some (.int .u64 e)) (h5 : w.cell? ⟨g, 5, none⟩ = some (.int .u64 f)) (h6 : w.cell? ⟨g, 6, none⟩ = some (.int .u64 h)) (h7 : w.cell? ⟨g, 7, none⟩ = some (.int .u64 i)) : Rd w (some ⟨g, 0, none⟩) [(a, b), (c, d), (e, f), (h, i)] := by
  intro k x hk
  match k, hk with
  | 0, hk => simp at hk; subst hk; exact ⟨g, 0, rfl, h0, h1⟩
  | 1, hk => simp at hk; subst hk; exact ⟨g, 0, rfl, h2, h3⟩
  | 2, hk => simp at hk; subst hk; exact ⟨g, 0, rfl, h4, h5⟩
  | 3, hk => simp at hk; subst hk; exact ⟨g, 0, rfl, h6, h7⟩
  | k + 4, hk => simp at hk
theorem bd_dec {l : List Sp.Sp} (h : (l.all fun x => decide (0 ≤ x.1) && decide (x.1 ≤ 18446744073709551615) && decide (0 ≤ x.2) && decide (x.2 ≤ 18446744073709551615)) = true) : Bd l := by
  intro x hx
  have := List.all_eq_true.1 h x hx
  simp only [Bool.and_eq_true, decide_eq_true_eq] at this
  exact ⟨this.1.1.1, this.1.1.2, this.1.2, this.2⟩
set_option maxRecDepth 100000 in
set_option maxHeartbeats 4000000 in
theorem walk_spanExamples (w : World) :
    Calls Try.prog 7 #[] w fun e w' => e = .returned (.bool true) ∧ Below w.heap.size w w' := by
  have w0b : Below w.heap.size w w := Below.refl _ _
  have E1_0 := Lib.hid (show ckE 3 3 = 0 by decide +kernel)
  have E2_0 := Lib.hid (show ckE 4 3 = 13 by decide +kernel)
  have E3_0 := Lib.hid (show hasB 3 5 5 = true by decide +kernel)
  have E4_0 := Lib.hid (show hasB 5 3 4 = false by decide +kernel)
  have E5_0 := Lib.hid (show mtL 1 6 4 9 = 4 by decide +kernel)
  have E5_1 := Lib.hid (show mtH 1 6 4 9 = 6 by decide +kernel)
  have E5_2 := Lib.hid (show mtB 1 6 4 9 = true by decide +kernel)
  have E6_0 := Lib.hid (show mtL 1 2 4 9 = 0 by decide +kernel)
  have E6_1 := Lib.hid (show mtH 1 2 4 9 = 0 by decide +kernel)
  have E6_2 := Lib.hid (show mtB 1 2 4 9 = false by decide +kernel)
  have E7_0 := Lib.hid (show mtB 9 1 0 9 = false by decide +kernel)
  have E8_0 := Lib.hid (show mtB 1 4 4 9 = true by decide +kernel)
  have E9_0 := Lib.hid (show huL 1 2 8 9 = 1 by decide +kernel)
  have E9_1 := Lib.hid (show huH 1 2 8 9 = 9 by decide +kernel)
  have E9_2 := Lib.hid (show huE 1 2 8 9 = 0 by decide +kernel)
  have E10_0 := Lib.hid (show shL 3 5 4 = 7 by decide +kernel)
  have E10_1 := Lib.hid (show shH 3 5 4 = 9 by decide +kernel)
  have E10_2 := Lib.hid (show shE 3 5 4 = 0 by decide +kernel)
  have E11_0 := Lib.hid (show shL 3 5 18446744073709551611 = 0 by decide +kernel)
  have E11_1 := Lib.hid (show shH 3 5 18446744073709551611 = 0 by decide +kernel)
  have E11_2 := Lib.hid (show shE 3 5 18446744073709551611 = 12 by decide +kernel)
  have N1 := Lib.hid (show nrm [(7, 9), (1, 2), (3, 4), (8, 12)] = [(1, 4), (7, 12)] by decide +kernel)
  have N2 := Lib.hid (show caE [(7, 9), (1, 2), (3, 4), (8, 12)] = 0 by decide +kernel)
  have N3 := Lib.hid (show caE [(1, 2), (2, 1)] = 13 by decide +kernel)
  have N4 := Lib.hid (show sameB [(1, 4), (7, 12)] [(1, 4), (7, 12)] = true by decide +kernel)
  have V1 := Lib.hid (show cvV (2, 9) [(5, 9), (0, 4)] = true by decide +kernel)
  have V2 := Lib.hid (show cvE (2, 9) [(5, 9), (0, 4)] = 0 by decide +kernel)
  have V3 := Lib.hid (show cvV (2, 9) [(0, 4), (6, 9)] = false by decide +kernel)
  have V4 := Lib.hid (show cvE (2, 9) [(0, 4), (6, 9)] = 0 by decide +kernel)
  have Z1 := Lib.hid (show szN 0 18446744073709551615 = 0 by decide +kernel)
  have Z2 := Lib.hid (show szA 0 18446744073709551615 = true by decide +kernel)
  have Z3 := Lib.hid (show ckE 0 18446744073709551615 = 0 by decide +kernel)
  have Z4 := Lib.hid (show szN 1 18446744073709551615 = 18446744073709551615 by decide +kernel)
  have Z5 := Lib.hid (show szA 1 18446744073709551615 = false by decide +kernel)
  have Z6 := Lib.hid (show ckE 1 18446744073709551615 = 0 by decide +kernel)
  go_enter Try.func7, Try.ntmps7
  go_wp2_with fail
  refine (check_any 3 3 (by omega) (by omega) (by omega) (by omega) _).mono ?_
  rw [E1_0.out]
  rintro r w1 ⟨rfl, b1⟩
  have B1 := bel_trans w0b b1
  clear b1
  go_wp2_with fail
  refine (check_any 4 3 (by omega) (by omega) (by omega) (by omega) _).mono ?_
  rw [E2_0.out]
  rintro r w2 ⟨rfl, b2⟩
  have B2 := bel_trans B1 b2
  clear b2
  go_wp2_with fail
  refine (has_any 3 5 5 (by omega) (by omega) (by omega) (by omega) (by omega) (by omega) _).mono ?_
  rw [E3_0.out]
  rintro r w3 ⟨rfl, b3⟩
  have B3 := bel_trans B2 b3
  clear b3
  go_wp2_with fail
  refine (has_any 5 3 4 (by omega) (by omega) (by omega) (by omega) (by omega) (by omega) _).mono ?_
  rw [E4_0.out]
  rintro r w4 ⟨rfl, b4⟩
  have B4 := bel_trans B3 b4
  clear b4
  go_wp2_with fail
  refine (meet_any 1 6 4 9 (by omega) (by omega) (by omega) (by omega) (by omega) (by omega) (by omega) (by omega) _).mono ?_
  rw [E5_0.out, E5_1.out, E5_2.out]
  rintro r w5 ⟨rfl, b5⟩
  have B5 := bel_trans B4 b5
  clear b5
  go_wp2_with fail
  refine (meet_any 1 2 4 9 (by omega) (by omega) (by omega) (by omega) (by omega) (by omega) (by omega) (by omega) _).mono ?_
  rw [E6_0.out, E6_1.out, E6_2.out]
  rintro r w6 ⟨rfl, b6⟩
  have m50 : w6.cell? ⟨w5.heap.size, 0, none⟩ = some (.int .u64 4) := by rw [b6.cell (p := ⟨w5.heap.size, 0, none⟩) (by simp <;> omega)]; simp
  have m51 : w6.cell? ⟨w5.heap.size, 1, none⟩ = some (.int .u64 6) := by rw [b6.cell (p := ⟨w5.heap.size, 1, none⟩) (by simp <;> omega)]; simp
  have z6 : w5.heap.size < w6.heap.size := by have := b6.size; simp at this; omega
  have B6 := bel_trans (bel_alloc B5 _) b6
  clear b6
  go_wp2_with fail
  refine (overlap_any 9 1 0 9 (by omega) (by omega) (by omega) (by omega) (by omega) (by omega) (by omega) (by omega) _).mono ?_
  rw [E7_0.out]
  rintro r w7 ⟨rfl, b7⟩
  replace m50 := cy _ m50 b7
  replace m51 := cy _ m51 b7
  have z7 : w5.heap.size < w7.heap.size := by have := b7.size; simp at this; omega
  have B7 := bel_trans (bel_alloc B6 _) b7
  clear b7
  go_wp2_with fail
  refine (overlap_any 1 4 4 9 (by omega) (by omega) (by omega) (by omega) (by omega) (by omega) (by omega) (by omega) _).mono ?_
  rw [E8_0.out]
  rintro r w8 ⟨rfl, b8⟩
  replace m50 := cb m50 b8
  replace m51 := cb m51 b8
  have z8 : w5.heap.size < w8.heap.size := by have := b8.size; omega
  have B8 := bel_trans B7 b8
  clear b8
  go_wp2_with fail
  refine (hull_any 1 2 8 9 (by omega) (by omega) (by omega) (by omega) (by omega) (by omega) (by omega) (by omega) _).mono ?_
  rw [E9_0.out, E9_1.out, E9_2.out]
  rintro r w9 ⟨rfl, b9⟩
  replace m50 := cb m50 b9
  replace m51 := cb m51 b9
  have z9 : w5.heap.size < w9.heap.size := by have := b9.size; omega
  have B9 := bel_trans B8 b9
  clear b9
  go_wp2_with fail
  refine (shift_any 3 5 4 (by omega) (by omega) (by omega) (by omega) (by omega) (by omega) _).mono ?_
  rw [E10_0.out, E10_1.out, E10_2.out]
  rintro r w10 ⟨rfl, b10⟩
  replace m50 := cy _ m50 b10
  replace m51 := cy _ m51 b10
  have m90 : w10.cell? ⟨w9.heap.size, 0, none⟩ = some (.int .u64 1) := by rw [b10.cell (p := ⟨w9.heap.size, 0, none⟩) (by simp <;> omega)]; simp
  have m91 : w10.cell? ⟨w9.heap.size, 1, none⟩ = some (.int .u64 9) := by rw [b10.cell (p := ⟨w9.heap.size, 1, none⟩) (by simp <;> omega)]; simp
  have z10 : w5.heap.size < w10.heap.size ∧ w9.heap.size < w10.heap.size := by have := b10.size; simp at this; omega
  have B10 := bel_trans (bel_alloc B9 _) b10
  clear b10
  go_wp2_with fail
  refine (shift_any 3 5 18446744073709551611 (by omega) (by omega) (by omega) (by omega) (by omega) (by omega) _).mono ?_
  rw [E11_0.out, E11_1.out, E11_2.out]
  rintro r w11 ⟨rfl, b11⟩
  replace m50 := cy _ m50 b11
  replace m51 := cy _ m51 b11
  replace m90 := cy _ m90 b11
  replace m91 := cy _ m91 b11
  have m100 : w11.cell? ⟨w10.heap.size, 0, none⟩ = some (.int .u64 7) := by rw [b11.cell (p := ⟨w10.heap.size, 0, none⟩) (by simp <;> omega)]; simp
  have m101 : w11.cell? ⟨w10.heap.size, 1, none⟩ = some (.int .u64 9) := by rw [b11.cell (p := ⟨w10.heap.size, 1, none⟩) (by simp <;> omega)]; simp
  have z11 : w5.heap.size < w11.heap.size ∧ w9.heap.size < w11.heap.size ∧ w10.heap.size < w11.heap.size := by have := b11.size; simp at this; omega
  have B11 := bel_trans (bel_alloc B10 _) b11
  clear b11
  go_wp2_with fail
  refine (normalize_any _ 4 4 [(7, 9), (1, 2), (3, 4), (8, 12)] _ rfl (by omega) ?_ (bd_dec (by decide +kernel))).mono ?_
  · exact rd_four (by simp) (by simp) (by simp) (by simp) (by simp) (by simp) (by simp) (by simp)
  rintro r w12 ⟨A12, c12, rfl, rd12, _, b12⟩
  rw [N2.out, N1.out]
  rw [N1.out] at rd12
  have B12 := bel_trans (bel_alloc (bel_alloc B11 _) _) b12
  clear b12
  go_wp2_with fail
  refine (normalize_any _ 2 2 [(1, 2), (2, 1)] _ rfl (by omega) ?_ (bd_dec (by decide +kernel))).mono ?_
  · exact rd_two (by simp) (by simp) (by simp) (by simp)
  rintro r w13 ⟨A13, c13, rfl, _, _, b13⟩
  rw [N3.out]
  have rd13 := rd12.below (bel_trans (bel_alloc (Below.refl _ _) _) b13)
  have B13 := bel_trans (bel_alloc B12 _) b13
  clear b13 rd12
  go_wp2_with fail
  refine (sameR_any A12 _ 2 2 c12 2 [(1, 4), (7, 12)] [(1, 4), (7, 12)] _ rfl rfl (by simp [maxLen]) (by simp [maxLen]) (rd13.below (bel_alloc (Below.refl _ _) _)) ?_).mono ?_
  · exact rd_two (by simp) (by simp) (by simp) (by simp)
  rw [N4.out]
  rintro r w14 ⟨rfl, b14⟩
  have B14 := bel_trans (bel_alloc B13 _) b14
  clear b14 rd13
  go_wp2_with fail
  refine (covers_any _ 2 2 (2, 9) [(5, 9), (0, 4)] _ rfl (by omega) ?_ (bd_dec (by decide +kernel)) ⟨by decide, by decide, by decide, by decide⟩).mono ?_
  · exact rd_two (by simp) (by simp) (by simp) (by simp)
  rintro r w15 ⟨rfl, b15⟩
  rw [V1.out, V2.out]
  have B15 := bel_trans (bel_alloc B14 _) b15
  clear b15
  go_wp2_with fail
  refine (covers_any _ 2 2 (2, 9) [(0, 4), (6, 9)] _ rfl (by omega) ?_ (bd_dec (by decide +kernel)) ⟨by decide, by decide, by decide, by decide⟩).mono ?_
  · exact rd_two (by simp) (by simp) (by simp) (by simp)
  rintro r w16 ⟨rfl, b16⟩
  rw [V3.out, V4.out]
  have B16 := bel_trans (bel_alloc B15 _) b16
  clear b16
  go_wp2_with fail
  refine (size_any 0 18446744073709551615 (by omega) (by omega) (by omega) (by omega) _).mono ?_
  rw [Z1.out, Z2.out, Z3.out]
  rintro r w17 ⟨rfl, b17⟩
  have B17 := bel_trans B16 b17
  go_wp2_with fail
  refine (size_any 1 18446744073709551615 (by omega) (by omega) (by omega) (by omega) _).mono ?_
  rw [Z4.out, Z5.out, Z6.out]
  rintro r w18 ⟨rfl, b18⟩
  have B18 := bel_trans B17 b18
  go_wp2_with fail
  refine (known_any _).mono ?_
  rintro r w19 ⟨rfl, b19⟩
  go_wp2
  go_ret
  exact ⟨rfl, bel_trans B18 b19⟩
end Wk
end Go.Proofs.Ytmnoljnjnmcgpaa
