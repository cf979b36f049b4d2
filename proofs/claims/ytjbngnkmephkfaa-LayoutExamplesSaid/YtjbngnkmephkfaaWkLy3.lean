/- LayoutExamples: the walk. Conditions: none. -/
import Derived.Test.YtjbngnkmephkfaaLyXe
namespace Go.Proofs.Ytjbngnkmephkfaa
open Go.RowKit Go.Sort
set_option linter.unusedVariables false
set_option linter.unusedSimpArgs false
attribute [local go_sem] Ly.eq6 Ly.guard6 Ly.eqPL1 Ly.eqPL0 Ly.eqP0 Ly.eqP1 Ly.eqP2 Ly.eqP3 Ly.guard10 Ly.guard3
namespace Wk
open Ly
open Dm (RdK bel_alloc bel_trans cell_lt)
set_option maxRecDepth 100000 in
set_option maxHeartbeats 8000000 in
theorem walk_layoutExamples (w : World) :
    Calls Try.prog 6 #[] w fun e w' => e = .returned (.bool true) ∧ Below w.heap.size w w' := by
  go_enter Try.func6, Try.ntmps6
  go_wp2_with fail
  refine (example_any _).mono ?_
  rintro r w1 ⟨rfl, b1⟩
  go_wp2_with fail
  refine (ex_new _).mono ?_
  rintro r w2 ⟨b, A, c, rfl, hb, ly, b2⟩
  have LY := Lib.hid ly
  have B := Lib.hid (bel_trans b1 b2)
  clear ly b1 b2 hb
  go_wp2_with fail
  refine (places_any LY.out).mono ?_
  rw [show plV (geo exF []) = exPL from ex_pl]
  rintro r w3 ⟨rfl, b3⟩
  replace B := Lib.hid (bel_trans B.out b3)
  replace LY := Lib.hid (LY.out.below b3)
  clear b3
  unfold exPL
  go_wp2_with fail
  refine (towers_any LY.out).mono ?_
  rw [ex_tot]
  rintro r w4 ⟨rfl, rfl⟩
  go_wp2_with fail
  refine (word_any LY.out ex_gok 2 4).mono ?_
  rw [ex_word]
  rintro r w5 ⟨rfl, b3⟩
  replace B := Lib.hid (bel_trans B.out b3)
  replace LY := Lib.hid (LY.out.below b3)
  clear b3
  go_wp2_with fail
  refine (next_any LY.out ex_gok 3 1 (by simp [I64])).mono ?_
  rw [xn1]
  rintro r w6 ⟨rfl, b3⟩
  replace B := Lib.hid (bel_trans B.out b3)
  replace LY := Lib.hid (LY.out.below b3)
  clear b3
  go_wp2_with fail
  refine (next_any LY.out ex_gok (-2) 5 (by simp [I64])).mono ?_
  rw [xn2]
  rintro r w7 ⟨rfl, b3⟩
  replace B := Lib.hid (bel_trans B.out b3)
  replace LY := Lib.hid (LY.out.below b3)
  clear b3
  go_wp2_with fail
  refine (latch_any LY.out ex_gok (-1) (by simp [I64])).mono ?_
  rw [xl1]
  rintro r w8 ⟨rfl, b3⟩
  replace B := Lib.hid (bel_trans B.out b3)
  replace LY := Lib.hid (LY.out.below b3)
  clear b3
  go_wp2_with fail
  refine (height_any LY.out ex_gok 4).mono ?_
  rw [xh1]
  rintro r w9 ⟨rfl, b3⟩
  replace B := Lib.hid (bel_trans B.out b3)
  replace LY := Lib.hid (LY.out.below b3)
  clear b3
  go_wp2_with fail
  refine (next_any LY.out ex_gok 2 1 (by simp [I64])).mono ?_
  rw [xn3]
  rintro r w10 ⟨rfl, b3⟩
  replace B := Lib.hid (bel_trans B.out b3)
  replace LY := Lib.hid (LY.out.below b3)
  clear b3
  go_wp2_with fail
  refine (latch_any LY.out ex_gok (-3) (by simp [I64])).mono ?_
  rw [xl2]
  rintro r w11 ⟨rfl, b3⟩
  replace B := Lib.hid (bel_trans B.out b3)
  replace LY := Lib.hid (LY.out.below b3)
  clear b3
  go_wp2_with fail
  refine (word_any LY.out ex_gok 1 5).mono ?_
  rw [xw2]
  rintro r w12 ⟨rfl, b3⟩
  replace B := Lib.hid (bel_trans B.out b3)
  replace LY := Lib.hid (LY.out.below b3)
  clear b3
  go_wp2_with fail
  refine (ofc_any LY.out ex_gok 52).mono ?_
  rw [ex_of]
  rintro r w13 ⟨rfl, b3⟩
  replace B := Lib.hid (bel_trans B.out b3)
  replace LY := Lib.hid (LY.out.below b3)
  clear b3
  go_wp2_with fail
  refine (ofc_any LY.out ex_gok 27).mono ?_
  rw [xo1]
  rintro r w14 ⟨rfl, b3⟩
  replace B := Lib.hid (bel_trans B.out b3)
  replace LY := Lib.hid (LY.out.below b3)
  clear b3
  go_wp2_with fail
  refine (ofc_any LY.out ex_gok 17).mono ?_
  rw [xo2]
  rintro r w15 ⟨rfl, b3⟩
  replace B := Lib.hid (bel_trans B.out b3)
  replace LY := Lib.hid (LY.out.below b3)
  clear b3
  go_wp2_with fail
  refine (ofc_any LY.out ex_gok 53).mono ?_
  rw [xo3]
  rintro r w16 ⟨rfl, b3⟩
  replace B := Lib.hid (bel_trans B.out b3)
  replace LY := Lib.hid (LY.out.below b3)
  clear b3
  go_wp2_with fail
  refine (ofc_any LY.out ex_gok (-1)).mono ?_
  rw [xo4]
  rintro r w17 ⟨rfl, b3⟩
  replace B := Lib.hid (bel_trans B.out b3)
  replace LY := Lib.hid (LY.out.below b3)
  clear b3
  go_wp2_with fail
  refine (ini_ex LY.out).mono ?_
  rintro r w18 ⟨BI, rfl, hc, b3⟩
  replace B := Lib.hid (bel_trans B.out b3)
  clear b3
  have HC := Lib.hid hc
  clear hc LY
  go_wp2_with fail
  go_loop [11] (fun i => ∃ j : Nat, j ≤ 53 ∧ i = .int .i64 j) (fun i => (53 - intOf i).toNat)
  case atStart => exact ⟨0, Nat.zero_le _, rfl⟩
  case round =>
    obtain ⟨j, hj, rfl⟩ := hrel
    by_cases hlt : j < 53
    · have d0 : decide ((j : Int) < 53) = true := decide_eq_true (by omega)
      have d1 : (j : Int) < 53 := by omega
      have g0 := HC.out j hlt
      by_cases h11 : j = 11
      · subst h11
        rw [show want 11 = 1 from rfl] at g0
        go_wp2
        go_round
        case rel => exact ⟨12, by omega, rfl⟩
        case measure => simp [intOf]
      · have e11 : ((j : Int) == 11) = false := by simp; omega
        by_cases h12 : j = 12
        · subst h12
          rw [show want 12 = 3 from rfl] at g0
          go_wp2
          go_round
          case rel => exact ⟨13, by omega, rfl⟩
          case measure => simp [intOf]
        · have e12 : ((j : Int) == 12) = false := by simp; omega
          by_cases h17 : j = 17
          · subst h17
            rw [show want 17 = 2 from rfl] at g0
            go_wp2
            go_round
            case rel => exact ⟨18, by omega, rfl⟩
            case measure => simp [intOf]
          · have e17 : ((j : Int) == 17) = false := by simp; omega
            rw [show want j = 0 by unfold want; rw [if_neg h11, if_neg h12, if_neg h17]] at g0
            go_wp2
            go_round
            case rel => exact ⟨j + 1, by omega, by go_num⟩
            case measure => simp [intOf]; omega
    · obtain rfl : j = 53 := by omega
      clear HC
      as_aux_lemma =>
        go_wp2_with fail
        refine (example_any _).mono ?_
        rintro r wa ⟨rfl, b3⟩
        replace B := Lib.hid (bel_trans B.out b3)
        clear b3
        unfold exV
        have K13 := Lib.hid (heap_new wa (.cells #[.int .i64 1, .int .i64 2, .int .u8 2, .int .i64 0, .int .u8 2, .int .i64 2, .slice none 0 0, .int .i64 2, .int .i64 1, .int .i64 0, .int .i64 0, .int .i64 0, .int .i64 1022, .int .i64 1, .int .i64 1, .int .i64 0] 27))
        go_wp2_with fail
        refine (example_any _).mono ?_
        rintro r wb ⟨rfl, b3⟩
        replace K13 := Lib.hid ((b3.block wa.heap.size (by rw [World.size_alloc]; omega)).trans K13.out)
        replace B := Lib.hid (bel_trans (bel_alloc B.out _) b3)
        clear b3
        unfold exV
        have l13 := (Array.getElem?_eq_some_iff.1 K13.out).1
        replace K13 := Lib.hid ((Below.heap_alloc wb (.cells #[.int .i64 1, .int .i64 2, .int .u8 2, .int .i64 0, .int .u8 2, .int .i64 2, .slice none 0 0, .int .i64 2, .int .i64 1, .int .i64 0, .int .i64 0, .int .i64 0, .int .i64 1021, .int .i64 1, .int .i64 1, .int .i64 0] 27) _ l13).trans K13.out)
        have K14 := Lib.hid (heap_new wb (.cells #[.int .i64 1, .int .i64 2, .int .u8 2, .int .i64 0, .int .u8 2, .int .i64 2, .slice none 0 0, .int .i64 2, .int .i64 1, .int .i64 0, .int .i64 0, .int .i64 0, .int .i64 1021, .int .i64 1, .int .i64 1, .int .i64 0] 27))
        go_wp2_with fail
        refine (example_any _).mono ?_
        rintro r wc ⟨rfl, b3⟩
        replace K13 := Lib.hid ((b3.block wa.heap.size (by rw [World.size_alloc]; omega)).trans K13.out)
        replace K14 := Lib.hid ((b3.block wb.heap.size (by rw [World.size_alloc]; omega)).trans K14.out)
        replace B := Lib.hid (bel_trans (bel_alloc B.out _) b3)
        clear b3 l13
        unfold exV
        have l13 := (Array.getElem?_eq_some_iff.1 K13.out).1
        have l14 := (Array.getElem?_eq_some_iff.1 K14.out).1
        replace K13 := Lib.hid ((Below.heap_alloc wc (.cells #[.int .i64 1, .int .i64 2, .int .u8 2, .int .i64 1, .int .u8 2, .int .i64 2, .slice none 0 0, .int .i64 2, .int .i64 1, .int .i64 0, .int .i64 0, .int .i64 0, .int .i64 0, .int .i64 1, .int .i64 1, .int .i64 0] 27) _ l13).trans K13.out)
        replace K14 := Lib.hid ((Below.heap_alloc wc (.cells #[.int .i64 1, .int .i64 2, .int .u8 2, .int .i64 1, .int .u8 2, .int .i64 2, .slice none 0 0, .int .i64 2, .int .i64 1, .int .i64 0, .int .i64 0, .int .i64 0, .int .i64 0, .int .i64 1, .int .i64 1, .int .i64 0] 27) _ l14).trans K14.out)
        have K15 := Lib.hid (heap_new wc (.cells #[.int .i64 1, .int .i64 2, .int .u8 2, .int .i64 1, .int .u8 2, .int .i64 2, .slice none 0 0, .int .i64 2, .int .i64 1, .int .i64 0, .int .i64 0, .int .i64 0, .int .i64 0, .int .i64 1, .int .i64 1, .int .i64 0] 27))
        replace B := Lib.hid (bel_alloc B.out (.cells #[.int .i64 1, .int .i64 2, .int .u8 2, .int .i64 1, .int .u8 2, .int .i64 2, .slice none 0 0, .int .i64 2, .int .i64 1, .int .i64 0, .int .i64 0, .int .i64 0, .int .i64 0, .int .i64 1, .int .i64 1, .int .i64 0] 27))
        clear l13 l14
        as_aux_lemma =>
          go_upto_region 40 with fail
          generalize wc.alloc (.cells #[.int .i64 1, .int .i64 2, .int .u8 2, .int .i64 1, .int .u8 2, .int .i64 2, .slice none 0 0, .int .i64 2, .int .i64 1, .int .i64 0, .int .i64 0, .int .i64 0, .int .i64 0, .int .i64 1, .int .i64 1, .int .i64 0] 27) = W at *
          generalize wa.heap.size = n13 at *
          generalize wb.heap.size = n14 at *
          generalize wc.heap.size = n15 at *
          have q0 := cell_of (j := 0) K13.out rfl
          have q1 := cell_of (j := 1) K13.out rfl
          have q2 := cell_of (j := 2) K13.out rfl
          have q3 := cell_of (j := 3) K13.out rfl
          have q4 := cell_of (j := 4) K13.out rfl
          have q5 := cell_of (j := 5) K13.out rfl
          have q6 := cell_of (j := 6) K13.out rfl
          have q7 := cell_of (j := 7) K13.out rfl
          have q8 := cell_of (j := 8) K13.out rfl
          have q9 := cell_of (j := 9) K13.out rfl
          have q10 := cell_of (j := 10) K13.out rfl
          have q11 := cell_of (j := 11) K13.out rfl
          have q12 := cell_of (j := 12) K13.out rfl
          have q13 := cell_of (j := 13) K13.out rfl
          have q14 := cell_of (j := 14) K13.out rfl
          have q15 := cell_of (j := 15) K13.out rfl
          go_wp2_with fail
          refine (chk1 _).mono ?_
          rintro r wchk1 ⟨rfl, b3⟩
          clear q0 q1 q2 q3 q4 q5 q6 q7 q8 q9 q10 q11 q12 q13 q14 q15
          replace K14 := Lib.hid ((b3.block n14 (Array.getElem?_eq_some_iff.1 K14.out).1).trans K14.out)
          replace K15 := Lib.hid ((b3.block n15 (Array.getElem?_eq_some_iff.1 K15.out).1).trans K15.out)
          replace B := Lib.hid (bel_trans B.out b3)
          clear b3 K13
          as_aux_lemma =>
            have q0 := cell_of (j := 0) K14.out rfl
            have q1 := cell_of (j := 1) K14.out rfl
            have q2 := cell_of (j := 2) K14.out rfl
            have q3 := cell_of (j := 3) K14.out rfl
            have q4 := cell_of (j := 4) K14.out rfl
            have q5 := cell_of (j := 5) K14.out rfl
            have q6 := cell_of (j := 6) K14.out rfl
            have q7 := cell_of (j := 7) K14.out rfl
            have q8 := cell_of (j := 8) K14.out rfl
            have q9 := cell_of (j := 9) K14.out rfl
            have q10 := cell_of (j := 10) K14.out rfl
            have q11 := cell_of (j := 11) K14.out rfl
            have q12 := cell_of (j := 12) K14.out rfl
            have q13 := cell_of (j := 13) K14.out rfl
            have q14 := cell_of (j := 14) K14.out rfl
            have q15 := cell_of (j := 15) K14.out rfl
            go_wp2_with fail
            refine (chk2 _).mono ?_
            rintro r wchk2 ⟨rfl, b3⟩
            clear q0 q1 q2 q3 q4 q5 q6 q7 q8 q9 q10 q11 q12 q13 q14 q15
            replace K15 := Lib.hid ((b3.block n15 (Array.getElem?_eq_some_iff.1 K15.out).1).trans K15.out)
            replace B := Lib.hid (bel_trans B.out b3)
            clear b3 K14
            as_aux_lemma =>
              have q0 := cell_of (j := 0) K15.out rfl
              have q1 := cell_of (j := 1) K15.out rfl
              have q2 := cell_of (j := 2) K15.out rfl
              have q3 := cell_of (j := 3) K15.out rfl
              have q4 := cell_of (j := 4) K15.out rfl
              have q5 := cell_of (j := 5) K15.out rfl
              have q6 := cell_of (j := 6) K15.out rfl
              have q7 := cell_of (j := 7) K15.out rfl
              have q8 := cell_of (j := 8) K15.out rfl
              have q9 := cell_of (j := 9) K15.out rfl
              have q10 := cell_of (j := 10) K15.out rfl
              have q11 := cell_of (j := 11) K15.out rfl
              have q12 := cell_of (j := 12) K15.out rfl
              have q13 := cell_of (j := 13) K15.out rfl
              have q14 := cell_of (j := 14) K15.out rfl
              have q15 := cell_of (j := 15) K15.out rfl
              go_wp2_with fail
              refine (chk3 _).mono ?_
              rintro r wchk3 ⟨rfl, b3⟩
              clear q0 q1 q2 q3 q4 q5 q6 q7 q8 q9 q10 q11 q12 q13 q14 q15
              replace B := Lib.hid (bel_trans B.out b3)
              clear b3 K15
              as_aux_lemma =>
                go_wp2_with fail
                refine (chk4 _).mono ?_
                rintro r wn1 ⟨rfl, b3⟩
                replace B := Lib.hid (bel_trans B.out b3)
                clear b3
                go_wp2_with fail
                refine (nil_height 1 _).mono ?_
                rintro r wn2 ⟨rfl, b3⟩
                replace B := Lib.hid (bel_trans B.out b3)
                clear b3
                go_wp2_with fail
                refine (nil_word 1 9 _).mono ?_
                rintro r wn3 ⟨rfl, b3⟩
                replace B := Lib.hid (bel_trans B.out b3)
                clear b3
                go_wp2_with fail
                refine (nil_next 0 0 _).mono ?_
                rintro r wn4 ⟨rfl, b3⟩
                replace B := Lib.hid (bel_trans B.out b3)
                clear b3
                go_wp2_with fail
                refine (nil_latch 0 _).mono ?_
                rintro r wn5 ⟨rfl, b3⟩
                replace B := Lib.hid (bel_trans B.out b3)
                clear b3
                go_wp2_with fail
                refine (nil_towers _).mono ?_
                rintro r wn6 ⟨rfl, b3⟩
                replace B := Lib.hid (bel_trans B.out b3)
                clear b3
                go_wp2_with fail
                refine (nil_of 0 _).mono ?_
                rintro r wn7 ⟨rfl, b3⟩
                replace B := Lib.hid (bel_trans B.out b3)
                clear b3
                go_wp2_with fail
                refine (nil_initial _).mono ?_
                rintro r wn8 ⟨rfl, b3⟩
                replace B := Lib.hid (bel_trans B.out b3)
                clear b3
                go_wp2_with fail
                refine (nil_places _).mono ?_
                rintro r wn9 ⟨rfl, b3⟩
                replace B := Lib.hid (bel_trans B.out b3)
                clear b3
                go_wp2_with fail
                refine (nil_config _).mono ?_
                rintro r wn10 ⟨rfl, b3⟩
                replace B := Lib.hid (bel_trans B.out b3)
                clear b3
                go_wp2_with fail
                refine (eqconfig_zero _).mono ?_
                rintro r wn11 ⟨rfl, b3⟩
                replace B := Lib.hid (bel_trans B.out b3)
                clear b3
                go_wp2
                go_ret
                exact ⟨rfl, B.out⟩
end Wk
end Go.Proofs.Ytjbngnkmephkfaa
