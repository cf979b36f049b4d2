/- HistoryPrefixes: the walk. Conditions: those of the arguments' kinds. Written by tools/mk12w4.py. -/
import Derived.Test.YtgfhfcjjodcgdaaHiWm
namespace Go.Proofs.Ytgfhfcjjodcgdaa
open Go.RowKit Go.Shelf Go.Sort
set_option linter.unusedVariables false
set_option linter.unusedSimpArgs false
namespace Wk
open Hi
set_option maxRecDepth 100000 in
set_option maxHeartbeats 4000000 in
theorem walk_historyPrefixes (a0 : Option Addr) (a0n a0c : Nat) (a0v : List Hi.C) (a1 : Int) (a2 : Int) (w : World) (a0e : a0v.length = a0n) (a0m : a0n ≤ maxLen) (a0r : Hi.RdV w a0 a0v) (a0b : Hi.BdV a0v) (a0z : a0 = none → a0c = 0) (a0y : a0n ≤ a0c ∧ a0c ≤ maxLen) (a1l : (-9223372036854775808) ≤ a1) (a1h : a1 ≤ 9223372036854775807) (a2l : (-9223372036854775808) ≤ a2) (a2h : a2 ≤ 9223372036854775807) :
    Calls Try.prog 7 #[.slice a0 a0n a0c, .int .i64 a1, .int .i64 a2] w fun e w' => e = .returned (.bool true) ∧ Below w.heap.size w w' := by
  have RA := Lib.hid (show KC.Rd w a0 a0v from a0r)
  have FW := fun (W : World) (h : KC.Rd W a0 a0v) => Lib.hid (few_any a0 a0n a0c a0v W a0e a0m a0y.1 a0y.2 h a0z)
  have hF := few_len a0v
  have BF := Lib.hid (fewL_bd a0b)
  have B := Lib.hid (Below.refl w.heap.size w)
  obtain ⟨F, hFF⟩ : ∃ F, fewL a0v = F := ⟨_, rfl⟩
  rw [hFF] at FW hF BF
  obtain ⟨n, hn⟩ : ∃ n, F.length = n := ⟨_, rfl⟩
  have HN := Lib.hid hn
  rw [hn] at hF
  have hF3 : n ≤ 1000 := by omega
  have n1 : (n : Int) ≤ 1000 := by omega
  clear a0r a0b a0z a0y a0e a0m hFF hn
  obtain ⟨cat, hcat⟩ : ∃ x, chkAt F = x := ⟨_, rfl⟩
  have HCA := Lib.hid hcat
  clear hcat
  by_cases hwf : WF F
  · by_cases hs : a1 < -1
    · have d1 : decide (a1 < -1) = true := decide_eq_true hs
      have HER := Lib.hid (show erC F = 0 from erC_ok hwf)
      have HES := Lib.hid (show erS a1 F = 3 from erS_low hwf hs)
      have HPL := Lib.hid (show pfL a1 F = [] from pfL_low hwf hs)
      go_enter Try.func7, Try.ntmps7
      go_wp2_with fail
      refine ((FW _ RA.out).out).mono ?_
      rintro e w1 h1
      obtain ⟨A1, c1, rfl, rd1, zr1, b1⟩ := ro_use h1
      rw [HN.out]
      have RA_2 := Lib.hid (RA.out.below b1)
      clear RA
      replace B := Lib.hid (bel_bel B.out b1)
      clear b1
      have RI := Lib.hid rd1
      clear rd1
      clear zr1
      clear RA_2
      go_wp2_with fail
      refine (prefix_any a1 A1 n c1 F _ HN.out hF3 RI.out BF.out).mono ?_
      rintro e w3 h3
      obtain ⟨A3, c3, rfl, rd3, zr3, b3⟩ := rw_use h3
      rw [HES.out, HPL.out]
      rw [HPL.out] at rd3
      have RI_4 := Lib.hid (RI.out.below b3)
      clear RI
      replace B := Lib.hid (bel_bel B.out b3)
      clear b3
      have SP := Lib.hid rd3
      clear rd3
      clear zr3
      clear SP
      go_wp2_with fail
      refine (check_use (check_any A1 n c1 F _ HN.out hF3 RI_4.out BF.out)).mono ?_
      rintro e w5 ⟨h5, b5⟩
      have RI_6 := Lib.hid (RI_4.out.below b5)
      clear RI_4
      replace B := Lib.hid (bel_bel B.out b5)
      clear b5
      rw [HCA.out, HER.out] at h5
      subst h5
      go_wp2_with fail
      refine (awake_any _).mono ?_
      rintro e w9 ⟨rfl, b9⟩
      go_wp2
      go_ret
      exact ⟨rfl, bel_bel B.out b9⟩
    · have hs : -1 ≤ a1 := by omega
      have d1 : decide (a1 < -1) = false := decide_eq_false (by omega)
      have HW := Lib.hid hwf
      have HWP := Lib.hid (WF_pref hs hwf)
      have BP := Lib.hid (pref_bd a1 BF.out)
      obtain ⟨n2, hn2⟩ : ∃ n2, (pref a1 F).length = n2 := ⟨_, rfl⟩
      have HN2 := Lib.hid hn2
      have hn3 : n2 ≤ 1000 := by have := pref_len a1 F; have := HN.out; omega
      obtain ⟨q, hq0, hq1, hq2⟩ := eL_pref hs hwf
      have hEN := eL_len F
      obtain ⟨N, hN⟩ : ∃ N, (eL F).length = N := ⟨_, rfl⟩
      have HNN := Lib.hid hN
      rw [hN] at hEN
      have HEN := Lib.hid hEN
      have hN3 : N ≤ 40 := by have := eff_len F; have := HN.out; omega
      have hqN : q ≤ N := by omega
      have HEQ := Lib.hid hq1
      have HQS := Lib.hid hq2
      have HQL := Lib.hid (show ((eL F).take q).length = q from by rw [List.length_take, hN]; omega)
      obtain ⟨M, hM⟩ : ∃ M, M = min a1 a2 := ⟨_, rfl⟩
      have HMN := Lib.hid (show ¬ a2 < -1 → (if a2 < a1 then a2 else a1) = M ∧ min a1 a2 = M ∧ min a1 a2 = M ∧ -1 ≤ M from fun h => ⟨by split <;> omega, hM.symm, hM.symm, by omega⟩)
      have hMa : a2 < -1 ∨ -1 ≤ M := by omega
      clear hn2 hq0 hq1 hq2 hEN hM hN
      have HER := Lib.hid (show erC F = 0 from erC_ok hwf)
      have HES := Lib.hid (show erS a1 F = 0 from erS_ok hwf hs)
      have HPL := Lib.hid (show pfL a1 F = pref a1 F from pfL_ok hwf hs)
      go_enter Try.func7, Try.ntmps7
      go_wp2_with fail
      refine ((FW _ RA.out).out).mono ?_
      rintro e w1 h1
      obtain ⟨A1, c1, rfl, rd1, zr1, b1⟩ := ro_use h1
      rw [HN.out]
      have RA_2 := Lib.hid (RA.out.below b1)
      clear RA
      replace B := Lib.hid (bel_bel B.out b1)
      clear b1
      have RI := Lib.hid rd1
      clear rd1
      clear zr1
      clear RA_2
      go_wp2_with fail
      refine (prefix_any a1 A1 n c1 F _ HN.out hF3 RI.out BF.out).mono ?_
      rintro e w3 h3
      obtain ⟨A3, c3, rfl, rd3, zr3, b3⟩ := rw_use h3
      rw [HES.out, HPL.out]
      rw [HPL.out] at rd3
      have RI_4 := Lib.hid (RI.out.below b3)
      clear RI
      replace B := Lib.hid (bel_bel B.out b3)
      clear b3
      have SP := Lib.hid rd3
      clear rd3
      clear zr3
      rw [HN2.out]
      clear hwf
      go_wp2_with fail
      refine (check_use (check_any A3 n2 c3 (pref a1 F) _ HN2.out hn3 SP.out BP.out)).mono ?_
      rintro e w5 ⟨h5, b5⟩
      have RI_6 := Lib.hid (RI_4.out.below b5)
      clear RI_4
      have SP_7 := Lib.hid (SP.out.below b5)
      clear SP
      replace B := Lib.hid (bel_bel B.out b5)
      clear b5
      rw [show erC (pref a1 F) = 0 from erC_ok HWP.out] at h5
      generalize chkAt (pref a1 F) = cap at h5
      subst h5
      go_wp2_with fail
      refine (effects_any A1 n c1 F _ HN.out hF3 RI_6.out BF.out).mono ?_
      rintro e w8 h8
      rw [HER.out, show efL F = eL F from efL_wf HW.out] at h8
      obtain ⟨A8, c8, rfl, hc8, rd8, zr8, b8⟩ := rw_useC h8
      clear h8 zr8
      rw [HNN.out] at hc8 ⊢
      have RI_9 := Lib.hid (RI_6.out.below b8)
      clear RI_6
      have SP_10 := Lib.hid (SP_7.out.below b8)
      clear SP_7
      replace B := Lib.hid (bel_bel B.out b8)
      clear b8
      have SX := Lib.hid rd8
      clear rd8
      go_wp2_with fail
      refine (effects_any A3 n2 c3 (pref a1 F) _ HN2.out hn3 SP_10.out BP.out).mono ?_
      rintro e w11 h11
      rw [show erC (pref a1 F) = 0 from erC_ok HWP.out, show efL (pref a1 F) = eL (pref a1 F) from efL_wf HWP.out, HEQ.out] at h11
      obtain ⟨A11, c11, rfl, hc11, rd11, zr11, b11⟩ := rw_useC h11
      clear h11 zr11 hc11
      rw [HQL.out]
      have RI_12 := Lib.hid (RI_9.out.below b11)
      clear RI_9
      have SP_13 := Lib.hid (SP_10.out.below b11)
      clear SP_10
      have SX_14 := Lib.hid (SX.out.below b11)
      clear SX
      replace B := Lib.hid (bel_bel B.out b11)
      clear b11
      have SY := Lib.hid rd11
      clear rd11
      have hsl : q = N ∨ (q < N ∧ ∃ b o, A8 = some ⟨b, o, none⟩) := by
        by_cases h : q = N
        · exact .inl h
        · obtain ⟨b, o, e, _⟩ := KI.at_ SX_14.out (show q < (eL F).length by rw [HNN.out]; omega)
          exact .inr ⟨by omega, b, o, e⟩
      rcases hsl with rfl | ⟨hqN2, bX, oX, rfl⟩
      · have d9 : decide ((q : Int) > q) = false := decide_eq_false (by omega)
        have qc : (q : Int) ≤ c8 := by omega
        go_wp2_with fail
        refine (equI_same A11 A8 q c11 c8 ((eL F).take q) _ HQL.out (by omega) SY.out (take_rd SX_14.out q)).mono ?_
        rintro e w15 ⟨rfl, b15⟩
        have RI_16 := Lib.hid (RI_12.out.below b15)
        clear RI_12
        have SP_17 := Lib.hid (SP_13.out.below b15)
        clear SP_13
        have SX_18 := Lib.hid (SX_14.out.below b15)
        clear SX_14
        have SY_19 := Lib.hid (SY.out.below b15)
        clear SY
        replace B := Lib.hid (bel_bel B.out b15)
        clear b15
        clear SY_19
        have d10 : decide ((q : Int) < q) = false := by simp
        clear SX_18
        by_cases ht : a2 < -1
        · have d11 : decide (a2 < -1) = true := decide_eq_true ht
          go_wp2_with fail
          refine (awake_any _).mono ?_
          rintro e w9 ⟨rfl, b9⟩
          go_wp2
          go_ret
          exact ⟨rfl, bel_bel B.out b9⟩
        · have d11 : decide (a2 < -1) = false := decide_eq_false ht
          have d12 := HMN.out (by omega)
          have d13 := d12.1
          have d14 := d12.2.1
          have HM1 := Lib.hid d12.2.2.1
          have HR := Lib.hid (pref_pref hs (show -1 ≤ a2 by omega) F)
          clear d12
          go_wp2_with fail
          refine (prefix_any a2 A3 n2 c3 (pref a1 F) _ HN2.out (by omega) SP_17.out BP.out).mono ?_
          rintro e w20 h20
          obtain ⟨A20, c20, rfl, rd20, zr20, b20⟩ := rw_use h20
          rw [show erS a2 (pref a1 F) = 0 from erS_ok HWP.out (by omega), show pfL a2 (pref a1 F) = pref a2 (pref a1 F) from pfL_ok HWP.out (by omega)]
          rw [show pfL a2 (pref a1 F) = pref a2 (pref a1 F) from pfL_ok HWP.out (by omega)] at rd20
          rw [HR.out, HM1.out] at rd20
          rw [HR.out, HM1.out]
          have RI_21 := Lib.hid (RI_16.out.below b20)
          clear RI_16
          have SP_22 := Lib.hid (SP_17.out.below b20)
          clear SP_17
          replace B := Lib.hid (bel_bel B.out b20)
          clear b20
          have SQ := Lib.hid rd20
          clear rd20
          clear zr20
          go_wp2_with fail
          refine (prefix_any M A1 n c1 F _ HN.out hF3 RI_21.out BF.out).mono ?_
          rintro e w23 h23
          obtain ⟨A23, c23, rfl, rd23, zr23, b23⟩ := rw_use h23
          rw [show erS M F = 0 from erS_ok HW.out (by omega), show pfL M F = pref M F from pfL_ok HW.out (by omega)]
          rw [show pfL M F = pref M F from pfL_ok HW.out (by omega)] at rd23
          have RI_24 := Lib.hid (RI_21.out.below b23)
          clear RI_21
          have SP_25 := Lib.hid (SP_22.out.below b23)
          clear SP_22
          have SQ_26 := Lib.hid (SQ.out.below b23)
          clear SQ
          replace B := Lib.hid (bel_bel B.out b23)
          clear b23
          have SR := Lib.hid rd23
          clear rd23
          clear zr23
          go_wp2_with fail
          refine (equC_same A20 A23 (pref M F).length c20 c23 (pref M F) _ rfl (by have := pref_len M F; have := HN.out; omega) SQ_26.out SR.out).mono ?_
          rintro e w27 ⟨rfl, b27⟩
          have RI_28 := Lib.hid (RI_24.out.below b27)
          clear RI_24
          have SP_29 := Lib.hid (SP_25.out.below b27)
          clear SP_25
          have SQ_30 := Lib.hid (SQ_26.out.below b27)
          clear SQ_26
          have SR_31 := Lib.hid (SR.out.below b27)
          clear SR
          replace B := Lib.hid (bel_bel B.out b27)
          clear b27
          go_wp2_with fail
          refine (awake_any _).mono ?_
          rintro e w9 ⟨rfl, b9⟩
          go_wp2
          go_ret
          exact ⟨rfl, bel_bel B.out b9⟩
      · have d9 : decide ((q : Int) > N) = false := decide_eq_false (by omega)
        have qc : (q : Int) ≤ c8 := by omega
        go_wp2_with fail
        refine (equI_same A11 (some ⟨bX, oX, none⟩) q c11 c8 ((eL F).take q) _ HQL.out (by omega) SY.out (take_rd SX_14.out q)).mono ?_
        rintro e w15 ⟨rfl, b15⟩
        have RI_16 := Lib.hid (RI_12.out.below b15)
        clear RI_12
        have SP_17 := Lib.hid (SP_13.out.below b15)
        clear SP_13
        have SX_18 := Lib.hid (SX_14.out.below b15)
        clear SX_14
        have SY_19 := Lib.hid (SY.out.below b15)
        clear SY
        replace B := Lib.hid (bel_bel B.out b15)
        clear b15
        clear SY_19
        have d10 : decide ((q : Int) < N) = true := decide_eq_true (by omega)
        have q1 : (q : Int) < N := by omega
        have hqE : q < (eff F).length := by have := HEN.out; omega
        have hst := HQS.out hqE
        have heg := eff_get_lt hqE
        obtain ⟨bx, ox, eX, cx⟩ := KI.at_ SX_18.out (show q < (eL F).length by rw [HNN.out]; omega)
        injection eX with eX
        injection eX with q2 q3 q4
        subst q2 q3
        clear q4
        rw [eL_get hqE] at cx
        obtain ⟨e, he⟩ : ∃ e, (eff F).getD q 0 = e := ⟨_, rfl⟩
        rw [he] at cx hst heg
        have hen : e < n := by have := HN.out; omega
        have e1 : (e : Int) < n := by omega
        have e2 : decide ((e : Int) < 0) = false := decide_eq_false (by omega)
        have e3 : decide ((e : Int) ≥ n) = false := decide_eq_false (by omega)
        obtain ⟨b, o, eR, at0⟩ := KC.at_ RI_16.out (show e < F.length by have := HN.out; omega)
        subst eR
        have cu : w15.cell? ⟨b, o + e * 18 + 10, none⟩ = some (.int .i64 (tk F e)) := at0 10 _ rfl
        obtain ⟨u, hu⟩ : ∃ u, tk F e = u := ⟨_, rfl⟩
        rw [hu] at cu hst
        have e4 : decide (u ≤ a1) = false := decide_eq_false (by omega)
        clear at0 hu he heg hst
        clear SX_18
        by_cases ht : a2 < -1
        · have d11 : decide (a2 < -1) = true := decide_eq_true ht
          go_wp2_with fail
          refine (awake_any _).mono ?_
          rintro e w9 ⟨rfl, b9⟩
          go_wp2
          go_ret
          exact ⟨rfl, bel_bel B.out b9⟩
        · have d11 : decide (a2 < -1) = false := decide_eq_false ht
          have d12 := HMN.out (by omega)
          have d13 := d12.1
          have d14 := d12.2.1
          have HM1 := Lib.hid d12.2.2.1
          have HR := Lib.hid (pref_pref hs (show -1 ≤ a2 by omega) F)
          clear d12
          go_wp2_with fail
          refine (prefix_any a2 A3 n2 c3 (pref a1 F) _ HN2.out (by omega) SP_17.out BP.out).mono ?_
          rintro e w20 h20
          obtain ⟨A20, c20, rfl, rd20, zr20, b20⟩ := rw_use h20
          rw [show erS a2 (pref a1 F) = 0 from erS_ok HWP.out (by omega), show pfL a2 (pref a1 F) = pref a2 (pref a1 F) from pfL_ok HWP.out (by omega)]
          rw [show pfL a2 (pref a1 F) = pref a2 (pref a1 F) from pfL_ok HWP.out (by omega)] at rd20
          rw [HR.out, HM1.out] at rd20
          rw [HR.out, HM1.out]
          have RI_21 := Lib.hid (RI_16.out.below b20)
          clear RI_16
          have SP_22 := Lib.hid (SP_17.out.below b20)
          clear SP_17
          replace B := Lib.hid (bel_bel B.out b20)
          clear b20
          have SQ := Lib.hid rd20
          clear rd20
          clear zr20
          go_wp2_with fail
          refine (prefix_any M (some ⟨b, o, none⟩) n c1 F _ HN.out hF3 RI_21.out BF.out).mono ?_
          rintro e w23 h23
          obtain ⟨A23, c23, rfl, rd23, zr23, b23⟩ := rw_use h23
          rw [show erS M F = 0 from erS_ok HW.out (by omega), show pfL M F = pref M F from pfL_ok HW.out (by omega)]
          rw [show pfL M F = pref M F from pfL_ok HW.out (by omega)] at rd23
          have RI_24 := Lib.hid (RI_21.out.below b23)
          clear RI_21
          have SP_25 := Lib.hid (SP_22.out.below b23)
          clear SP_22
          have SQ_26 := Lib.hid (SQ.out.below b23)
          clear SQ
          replace B := Lib.hid (bel_bel B.out b23)
          clear b23
          have SR := Lib.hid rd23
          clear rd23
          clear zr23
          go_wp2_with fail
          refine (equC_same A20 A23 (pref M F).length c20 c23 (pref M F) _ rfl (by have := pref_len M F; have := HN.out; omega) SQ_26.out SR.out).mono ?_
          rintro e w27 ⟨rfl, b27⟩
          have RI_28 := Lib.hid (RI_24.out.below b27)
          clear RI_24
          have SP_29 := Lib.hid (SP_25.out.below b27)
          clear SP_25
          have SQ_30 := Lib.hid (SQ_26.out.below b27)
          clear SQ_26
          have SR_31 := Lib.hid (SR.out.below b27)
          clear SR
          replace B := Lib.hid (bel_bel B.out b27)
          clear b27
          go_wp2_with fail
          refine (awake_any _).mono ?_
          rintro e w9 ⟨rfl, b9⟩
          go_wp2
          go_ret
          exact ⟨rfl, bel_bel B.out b9⟩
  · have HER := Lib.hid (show erC F = 15 from erC_no hwf)
    have HES := Lib.hid (show erS a1 F = 15 from erS_no hwf)
    have HPL := Lib.hid (show pfL a1 F = [] from pfL_no hwf)
    go_enter Try.func7, Try.ntmps7
    go_wp2_with fail
    refine ((FW _ RA.out).out).mono ?_
    rintro e w1 h1
    obtain ⟨A1, c1, rfl, rd1, zr1, b1⟩ := ro_use h1
    rw [HN.out]
    have RA_2 := Lib.hid (RA.out.below b1)
    clear RA
    replace B := Lib.hid (bel_bel B.out b1)
    clear b1
    have RI := Lib.hid rd1
    clear rd1
    clear zr1
    clear RA_2
    go_wp2_with fail
    refine (prefix_any a1 A1 n c1 F _ HN.out hF3 RI.out BF.out).mono ?_
    rintro e w3 h3
    obtain ⟨A3, c3, rfl, rd3, zr3, b3⟩ := rw_use h3
    rw [HES.out, HPL.out]
    rw [HPL.out] at rd3
    have RI_4 := Lib.hid (RI.out.below b3)
    clear RI
    replace B := Lib.hid (bel_bel B.out b3)
    clear b3
    have SP := Lib.hid rd3
    clear rd3
    clear zr3
    clear SP
    go_wp2_with fail
    refine (check_use (check_any A1 n c1 F _ HN.out hF3 RI_4.out BF.out)).mono ?_
    rintro e w5 ⟨h5, b5⟩
    have RI_6 := Lib.hid (RI_4.out.below b5)
    clear RI_4
    replace B := Lib.hid (bel_bel B.out b5)
    clear b5
    rw [HCA.out, HER.out] at h5
    subst h5
    go_wp2_with fail
    refine (awake_any _).mono ?_
    rintro e w9 ⟨rfl, b9⟩
    go_wp2
    go_ret
    exact ⟨rfl, bel_bel B.out b9⟩
end Wk
end Go.Proofs.Ytgfhfcjjodcgdaa
