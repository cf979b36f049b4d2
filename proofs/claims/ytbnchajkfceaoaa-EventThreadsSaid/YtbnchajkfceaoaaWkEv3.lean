/- EventThreads: the walk. Conditions: those of the argument's kind. Written by tools/mk11w3.py. -/
import Derived.Test.YtbnchajkfceaoaaWkEv1
import Derived.IntWalk
namespace Go.Proofs.Ytbnchajkfceaoaa
open Go.RowKit Go.Sort
set_option linter.unusedVariables false
set_option linter.unusedSimpArgs false
namespace Wk
open Ev
theorem ofT_at {t : Int} {l : List E} {i : Nat} (h : i < (ofT t l).length) : ((ofT t l).getD i e0).t = t := by
  rw [getD_get h]
  have := List.getElem_mem h
  have h2 : (ofT t l)[i] ∈ l.filter (fun e => decide (e.t = t)) := this
  rw [List.mem_filter] at h2
  simpa using h2.2
theorem WF_next {l : List E} (h : WF l) {i : Nat} (hi : i + 1 < l.length) : ¬ (l.getD (i + 1) e0).s < (l.getD i e0).s := by
  have hs := List.pairwise_iff_getElem.1 (WF_sorted h) i (i + 1) (by omega) hi (by omega)
  rw [getD_get hi, getD_get (by omega)]
  omega
set_option maxRecDepth 100000 in
set_option maxHeartbeats 4000000 in
theorem walk_eventThreads (a0 : Option Addr) (a0n a0c : Nat) (a0v : List Ev.E) (w : World) (a0e : a0v.length = a0n) (a0m : a0n ≤ maxLen) (a0r : Ev.RdV w a0 a0v) (a0b : Ev.BdV a0v) (a0z : a0 = none → a0c = 0) (a0y : a0n ≤ a0c ∧ a0c ≤ maxLen) :
    Calls Try.prog 8 #[.slice a0 a0n a0c] w fun e w' => e = .returned (.bool true) ∧ Below w.heap.size w w' := by
  have FW := Lib.hid (few_any a0 a0n a0c a0v w a0e a0m a0y.1 a0y.2 a0r a0z)
  have hF := few_len a0v
  obtain ⟨F, hFF⟩ : ∃ F, fewL a0v = F := ⟨_, rfl⟩
  rw [hFF] at FW hF
  have hF2 : F.length ≤ maxLen := by unfold maxLen; omega
  unfold maxLen at hF2
  clear a0r a0b a0z a0y a0e a0m hFF
  by_cases hok : chk F = none
  · have HE := Lib.hid (erC_ok hok)
    have CK := fun (W : World) A c (h : KE.Rd W A F) => Lib.hid (check_use (check_any A F.length c F W rfl hF2 h))
    rw [HE.out] at CK
    have HWF := Lib.hid (chk_none.1 hok)
    clear hok
    go_enter Try.func8, Try.ntmps8
    go_wp2_with fail
    refine FW.out.mono ?_
    rintro e w1 h1
    obtain ⟨A1, c1, rfl, rd1, _, b1⟩ := ro_use h1
    have RI := Lib.hid rd1
    clear rd1
    go_wp2_with fail
    refine (CK _ _ _ RI.out).out.mono ?_
    rintro e w2 ⟨rfl, b2⟩
    have RI2 := Lib.hid (RI.out.below b2)
    have B := Lib.hid (bel_trans b1 b2)
    obtain ⟨at_, hat⟩ : ∃ q, ((chkAt F : Nat) : Int) = q := ⟨_, rfl⟩
    simp only [hat]
    clear RI b1 b2 h1 CK hat
    go_wp2
    go_loopw [5, 6] (fun s t wr => ∃ k : Nat, k ≤ 64 ∧ t = .int .i64 k ∧ s = .int .i64 (sumT F k : Nat) ∧ Below w2.heap.size w2 wr) (fun s t _ => 64 - (intOf t).toNat)
    case atStart => exact ⟨0, by omega, rfl, rfl, Below.refl _ _⟩
    case round =>
      obtain ⟨k, hk, rfl, rfl, bel⟩ := hrel
      obtain ⟨wq, rfl⟩ : ∃ wq : World, wq = wr := ⟨_, rfl⟩
      have hsum := sumT_le F k
      by_cases hlt : k < 64
      · have d0 : decide ((k : Int) < 64) = true := decide_eq_true (by omega)
        have k64 : (k : Int) < 64 := by omega
        have CO := Lib.hid (of_any (k : Int) A1 F.length c1 F wq rfl (by omega) (RI2.out.below bel))
        have hol := ofT_len (k : Int) F
        have HSN := Lib.hid (show sumT F (k + 1) = sumT F k + (ofT (k : Int) F).length from rfl)
        have HAT := Lib.hid (fun i (h : i < (ofT (k : Int) F).length) => ofT_at h)
        have HW := Lib.hid (WF_ofT (t := (k : Int)) F HWF.out)
        have hpr : ((k : Int) : Int) = (k : Int) := rfl
        obtain ⟨L, hL⟩ : ∃ L, ofT (k : Int) F = L := ⟨_, rfl⟩
        rw [hL] at CO hol HSN HAT HW
        have CK2 := fun (W : World) A c (h : KE.Rd W A L) => Lib.hid (check_use (check_any A L.length c L W rfl (by unfold maxLen; omega) h))
        rw [erC_ok (chk_none.2 HW.out)] at CK2
        have BE := Lib.hid bel
        clear hL bel hpr
        have s1 : ((sumT F k : Nat) : Int) ≤ 80 := by omega
        have s2 : (L.length : Int) ≤ 80 := by omega
        have s3 : (0 : Int) ≤ (sumT F k : Nat) := by omega
        obtain ⟨S0, hS0⟩ : ∃ q, sumT F k = q := ⟨_, rfl⟩
        rw [hS0] at HSN hsum s1 s3
        simp only [hS0]
        clear hS0
        go_wp2_with fail
        refine CO.out.mono ?_
        rintro e w3 h3
        obtain ⟨A3, c3, rfl, rd3, _, b3⟩ := ro_use h3
        have RL := Lib.hid rd3
        have B3 := Lib.hid (bel_trans BE.out b3)
        clear rd3 h3 b3 CO BE
        go_wp2
        go_loopw [8] (fun i wr => ∃ j : Nat, j ≤ L.length ∧ i = .int .i64 j ∧ Below w3.heap.size w3 wr) (fun i _ => L.length - (intOf i).toNat)
        case atStart => exact ⟨0, Nat.zero_le _, rfl, Below.refl _ _⟩
        case round =>
          obtain ⟨j, hj, rfl, bel⟩ := hrel
          obtain ⟨wy, rfl⟩ : ∃ wy : World, wy = wr := ⟨_, rfl⟩
          by_cases hjl : j < L.length
          · have e1 : decide ((j : Int) < L.length) = true := decide_eq_true (by omega)
            have e2 : (j : Int) < L.length := by omega
            obtain ⟨b, o, rfl, c0, c1', c2, c3'⟩ := KE.at_ (RL.out.below bel) hjl
            rw [HAT.out j hjl] at c1'
            cases j with
            | zero =>
              simp only [Nat.zero_mul, Nat.add_zero] at c0 c1' c2 c3'
              generalize (L.getD 0 e0).s = ys at *
              clear c2 c3'
              have e3 : decide ((0 : Int) < 0) = false := by decide
              go_wp2
              go_quiet (fail)
              go_wp2
              go_roundw
              case rel => exact ⟨1, by omega, by go_num, bel_drawN bel _⟩
              case measure => simp [intOf]; omega
            | succ j =>
              obtain ⟨_, _, eA, p0, p1, p2, p3⟩ := KE.at_ (RL.out.below bel) (show j < L.length by omega)
              cases eA
              have HNX := Lib.hid (WF_next HW.out hjl)
              have e3 : decide ((0 : Int) < (j : Int) + 1) = true := decide_eq_true (by omega)
              have w1' : IntKind.i64.wrap ((j : Int) + 1 - 1) = j := by rw [IntWalk.i64_in _ (by omega)]; omega
              have e4 : (j : Int) < L.length := by omega
              have e5 : (j : Int) + 1 < L.length := by omega
              generalize (L.getD (j + 1) e0).s = ys at *
              generalize (L.getD j e0).s = zs at *
              clear c2 c3' p1 p2 p3
              have d3 : decide (ys < zs) = false := decide_eq_false HNX.out
              go_wp2
              go_quiet (fail)
              go_wp2
              go_roundw
              case rel => exact ⟨j + 2, by omega, by go_num, bel_drawN bel _⟩
              case measure => simp [intOf]; omega
          · obtain rfl : j = L.length := by omega
            have e1 : decide ((L.length : Int) < L.length) = false := by simp
            have RLy := Lib.hid (RL.out.below bel)
            have BY := Lib.hid (bel_trans B3.out bel)
            clear bel
            go_wp2_with fail
            refine (CK2 _ _ _ RLy.out).out.mono ?_
            rintro e w4 ⟨rfl, b4⟩
            go_wp2
            go_roundw
            case rel => exact ⟨k + 1, by omega, by go_num, by rw [HSN.out]; go_num, bel_trans BY.out b4⟩
            case measure => simp [intOf]; omega
      · obtain rfl : k = 64 := by omega
        have d0 : decide ((64 : Int) < 64) = false := by decide
        have HSA := Lib.hid (sumT_all HWF.out)
        have q0 : (((sumT F 64 : Nat) : Int) == (F.length : Int)) = true := by rw [HSA.out]; simp
        have BQ := Lib.hid (bel_trans B.out bel)
        obtain ⟨S0, hS0⟩ : ∃ q, sumT F 64 = q := ⟨_, rfl⟩
        rw [hS0] at q0
        simp only [hS0]
        clear hS0 HSA hsum bel
        go_wp2_with fail
        refine (awake_any _).mono ?_
        rintro e w9 ⟨rfl, b9⟩
        go_wp2
        go_ret
        exact ⟨rfl, bel_trans BQ.out b9⟩

  · have HE := Lib.hid (erC_no hok)
    have CK := fun (W : World) A c (h : KE.Rd W A F) => Lib.hid (check_use (check_any A F.length c F W rfl hF2 h))
    rw [HE.out] at CK
    clear hok
    go_enter Try.func8, Try.ntmps8
    go_wp2_with fail
    refine FW.out.mono ?_
    rintro e w1 h1
    obtain ⟨A1, c1, rfl, rd1, _, b1⟩ := ro_use h1
    have RI := Lib.hid rd1
    clear rd1
    go_wp2_with fail
    refine (CK _ _ _ RI.out).out.mono ?_
    rintro e w2 ⟨rfl, b2⟩
    have RI2 := Lib.hid (RI.out.below b2)
    have B := Lib.hid (bel_trans b1 b2)
    obtain ⟨at_, hat⟩ : ∃ q, ((chkAt F : Nat) : Int) = q := ⟨_, rfl⟩
    simp only [hat]
    clear RI b1 b2 h1 CK hat
    go_wp2
    go_loopw [5, 6] (fun s t wr => ∃ k : Nat, k ≤ 64 ∧ t = .int .i64 k ∧ s = .int .i64 (sumT F k : Nat) ∧ Below w2.heap.size w2 wr) (fun s t _ => 64 - (intOf t).toNat)
    case atStart => exact ⟨0, by omega, rfl, rfl, Below.refl _ _⟩
    case round =>
      obtain ⟨k, hk, rfl, rfl, bel⟩ := hrel
      obtain ⟨wq, rfl⟩ : ∃ wq : World, wq = wr := ⟨_, rfl⟩
      have hsum := sumT_le F k
      by_cases hlt : k < 64
      · have d0 : decide ((k : Int) < 64) = true := decide_eq_true (by omega)
        have k64 : (k : Int) < 64 := by omega
        have CO := Lib.hid (of_any (k : Int) A1 F.length c1 F wq rfl (by omega) (RI2.out.below bel))
        have hol := ofT_len (k : Int) F
        have HSN := Lib.hid (show sumT F (k + 1) = sumT F k + (ofT (k : Int) F).length from rfl)
        have HAT := Lib.hid (fun i (h : i < (ofT (k : Int) F).length) => ofT_at h)
        skip
        have hpr : ((k : Int) : Int) = (k : Int) := rfl
        obtain ⟨L, hL⟩ : ∃ L, ofT (k : Int) F = L := ⟨_, rfl⟩
        rw [hL] at CO hol HSN HAT 
        have CK2 := fun (W : World) A c (h : KE.Rd W A L) => Lib.hid (check_use (check_any A L.length c L W rfl (by unfold maxLen; omega) h))
        obtain ⟨er2, her⟩ : ∃ q, erC L = q := ⟨_, rfl⟩
        rw [her] at CK2
        clear her
        have BE := Lib.hid bel
        clear hL bel hpr
        have s1 : ((sumT F k : Nat) : Int) ≤ 80 := by omega
        have s2 : (L.length : Int) ≤ 80 := by omega
        have s3 : (0 : Int) ≤ (sumT F k : Nat) := by omega
        obtain ⟨S0, hS0⟩ : ∃ q, sumT F k = q := ⟨_, rfl⟩
        rw [hS0] at HSN hsum s1 s3
        simp only [hS0]
        clear hS0
        go_wp2_with fail
        refine CO.out.mono ?_
        rintro e w3 h3
        obtain ⟨A3, c3, rfl, rd3, _, b3⟩ := ro_use h3
        have RL := Lib.hid rd3
        have B3 := Lib.hid (bel_trans BE.out b3)
        clear rd3 h3 b3 CO BE
        go_wp2
        go_loopw [8] (fun i wr => ∃ j : Nat, j ≤ L.length ∧ i = .int .i64 j ∧ Below w3.heap.size w3 wr) (fun i _ => L.length - (intOf i).toNat)
        case atStart => exact ⟨0, Nat.zero_le _, rfl, Below.refl _ _⟩
        case round =>
          obtain ⟨j, hj, rfl, bel⟩ := hrel
          obtain ⟨wy, rfl⟩ : ∃ wy : World, wy = wr := ⟨_, rfl⟩
          by_cases hjl : j < L.length
          · have e1 : decide ((j : Int) < L.length) = true := decide_eq_true (by omega)
            have e2 : (j : Int) < L.length := by omega
            obtain ⟨b, o, rfl, c0, c1', c2, c3'⟩ := KE.at_ (RL.out.below bel) hjl
            rw [HAT.out j hjl] at c1'
            cases j with
            | zero =>
              simp only [Nat.zero_mul, Nat.add_zero] at c0 c1' c2 c3'
              generalize (L.getD 0 e0).s = ys at *
              clear c2 c3'
              have e3 : decide ((0 : Int) < 0) = false := by decide
              go_wp2
              go_quiet (fail)
              go_wp2
              go_roundw
              case rel => exact ⟨1, by omega, by go_num, bel_drawN bel _⟩
              case measure => simp [intOf]; omega
            | succ j =>
              obtain ⟨_, _, eA, p0, p1, p2, p3⟩ := KE.at_ (RL.out.below bel) (show j < L.length by omega)
              cases eA
              skip
              have e3 : decide ((0 : Int) < (j : Int) + 1) = true := decide_eq_true (by omega)
              have w1' : IntKind.i64.wrap ((j : Int) + 1 - 1) = j := by rw [IntWalk.i64_in _ (by omega)]; omega
              have e4 : (j : Int) < L.length := by omega
              have e5 : (j : Int) + 1 < L.length := by omega
              generalize (L.getD (j + 1) e0).s = ys at *
              generalize (L.getD j e0).s = zs at *
              clear c2 c3' p1 p2 p3
              skip
              go_wp2
              go_quiet (fail)
              go_wp2
              go_roundw
              case rel => exact ⟨j + 2, by omega, by go_num, bel_drawN bel _⟩
              case measure => simp [intOf]; omega
          · obtain rfl : j = L.length := by omega
            have e1 : decide ((L.length : Int) < L.length) = false := by simp
            have RLy := Lib.hid (RL.out.below bel)
            have BY := Lib.hid (bel_trans B3.out bel)
            clear bel
            go_wp2_with fail
            refine (CK2 _ _ _ RLy.out).out.mono ?_
            rintro e w4 ⟨rfl, b4⟩
            go_wp2
            go_roundw
            case rel => exact ⟨k + 1, by omega, by go_num, by rw [HSN.out]; go_num, bel_trans BY.out b4⟩
            case measure => simp [intOf]; omega
      · obtain rfl : k = 64 := by omega
        have d0 : decide ((64 : Int) < 64) = false := by decide
        have BQ := Lib.hid (bel_trans B.out bel)
        clear bel
        by_cases hq : sumT F 64 = F.length
        · have q0 : (((sumT F 64 : Nat) : Int) == (F.length : Int)) = true := by rw [hq]; simp
          obtain ⟨S0, hS0⟩ : ∃ q, sumT F 64 = q := ⟨_, rfl⟩
          rw [hS0] at q0
          simp only [hS0]
          clear hS0 hsum hq
          go_wp2_with fail
          refine (awake_any _).mono ?_
          rintro e w9 ⟨rfl, b9⟩
          go_wp2
          go_ret
          exact ⟨rfl, bel_trans BQ.out b9⟩
        · have q0 : (((sumT F 64 : Nat) : Int) == (F.length : Int)) = false := by simp; omega
          have q1 : decide (((sumT F 64 : Nat) : Int) < (F.length : Int)) = true := decide_eq_true (by omega)
          obtain ⟨S0, hS0⟩ : ∃ q, sumT F 64 = q := ⟨_, rfl⟩
          rw [hS0] at q0 q1
          have q2 : decide (S0 < F.length) = true := by simpa using q1
          simp only [hS0]
          clear hS0 hsum hq
          go_wp2_with fail
          refine (awake_any _).mono ?_
          rintro e w9 ⟨rfl, b9⟩
          go_wp2
          go_ret
          exact ⟨rfl, bel_trans BQ.out b9⟩

end Wk
end Go.Proofs.Ytbnchajkfceaoaa
