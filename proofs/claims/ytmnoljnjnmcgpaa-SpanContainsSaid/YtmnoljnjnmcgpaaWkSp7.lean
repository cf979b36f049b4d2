/- The walk of SpanContains (package leapfroglaw02), from the contracts. Conditions: the bounds of each argument's kind; what a list of ranges reads as. -/
import Derived.Test.YtmnoljnjnmcgpaaWkSp3
import Derived.Test.YtmnoljnjnmcgpaaSpanA
namespace Go.Proofs.Ytmnoljnjnmcgpaa
open Go.RowKit Go.Sort
set_option linter.unusedVariables false
set_option linter.unusedSimpArgs false
namespace Wk
open Sp
theorem cvB_part {N : List Sp.Sp} {s p : Sp.Sp} (h1 : s.1 ≤ p.1) (h2 : p.2 ≤ s.2) (h : cvB N s = true) : cvB N p = true := by
  simp only [cvB, List.any_eq_true, decide_eq_true_eq] at h ⊢
  obtain ⟨m, hm, q1, q2⟩ := h
  exact ⟨m, hm, by omega, by omega⟩
theorem cvB_ext {N : List Sp.Sp} {s : Sp.Sp} {k : Nat} {m : Sp.Sp} (h : N[k]? = some m) : cvB (N.take (k + 1)) s = (cvB (N.take k) s || decide (m.1 ≤ s.1 ∧ s.2 ≤ m.2)) := by
  rw [take_succ' h, cvB, List.any_append]; simp [cvB]
set_option maxRecDepth 100000 in
set_option maxHeartbeats 4000000 in
theorem walk_spanContains (a0Lo : Int) (a0Hi : Int) (a1Lo : Int) (a1Hi : Int) (a2 : Option Addr) (a2n a2c : Nat) (a2v : List Sp.Sp) (w : World) (a0Lol : 0 ≤ a0Lo) (a0Loh : a0Lo ≤ 18446744073709551615) (a0Hil : 0 ≤ a0Hi) (a0Hih : a0Hi ≤ 18446744073709551615) (a1Lol : 0 ≤ a1Lo) (a1Loh : a1Lo ≤ 18446744073709551615) (a1Hil : 0 ≤ a1Hi) (a1Hih : a1Hi ≤ 18446744073709551615) (a2e : a2v.length = a2n) (a2m : a2n ≤ maxLen) (a2r : Sp.Rd w a2 a2v) (a2b : Sp.Bd a2v) (a2z : a2 = none → a2c = 0) :
    Calls Try.prog 9 #[.agg #[.int .u64 a0Lo, .int .u64 a0Hi], .agg #[.int .u64 a1Lo, .int .u64 a1Hi], .slice a2 a2n a2c] w fun e w' => e = .returned (.bool true) ∧ Below w.heap.size w w' := by
  have HR := Lib.hid a2r; clear a2r
  have HD := Lib.hid a2b; clear a2b
  have HN := Lib.hid a2e; clear a2e a2z
  have HX := Lib.hid a2m; clear a2m
  have b0 : Below w.heap.size w ((w.alloc (.cells #[.int .u64 a0Lo, .int .u64 a0Hi] 24)).alloc (.cells #[.int .u64 a1Lo, .int .u64 a1Hi] 24)) := bel_alloc (bel_alloc (Below.refl _ _) _) _
  by_cases hbad : okB a2v = true ∧ a2n ≤ 60
  · obtain ⟨hok, hn⟩ := hbad
    have HBAD := Lib.hid (show (!okB a2v || decide (60 < a2n)) = false by rw [hok]; simp; omega)
    have HC := Lib.hid (show caE a2v = 0 by rw [caE, hok]; rfl)
    clear hok
    by_cases hv : a0Lo ≤ a0Hi
    · have HV := Lib.hid (cvV_nrm (s := (a0Lo, a0Hi)) (l := a2v) hv)
      have HF := Lib.hid (show cvE (a0Lo, a0Hi) a2v = 0 by rw [cvE, if_pos hv, HC.out])
      go_enter Try.func9, Try.ntmps9
      go_wp2_with fail
      refine (bad_any a2 a2n a2c a2v _ HN.out HX.out (HR.out.below b0)).mono ?_
      rw [HBAD.out]
      rintro r w1 ⟨rfl, b1⟩
      have y1 : w.heap.size + 1 < w1.heap.size := by have := b1.size; simp at this; omega
      have x1 : w.heap.size < w1.heap.size := by omega
      have p0 : w1.cell? ⟨w.heap.size, 0, none⟩ = some (.int .u64 a0Lo) := by rw [b1.cell (p := ⟨w.heap.size, 0, none⟩) (by simp <;> omega)]; first | (simp; done) | exact ca _ (by simp)
      have p1 : w1.cell? ⟨w.heap.size, 1, none⟩ = some (.int .u64 a0Hi) := by rw [b1.cell (p := ⟨w.heap.size, 1, none⟩) (by simp <;> omega)]; first | (simp; done) | exact ca _ (by simp)
      have q0 : w1.cell? ⟨w.heap.size + 1, 0, none⟩ = some (.int .u64 a1Lo) := by rw [b1.cell (p := ⟨w.heap.size + 1, 0, none⟩) (by simp <;> omega)]; simp
      have q1 : w1.cell? ⟨w.heap.size + 1, 1, none⟩ = some (.int .u64 a1Hi) := by rw [b1.cell (p := ⟨w.heap.size + 1, 1, none⟩) (by simp <;> omega)]; simp
      have B1 := bel_trans b0 b1
      clear b0 b1
      go_wp2_with fail
      refine (normalize_any a2 a2n a2c a2v w1 HN.out (by omega) (HR.out.below B1) HD.out).mono ?_
      rintro r w2 ⟨A2, c2, rfl, rd2, _, b2⟩
      rw [HC.out]
      have y2 : w.heap.size + 1 < w2.heap.size := by have := b2.size; omega
      have x2 : w.heap.size < w2.heap.size := by omega
      replace p0 := cb p0 b2
      replace p1 := cb p1 b2
      replace q0 := cb q0 b2
      replace q1 := cb q1 b2
      have B2 := bel_trans B1 b2
      clear b2 B1
      go_wp2_with fail
      refine (covers_any a2 a2n a2c (a0Lo, a0Hi) a2v w2 HN.out (by omega) (HR.out.below B2) HD.out ⟨a0Lol, a0Loh, a0Hil, a0Hih⟩).mono ?_
      rintro r w3 ⟨rfl, b3⟩
      rw [HV.out, HF.out]
      have y3 : w.heap.size + 1 < w3.heap.size := by have := b3.size; omega
      have x3 : w.heap.size < w3.heap.size := by omega
      replace p0 := cb p0 b3
      replace p1 := cb p1 b3
      replace q0 := cb q0 b3
      replace q1 := cb q1 b3
      replace rd2 := rd2.below b3
      have B3 := bel_trans B2 b3
      clear b3 B2
      have hN1 : ((nrm a2v).length : Int) ≤ 1000 := by have := nrm_len a2v; have := HN.out; omega
      have P0 := Lib.hid p0; have P1 := Lib.hid p1; have Q0 := Lib.hid q0; have Q1 := Lib.hid q1
      clear p0 p1 q0 q1
      have RD := Lib.hid rd2; clear rd2
      -- what the last part asks of the ranges
      have PART := Lib.hid (fun (p : Sp.Sp) (h1 : a0Lo ≤ p.1) (h2 : p.2 ≤ a0Hi) (h : cvB (nrm a2v) (a0Lo, a0Hi) = true) (hp : p.1 ≤ p.2) => (show cvV p a2v = true ∧ cvE p a2v = 0 from ⟨by rw [cvV_nrm hp]; exact cvB_part (s := (a0Lo, a0Hi)) h1 h2 h, by rw [cvE, if_pos hp, HC.out]⟩))
      generalize nrm a2v = N at RD hN1 HV PART ⊢
      go_wp2
      go_loopw [11, 12] (fun o i wr => ∃ k : Nat, k ≤ N.length ∧ i = .int .i64 k ∧ o = .bool (cvB (N.take k) (a0Lo, a0Hi)) ∧ Below w3.heap.size w3 wr) (fun _ i _ => N.length - (intOf i).toNat)
      case atStart => exact ⟨0, Nat.zero_le _, rfl, rfl, Below.refl _ _⟩
      case round =>
        obtain ⟨k, hk, rfl, rfl, bel⟩ := hrel
        have xr : w.heap.size < wr.heap.size := by have := bel.size; omega
        have yr : w.heap.size + 1 < wr.heap.size := by have := bel.size; omega
        have p0 := cb P0.out bel
        have p1 := cb P1.out bel
        by_cases hlt : k < N.length
        · obtain ⟨m, hx, hm⟩ := getElem?_lt rfl hlt
          have HE := Lib.hid (cvB_ext (s := (a0Lo, a0Hi)) hx)
          have HX := Lib.hid hx; clear hx hm
          obtain ⟨b, o, rfl, c0, c1⟩ := (RD.out.below bel) k m HX.out
          cases hq : cvB (N.take k) (a0Lo, a0Hi) with
          | true =>
            have HQ := Lib.hid hq; clear hq
            go_wp2
            go_quiet (fail)
            go_wp2
            go_roundw
            case rel => exact ⟨k + 1, by omega, by go_num, by rw [HE.out, HQ.out]; rfl, below_drewN bel _⟩
            case measure => simp [intOf]; omega
          | false =>
            have HQ := Lib.hid hq; clear hq
            by_cases h1 : m.1 ≤ a0Lo
            · have g1 : decide (m.1 ≤ a0Lo) = true := decide_eq_true h1
              by_cases h2 : a0Hi ≤ m.2
              · have g2 : decide (a0Hi ≤ m.2) = true := decide_eq_true h2
                have HZ := Lib.hid (show decide (m.1 ≤ (a0Lo, a0Hi).1 ∧ (a0Lo, a0Hi).2 ≤ m.2) = true from decide_eq_true ⟨h1, h2⟩)
                go_wp2
                go_quiet (fail)
                go_wp2
                go_roundw
                case rel => exact ⟨k + 1, by omega, by go_num, by rw [HE.out, HZ.out, HQ.out]; rfl, below_drewN bel _⟩
                case measure => simp [intOf]; omega
              · have g2 : decide (a0Hi ≤ m.2) = false := decide_eq_false h2
                have HZ := Lib.hid (show decide (m.1 ≤ (a0Lo, a0Hi).1 ∧ (a0Lo, a0Hi).2 ≤ m.2) = false from decide_eq_false fun h => h2 h.2)
                go_wp2
                go_quiet (fail)
                go_wp2
                go_roundw
                case rel => exact ⟨k + 1, by omega, by go_num, by rw [HE.out, HZ.out, HQ.out]; rfl, below_drewN bel _⟩
                case measure => simp [intOf]; omega
            · have g1 : decide (m.1 ≤ a0Lo) = false := decide_eq_false h1
              have HZ := Lib.hid (show decide (m.1 ≤ (a0Lo, a0Hi).1 ∧ (a0Lo, a0Hi).2 ≤ m.2) = false from decide_eq_false fun h => h1 h.1)
              go_wp2
              go_quiet (fail)
              go_wp2
              go_roundw
              case rel => exact ⟨k + 1, by omega, by go_num, by rw [HE.out, HZ.out, HQ.out]; rfl, below_drewN bel _⟩
              case measure => simp [intOf]; omega
        · rw [List.take_of_length_le (show N.length ≤ k by omega)]
          have q0 := cb Q0.out bel
          have q1 := cb Q1.out bel
          have Br := bel_trans B3 bel
          have hmc := fun W => meet_any a0Lo a0Hi a1Lo a1Hi a0Lol a0Loh a0Hil a0Hih a1Lol a1Loh a1Hil a1Hih W
          cases hb : cvB N (a0Lo, a0Hi) with
          | true =>
            have HB := Lib.hid hb; clear hb
            cases mt : mtB a0Lo a0Hi a1Lo a1Hi with
            | true =>
              rw [mt] at hmc
              have hmt := mt
              simp only [mtB, decide_eq_true_eq] at hmt
              have vL : mtL a0Lo a0Hi a1Lo a1Hi = max a0Lo a1Lo := by rw [mtL, if_pos mt]
              have vH : mtH a0Lo a0Hi a1Lo a1Hi = min a0Hi a1Hi := by rw [mtH, if_pos mt]
              obtain ⟨z1, z2⟩ := PART.out (mtL a0Lo a0Hi a1Lo a1Hi, mtH a0Lo a0Hi a1Lo a1Hi) (by show a0Lo ≤ mtL a0Lo a0Hi a1Lo a1Hi; omega) (by show mtH a0Lo a0Hi a1Lo a1Hi ≤ a0Hi; omega) HB.out (by show mtL a0Lo a0Hi a1Lo a1Hi ≤ mtH a0Lo a0Hi a1Lo a1Hi; omega)
              have Z1 := Lib.hid z1; have Z2 := Lib.hid z2
              have hB1 : B1 (mtL a0Lo a0Hi a1Lo a1Hi, mtH a0Lo a0Hi a1Lo a1Hi) := by
                refine ⟨?_, ?_, ?_, ?_⟩
                · show 0 ≤ mtL a0Lo a0Hi a1Lo a1Hi; omega
                · show mtL a0Lo a0Hi a1Lo a1Hi ≤ _; omega
                · show 0 ≤ mtH a0Lo a0Hi a1Lo a1Hi; omega
                · show mtH a0Lo a0Hi a1Lo a1Hi ≤ _; omega
              have HB1 := Lib.hid hB1
              clear z1 z2 mt hmt vL vH hB1
              have HM := Lib.hid hmc; clear hmc
              generalize mtL a0Lo a0Hi a1Lo a1Hi = pL at Z1 Z2 HM HB1
              generalize mtH a0Lo a0Hi a1Lo a1Hi = pH at Z1 Z2 HM HB1
              go_wp2_with fail
              refine (HM.out _).mono ?_
              rintro r w4 ⟨rfl, b4⟩
              have B4 := bel_trans Br b4
              go_wp2_with fail
              refine (covers_any a2 a2n a2c (pL, pH) a2v _ HN.out (by omega) (HR.out.below (bel_alloc B4 _)) HD.out HB1.out).mono ?_
              rintro r w5 ⟨rfl, b5⟩
              rw [Z1.out, Z2.out]
              have B5 := bel_trans (bel_alloc B4 _) b5
              go_wp2_with fail
              refine (known_any _).mono ?_
              rintro r w6 ⟨rfl, b6⟩
              go_wp2
              go_ret
              exact ⟨rfl, bel_trans B5 b6⟩
            | false =>
              rw [mt] at hmc
              have HM := Lib.hid hmc; clear hmc mt
              go_wp2_with fail
              refine (HM.out _).mono ?_
              rintro r w4 ⟨rfl, b4⟩
              have B4 := bel_trans Br b4
              go_wp2_with fail
              refine (known_any _).mono ?_
              rintro r w5 ⟨rfl, b5⟩
              go_wp2
              go_ret
              exact ⟨rfl, bel_trans (bel_alloc B4 _) b5⟩
          | false =>
            have HB := Lib.hid hb; clear hb
            have HM := Lib.hid hmc; clear hmc
            generalize mtB a0Lo a0Hi a1Lo a1Hi = r0 at HM
            cases r0 with
            | true =>
              go_wp2_with fail
              refine (HM.out _).mono ?_
              rintro r w4 ⟨rfl, b4⟩
              have B4 := bel_trans Br b4
              go_wp2_with fail
              refine (known_any _).mono ?_
              rintro r w5 ⟨rfl, b5⟩
              go_wp2
              go_ret
              exact ⟨rfl, bel_trans (bel_alloc B4 _) b5⟩
            | false =>
              go_wp2_with fail
              refine (HM.out _).mono ?_
              rintro r w4 ⟨rfl, b4⟩
              have B4 := bel_trans Br b4
              go_wp2_with fail
              refine (known_any _).mono ?_
              rintro r w5 ⟨rfl, b5⟩
              go_wp2
              go_ret
              exact ⟨rfl, bel_trans (bel_alloc B4 _) b5⟩
    · have hv' : a0Hi < a0Lo := by omega
      go_enter Try.func9, Try.ntmps9
      go_wp2_with fail
      refine (bad_any a2 a2n a2c a2v _ HN.out HX.out (HR.out.below b0)).mono ?_
      rw [HBAD.out]
      rintro r w1 ⟨rfl, b1⟩
      have y1 : w.heap.size + 1 < w1.heap.size := by have := b1.size; simp at this; omega
      have x1 : w.heap.size < w1.heap.size := by omega
      have p0 : w1.cell? ⟨w.heap.size, 0, none⟩ = some (.int .u64 a0Lo) := by rw [b1.cell (p := ⟨w.heap.size, 0, none⟩) (by simp <;> omega)]; first | (simp; done) | exact ca _ (by simp)
      have p1 : w1.cell? ⟨w.heap.size, 1, none⟩ = some (.int .u64 a0Hi) := by rw [b1.cell (p := ⟨w.heap.size, 1, none⟩) (by simp <;> omega)]; first | (simp; done) | exact ca _ (by simp)
      go_wp2_with fail
      refine (known_any _).mono ?_
      rintro r w2 ⟨rfl, b2⟩
      go_wp2
      go_ret
      exact ⟨rfl, bel_trans (bel_trans b0 b1) b2⟩
  · have HBAD := Lib.hid (show (!okB a2v || decide (60 < a2n)) = true by
      cases h : okB a2v with
      | true => simp; have : ¬ a2n ≤ 60 := fun h2 => hbad ⟨h, h2⟩
                omega
      | false => rfl)
    clear hbad
    go_enter Try.func9, Try.ntmps9
    go_wp2_with fail
    refine (bad_any a2 a2n a2c a2v _ HN.out HX.out (HR.out.below b0)).mono ?_
    rw [HBAD.out]
    rintro r w1 ⟨rfl, b1⟩
    go_wp2_with fail
    refine (known_any _).mono ?_
    rintro r w2 ⟨rfl, b2⟩
    go_wp2
    go_ret
    exact ⟨rfl, bel_trans (bel_trans b0 b1) b2⟩
end Wk
end Go.Proofs.Ytmnoljnjnmcgpaa
