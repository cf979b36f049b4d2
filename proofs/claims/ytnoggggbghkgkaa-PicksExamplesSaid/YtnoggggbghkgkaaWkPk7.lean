/- PicksMatches: the walk. Conditions: the bounds of each argument's kind. -/
import Derived.Test.YtnoggggbghkgkaaPkFr
namespace Go.Proofs.Ytnoggggbghkgkaa
open Go.RowKit Go.Shelf Go.Sort
set_option linter.unusedVariables false
set_option linter.unusedSimpArgs false
namespace Wk
open Pk
open Dm (RdK BdI bel_alloc bel_trans cell_lt flatI info info_parts row_rd app1 appAll addr_lit ret_eq)
set_option maxRecDepth 100000 in
set_option maxHeartbeats 4000000 in
theorem walk_picksMatches (a0 : Int) (a1 : Int) (a2 : Option Addr) (a2n a2c : Nat) (a2v : List Int) (w : World) (a0l : (-9223372036854775808) ≤ a0) (a0h : a0 ≤ 9223372036854775807) (a1l : (-9223372036854775808) ≤ a1) (a1h : a1 ≤ 9223372036854775807) (a2e : a2v.length = a2n) (a2m : a2n ≤ maxLen) (a2r : Dm.RdK .i64 w a2 a2v) (a2b : Dm.BdI a2v) (a2z : a2 = none → a2c = 0) (a2y : a2n ≤ a2c ∧ a2c ≤ maxLen) :
    Calls Try.prog 3 #[.int .i64 a0, .int .i64 a1, .slice a2 a2n a2c] w fun e w' => e = .returned (.bool true) ∧ Below w.heap.size w w' := by
  have FE := Lib.hid (fun (W : World) (h : RdK .i64 W a2 a2v) => few_any a2 a2n a2c a2v W a2e a2y h a2z)
  have hf := (fw_le a2n).2
  obtain ⟨f, hff⟩ : ∃ f, fw a2n = f := ⟨_, rfl⟩
  rw [hff] at FE hf
  obtain ⟨xs, hxs⟩ : ∃ xs, a2v.take f = xs := ⟨_, rfl⟩
  rw [hxs] at FE
  have hfx : f ≤ maxLen := by unfold maxLen; omega
  obtain ⟨r1, n1, l1, H1⟩ := cho_same a0 xs
  obtain ⟨r2, n2, l2, H2⟩ := cnt_same a0 xs
  obtain ⟨r3, n3, l3, H3⟩ := wo_same a0 a1 xs
  obtain ⟨x4, r4, H4⟩ := gap_tuple a0 a1 xs
  obtain ⟨x5, r5, H5⟩ := thV_tuple a0 a1
  have T1 := fun (W : World) => Lib.hid (thread_any a0 a1 W)
  have T2 := fun (W : World) => Lib.hid (threadR_any a0 a1 W)
  rw [H5] at T1 T2
  have C1 := Lib.hid (fun (W : World) A c (h : Li W A f xs) => (chosen_any a0 A f c xs h.ln hfx W h.rd).mono (H1 W))
  have D1 := Lib.hid (fun (W : World) A c (h : Li W A f xs) => (choR_any a0 A f c xs h.ln hfx W h.rd).mono (H1 W))
  have C2 := Lib.hid (fun (W : World) A c (h : Li W A f xs) => (counts_any a0 A f c xs h.ln hfx W h.rd).mono (H2 W))
  have D2 := Lib.hid (fun (W : World) A c (h : Li W A f xs) => (cntR_any a0 A f c xs h.ln hfx W h.rd).mono (H2 W))
  have C3 := Lib.hid (fun (W : World) A c (h : Li W A f xs) => (without_any a0 a1 A f c xs h.ln hfx W h.rd).mono (H3 W))
  have D3 := Lib.hid (fun (W : World) A c (h : Li W A f xs) => (woR_any a0 a1 A f c xs h.ln hfx W h.rd).mono (H3 W))
  have C4 := Lib.hid (fun (W : World) A c (h : Li W A f xs) => (gap_any a0 a1 A f c xs h.ln hfx W h.rd).mono (H4 W))
  have D4 := Lib.hid (fun (W : World) A c (h : Li W A f xs) => (gapR_any a0 a1 A f c xs h.ln hfx W h.rd).mono (H4 W))
  have RD := Lib.hid a2r
  clear H1 H2 H3 H4 H5 a2r a2b a2z a2y a2m a2e hxs hff hfx hf
  go_enter Try.func3, Try.ntmps3
  go_wp2_with fail
  refine (FE.out _ RD.out).mono ?_
  rintro e w1 ⟨A0, c0, rfl, _, li0, b0⟩
  have I0 := Lib.hid li0
  have R0 := Lib.hid (RD.out.below b0)
  have B0 := Lib.hid b0
  clear li0 b0 RD
  go_wp2
  go_loopw [8] (fun i wr => ∃ k : Nat, k ≤ 2 ∧ i = .int .i64 k ∧ Below w1.heap.size w1 wr) (fun i _ => (2 - intOf i).toNat)
  case atStart => exact ⟨0, by omega, rfl, Below.refl _ _⟩
  case round =>
    obtain ⟨k, hk, rfl, bel⟩ := hrel
    by_cases hlt : k < 2
    · have d0 : decide ((k : Int) < 2) = true := decide_eq_true (by omega)
      have d1 : (k : Int) < 2 := by omega
      have I := Lib.hid (I0.out.below bel)
      have R := Lib.hid (R0.out.below bel)
      have B := Lib.hid bel
      clear bel T1 T2
      go_wp2_with fail
      refine (C1.out _ _ _ I.out).mono ?_
      rintro e wy1 ⟨AL1, cL1, rfl, _, liy, by_, ow⟩
      have Z1 := Lib.hid B.out.size
      replace I := Lib.hid (I.out.below by_)
      replace R := Lib.hid (R.out.below by_)
      replace B := Lib.hid (bel_trans B.out by_)
      have L1 := Lib.hid liy
      have OW1 := Lib.hid ow
      clear liy by_ ow
      go_wp2_with fail
      refine (FE.out _ R.out).mono ?_
      rintro e wz2 ⟨Af, cf, rfl, _, lif, bf⟩
      have F := Lib.hid lif
      replace I := Lib.hid (I.out.below bf)
      replace R := Lib.hid (R.out.below bf)
      replace L1 := Lib.hid (L1.out.below bf)
      replace OW1 := Lib.hid (own_below OW1.out bf)
      replace B := Lib.hid (bel_trans B.out bf)
      clear lif bf
      go_wp2_with fail
      refine (D1.out _ _ _ F.out).mono ?_
      rintro e wy2 ⟨AM1, cM1, rfl, _, liy, by_, _⟩
      clear F
      replace I := Lib.hid (I.out.below by_)
      replace R := Lib.hid (R.out.below by_)
      replace L1 := Lib.hid (L1.out.below by_)
      replace OW1 := Lib.hid (own_below OW1.out by_)
      replace B := Lib.hid (bel_trans B.out by_)
      have M1 := Lib.hid liy
      clear liy by_
      go_wp2_with fail
      refine (C2.out _ _ _ I.out).mono ?_
      rintro e wy3 ⟨AL2, cL2, rfl, _, liy, by_, ow⟩
      have Z2 := Lib.hid B.out.size
      have NE12 := Lib.hid (own_ne OW1.out ow (Nat.le_refl _))
      replace I := Lib.hid (I.out.below by_)
      replace R := Lib.hid (R.out.below by_)
      replace L1 := Lib.hid (L1.out.below by_)
      replace M1 := Lib.hid (M1.out.below by_)
      replace OW1 := Lib.hid (own_below OW1.out by_)
      replace B := Lib.hid (bel_trans B.out by_)
      have L2 := Lib.hid liy
      have OW2 := Lib.hid ow
      clear liy by_ ow
      go_wp2_with fail
      refine (FE.out _ R.out).mono ?_
      rintro e wz4 ⟨Af, cf, rfl, _, lif, bf⟩
      have F := Lib.hid lif
      replace I := Lib.hid (I.out.below bf)
      replace R := Lib.hid (R.out.below bf)
      replace L1 := Lib.hid (L1.out.below bf)
      replace M1 := Lib.hid (M1.out.below bf)
      replace L2 := Lib.hid (L2.out.below bf)
      replace OW1 := Lib.hid (own_below OW1.out bf)
      replace OW2 := Lib.hid (own_below OW2.out bf)
      replace B := Lib.hid (bel_trans B.out bf)
      clear lif bf
      go_wp2_with fail
      refine (D2.out _ _ _ F.out).mono ?_
      rintro e wy4 ⟨AM2, cM2, rfl, _, liy, by_, _⟩
      clear F
      replace I := Lib.hid (I.out.below by_)
      replace R := Lib.hid (R.out.below by_)
      replace L1 := Lib.hid (L1.out.below by_)
      replace M1 := Lib.hid (M1.out.below by_)
      replace L2 := Lib.hid (L2.out.below by_)
      replace OW1 := Lib.hid (own_below OW1.out by_)
      replace OW2 := Lib.hid (own_below OW2.out by_)
      replace B := Lib.hid (bel_trans B.out by_)
      have M2 := Lib.hid liy
      clear liy by_
      go_wp2_with fail
      refine (C3.out _ _ _ I.out).mono ?_
      rintro e wy5 ⟨AL3, cL3, rfl, _, liy, by_, ow⟩
      have Z3 := Lib.hid B.out.size
      have NE13 := Lib.hid (own_ne OW1.out ow (Nat.le_refl _))
      have NE23 := Lib.hid (own_ne OW2.out ow (Nat.le_refl _))
      replace I := Lib.hid (I.out.below by_)
      replace R := Lib.hid (R.out.below by_)
      replace L1 := Lib.hid (L1.out.below by_)
      replace M1 := Lib.hid (M1.out.below by_)
      replace L2 := Lib.hid (L2.out.below by_)
      replace M2 := Lib.hid (M2.out.below by_)
      replace OW1 := Lib.hid (own_below OW1.out by_)
      replace OW2 := Lib.hid (own_below OW2.out by_)
      replace B := Lib.hid (bel_trans B.out by_)
      have L3 := Lib.hid liy
      have OW3 := Lib.hid ow
      clear liy by_ ow
      go_wp2_with fail
      refine (FE.out _ R.out).mono ?_
      rintro e wz6 ⟨Af, cf, rfl, _, lif, bf⟩
      have F := Lib.hid lif
      replace I := Lib.hid (I.out.below bf)
      replace R := Lib.hid (R.out.below bf)
      replace L1 := Lib.hid (L1.out.below bf)
      replace M1 := Lib.hid (M1.out.below bf)
      replace L2 := Lib.hid (L2.out.below bf)
      replace M2 := Lib.hid (M2.out.below bf)
      replace L3 := Lib.hid (L3.out.below bf)
      replace OW1 := Lib.hid (own_below OW1.out bf)
      replace OW2 := Lib.hid (own_below OW2.out bf)
      replace OW3 := Lib.hid (own_below OW3.out bf)
      replace B := Lib.hid (bel_trans B.out bf)
      clear lif bf
      go_wp2_with fail
      refine (D3.out _ _ _ F.out).mono ?_
      rintro e wy6 ⟨AM3, cM3, rfl, _, liy, by_, _⟩
      clear F
      replace I := Lib.hid (I.out.below by_)
      replace R := Lib.hid (R.out.below by_)
      replace L1 := Lib.hid (L1.out.below by_)
      replace M1 := Lib.hid (M1.out.below by_)
      replace L2 := Lib.hid (L2.out.below by_)
      replace M2 := Lib.hid (M2.out.below by_)
      replace L3 := Lib.hid (L3.out.below by_)
      replace OW1 := Lib.hid (own_below OW1.out by_)
      replace OW2 := Lib.hid (own_below OW2.out by_)
      replace OW3 := Lib.hid (own_below OW3.out by_)
      replace B := Lib.hid (bel_trans B.out by_)
      have M3 := Lib.hid liy
      clear liy by_
      go_wp2_with fail
      refine (C4.out _ _ _ I.out).mono ?_
      rintro e wy7 ⟨rfl, by_⟩
      replace I := Lib.hid (I.out.below by_)
      replace R := Lib.hid (R.out.below by_)
      replace L1 := Lib.hid (L1.out.below by_)
      replace M1 := Lib.hid (M1.out.below by_)
      replace L2 := Lib.hid (L2.out.below by_)
      replace M2 := Lib.hid (M2.out.below by_)
      replace L3 := Lib.hid (L3.out.below by_)
      replace M3 := Lib.hid (M3.out.below by_)
      replace OW1 := Lib.hid (own_below OW1.out by_)
      replace OW2 := Lib.hid (own_below OW2.out by_)
      replace OW3 := Lib.hid (own_below OW3.out by_)
      replace B := Lib.hid (bel_trans B.out by_)
      clear by_
      go_wp2_with fail
      refine (FE.out _ R.out).mono ?_
      rintro e wz8 ⟨Af, cf, rfl, _, lif, bf⟩
      have F := Lib.hid lif
      replace I := Lib.hid (I.out.below bf)
      replace R := Lib.hid (R.out.below bf)
      replace L1 := Lib.hid (L1.out.below bf)
      replace M1 := Lib.hid (M1.out.below bf)
      replace L2 := Lib.hid (L2.out.below bf)
      replace M2 := Lib.hid (M2.out.below bf)
      replace L3 := Lib.hid (L3.out.below bf)
      replace M3 := Lib.hid (M3.out.below bf)
      replace OW1 := Lib.hid (own_below OW1.out bf)
      replace OW2 := Lib.hid (own_below OW2.out bf)
      replace OW3 := Lib.hid (own_below OW3.out bf)
      replace B := Lib.hid (bel_trans B.out bf)
      clear lif bf
      go_wp2_with fail
      refine (D4.out _ _ _ F.out).mono ?_
      rintro e wy8 ⟨rfl, by_⟩
      clear F
      replace I := Lib.hid (I.out.below by_)
      replace R := Lib.hid (R.out.below by_)
      replace L1 := Lib.hid (L1.out.below by_)
      replace M1 := Lib.hid (M1.out.below by_)
      replace L2 := Lib.hid (L2.out.below by_)
      replace M2 := Lib.hid (M2.out.below by_)
      replace L3 := Lib.hid (L3.out.below by_)
      replace M3 := Lib.hid (M3.out.below by_)
      replace OW1 := Lib.hid (own_below OW1.out by_)
      replace OW2 := Lib.hid (own_below OW2.out by_)
      replace OW3 := Lib.hid (own_below OW3.out by_)
      replace B := Lib.hid (bel_trans B.out by_)
      clear by_
      go_wp2_with fail
      refine (equ_same L1.out M1.out rfl).mono ?_
      rintro e wy9 ⟨rfl, by_⟩
      have hn1 := L1.out.mx
      clear L1 M1
      replace I := Lib.hid (I.out.below by_)
      replace R := Lib.hid (R.out.below by_)
      replace L2 := Lib.hid (L2.out.below by_)
      replace M2 := Lib.hid (M2.out.below by_)
      replace L3 := Lib.hid (L3.out.below by_)
      replace M3 := Lib.hid (M3.out.below by_)
      replace OW1 := Lib.hid (own_below OW1.out by_)
      replace OW2 := Lib.hid (own_below OW2.out by_)
      replace OW3 := Lib.hid (own_below OW3.out by_)
      replace B := Lib.hid (bel_trans B.out by_)
      clear by_
      go_wp2_with fail
      refine (equ_same L2.out M2.out rfl).mono ?_
      rintro e wy10 ⟨rfl, by_⟩
      have hn2 := L2.out.mx
      clear L2 M2
      replace I := Lib.hid (I.out.below by_)
      replace R := Lib.hid (R.out.below by_)
      replace L3 := Lib.hid (L3.out.below by_)
      replace M3 := Lib.hid (M3.out.below by_)
      replace OW1 := Lib.hid (own_below OW1.out by_)
      replace OW2 := Lib.hid (own_below OW2.out by_)
      replace OW3 := Lib.hid (own_below OW3.out by_)
      replace B := Lib.hid (bel_trans B.out by_)
      clear by_
      go_wp2_with fail
      refine (equ_same L3.out M3.out rfl).mono ?_
      rintro e wy11 ⟨rfl, by_⟩
      have hn3 := L3.out.mx
      clear L3 M3
      replace I := Lib.hid (I.out.below by_)
      replace R := Lib.hid (R.out.below by_)
      replace OW1 := Lib.hid (own_below OW1.out by_)
      replace OW2 := Lib.hid (own_below OW2.out by_)
      replace OW3 := Lib.hid (own_below OW3.out by_)
      replace B := Lib.hid (bel_trans B.out by_)
      clear by_
      go_wp2_with fail
      refine (FE.out _ R.out).mono ?_
      rintro e wz12 ⟨Af, cf, rfl, _, lif, bf⟩
      have F := Lib.hid lif
      clear R
      replace I := Lib.hid (I.out.below bf)
      replace OW1 := Lib.hid (own_below OW1.out bf)
      replace OW2 := Lib.hid (own_below OW2.out bf)
      replace OW3 := Lib.hid (own_below OW3.out bf)
      replace B := Lib.hid (bel_trans B.out bf)
      clear lif bf
      go_wp2_with fail
      refine (equ_same I.out F.out rfl).mono ?_
      rintro e wy13 ⟨rfl, by_⟩
      clear F I
      replace OW1 := Lib.hid (own_below OW1.out by_)
      replace OW2 := Lib.hid (own_below OW2.out by_)
      replace OW3 := Lib.hid (own_below OW3.out by_)
      replace B := Lib.hid (bel_trans B.out by_)
      clear by_
      obtain ⟨q1, Q1, ZQ1⟩ : ∃ q, Hid (Rw wy13 q AL1 n1 cL1) ∧ Hid (w1.heap.size ≤ q) := ⟨_, Lib.hid ⟨_, OW1.out⟩, Z1⟩
      obtain ⟨q2, Q2, ZQ2⟩ : ∃ q, Hid (Rw wy13 q AL2 n2 cL2) ∧ Hid (w1.heap.size ≤ q) := ⟨_, Lib.hid ⟨_, OW2.out⟩, Z2⟩
      obtain ⟨q3, Q3, ZQ3⟩ : ∃ q, Hid (Rw wy13 q AL3 n3 cL3) ∧ Hid (w1.heap.size ≤ q) := ⟨_, Lib.hid ⟨_, OW3.out⟩, Z3⟩
      clear OW1 OW2 OW3 Z1 Z2 Z3
      clear C1 C2 C3 C4 D1 D2 D3 D4 FE
      go_wp2
      go_loopw [25] (fun i wr => ∃ j : Nat, j ≤ n1 ∧ i = .int .i64 j ∧ Rw wr q1 AL1 n1 cL1 ∧ Rw wr q2 AL2 n2 cL2 ∧ Rw wr q3 AL3 n3 cL3 ∧ Below w1.heap.size w1 wr) (fun i _ => (n1 - intOf i).toNat)
      case atStart => exact ⟨0, Nat.zero_le _, rfl, Q1.out, Q2.out, Q3.out, B.out⟩
      case round =>
        obtain ⟨j, hj, rfl, h1, h2, h3, bel⟩ := hrel
        clear B Q1 Q2 Q3
        by_cases hlj : j < n1
        · obtain ⟨g, y, rfl, g1, _, k0, f0, hw⟩ := h1.at hlj (-7)
          have HB := Lib.hid (bel.setCell (p := ⟨g, j, none⟩) (Nat.le_trans ZQ1.out g1) (.int .i64 (-7)))
          have HW := Lib.hid hw
          have HO2 := Lib.hid (h2.other (g := g) (j := j) (v := .int .i64 (-7)) fun g2 i2 h2 => (NE12.out g 0 g2 i2 rfl h2).symm)
          have HO3 := Lib.hid (h3.other (g := g) (j := j) (v := .int .i64 (-7)) fun g2 i2 h2 => (NE13.out g 0 g2 i2 rfl h2).symm)
          have e0 : decide ((j : Int) < n1) = true := decide_eq_true (by omega)
          have j1 : (j : Int) < n1 := by omega
          clear hw h1 h2 h3 bel g1
          go_wp2
          go_roundw
          case rel => exact ⟨j + 1, by omega, by go_num, HW.out, HO2.out, HO3.out, HB.out⟩
          case measure => simp [intOf]; omega
        · obtain rfl : j = n1 := by omega
          have e0 : decide ((j : Int) < j) = false := decide_eq_false (by omega)
          have B := Lib.hid bel
          have Q2 := Lib.hid h2
          have Q3 := Lib.hid h3
          clear bel h1 h2 h3
          go_wp2
          go_loopw [26] (fun i wr => ∃ j : Nat, j ≤ n2 ∧ i = .int .i64 j ∧ Rw wr q2 AL2 n2 cL2 ∧ Rw wr q3 AL3 n3 cL3 ∧ Below w1.heap.size w1 wr) (fun i _ => (n2 - intOf i).toNat)
          case atStart => exact ⟨0, Nat.zero_le _, rfl, Q2.out, Q3.out, B.out⟩
          case round =>
            obtain ⟨j, hj, rfl, h2, h3, bel⟩ := hrel
            clear B Q2 Q3
            by_cases hlj : j < n2
            · obtain ⟨g, y, rfl, g1, _, k0, f0, hw⟩ := h2.at hlj (-7)
              have HB := Lib.hid (bel.setCell (p := ⟨g, j, none⟩) (Nat.le_trans ZQ2.out g1) (.int .i64 (-7)))
              have HW := Lib.hid hw
              have HO3 := Lib.hid (h3.other (g := g) (j := j) (v := .int .i64 (-7)) fun g2 i2 h2 => (NE23.out g 0 g2 i2 rfl h2).symm)
              have e0 : decide ((j : Int) < n2) = true := decide_eq_true (by omega)
              have j1 : (j : Int) < n2 := by omega
              clear hw h2 h3 bel g1
              go_wp2
              go_roundw
              case rel => exact ⟨j + 1, by omega, by go_num, HW.out, HO3.out, HB.out⟩
              case measure => simp [intOf]; omega
            · obtain rfl : j = n2 := by omega
              have e0 : decide ((j : Int) < j) = false := decide_eq_false (by omega)
              have B := Lib.hid bel
              have Q3 := Lib.hid h3
              clear bel h2 h3
              go_wp2
              go_loopw [27] (fun i wr => ∃ j : Nat, j ≤ n3 ∧ i = .int .i64 j ∧ Rw wr q3 AL3 n3 cL3 ∧ Below w1.heap.size w1 wr) (fun i _ => (n3 - intOf i).toNat)
              case atStart => exact ⟨0, Nat.zero_le _, rfl, Q3.out, B.out⟩
              case round =>
                obtain ⟨j, hj, rfl, h3, bel⟩ := hrel
                clear B Q3
                by_cases hlj : j < n3
                · obtain ⟨g, y, rfl, g1, _, k0, f0, hw⟩ := h3.at hlj (-7)
                  have HB := Lib.hid (bel.setCell (p := ⟨g, j, none⟩) (Nat.le_trans ZQ3.out g1) (.int .i64 (-7)))
                  have HW := Lib.hid hw
                  have e0 : decide ((j : Int) < n3) = true := decide_eq_true (by omega)
                  have j1 : (j : Int) < n3 := by omega
                  clear hw h3 bel g1
                  go_wp2
                  go_roundw
                  case rel => exact ⟨j + 1, by omega, by go_num, HW.out, HB.out⟩
                  case measure => simp [intOf]; omega
                · obtain rfl : j = n3 := by omega
                  have e0 : decide ((j : Int) < j) = false := decide_eq_false (by omega)
                  have B := Lib.hid bel
                  clear bel h3
                  go_wp2
                  go_roundw
                  case rel => exact ⟨k + 1, by omega, by go_num, B.out⟩
                  case measure => simp [intOf]; omega
    · obtain rfl : k = 2 := by omega
      have d0 : decide (((2 : Nat) : Int) < 2) = false := by decide
      have HB := Lib.hid (bel_trans B0.out bel)
      clear bel
      go_wp2_with fail
      refine (T1 _).out.mono ?_
      rintro e wx ⟨rfl, rfl⟩
      go_wp2_with fail
      refine (T2 _).out.mono ?_
      rintro e wx ⟨rfl, rfl⟩
      go_wp2_with fail
      refine (awake_any _).mono ?_
      rintro e w' ⟨rfl, b1⟩
      go_wp2
      go_ret
      exact ⟨rfl, bel_trans HB.out b1⟩
end Wk
end Go.Proofs.Ytnoggggbghkgkaa
