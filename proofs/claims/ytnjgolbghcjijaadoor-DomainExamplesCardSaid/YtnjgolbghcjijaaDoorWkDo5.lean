/- The walk of the law DomainImage, from the contracts of XDomE, XDomH, XDomJ, XDomG, XDomQ and XDomKn and the mathematics of XDomZ. Conditions: those of the contracts. (Written by tools/mk4dom.py.) -/
import Derived.Test.YtnjgolbghcjijaaDoorWkDo4
namespace Go.Proofs.YtnjgolbghcjijaaDoor
open Go.RowKit Go.Sort
set_option linter.unusedVariables false
set_option linter.unusedSimpArgs false
namespace Dm
theorem sub_none {V L : Nat} (hV : V < 18446744073709551616) (hL : L < 18446744073709551616) (h : ∀ i, V.testBit i = true → L.testBit i = true) : bits .andNot .u64 (V : Int) (L : Int) = 0 := by
  rw [u64_andNot_nat V L hV hL]
  have e : V &&& (18446744073709551615 - L) = 0 := Nat.eq_of_testBit_eq fun i => by
    rw [Nat.testBit_and, show 18446744073709551615 - L = 2 ^ 64 - (L + 1) by omega, Nat.testBit_two_pow_sub_succ (by omega)]
    cases hv : V.testBit i with
    | false => simp
    | true => rw [h i hv]; simp
  rw [e]; rfl
theorem tst {V j : Nat} (hV : V < 18446744073709551616) (hj : j < 64) : (bits .and .u64 ((V : Int) / 2 ^ j) 1 == 1) = V.testBit j := by
  have e : ((V : Int) / 2 ^ j) = ((V / 2 ^ j : Nat) : Int) := by simp
  have h2 : V / 2 ^ j < 18446744073709551616 := Nat.lt_of_le_of_lt (Nat.div_le_self _ _) hV
  rw [e, show (1 : Int) = ((1 : Nat) : Int) from rfl, and_nat h2 (by omega), Nat.and_one_is_mod, Nat.testBit_eq_decide_div_mod_eq]
  generalize V / 2 ^ j = q
  rcases Nat.mod_two_eq_zero_or_one q with h | h <;> rw [h] <;> rfl
end Dm
namespace Wk
open Dm
set_option maxHeartbeats 4000000 in
set_option maxRecDepth 100000 in
theorem walk_domainImage (a0k a0i : Int) (a0 : Option Addr) (a0n a0c : Nat) (a0v : List Int) (a1Lo : Int) (a1Hi : Int) (a2 : Int) (w : World) (a0kl : 0 ≤ a0k) (a0kh : a0k ≤ 255) (a0il : -9223372036854775808 ≤ a0i) (a0ih : a0i ≤ 9223372036854775807) (a0e : a0v.length = a0n) (a0m : a0n ≤ maxLen) (a0r : Dm.RdK .u64 w a0 a0v) (a0b : Dm.BdU a0v) (a0z : a0 = none → a0c = 0) (a1Lol : 0 ≤ a1Lo) (a1Loh : a1Lo ≤ 18446744073709551615) (a1Hil : 0 ≤ a1Hi) (a1Hih : a1Hi ≤ 18446744073709551615) (a2l : 0 ≤ a2) (a2h : a2 ≤ 18446744073709551615) (hT : Dm.Tz w) :
    Calls Tryd.prog 8 #[.agg #[.int .u8 a0k, .int .i64 a0i, .slice a0 a0n a0c], .agg #[.int .u64 a1Lo, .int .u64 a1Hi], .int .u64 a2] w fun e w' => e = .returned (.bool true) ∧ Below w.heap.size w w' := by
  have HR := Lib.hid a0r; clear a0r
  have HT := Lib.hid hT; clear hT
  have b0 : Below w.heap.size w ((w.alloc (Obj.cells #[.int .u8 a0k, .int .i64 a0i, .slice a0 a0n a0c] 24)).alloc (Obj.cells #[.int .u64 a1Lo, .int .u64 a1Hi] 37)) := bel_alloc (bel_alloc (Below.refl _ _) _) _
  have bw0 := b0
  have CV := fun W h => Lib.hid (values_any a0k a0i a0 a0n a0c a0v W a0kl a0kh a0il a0ih a0e a0m h a0b)
  cases hb : dmB a0k a0i a0v with
  | false =>
    rw [dmE_no hb, dmN_no hb] at CV
    by_cases hl : 200 < (a0n : Int)
    · have t0 : decide (200 < (a0n : Int)) = true := decide_eq_true hl
      clear hb
      go_enter Tryd.func8, Tryd.ntmps8
      go_wp2_with fail
      refine (CV _ (HR.out.below b0)).out.mono ?_
      rintro r w1 ⟨rfl, b1⟩
      have bw1 := bel_trans bw0 b1
      obtain ⟨kc, kf⟩ := bcell b1
      have e0 : w1.cell? ⟨w.heap.size, 0, none⟩ = some (.int .u8 a0k) := by rw [kc _ _ (by simp; omega)]; simp
      have e1 : w1.cell? ⟨w.heap.size, 1, none⟩ = some (.int .i64 a0i) := by rw [kc _ _ (by simp; omega)]; simp
      have e2 : w1.cell? ⟨w.heap.size, 2, none⟩ = some (.slice a0 a0n a0c) := by rw [kc _ _ (by simp; omega)]; simp
      have s0 : w1.cell? ⟨w.heap.size + 1, 0, none⟩ = some (.int .u64 a1Lo) := by rw [kc _ _ (by simp)]; simp
      have s1 : w1.cell? ⟨w.heap.size + 1, 1, none⟩ = some (.int .u64 a1Hi) := by rw [kc _ _ (by simp)]; simp
      clear kc kf
      go_wp2_with fail
      refine (long_any _ _ _ _ _ _).mono ?_
      rintro r w2 ⟨rfl, b2⟩
      have bw2 := bel_trans bw1 b2
      have ne0 := cy e0 b2
      have ne1 := cy e1 b2
      have ne2 := cy e2 b2
      have ns0 := cy s0 b2
      have ns1 := cy s1 b2
      clear e0 e1 e2 s0 s1
      have e0 := ne0
      have e1 := ne1
      have e2 := ne2
      have s0 := ns0
      have s1 := ns1
      clear ne0 ne1 ne2 ns0 ns1
      go_wp2_with fail
      refine (known_any _ (HT.out.below bw2)).mono ?_
      rintro r w3 ⟨rfl, b3⟩
      go_wp2
      go_ret
      exact ⟨rfl, bel_trans bw2 b3⟩
    · have t0 : decide (200 < (a0n : Int)) = false := decide_eq_false hl
      clear hb
      go_enter Tryd.func8, Tryd.ntmps8
      go_wp2_with fail
      refine (CV _ (HR.out.below b0)).out.mono ?_
      rintro r w1 ⟨rfl, b1⟩
      have bw1 := bel_trans bw0 b1
      obtain ⟨kc, kf⟩ := bcell b1
      have e0 : w1.cell? ⟨w.heap.size, 0, none⟩ = some (.int .u8 a0k) := by rw [kc _ _ (by simp; omega)]; simp
      have e1 : w1.cell? ⟨w.heap.size, 1, none⟩ = some (.int .i64 a0i) := by rw [kc _ _ (by simp; omega)]; simp
      have e2 : w1.cell? ⟨w.heap.size, 2, none⟩ = some (.slice a0 a0n a0c) := by rw [kc _ _ (by simp; omega)]; simp
      have s0 : w1.cell? ⟨w.heap.size + 1, 0, none⟩ = some (.int .u64 a1Lo) := by rw [kc _ _ (by simp)]; simp
      have s1 : w1.cell? ⟨w.heap.size + 1, 1, none⟩ = some (.int .u64 a1Hi) := by rw [kc _ _ (by simp)]; simp
      clear kc kf
      go_wp2_with fail
      refine (long_any _ _ _ _ _ _).mono ?_
      rintro r w2 ⟨rfl, b2⟩
      have bw2 := bel_trans bw1 b2
      have ne0 := cy e0 b2
      have ne1 := cy e1 b2
      have ne2 := cy e2 b2
      have ns0 := cy s0 b2
      have ns1 := cy s1 b2
      clear e0 e1 e2 s0 s1
      have e0 := ne0
      have e1 := ne1
      have e2 := ne2
      have s0 := ns0
      have s1 := ns1
      clear ne0 ne1 ne2 ns0 ns1
      go_wp2_with fail
      refine (known_any _ (HT.out.below bw2)).mono ?_
      rintro r w3 ⟨rfl, b3⟩
      go_wp2
      go_ret
      exact ⟨rfl, bel_trans bw2 b3⟩
  | true =>
    rw [dmE_yes hb] at CV
    obtain ⟨N0, N1⟩ := dmN_64 (k := a0k) (n := a0i) (l := a0v)
    have N2 := dmN_pos hb
    by_cases hl : 200 < (a0n : Int)
    · have t0 : decide (200 < (a0n : Int)) = true := decide_eq_true hl
      clear hb
      generalize dmN a0k a0i a0v = N at *
      go_enter Tryd.func8, Tryd.ntmps8
      go_wp2_with fail
      refine (CV _ (HR.out.below b0)).out.mono ?_
      rintro r w1 ⟨rfl, b1⟩
      have bw1 := bel_trans bw0 b1
      obtain ⟨kc, kf⟩ := bcell b1
      have e0 : w1.cell? ⟨w.heap.size, 0, none⟩ = some (.int .u8 a0k) := by rw [kc _ _ (by simp; omega)]; simp
      have e1 : w1.cell? ⟨w.heap.size, 1, none⟩ = some (.int .i64 a0i) := by rw [kc _ _ (by simp; omega)]; simp
      have e2 : w1.cell? ⟨w.heap.size, 2, none⟩ = some (.slice a0 a0n a0c) := by rw [kc _ _ (by simp; omega)]; simp
      have s0 : w1.cell? ⟨w.heap.size + 1, 0, none⟩ = some (.int .u64 a1Lo) := by rw [kc _ _ (by simp)]; simp
      have s1 : w1.cell? ⟨w.heap.size + 1, 1, none⟩ = some (.int .u64 a1Hi) := by rw [kc _ _ (by simp)]; simp
      clear kc kf
      go_wp2_with fail
      refine (long_any _ _ _ _ _ _).mono ?_
      rintro r w2 ⟨rfl, b2⟩
      have bw2 := bel_trans bw1 b2
      have ne0 := cy e0 b2
      have ne1 := cy e1 b2
      have ne2 := cy e2 b2
      have ns0 := cy s0 b2
      have ns1 := cy s1 b2
      clear e0 e1 e2 s0 s1
      have e0 := ne0
      have e1 := ne1
      have e2 := ne2
      have s0 := ns0
      have s1 := ns1
      clear ne0 ne1 ne2 ns0 ns1
      go_wp2_with fail
      refine (known_any _ (HT.out.below bw2)).mono ?_
      rintro r w3 ⟨rfl, b3⟩
      go_wp2
      go_ret
      exact ⟨rfl, bel_trans bw2 b3⟩
    have t0 : decide (200 < (a0n : Int)) = false := decide_eq_false hl
    clear hl
    by_cases hle : a1Lo ≤ a1Hi
    · have tle : decide (a1Hi < a1Lo) = false := decide_eq_false (by omega)
      have I1 := fun W h => Lib.hid (img_any a0k a0i a1Lo a1Hi a0 a0n a0c a0v W a0kl a0kh a0il a0ih a1Lol a1Loh a1Hil a1Hih a0e a0m h a0b)
      have CL := fun W h => Lib.hid (all_any a0k a0i a0 a0n a0c a0v W a0kl a0kh a0il a0ih a0e a0m h a0b)
      rw [imE_ok hb hle] at I1
      rw [dmE_yes hb] at CL
      have CO := fun y yl yh W h => Lib.hid (of_any a0k a0i y a0 a0n a0c a0v W a0kl a0kh a0il a0ih yl yh a0e a0m h a0b)
      have CM := fun v vl vh W h => Lib.hid (least_any a0k a0i v a1Lo a0 a0n a0c a0v W a0kl a0kh a0il a0ih vl vh a1Lol a1Loh a0e a0m h a0b)
      have ME : ∀ v, 0 ≤ v → v < dmN a0k a0i a0v → lsE a0k a0i a0v v = 0 := fun v h1 h2 => (dmL_ok (f := a1Lo) hb (decide_eq_true ⟨h1, h2⟩)).2
      have MS := fun v v0 v1 => dmL_spec (v := v) a0b a1Lol a1Loh hb v0 v1
      have MB := fun v x (h : dmL a0k a0i a0v v a1Lo = some x) => dmL_bd a0b a1Lol a1Loh h
      have MI := fun i => imV_bit (i := i) hb hle
      have MV := fun y => dmV_bd hb y
      have MK := imV_iff a0b a1Lol a1Loh a1Hih hb hle
      have HL := alV_lt (k := a0k) (n := a0i) (l := a0v)
      have HV1 := imV_lt (k := a0k) (n := a0i) (l := a0v) (lo := a1Lo) (hi := a1Hi)
      have HS := sub_none HV1 HL (fun i h => by rw [alV_bit hb, ← (Bool.and_eq_true_iff.1 ((MI i).symm.trans h)).1])
      have HP := imV_pos a0b a1Lol a1Loh a1Hih hb hle
      rw [dmE_yes hb] at CO
      generalize imV a0k a0i a0v a1Lo a1Hi = V at *
      generalize alV a0k a0i a0v = L at *
      generalize dmN a0k a0i a0v = N at *
      obtain ⟨M, rfl⟩ := Int.eq_ofNat_of_zero_le N0
      have u0 : (bits .andNot .u64 (V : Int) (L : Int) != 0) = false := by rw [HS]; rfl
      have u1 : ((V : Int) == 0) = false := by simp; omega
      have u2 : decide ((M : Int) < 1) = false := decide_eq_false (by omega)
      have u3 : decide (64 < (M : Int)) = false := decide_eq_false (by omega)
      have ME := Lib.hid ME
      have MS := Lib.hid MS
      have MB := Lib.hid MB
      have MI := Lib.hid MI
      have MV := Lib.hid MV
      have MK := Lib.hid MK
      clear hb hle HS HP N0 a0e a0b
      go_enter Tryd.func8, Tryd.ntmps8
      go_wp2_with fail
      refine (CV _ (HR.out.below b0)).out.mono ?_
      rintro r w1 ⟨rfl, b1⟩
      have bw1 := bel_trans bw0 b1
      obtain ⟨kc, kf⟩ := bcell b1
      have e0 : w1.cell? ⟨w.heap.size, 0, none⟩ = some (.int .u8 a0k) := by rw [kc _ _ (by simp; omega)]; simp
      have e1 : w1.cell? ⟨w.heap.size, 1, none⟩ = some (.int .i64 a0i) := by rw [kc _ _ (by simp; omega)]; simp
      have e2 : w1.cell? ⟨w.heap.size, 2, none⟩ = some (.slice a0 a0n a0c) := by rw [kc _ _ (by simp; omega)]; simp
      have s0 : w1.cell? ⟨w.heap.size + 1, 0, none⟩ = some (.int .u64 a1Lo) := by rw [kc _ _ (by simp)]; simp
      have s1 : w1.cell? ⟨w.heap.size + 1, 1, none⟩ = some (.int .u64 a1Hi) := by rw [kc _ _ (by simp)]; simp
      clear kc kf
      go_wp2_with fail
      refine (long_any _ _ _ _ _ _).mono ?_
      rintro r w2 ⟨rfl, b2⟩
      have bw2 := bel_trans bw1 b2
      have ne0 := cy e0 b2
      have ne1 := cy e1 b2
      have ne2 := cy e2 b2
      have ns0 := cy s0 b2
      have ns1 := cy s1 b2
      clear e0 e1 e2 s0 s1
      have e0 := ne0
      have e1 := ne1
      have e2 := ne2
      have s0 := ns0
      have s1 := ns1
      clear ne0 ne1 ne2 ns0 ns1
      go_wp2_with fail
      refine (I1 _ (HR.out.below bw2)).out.mono ?_
      rintro r w3 ⟨rfl, b3⟩
      have bw3 := bel_trans bw2 b3
      have ne0 := cy e0 b3
      have ne1 := cy e1 b3
      have ne2 := cy e2 b3
      have ns0 := cy s0 b3
      have ns1 := cy s1 b3
      clear e0 e1 e2 s0 s1
      have e0 := ne0
      have e1 := ne1
      have e2 := ne2
      have s0 := ns0
      have s1 := ns1
      clear ne0 ne1 ne2 ns0 ns1
      go_wp2_with fail
      refine (CL _ (HR.out.below bw3)).out.mono ?_
      rintro r w4 ⟨rfl, b4⟩
      have bw4 := bel_trans bw3 b4
      have ne0 := cy e0 b4
      have ne1 := cy e1 b4
      have ne2 := cy e2 b4
      have ns0 := cy s0 b4
      have ns1 := cy s1 b4
      clear e0 e1 e2 s0 s1
      have e0 := ne0
      have e1 := ne1
      have e2 := ne2
      have s0 := ns0
      have s1 := ns1
      clear ne0 ne1 ne2 ns0 ns1
      go_wp2
      go_loopw [12] (fun i wr => ∃ j : Nat, j ≤ M ∧ i = .int .i64 j ∧ Below w4.heap.size w4 wr) (fun i _ => (M - intOf i).toNat)
      case atStart => exact ⟨0, Nat.zero_le _, rfl, Below.refl _ _⟩
      case round =>
        obtain ⟨j, hj, rfl, bel⟩ := hrel
        have bt := bel_trans bw4 bel
        have ne0 := cy e0 bel
        have ne1 := cy e1 bel
        have ne2 := cy e2 bel
        have ns0 := cy s0 bel
        have ns1 := cy s1 bel
        clear e0 e1 e2 s0 s1
        have e0 := ne0
        have e1 := ne1
        have e2 := ne2
        have s0 := ns0
        have s1 := ns1
        clear ne0 ne1 ne2 ns0 ns1
        by_cases hlt : j < M
        · have t1 : decide ((j : Int) < M) = true := decide_eq_true (by omega)
          have CMj := CM (j : Int) (by omega) (by omega) wr (HR.out.below bt)
          rw [ME.out (j : Int) (by omega) (by omega)] at CMj
          have MSj := MS.out (j : Int) (by omega) (by omega)
          have MBj := MB.out (j : Int)
          have MIj := MI.out j
          rw [decide_eq_true (show (j : Int) < M by omega), Bool.true_and] at MIj
          unfold lsAt at MIj
          generalize dmL a0k a0i a0v (j : Int) a1Lo = o at *
          have hj64 : j < 64 := by omega
          have TB := tst (j := j) HV1 hj64
          rw [MIj] at TB
          clear MIj
          cases o with
          | none =>
            have tb : (bits .and .u64 ((V : Int) / 2 ^ j) 1 == 1) = false := TB
            clear TB MSj MBj CO CM
            go_wp2_with fail
            refine CMj.out.mono ?_
            rintro r w5 ⟨rfl, b5⟩
            have ne0 := cy e0 b5
            have ne1 := cy e1 b5
            have ne2 := cy e2 b5
            have ns0 := cy s0 b5
            have ns1 := cy s1 b5
            clear e0 e1 e2 s0 s1
            have e0 := ne0
            have e1 := ne1
            have e2 := ne2
            have s0 := ns0
            have s1 := ns1
            clear ne0 ne1 ne2 ns0 ns1
            unfold lsT
            go_wp2
            go_roundw
            case rel => exact ⟨j + 1, by omega, by go_num, bel_trans bel b5⟩
            case measure => simp [intOf]; omega
          | some x =>
            have tb : (bits .and .u64 ((V : Int) / 2 ^ j) 1 == 1) = decide (x ≤ a1Hi) := TB
            obtain ⟨x0, x1⟩ := MBj x rfl
            obtain ⟨y0, y1⟩ := MSj.1 x rfl
            have C5 := CO x (by omega) x1
            have C6 := CO a2 a2l a2h
            rw [y0] at C5
            have Y1 := y1 a2
            obtain ⟨z0, z1⟩ := MV.out a2
            clear TB MSj MBj CO CM y0 y1
            have t2 : decide (x < a1Lo) = false := decide_eq_false (by omega)
            generalize dmV a0k a0i a0v a2 = u at *
            by_cases hx : x ≤ a1Hi
            · have t3 : decide (x ≤ a1Hi) = true := decide_eq_true hx
              rw [t3] at tb
              clear hx
              by_cases hk : a1Lo ≤ a2
              · have t4 : decide (a1Lo ≤ a2) = true := decide_eq_true hk
                by_cases hk2 : a2 < x
                · have t5 : decide (a2 < x) = true := decide_eq_true hk2
                  have hu : u ≠ j := Y1 hk hk2
                  have t6 : (u == (j : Int)) = false := beq_false_of_ne hu
                  clear hk hk2 hu Y1
                  go_wp2_with fail
                  refine CMj.out.mono ?_
                  rintro r w5 ⟨rfl, b5⟩
                  have bw5 := bel_trans bt b5
                  have ne0 := cy e0 b5
                  have ne1 := cy e1 b5
                  have ne2 := cy e2 b5
                  have ns0 := cy s0 b5
                  have ns1 := cy s1 b5
                  clear e0 e1 e2 s0 s1
                  have e0 := ne0
                  have e1 := ne1
                  have e2 := ne2
                  have s0 := ns0
                  have s1 := ns1
                  clear ne0 ne1 ne2 ns0 ns1
                  unfold lsT
                  go_wp2_with fail
                  refine (C5 _ (HR.out.below bw5)).out.mono ?_
                  rintro r w6 ⟨rfl, b6⟩
                  have bw6 := bel_trans bw5 b6
                  have ne0 := cy e0 b6
                  have ne1 := cy e1 b6
                  have ne2 := cy e2 b6
                  have ns0 := cy s0 b6
                  have ns1 := cy s1 b6
                  clear e0 e1 e2 s0 s1
                  have e0 := ne0
                  have e1 := ne1
                  have e2 := ne2
                  have s0 := ns0
                  have s1 := ns1
                  clear ne0 ne1 ne2 ns0 ns1
                  go_wp2_with fail
                  refine (C6 _ (HR.out.below bw6)).out.mono ?_
                  rintro r w7 ⟨rfl, b7⟩
                  have ne0 := cy e0 b7
                  have ne1 := cy e1 b7
                  have ne2 := cy e2 b7
                  have ns0 := cy s0 b7
                  have ns1 := cy s1 b7
                  clear e0 e1 e2 s0 s1
                  have e0 := ne0
                  have e1 := ne1
                  have e2 := ne2
                  have s0 := ns0
                  have s1 := ns1
                  clear ne0 ne1 ne2 ns0 ns1
                  go_wp2
                  go_roundw
                  case rel => exact ⟨j + 1, by omega, by go_num, bel_trans (bel_trans (bel_trans bel b5) b6) b7⟩
                  case measure => simp [intOf]; omega
                · have t5 : decide (a2 < x) = false := decide_eq_false hk2
                  clear hk hk2 Y1 C6
                  go_wp2_with fail
                  refine CMj.out.mono ?_
                  rintro r w5 ⟨rfl, b5⟩
                  have bw5 := bel_trans bt b5
                  have ne0 := cy e0 b5
                  have ne1 := cy e1 b5
                  have ne2 := cy e2 b5
                  have ns0 := cy s0 b5
                  have ns1 := cy s1 b5
                  clear e0 e1 e2 s0 s1
                  have e0 := ne0
                  have e1 := ne1
                  have e2 := ne2
                  have s0 := ns0
                  have s1 := ns1
                  clear ne0 ne1 ne2 ns0 ns1
                  unfold lsT
                  go_wp2_with fail
                  refine (C5 _ (HR.out.below bw5)).out.mono ?_
                  rintro r w6 ⟨rfl, b6⟩
                  have bw6 := bel_trans bw5 b6
                  have ne0 := cy e0 b6
                  have ne1 := cy e1 b6
                  have ne2 := cy e2 b6
                  have ns0 := cy s0 b6
                  have ns1 := cy s1 b6
                  clear e0 e1 e2 s0 s1
                  have e0 := ne0
                  have e1 := ne1
                  have e2 := ne2
                  have s0 := ns0
                  have s1 := ns1
                  clear ne0 ne1 ne2 ns0 ns1
                  go_wp2
                  go_roundw
                  case rel => exact ⟨j + 1, by omega, by go_num, bel_trans (bel_trans bel b5) b6⟩
                  case measure => simp [intOf]; omega
              · have t4 : decide (a1Lo ≤ a2) = false := decide_eq_false hk
                clear hk Y1 C6
                go_wp2_with fail
                refine CMj.out.mono ?_
                rintro r w5 ⟨rfl, b5⟩
                have bw5 := bel_trans bt b5
                have ne0 := cy e0 b5
                have ne1 := cy e1 b5
                have ne2 := cy e2 b5
                have ns0 := cy s0 b5
                have ns1 := cy s1 b5
                clear e0 e1 e2 s0 s1
                have e0 := ne0
                have e1 := ne1
                have e2 := ne2
                have s0 := ns0
                have s1 := ns1
                clear ne0 ne1 ne2 ns0 ns1
                unfold lsT
                go_wp2_with fail
                refine (C5 _ (HR.out.below bw5)).out.mono ?_
                rintro r w6 ⟨rfl, b6⟩
                have bw6 := bel_trans bw5 b6
                have ne0 := cy e0 b6
                have ne1 := cy e1 b6
                have ne2 := cy e2 b6
                have ns0 := cy s0 b6
                have ns1 := cy s1 b6
                clear e0 e1 e2 s0 s1
                have e0 := ne0
                have e1 := ne1
                have e2 := ne2
                have s0 := ns0
                have s1 := ns1
                clear ne0 ne1 ne2 ns0 ns1
                go_wp2
                go_roundw
                case rel => exact ⟨j + 1, by omega, by go_num, bel_trans (bel_trans bel b5) b6⟩
                case measure => simp [intOf]; omega
            · have t3 : decide (x ≤ a1Hi) = false := decide_eq_false hx
              rw [t3] at tb
              clear hx
              by_cases hk : a1Lo ≤ a2
              · have t4 : decide (a1Lo ≤ a2) = true := decide_eq_true hk
                by_cases hk2 : a2 < x
                · have t5 : decide (a2 < x) = true := decide_eq_true hk2
                  have hu : u ≠ j := Y1 hk hk2
                  have t6 : (u == (j : Int)) = false := beq_false_of_ne hu
                  clear hk hk2 hu Y1
                  go_wp2_with fail
                  refine CMj.out.mono ?_
                  rintro r w5 ⟨rfl, b5⟩
                  have bw5 := bel_trans bt b5
                  have ne0 := cy e0 b5
                  have ne1 := cy e1 b5
                  have ne2 := cy e2 b5
                  have ns0 := cy s0 b5
                  have ns1 := cy s1 b5
                  clear e0 e1 e2 s0 s1
                  have e0 := ne0
                  have e1 := ne1
                  have e2 := ne2
                  have s0 := ns0
                  have s1 := ns1
                  clear ne0 ne1 ne2 ns0 ns1
                  unfold lsT
                  go_wp2_with fail
                  refine (C5 _ (HR.out.below bw5)).out.mono ?_
                  rintro r w6 ⟨rfl, b6⟩
                  have bw6 := bel_trans bw5 b6
                  have ne0 := cy e0 b6
                  have ne1 := cy e1 b6
                  have ne2 := cy e2 b6
                  have ns0 := cy s0 b6
                  have ns1 := cy s1 b6
                  clear e0 e1 e2 s0 s1
                  have e0 := ne0
                  have e1 := ne1
                  have e2 := ne2
                  have s0 := ns0
                  have s1 := ns1
                  clear ne0 ne1 ne2 ns0 ns1
                  go_wp2_with fail
                  refine (C6 _ (HR.out.below bw6)).out.mono ?_
                  rintro r w7 ⟨rfl, b7⟩
                  have ne0 := cy e0 b7
                  have ne1 := cy e1 b7
                  have ne2 := cy e2 b7
                  have ns0 := cy s0 b7
                  have ns1 := cy s1 b7
                  clear e0 e1 e2 s0 s1
                  have e0 := ne0
                  have e1 := ne1
                  have e2 := ne2
                  have s0 := ns0
                  have s1 := ns1
                  clear ne0 ne1 ne2 ns0 ns1
                  go_wp2
                  go_roundw
                  case rel => exact ⟨j + 1, by omega, by go_num, bel_trans (bel_trans (bel_trans bel b5) b6) b7⟩
                  case measure => simp [intOf]; omega
                · have t5 : decide (a2 < x) = false := decide_eq_false hk2
                  clear hk hk2 Y1 C6
                  go_wp2_with fail
                  refine CMj.out.mono ?_
                  rintro r w5 ⟨rfl, b5⟩
                  have bw5 := bel_trans bt b5
                  have ne0 := cy e0 b5
                  have ne1 := cy e1 b5
                  have ne2 := cy e2 b5
                  have ns0 := cy s0 b5
                  have ns1 := cy s1 b5
                  clear e0 e1 e2 s0 s1
                  have e0 := ne0
                  have e1 := ne1
                  have e2 := ne2
                  have s0 := ns0
                  have s1 := ns1
                  clear ne0 ne1 ne2 ns0 ns1
                  unfold lsT
                  go_wp2_with fail
                  refine (C5 _ (HR.out.below bw5)).out.mono ?_
                  rintro r w6 ⟨rfl, b6⟩
                  have bw6 := bel_trans bw5 b6
                  have ne0 := cy e0 b6
                  have ne1 := cy e1 b6
                  have ne2 := cy e2 b6
                  have ns0 := cy s0 b6
                  have ns1 := cy s1 b6
                  clear e0 e1 e2 s0 s1
                  have e0 := ne0
                  have e1 := ne1
                  have e2 := ne2
                  have s0 := ns0
                  have s1 := ns1
                  clear ne0 ne1 ne2 ns0 ns1
                  go_wp2
                  go_roundw
                  case rel => exact ⟨j + 1, by omega, by go_num, bel_trans (bel_trans bel b5) b6⟩
                  case measure => simp [intOf]; omega
              · have t4 : decide (a1Lo ≤ a2) = false := decide_eq_false hk
                clear hk Y1 C6
                go_wp2_with fail
                refine CMj.out.mono ?_
                rintro r w5 ⟨rfl, b5⟩
                have bw5 := bel_trans bt b5
                have ne0 := cy e0 b5
                have ne1 := cy e1 b5
                have ne2 := cy e2 b5
                have ns0 := cy s0 b5
                have ns1 := cy s1 b5
                clear e0 e1 e2 s0 s1
                have e0 := ne0
                have e1 := ne1
                have e2 := ne2
                have s0 := ns0
                have s1 := ns1
                clear ne0 ne1 ne2 ns0 ns1
                unfold lsT
                go_wp2_with fail
                refine (C5 _ (HR.out.below bw5)).out.mono ?_
                rintro r w6 ⟨rfl, b6⟩
                have bw6 := bel_trans bw5 b6
                have ne0 := cy e0 b6
                have ne1 := cy e1 b6
                have ne2 := cy e2 b6
                have ns0 := cy s0 b6
                have ns1 := cy s1 b6
                clear e0 e1 e2 s0 s1
                have e0 := ne0
                have e1 := ne1
                have e2 := ne2
                have s0 := ns0
                have s1 := ns1
                clear ne0 ne1 ne2 ns0 ns1
                go_wp2
                go_roundw
                case rel => exact ⟨j + 1, by omega, by go_num, bel_trans (bel_trans bel b5) b6⟩
                case measure => simp [intOf]; omega
        · obtain rfl : j = M := by omega
          have t1 : decide ((j : Int) < j) = false := by simp
          by_cases hk : a1Lo ≤ a2
          · have t4 : decide (a1Lo ≤ a2) = true := decide_eq_true hk
            by_cases hk2 : a2 ≤ a1Hi
            · have t5 : decide (a2 ≤ a1Hi) = true := decide_eq_true hk2
              have C6 := CO a2 a2l a2h
              obtain ⟨z0, z1⟩ := MV.out a2
              have K := (MK.out (dmV a0k a0i a0v a2).toNat).2 ⟨a2, hk, hk2, by omega⟩
              generalize dmV a0k a0i a0v a2 = u at *
              obtain ⟨p, rfl⟩ := Int.eq_ofNat_of_zero_le z0
              rw [Int.toNat_natCast] at K
              have tb := (tst (j := p) HV1 (by omega)).trans K
              have t6 : decide (p < j) = true := decide_eq_true (by omega)
              have t7 : (p : Int) < 64 := by omega
              clear hk hk2 K MV z0 z1 CM CO
              go_wp2_with fail
              refine (C6 _ (HR.out.below bt)).out.mono ?_
              rintro r w5 ⟨rfl, b5⟩
              have bw5 := bel_trans bt b5
              go_wp2_with fail
              refine (known_any _ (HT.out.below bw5)).mono ?_
              rintro r w6 ⟨rfl, b6⟩
              go_wp2
              go_ret
              exact ⟨rfl, bel_trans bw5 b6⟩
            · have t5 : decide (a2 ≤ a1Hi) = false := decide_eq_false hk2
              clear hk hk2
              go_wp2_with fail
              refine (known_any _ (HT.out.below bt)).mono ?_
              rintro r w5 ⟨rfl, b5⟩
              go_wp2
              go_ret
              exact ⟨rfl, bel_trans bt b5⟩
          · have t4 : decide (a1Lo ≤ a2) = false := decide_eq_false hk
            clear hk
            go_wp2_with fail
            refine (known_any _ (HT.out.below bt)).mono ?_
            rintro r w5 ⟨rfl, b5⟩
            go_wp2
            go_ret
            exact ⟨rfl, bel_trans bt b5⟩
    · have tle : decide (a1Hi < a1Lo) = true := decide_eq_true (by omega)
      clear hb hle
      generalize dmN a0k a0i a0v = N at *
      go_enter Tryd.func8, Tryd.ntmps8
      go_wp2_with fail
      refine (CV _ (HR.out.below b0)).out.mono ?_
      rintro r w1 ⟨rfl, b1⟩
      have bw1 := bel_trans bw0 b1
      obtain ⟨kc, kf⟩ := bcell b1
      have e0 : w1.cell? ⟨w.heap.size, 0, none⟩ = some (.int .u8 a0k) := by rw [kc _ _ (by simp; omega)]; simp
      have e1 : w1.cell? ⟨w.heap.size, 1, none⟩ = some (.int .i64 a0i) := by rw [kc _ _ (by simp; omega)]; simp
      have e2 : w1.cell? ⟨w.heap.size, 2, none⟩ = some (.slice a0 a0n a0c) := by rw [kc _ _ (by simp; omega)]; simp
      have s0 : w1.cell? ⟨w.heap.size + 1, 0, none⟩ = some (.int .u64 a1Lo) := by rw [kc _ _ (by simp)]; simp
      have s1 : w1.cell? ⟨w.heap.size + 1, 1, none⟩ = some (.int .u64 a1Hi) := by rw [kc _ _ (by simp)]; simp
      clear kc kf
      go_wp2_with fail
      refine (long_any _ _ _ _ _ _).mono ?_
      rintro r w2 ⟨rfl, b2⟩
      have bw2 := bel_trans bw1 b2
      have ne0 := cy e0 b2
      have ne1 := cy e1 b2
      have ne2 := cy e2 b2
      have ns0 := cy s0 b2
      have ns1 := cy s1 b2
      clear e0 e1 e2 s0 s1
      have e0 := ne0
      have e1 := ne1
      have e2 := ne2
      have s0 := ns0
      have s1 := ns1
      clear ne0 ne1 ne2 ns0 ns1
      go_wp2_with fail
      refine (known_any _ (HT.out.below bw2)).mono ?_
      rintro r w3 ⟨rfl, b3⟩
      go_wp2
      go_ret
      exact ⟨rfl, bel_trans bw2 b3⟩
end Wk
end Go.Proofs.YtnjgolbghcjijaaDoor
