/- The walk of the law DomainParts, from the contracts of XDomE, XDomG, XDomQ and XDomKn and the mathematics of XDomZ. Conditions: those of the contracts. (Written by tools/mk4dom.py.) -/
import Derived.Test.YtnjgolbghcjijaaDoorDomZ
import Derived.Test.YtnjgolbghcjijaaDoorWkDo2
namespace Go.Proofs.YtnjgolbghcjijaaDoor
open Go.RowKit Go.Sort
set_option linter.unusedVariables false
set_option linter.unusedSimpArgs false
namespace Dm
theorem imE_ok {k n : Int} {l : List Int} {lo hi : Int} (hb : dmB k n l = true) (h : lo ≤ hi) : imE k n l lo hi = 0 := by rw [imE, if_pos hb, if_pos h]
end Dm
namespace Wk
open Dm
set_option maxHeartbeats 4000000 in
set_option maxRecDepth 100000 in
theorem walk_domainParts (a0k a0i : Int) (a0 : Option Addr) (a0n a0c : Nat) (a0v : List Int) (a1Lo : Int) (a1Hi : Int) (a2 : Int) (w : World) (a0kl : 0 ≤ a0k) (a0kh : a0k ≤ 255) (a0il : -9223372036854775808 ≤ a0i) (a0ih : a0i ≤ 9223372036854775807) (a0e : a0v.length = a0n) (a0m : a0n ≤ maxLen) (a0r : Dm.RdK .u64 w a0 a0v) (a0b : Dm.BdU a0v) (a0z : a0 = none → a0c = 0) (a1Lol : 0 ≤ a1Lo) (a1Loh : a1Lo ≤ 18446744073709551615) (a1Hil : 0 ≤ a1Hi) (a1Hih : a1Hi ≤ 18446744073709551615) (a2l : 0 ≤ a2) (a2h : a2 ≤ 18446744073709551615) (hT : Dm.Tz w) :
    Calls Tryd.prog 9 #[.agg #[.int .u8 a0k, .int .i64 a0i, .slice a0 a0n a0c], .agg #[.int .u64 a1Lo, .int .u64 a1Hi], .int .u64 a2] w fun e w' => e = .returned (.bool true) ∧ Below w.heap.size w w' := by
  have HR := Lib.hid a0r; clear a0r
  have HT := Lib.hid hT; clear hT
  have b0 : Below w.heap.size w ((w.alloc (Obj.cells #[.int .u8 a0k, .int .i64 a0i, .slice a0 a0n a0c] 24)).alloc (Obj.cells #[.int .u64 a1Lo, .int .u64 a1Hi] 37)) := bel_alloc (bel_alloc (Below.refl _ _) _) _
  have CC := fun W h => Lib.hid (check_any a0k a0i a0 a0n a0c a0v W a0kl a0kh a0il a0ih a0e a0m h a0b)
  by_cases hl : 200 < (a0n : Int)
  · have t0 : decide (200 < (a0n : Int)) = true := decide_eq_true hl
    go_enter Tryd.func9, Tryd.ntmps9
    go_wp2_with fail
    refine (long_any _ _ _ _ _ _).mono ?_
    rintro r w1 ⟨rfl, b1⟩
    have bw1 := bel_trans b0 b1
    go_wp2_with fail
    refine (known_any _ (HT.out.below bw1)).mono ?_
    rintro r w2 ⟨rfl, b2⟩
    go_wp2
    go_ret
    exact ⟨rfl, bel_trans bw1 b2⟩
  have t0 : decide (200 < (a0n : Int)) = false := decide_eq_false hl
  clear hl
  cases hb : dmB a0k a0i a0v with
  | false =>
    rw [dmE_no hb] at CC
    clear hb
    go_enter Tryd.func9, Tryd.ntmps9
    go_wp2_with fail
    refine (long_any _ _ _ _ _ _).mono ?_
    rintro r w1 ⟨rfl, b1⟩
    have bw1 := bel_trans b0 b1
    obtain ⟨kc, kf⟩ := bcell b1
    have e0 : w1.cell? ⟨w.heap.size, 0, none⟩ = some (.int .u8 a0k) := by rw [kc _ _ (by simp; omega)]; simp
    have e1 : w1.cell? ⟨w.heap.size, 1, none⟩ = some (.int .i64 a0i) := by rw [kc _ _ (by simp; omega)]; simp
    have e2 : w1.cell? ⟨w.heap.size, 2, none⟩ = some (.slice a0 a0n a0c) := by rw [kc _ _ (by simp; omega)]; simp
    have s0 : w1.cell? ⟨w.heap.size + 1, 0, none⟩ = some (.int .u64 a1Lo) := by rw [kc _ _ (by simp)]; simp
    have s1 : w1.cell? ⟨w.heap.size + 1, 1, none⟩ = some (.int .u64 a1Hi) := by rw [kc _ _ (by simp)]; simp
    clear kc kf
    go_wp2_with fail
    refine (CC _ (HR.out.below bw1)).out.mono ?_
    rintro r w2 ⟨rfl, b2⟩
    have bw2 := bel_trans bw1 b2
    go_wp2_with fail
    refine (known_any _ (HT.out.below bw2)).mono ?_
    rintro r w3 ⟨rfl, b3⟩
    go_wp2
    go_ret
    exact ⟨rfl, bel_trans bw2 b3⟩
  | true =>
    rw [dmE_yes hb] at CC
    by_cases hle : a1Lo ≤ a1Hi
    · have tle : decide (a1Hi < a1Lo) = false := decide_eq_false (by omega)
      have I1 := fun W h => Lib.hid (img_any a0k a0i a1Lo a1Hi a0 a0n a0c a0v W a0kl a0kh a0il a0ih a1Lol a1Loh a1Hil a1Hih a0e a0m h a0b)
      have I2 := fun W h => Lib.hid (img_any a0k a0i 0 18446744073709551615 a0 a0n a0c a0v W a0kl a0kh a0il a0ih (by omega) (by omega) (by omega) (by omega) a0e a0m h a0b)
      have CL := fun W h => Lib.hid (all_any a0k a0i a0 a0n a0c a0v W a0kl a0kh a0il a0ih a0e a0m h a0b)
      rw [imE_ok hb hle] at I1
      rw [imE_ok hb (by omega), imV_all a0b hb] at I2
      rw [dmE_yes hb] at CL
      have HL := alV_lt (k := a0k) (n := a0i) (l := a0v)
      have HV1 := imV_lt (k := a0k) (n := a0i) (l := a0v) (lo := a1Lo) (hi := a1Hi)
      generalize alV a0k a0i a0v = L at *
      by_cases hin : a1Lo ≤ a2 ∧ a2 < a1Hi
      · obtain ⟨ha, hz⟩ := hin
        have I3 := fun W h => Lib.hid (img_any a0k a0i a1Lo a2 a0 a0n a0c a0v W a0kl a0kh a0il a0ih a1Lol a1Loh a2l a2h a0e a0m h a0b)
        have I4 := fun W h => Lib.hid (img_any a0k a0i (a2 + 1) a1Hi a0 a0n a0c a0v W a0kl a0kh a0il a0ih (by omega) (by omega) a1Hil a1Hih a0e a0m h a0b)
        rw [imE_ok hb ha] at I3
        rw [imE_ok hb (by omega)] at I4
        have HP := Lib.hid (imV_parts a0b a1Lol a1Hih hb ha hz)
        have HV3 := imV_lt (k := a0k) (n := a0i) (l := a0v) (lo := a1Lo) (hi := a2)
        have HV4 := imV_lt (k := a0k) (n := a0i) (l := a0v) (lo := a2 + 1) (hi := a1Hi)
        generalize imV a0k a0i a0v a1Lo a1Hi = V at *
        generalize imV a0k a0i a0v a1Lo a2 = Va at *
        generalize imV a0k a0i a0v (a2 + 1) a1Hi = Vb at *
        have u0 : decide (a2 < a1Lo) = false := decide_eq_false (by omega)
        have u1 : decide (a1Hi ≤ a2) = false := decide_eq_false (by omega)
        have u2 : (bits .or .u64 (Va : Int) (Vb : Int) == (V : Int)) = true := by rw [or_nat HV3 HV4, HP.out]; simp
        have u3 : a2 + 1 ≤ 18446744073709551615 := by omega
        clear hb hle ha hz a0e a0b
        go_enter Tryd.func9, Tryd.ntmps9
        go_wp2_with fail
        refine (long_any _ _ _ _ _ _).mono ?_
        rintro r w1 ⟨rfl, b1⟩
        have bw1 := bel_trans b0 b1
        obtain ⟨kc, kf⟩ := bcell b1
        have e0 : w1.cell? ⟨w.heap.size, 0, none⟩ = some (.int .u8 a0k) := by rw [kc _ _ (by simp; omega)]; simp
        have e1 : w1.cell? ⟨w.heap.size, 1, none⟩ = some (.int .i64 a0i) := by rw [kc _ _ (by simp; omega)]; simp
        have e2 : w1.cell? ⟨w.heap.size, 2, none⟩ = some (.slice a0 a0n a0c) := by rw [kc _ _ (by simp; omega)]; simp
        have s0 : w1.cell? ⟨w.heap.size + 1, 0, none⟩ = some (.int .u64 a1Lo) := by rw [kc _ _ (by simp)]; simp
        have s1 : w1.cell? ⟨w.heap.size + 1, 1, none⟩ = some (.int .u64 a1Hi) := by rw [kc _ _ (by simp)]; simp
        clear kc kf
        go_wp2_with fail
        refine (CC _ (HR.out.below bw1)).out.mono ?_
        rintro r w2 ⟨rfl, b2⟩
        have bw2 := bel_trans bw1 b2
        have ne0 := cy e0 b2
        have ne1 := cy e1 b2
        have ne2 := cy e2 b2
        have ns0 := cy s0 b2
        have ns1 := cy s1 b2
        clear e0 e1 e2 s0 s1
        have e0 := ne0
        have e1 := ne1
        have e2 := ne2
        have s0 := ns0
        have s1 := ns1
        clear ne0 ne1 ne2 ns0 ns1
        go_wp2_with fail
        refine (I1 _ (HR.out.below bw2)).out.mono ?_
        rintro r w3 ⟨rfl, b3⟩
        have bw3 := bel_trans bw2 b3
        have ne0 := cy e0 b3
        have ne1 := cy e1 b3
        have ne2 := cy e2 b3
        have ns0 := cy s0 b3
        have ns1 := cy s1 b3
        clear e0 e1 e2 s0 s1
        have e0 := ne0
        have e1 := ne1
        have e2 := ne2
        have s0 := ns0
        have s1 := ns1
        clear ne0 ne1 ne2 ns0 ns1
        go_wp2_with fail
        refine (I2 _ (HR.out.below bw3)).out.mono ?_
        rintro r w4 ⟨rfl, b4⟩
        have bw4 := bel_trans bw3 b4
        have ne0 := cy e0 b4
        have ne1 := cy e1 b4
        have ne2 := cy e2 b4
        have ns0 := cy s0 b4
        have ns1 := cy s1 b4
        clear e0 e1 e2 s0 s1
        have e0 := ne0
        have e1 := ne1
        have e2 := ne2
        have s0 := ns0
        have s1 := ns1
        clear ne0 ne1 ne2 ns0 ns1
        go_wp2_with fail
        refine (CL _ (HR.out.below bw4)).out.mono ?_
        rintro r w5 ⟨rfl, b5⟩
        have bw5 := bel_trans bw4 b5
        have ne0 := cy e0 b5
        have ne1 := cy e1 b5
        have ne2 := cy e2 b5
        have ns0 := cy s0 b5
        have ns1 := cy s1 b5
        clear e0 e1 e2 s0 s1
        have e0 := ne0
        have e1 := ne1
        have e2 := ne2
        have s0 := ns0
        have s1 := ns1
        clear ne0 ne1 ne2 ns0 ns1
        go_wp2_with fail
        refine (I3 _ (HR.out.below bw5)).out.mono ?_
        rintro r w6 ⟨rfl, b6⟩
        have bw6 := bel_trans bw5 b6
        have ne0 := cy e0 b6
        have ne1 := cy e1 b6
        have ne2 := cy e2 b6
        have ns0 := cy s0 b6
        have ns1 := cy s1 b6
        clear e0 e1 e2 s0 s1
        have e0 := ne0
        have e1 := ne1
        have e2 := ne2
        have s0 := ns0
        have s1 := ns1
        clear ne0 ne1 ne2 ns0 ns1
        go_wp2_with fail
        refine (I4 _ (HR.out.below bw6)).out.mono ?_
        rintro r w7 ⟨rfl, b7⟩
        have bw7 := bel_trans bw6 b7
        have ne0 := cy e0 b7
        have ne1 := cy e1 b7
        have ne2 := cy e2 b7
        have ns0 := cy s0 b7
        have ns1 := cy s1 b7
        clear e0 e1 e2 s0 s1
        have e0 := ne0
        have e1 := ne1
        have e2 := ne2
        have s0 := ns0
        have s1 := ns1
        clear ne0 ne1 ne2 ns0 ns1
        go_wp2_with fail
        refine (known_any _ (HT.out.below bw7)).mono ?_
        rintro r w8 ⟨rfl, b8⟩
        go_wp2
        go_ret
        exact ⟨rfl, bel_trans bw7 b8⟩
      · generalize imV a0k a0i a0v a1Lo a1Hi = V at *
        clear hb hle a0e a0b
        by_cases ha : a2 < a1Lo
        · have u0 : decide (a2 < a1Lo) = true := decide_eq_true ha
          clear hin
          go_enter Tryd.func9, Tryd.ntmps9
          go_wp2_with fail
          refine (long_any _ _ _ _ _ _).mono ?_
          rintro r w1 ⟨rfl, b1⟩
          have bw1 := bel_trans b0 b1
          obtain ⟨kc, kf⟩ := bcell b1
          have e0 : w1.cell? ⟨w.heap.size, 0, none⟩ = some (.int .u8 a0k) := by rw [kc _ _ (by simp; omega)]; simp
          have e1 : w1.cell? ⟨w.heap.size, 1, none⟩ = some (.int .i64 a0i) := by rw [kc _ _ (by simp; omega)]; simp
          have e2 : w1.cell? ⟨w.heap.size, 2, none⟩ = some (.slice a0 a0n a0c) := by rw [kc _ _ (by simp; omega)]; simp
          have s0 : w1.cell? ⟨w.heap.size + 1, 0, none⟩ = some (.int .u64 a1Lo) := by rw [kc _ _ (by simp)]; simp
          have s1 : w1.cell? ⟨w.heap.size + 1, 1, none⟩ = some (.int .u64 a1Hi) := by rw [kc _ _ (by simp)]; simp
          clear kc kf
          go_wp2_with fail
          refine (CC _ (HR.out.below bw1)).out.mono ?_
          rintro r w2 ⟨rfl, b2⟩
          have bw2 := bel_trans bw1 b2
          have ne0 := cy e0 b2
          have ne1 := cy e1 b2
          have ne2 := cy e2 b2
          have ns0 := cy s0 b2
          have ns1 := cy s1 b2
          clear e0 e1 e2 s0 s1
          have e0 := ne0
          have e1 := ne1
          have e2 := ne2
          have s0 := ns0
          have s1 := ns1
          clear ne0 ne1 ne2 ns0 ns1
          go_wp2_with fail
          refine (I1 _ (HR.out.below bw2)).out.mono ?_
          rintro r w3 ⟨rfl, b3⟩
          have bw3 := bel_trans bw2 b3
          have ne0 := cy e0 b3
          have ne1 := cy e1 b3
          have ne2 := cy e2 b3
          have ns0 := cy s0 b3
          have ns1 := cy s1 b3
          clear e0 e1 e2 s0 s1
          have e0 := ne0
          have e1 := ne1
          have e2 := ne2
          have s0 := ns0
          have s1 := ns1
          clear ne0 ne1 ne2 ns0 ns1
          go_wp2_with fail
          refine (I2 _ (HR.out.below bw3)).out.mono ?_
          rintro r w4 ⟨rfl, b4⟩
          have bw4 := bel_trans bw3 b4
          have ne0 := cy e0 b4
          have ne1 := cy e1 b4
          have ne2 := cy e2 b4
          have ns0 := cy s0 b4
          have ns1 := cy s1 b4
          clear e0 e1 e2 s0 s1
          have e0 := ne0
          have e1 := ne1
          have e2 := ne2
          have s0 := ns0
          have s1 := ns1
          clear ne0 ne1 ne2 ns0 ns1
          go_wp2_with fail
          refine (CL _ (HR.out.below bw4)).out.mono ?_
          rintro r w5 ⟨rfl, b5⟩
          have bw5 := bel_trans bw4 b5
          have ne0 := cy e0 b5
          have ne1 := cy e1 b5
          have ne2 := cy e2 b5
          have ns0 := cy s0 b5
          have ns1 := cy s1 b5
          clear e0 e1 e2 s0 s1
          have e0 := ne0
          have e1 := ne1
          have e2 := ne2
          have s0 := ns0
          have s1 := ns1
          clear ne0 ne1 ne2 ns0 ns1
          go_wp2_with fail
          refine (known_any _ (HT.out.below bw5)).mono ?_
          rintro r w6 ⟨rfl, b6⟩
          go_wp2
          go_ret
          exact ⟨rfl, bel_trans bw5 b6⟩
        · have u0 : decide (a2 < a1Lo) = false := decide_eq_false ha
          have u1 : decide (a1Hi ≤ a2) = true := decide_eq_true (by omega)
          clear hin
          go_enter Tryd.func9, Tryd.ntmps9
          go_wp2_with fail
          refine (long_any _ _ _ _ _ _).mono ?_
          rintro r w1 ⟨rfl, b1⟩
          have bw1 := bel_trans b0 b1
          obtain ⟨kc, kf⟩ := bcell b1
          have e0 : w1.cell? ⟨w.heap.size, 0, none⟩ = some (.int .u8 a0k) := by rw [kc _ _ (by simp; omega)]; simp
          have e1 : w1.cell? ⟨w.heap.size, 1, none⟩ = some (.int .i64 a0i) := by rw [kc _ _ (by simp; omega)]; simp
          have e2 : w1.cell? ⟨w.heap.size, 2, none⟩ = some (.slice a0 a0n a0c) := by rw [kc _ _ (by simp; omega)]; simp
          have s0 : w1.cell? ⟨w.heap.size + 1, 0, none⟩ = some (.int .u64 a1Lo) := by rw [kc _ _ (by simp)]; simp
          have s1 : w1.cell? ⟨w.heap.size + 1, 1, none⟩ = some (.int .u64 a1Hi) := by rw [kc _ _ (by simp)]; simp
          clear kc kf
          go_wp2_with fail
          refine (CC _ (HR.out.below bw1)).out.mono ?_
          rintro r w2 ⟨rfl, b2⟩
          have bw2 := bel_trans bw1 b2
          have ne0 := cy e0 b2
          have ne1 := cy e1 b2
          have ne2 := cy e2 b2
          have ns0 := cy s0 b2
          have ns1 := cy s1 b2
          clear e0 e1 e2 s0 s1
          have e0 := ne0
          have e1 := ne1
          have e2 := ne2
          have s0 := ns0
          have s1 := ns1
          clear ne0 ne1 ne2 ns0 ns1
          go_wp2_with fail
          refine (I1 _ (HR.out.below bw2)).out.mono ?_
          rintro r w3 ⟨rfl, b3⟩
          have bw3 := bel_trans bw2 b3
          have ne0 := cy e0 b3
          have ne1 := cy e1 b3
          have ne2 := cy e2 b3
          have ns0 := cy s0 b3
          have ns1 := cy s1 b3
          clear e0 e1 e2 s0 s1
          have e0 := ne0
          have e1 := ne1
          have e2 := ne2
          have s0 := ns0
          have s1 := ns1
          clear ne0 ne1 ne2 ns0 ns1
          go_wp2_with fail
          refine (I2 _ (HR.out.below bw3)).out.mono ?_
          rintro r w4 ⟨rfl, b4⟩
          have bw4 := bel_trans bw3 b4
          have ne0 := cy e0 b4
          have ne1 := cy e1 b4
          have ne2 := cy e2 b4
          have ns0 := cy s0 b4
          have ns1 := cy s1 b4
          clear e0 e1 e2 s0 s1
          have e0 := ne0
          have e1 := ne1
          have e2 := ne2
          have s0 := ns0
          have s1 := ns1
          clear ne0 ne1 ne2 ns0 ns1
          go_wp2_with fail
          refine (CL _ (HR.out.below bw4)).out.mono ?_
          rintro r w5 ⟨rfl, b5⟩
          have bw5 := bel_trans bw4 b5
          have ne0 := cy e0 b5
          have ne1 := cy e1 b5
          have ne2 := cy e2 b5
          have ns0 := cy s0 b5
          have ns1 := cy s1 b5
          clear e0 e1 e2 s0 s1
          have e0 := ne0
          have e1 := ne1
          have e2 := ne2
          have s0 := ns0
          have s1 := ns1
          clear ne0 ne1 ne2 ns0 ns1
          go_wp2_with fail
          refine (known_any _ (HT.out.below bw5)).mono ?_
          rintro r w6 ⟨rfl, b6⟩
          go_wp2
          go_ret
          exact ⟨rfl, bel_trans bw5 b6⟩
    · have tle : decide (a1Hi < a1Lo) = true := decide_eq_true (by omega)
      clear hb hle
      go_enter Tryd.func9, Tryd.ntmps9
      go_wp2_with fail
      refine (long_any _ _ _ _ _ _).mono ?_
      rintro r w1 ⟨rfl, b1⟩
      have bw1 := bel_trans b0 b1
      obtain ⟨kc, kf⟩ := bcell b1
      have e0 : w1.cell? ⟨w.heap.size, 0, none⟩ = some (.int .u8 a0k) := by rw [kc _ _ (by simp; omega)]; simp
      have e1 : w1.cell? ⟨w.heap.size, 1, none⟩ = some (.int .i64 a0i) := by rw [kc _ _ (by simp; omega)]; simp
      have e2 : w1.cell? ⟨w.heap.size, 2, none⟩ = some (.slice a0 a0n a0c) := by rw [kc _ _ (by simp; omega)]; simp
      have s0 : w1.cell? ⟨w.heap.size + 1, 0, none⟩ = some (.int .u64 a1Lo) := by rw [kc _ _ (by simp)]; simp
      have s1 : w1.cell? ⟨w.heap.size + 1, 1, none⟩ = some (.int .u64 a1Hi) := by rw [kc _ _ (by simp)]; simp
      clear kc kf
      go_wp2_with fail
      refine (CC _ (HR.out.below bw1)).out.mono ?_
      rintro r w2 ⟨rfl, b2⟩
      have bw2 := bel_trans bw1 b2
      have ne0 := cy e0 b2
      have ne1 := cy e1 b2
      have ne2 := cy e2 b2
      have ns0 := cy s0 b2
      have ns1 := cy s1 b2
      clear e0 e1 e2 s0 s1
      have e0 := ne0
      have e1 := ne1
      have e2 := ne2
      have s0 := ns0
      have s1 := ns1
      clear ne0 ne1 ne2 ns0 ns1
      go_wp2_with fail
      refine (known_any _ (HT.out.below bw2)).mono ?_
      rintro r w3 ⟨rfl, b3⟩
      go_wp2
      go_ret
      exact ⟨rfl, bel_trans bw2 b3⟩
end Wk
end Go.Proofs.YtnjgolbghcjijaaDoor
