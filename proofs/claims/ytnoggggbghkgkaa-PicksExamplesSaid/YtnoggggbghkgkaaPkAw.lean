/- awake of leapfroglaw10: contract of the translated code. No conditions. -/
import Derived.Test.YtnoggggbghkgkaaPkL
namespace Go.Proofs.Ytnoggggbghkgkaa
open Go.RowKit Go.Shelf Go.Sort
set_option linter.unusedVariables false
set_option linter.unusedSimpArgs false
namespace Pk
open Dm (RdK BdI bel_alloc bel_trans cell_lt flatI info info_parts row_rd app1 appAll addr_lit ret_eq)
theorem th1 : thV 3 (-1) = .tuple #[.int .i64 2, .int .i64 0] := rfl
theorem th2 : thV 3 7 = .tuple #[.int .i64 1, .int .i64 0] := rfl
theorem th3 : thV 0 0 = .tuple #[.int .i64 0, .int .i64 2] := rfl
theorem ch1 : chI (2 : Int).toNat [0, 3, -1, 4] = [0, 1, 1, 0] := by decide +kernel
theorem cn1 : cntL (3 : Int).toNat [0, 3, -1, 4] = [2, 1, 1] := by decide +kernel
theorem gp1 : (gapF 0 (chL (2 : Int).toNat [1, 1, 0, 1])).1 = 2 := by decide +kernel
theorem wo1 : woL 2 1 [0, 3, -1, 4] = [0, 4] := by decide +kernel
theorem rd1 : rdL 3 (5 : Int).toNat = [0, 1, 2, 0, 1] := by decide +kernel
theorem ex1 : exN [4, 2, 0, 1] (([4, 2, 0, 1] : List Int).length / 2) = [4, 4, 0] := by decide +kernel
theorem fc1 : fcE [4, 2, 0, 1] = 0 := by
  refine fcE_ok rfl ?_ ?_
  · rintro ⟨j, hj, hn⟩
    have hj : j < 2 := hj
    rcases (show j = 0 ∨ j = 1 by omega) with rfl | rfl
    · exact absurd hn (by decide)
    · exact absurd hn (by decide)
  · rintro ⟨j, hj, hn⟩
    have hj : j < 2 := hj
    rcases (show j = 0 ∨ j = 1 by omega) with rfl | rfl
    · exact absurd hn (by decide)
    · exact absurd hn (by decide)
theorem fc2 : fcE [4] = 2 := fcE_odd (by decide)
theorem bd1 : BdI [4, 2, 0, 1] := fun k hk => by
  have hk : k < 4 := hk
  rcases (show k = 0 ∨ k = 1 ∨ k = 2 ∨ k = 3 by omega) with rfl | rfl | rfl | rfl <;> decide
theorem bd2 : BdI [4] := fun k hk => by
  have hk : k < 1 := hk
  obtain rfl : k = 0 := by omega
  decide
theorem expand_bad (w : World) (A : Option Addr) (c : Nat) (h : Li w A 1 [4]) (hc : 1 ≤ c) (hc2 : c ≤ 9223372036854775807) : Calls Try.prog 29 #[.slice A 1 c] w fun e w' => e = .returned (.tuple #[.slice none 0 0, .int .i64 2]) ∧ Below w.heap.size w w' :=
  (expand_any A 1 c [4] rfl (by omega) hc hc2 bd2 w h.rd).mono fun e w' ⟨h1, h2⟩ => by
    rw [fc2, if_neg (by decide)] at h1
    exact ⟨h1, h2⟩
set_option maxRecDepth 100000 in
set_option maxHeartbeats 4000000 in
theorem awake_any (w0 : World) : Calls Try.prog 23 #[] w0 fun e w' => e = .returned (.bool true) ∧ Below w0.heap.size w0 w' := by
  have HT1 := Lib.hid th1
  have HT2 := Lib.hid th2
  have HT3 := Lib.hid th3
  go_enter Try.func23, Try.ntmps23
  go_wp2_with fail
  refine (thread_any _ _ _).mono ?_
  rw [HT1.out]
  rintro e w' ⟨rfl, rfl⟩
  go_wp2_with fail
  refine (thread_any _ _ _).mono ?_
  rw [HT2.out]
  rintro e w' ⟨rfl, rfl⟩
  go_wp2_with fail
  refine (thread_any _ _ _).mono ?_
  rw [HT3.out]
  rintro e w' ⟨rfl, rfl⟩
  have B0 := Lib.hid (Below.refl w0.heap.size w0)
  have BA1 := bel_alloc (Below.refl w0.heap.size w0) (.cells #[.int .i64 0, .int .i64 3, .int .i64 (-1), .int .i64 4] 3)
  have L1 := Lib.hid (show Li (w0.alloc (.cells #[.int .i64 0, .int .i64 3, .int .i64 (-1), .int .i64 4] 3)) (some ⟨w0.heap.size, 0, none⟩) 4 [0, 3, -1, 4] from lit_li w0 [0, 3, -1, 4] 3 (by decide))
  have BB1 := Lib.hid (bel_trans B0.out BA1)
  clear B0 BA1
  go_wp2_with fail
  refine (chosen_ok (t := 2) L1.out (by decide) (by decide) (by decide)).mono ?_
  rw [ch1]
  rintro e w2 ⟨A2, c2, rfl, _, _, li2, b2, _⟩
  have LI2 := Lib.hid li2
  clear li2
  have BC2 := Lib.hid (bel_trans BB1.out b2)
  clear BB1 b2
  clear L1
  have BA3 := bel_alloc (Below.refl w2.heap.size w2) (.cells #[.int .i64 0, .int .i64 3, .int .i64 (-1), .int .i64 4] 3)
  have L3 := Lib.hid (show Li (w2.alloc (.cells #[.int .i64 0, .int .i64 3, .int .i64 (-1), .int .i64 4] 3)) (some ⟨w2.heap.size, 0, none⟩) 4 [0, 3, -1, 4] from lit_li w2 [0, 3, -1, 4] 3 (by decide))
  have LI2p := Lib.hid (LI2.out.below BA3)
  clear LI2
  have BB3 := Lib.hid (bel_trans BC2.out BA3)
  clear BC2 BA3
  go_wp2_with fail
  refine (counts_ok (t := 3) L3.out (by decide) (by decide) (by decide)).mono ?_
  rw [cn1]
  rintro e w4 ⟨A4, c4, rfl, _, _, li4, b4, _⟩
  have LI2pq := Lib.hid (LI2p.out.below b4)
  clear LI2p
  have LI4 := Lib.hid li4
  clear li4
  have BC4 := Lib.hid (bel_trans BB3.out b4)
  clear BB3 b4
  clear L3
  have BA5 := bel_alloc (Below.refl w4.heap.size w4) (.cells #[.int .i64 0, .int .i64 1, .int .i64 1, .int .i64 0] 3)
  have L5 := Lib.hid (show Li (w4.alloc (.cells #[.int .i64 0, .int .i64 1, .int .i64 1, .int .i64 0] 3)) (some ⟨w4.heap.size, 0, none⟩) 4 [0, 1, 1, 0] from lit_li w4 [0, 1, 1, 0] 3 (by decide))
  have LI2pqp := Lib.hid (LI2pq.out.below BA5)
  clear LI2pq
  have LI4p := Lib.hid (LI4.out.below BA5)
  clear LI4
  have BB5 := Lib.hid (bel_trans BC4.out BA5)
  clear BC4 BA5
  go_wp2_with fail
  refine (equ_same LI2pqp.out L5.out rfl).mono ?_
  rintro e w6 ⟨rfl, b6⟩
  have LI2pqpq := Lib.hid (LI2pqp.out.below b6)
  clear LI2pqp
  have LI4pq := Lib.hid (LI4p.out.below b6)
  clear LI4p
  have BC6 := Lib.hid (bel_trans BB5.out b6)
  clear BB5 b6
  clear L5
  have BA7 := bel_alloc (Below.refl w6.heap.size w6) (.cells #[.int .i64 2, .int .i64 1, .int .i64 1] 3)
  have L7 := Lib.hid (show Li (w6.alloc (.cells #[.int .i64 2, .int .i64 1, .int .i64 1] 3)) (some ⟨w6.heap.size, 0, none⟩) 3 [2, 1, 1] from lit_li w6 [2, 1, 1] 3 (by decide))
  have LI2pqpqp := Lib.hid (LI2pqpq.out.below BA7)
  clear LI2pqpq
  have LI4pqp := Lib.hid (LI4pq.out.below BA7)
  clear LI4pq
  have BB7 := Lib.hid (bel_trans BC6.out BA7)
  clear BC6 BA7
  go_wp2_with fail
  refine (equ_same LI4pqp.out L7.out rfl).mono ?_
  rintro e w8 ⟨rfl, b8⟩
  have LI2pqpqpq := Lib.hid (LI2pqpqp.out.below b8)
  clear LI2pqpqp
  have LI4pqpq := Lib.hid (LI4pqp.out.below b8)
  clear LI4pqp
  have BC8 := Lib.hid (bel_trans BB7.out b8)
  clear BB7 b8
  clear L7
  have BA9 := bel_alloc (Below.refl w8.heap.size w8) (.cells #[.int .i64 1, .int .i64 1, .int .i64 0, .int .i64 1] 3)
  have L9 := Lib.hid (show Li (w8.alloc (.cells #[.int .i64 1, .int .i64 1, .int .i64 0, .int .i64 1] 3)) (some ⟨w8.heap.size, 0, none⟩) 4 [1, 1, 0, 1] from lit_li w8 [1, 1, 0, 1] 3 (by decide))
  have BB9 := Lib.hid (bel_trans BC8.out BA9)
  clear BC8 BA9
  go_wp2_with fail
  refine (gap_ok (t := 2) (k := 0) L9.out (by decide) (by decide) (by decide) (by decide) (by decide)).mono ?_
  rw [gp1]
  rintro e w10 ⟨rfl, b10⟩
  have BC10 := Lib.hid (bel_trans BB9.out b10)
  clear BB9 b10
  clear L9
  have BA11 := bel_alloc (Below.refl w10.heap.size w10) (.cells #[.int .i64 0, .int .i64 3, .int .i64 (-1), .int .i64 4] 3)
  have L11 := Lib.hid (show Li (w10.alloc (.cells #[.int .i64 0, .int .i64 3, .int .i64 (-1), .int .i64 4] 3)) (some ⟨w10.heap.size, 0, none⟩) 4 [0, 3, -1, 4] from lit_li w10 [0, 3, -1, 4] 3 (by decide))
  have BB11 := Lib.hid (bel_trans BC10.out BA11)
  clear BC10 BA11
  go_wp2_with fail
  refine (without_ok (t := 2) (k := 1) L11.out (by decide) (by decide) (by decide) (by decide) (by decide)).mono ?_
  rw [wo1]
  rintro e w12 ⟨A12, c12, rfl, _, _, li12, b12, _⟩
  have LI12 := Lib.hid li12
  clear li12
  have BC12 := Lib.hid (bel_trans BB11.out b12)
  clear BB11 b12
  clear L11
  go_wp2_with fail
  refine (round_ok (t := 3) (n := 5) (by decide) (by decide) (by decide) (by decide)).mono ?_
  rw [rd1]
  rintro e w13 ⟨A13, c13, rfl, _, _, li13, b13, _⟩
  have LI12q := Lib.hid (LI12.out.below b13)
  clear LI12
  have LI13 := Lib.hid li13
  clear li13
  have BC13 := Lib.hid (bel_trans BC12.out b13)
  clear BC12 b13
  have BA14 := bel_alloc (Below.refl w13.heap.size w13) (.cells #[.int .i64 4, .int .i64 2, .int .i64 0, .int .i64 1] 3)
  have L14 := Lib.hid (show Li (w13.alloc (.cells #[.int .i64 4, .int .i64 2, .int .i64 0, .int .i64 1] 3)) (some ⟨w13.heap.size, 0, none⟩) 4 [4, 2, 0, 1] from lit_li w13 [4, 2, 0, 1] 3 (by decide))
  have LI12qp := Lib.hid (LI12q.out.below BA14)
  clear LI12q
  have LI13p := Lib.hid (LI13.out.below BA14)
  clear LI13
  have BB14 := Lib.hid (bel_trans BC13.out BA14)
  clear BC13 BA14
  go_wp2_with fail
  refine (expand_ok L14.out (by decide) (by decide) (by decide) bd1 fc1 (by decide +kernel)).mono ?_
  rw [ex1]
  rintro e w15 ⟨A15, c15, rfl, _, _, li15, b15, _⟩
  have LI12qpq := Lib.hid (LI12qp.out.below b15)
  clear LI12qp
  have LI13pq := Lib.hid (LI13p.out.below b15)
  clear LI13p
  have LI15 := Lib.hid li15
  clear li15
  have BC15 := Lib.hid (bel_trans BB14.out b15)
  clear BB14 b15
  clear L14
  have BA16 := bel_alloc (Below.refl w15.heap.size w15) (.cells #[.int .i64 4] 3)
  have L16 := Lib.hid (show Li (w15.alloc (.cells #[.int .i64 4] 3)) (some ⟨w15.heap.size, 0, none⟩) 1 [4] from lit_li w15 [4] 3 (by decide))
  have LI12qpqp := Lib.hid (LI12qpq.out.below BA16)
  clear LI12qpq
  have LI13pqp := Lib.hid (LI13pq.out.below BA16)
  clear LI13pq
  have LI15p := Lib.hid (LI15.out.below BA16)
  clear LI15
  have BB16 := Lib.hid (bel_trans BC15.out BA16)
  clear BC15 BA16
  go_wp2_with fail
  refine (expand_bad _ _ _ L16.out (by decide) (by decide)).mono ?_
  rintro e w17 ⟨rfl, b17⟩
  have LI12qpqpq := Lib.hid (LI12qpqp.out.below b17)
  clear LI12qpqp
  have LI13pqpq := Lib.hid (LI13pqp.out.below b17)
  clear LI13pqp
  have LI15pq := Lib.hid (LI15p.out.below b17)
  clear LI15p
  have BC17 := Lib.hid (bel_trans BB16.out b17)
  clear BB16 b17
  clear L16
  have BA18 := bel_alloc (Below.refl w17.heap.size w17) (.cells #[.int .i64 0, .int .i64 4] 3)
  have L18 := Lib.hid (show Li (w17.alloc (.cells #[.int .i64 0, .int .i64 4] 3)) (some ⟨w17.heap.size, 0, none⟩) 2 [0, 4] from lit_li w17 [0, 4] 3 (by decide))
  have LI12qpqpqp := Lib.hid (LI12qpqpq.out.below BA18)
  clear LI12qpqpq
  have LI13pqpqp := Lib.hid (LI13pqpq.out.below BA18)
  clear LI13pqpq
  have LI15pqp := Lib.hid (LI15pq.out.below BA18)
  clear LI15pq
  have BB18 := Lib.hid (bel_trans BC17.out BA18)
  clear BC17 BA18
  go_wp2_with fail
  refine (equ_same LI12qpqpqp.out L18.out rfl).mono ?_
  rintro e w19 ⟨rfl, b19⟩
  have LI12qpqpqpq := Lib.hid (LI12qpqpqp.out.below b19)
  clear LI12qpqpqp
  have LI13pqpqpq := Lib.hid (LI13pqpqp.out.below b19)
  clear LI13pqpqp
  have LI15pqpq := Lib.hid (LI15pqp.out.below b19)
  clear LI15pqp
  have BC19 := Lib.hid (bel_trans BB18.out b19)
  clear BB18 b19
  clear L18
  have BA20 := bel_alloc (Below.refl w19.heap.size w19) (.cells #[.int .i64 0, .int .i64 1, .int .i64 2, .int .i64 0, .int .i64 1] 3)
  have L20 := Lib.hid (show Li (w19.alloc (.cells #[.int .i64 0, .int .i64 1, .int .i64 2, .int .i64 0, .int .i64 1] 3)) (some ⟨w19.heap.size, 0, none⟩) 5 [0, 1, 2, 0, 1] from lit_li w19 [0, 1, 2, 0, 1] 3 (by decide))
  have LI12qpqpqpqp := Lib.hid (LI12qpqpqpq.out.below BA20)
  clear LI12qpqpqpq
  have LI13pqpqpqp := Lib.hid (LI13pqpqpq.out.below BA20)
  clear LI13pqpqpq
  have LI15pqpqp := Lib.hid (LI15pqpq.out.below BA20)
  clear LI15pqpq
  have BB20 := Lib.hid (bel_trans BC19.out BA20)
  clear BC19 BA20
  go_wp2_with fail
  refine (equ_same LI13pqpqpqp.out L20.out rfl).mono ?_
  rintro e w21 ⟨rfl, b21⟩
  have LI12qpqpqpqpq := Lib.hid (LI12qpqpqpqp.out.below b21)
  clear LI12qpqpqpqp
  have LI13pqpqpqpq := Lib.hid (LI13pqpqpqp.out.below b21)
  clear LI13pqpqpqp
  have LI15pqpqpq := Lib.hid (LI15pqpqp.out.below b21)
  clear LI15pqpqp
  have BC21 := Lib.hid (bel_trans BB20.out b21)
  clear BB20 b21
  clear L20
  have BA22 := bel_alloc (Below.refl w21.heap.size w21) (.cells #[.int .i64 4, .int .i64 4, .int .i64 0] 3)
  have L22 := Lib.hid (show Li (w21.alloc (.cells #[.int .i64 4, .int .i64 4, .int .i64 0] 3)) (some ⟨w21.heap.size, 0, none⟩) 3 [4, 4, 0] from lit_li w21 [4, 4, 0] 3 (by decide))
  have LI12qpqpqpqpqp := Lib.hid (LI12qpqpqpqpq.out.below BA22)
  clear LI12qpqpqpqpq
  have LI13pqpqpqpqp := Lib.hid (LI13pqpqpqpq.out.below BA22)
  clear LI13pqpqpqpq
  have LI15pqpqpqp := Lib.hid (LI15pqpqpq.out.below BA22)
  clear LI15pqpqpq
  have BB22 := Lib.hid (bel_trans BC21.out BA22)
  clear BC21 BA22
  go_wp2_with fail
  refine (equ_same LI15pqpqpqp.out L22.out rfl).mono ?_
  rintro e w23 ⟨rfl, b23⟩
  have LI12qpqpqpqpqpq := Lib.hid (LI12qpqpqpqpqp.out.below b23)
  clear LI12qpqpqpqpqp
  have LI13pqpqpqpqpq := Lib.hid (LI13pqpqpqpqp.out.below b23)
  clear LI13pqpqpqpqp
  have LI15pqpqpqpq := Lib.hid (LI15pqpqpqp.out.below b23)
  clear LI15pqpqpqp
  have BC23 := Lib.hid (bel_trans BB22.out b23)
  clear BB22 b23
  clear L22
  go_wp2
  go_ret
  exact ⟨rfl, BC23.out⟩
end Pk
end Go.Proofs.Ytnoggggbghkgkaa
