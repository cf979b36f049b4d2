/- awake of leapfroglaw11: contract of the translated code. No conditions. Written by tools/mk11aw.py. -/
import Derived.Test.YtbnchajkfceaoaaEvQ
import Derived.Deep.RegionHeld3
namespace Go.Proofs.Ytbnchajkfceaoaa
open Go.RowKit Go.Sort
set_option linter.unusedVariables false
set_option linter.unusedSimpArgs false
namespace Ev
attribute [local go_sem] guardS
def xS : I := ⟨0, 3, 1, 4⟩
def xO : I := ⟨0, 3, 1, -1⟩
def xW1 : I := ⟨1, 8, 2, 5⟩
def xW2 : I := ⟨1, 1, 7, 7⟩
def xWr : List E := [⟨1, 0, 1, 3⟩, ⟨2, 1, 3, 8⟩, ⟨4, 0, 2, 2⟩, ⟨5, 1, 4, 8⟩, ⟨7, 1, 3, 1⟩, ⟨7, 1, 4, 1⟩]
theorem xc0 : chkV xE = .tuple #[.int .i64 0, .int .i64 0] := by kernel_rfl
theorem xc1 : chkV xWr = .tuple #[.int .i64 2, .int .i64 15] := by kernel_rfl
theorem xc2 : chkV (xE.drop 1) = .tuple #[.int .i64 1, .int .i64 15] := by kernel_rfl
theorem xe0 : erC xE = 0 := by decide +kernel
theorem xs1 : secL 1 xE = [xS] := by decide +kernel
theorem xs3 : secL 3 xE = [xW1, xW2] := by decide +kernel
theorem xo1 : erS 1 xE = 0 := by decide +kernel
theorem xo4 : erS 4 xE = 0 := by decide +kernel
theorem xp3 : erS 3 xE = 0 := by decide +kernel
theorem xp2 : erS (-2) xE = 3 := by decide +kernel
theorem xol1 : opL 1 xE = [xO] := by decide +kernel
theorem xol4 : opL 4 xE = [] := by decide +kernel
theorem xup3 : upL 3 xE = [⟨1, 0, 1, 3⟩, ⟨2, 1, 3, 8⟩] := by decide +kernel
theorem xup2 : upL (-2) xE = [] := by decide +kernel
theorem xi0 : insV 0 3 xE = .tuple #[.agg #[.int .i64 0, .int .u64 3, .int .i64 1, .int .i64 (-1)], .bool true, .int .i64 0] := by kernel_rfl
theorem xi1 : insV 1 3 xE = .tuple #[.agg #[.int .i64 0, .int .u64 0, .int .i64 0, .int .i64 0], .bool false, .int .i64 0] := by kernel_rfl
theorem Kd.lit_rd {α : Type} (K : Kd α) (w : World) (l : List α) (cs : Array Value) (hcs : cs.toList = K.flat l) (hm : l.length ≤ 1000) : K.Rd (w.alloc (.cells cs K.E)) (some ⟨w.heap.size, 0, none⟩) l :=
  K.row_get (base := w.heap.size) (n := l.length) (cap := l.length) (by
    have h := World.ownsRow_lit w (e := K.E) (size := K.sz) (base := w.heap.size) cs l.length (Nat.le_refl _) (by unfold maxLen; omega) (by rw [← Array.length_toList, hcs, K.flat_len])
    rw [hcs] at h
    exact h)
theorem ex_call (w : World) : Calls Try.prog 28 #[] w (fun e w' => e = .returned (.slice (some ⟨w.heap.size, 0, none⟩) 6 6) ∧ KE.Rd w' (some ⟨w.heap.size, 0, none⟩) xE ∧ w'.ownsRow w.heap.size KE.E KE.sz (.slice (some ⟨w.heap.size, 0, none⟩) 6 6) 6 (KE.flat xE) ∧ Below w.heap.size w w') :=
  (example_any w).mono fun e w' ⟨h1, h2, h3⟩ => ⟨h1, KE.row_get (n := 6) h2, h2, h3⟩
theorem sl_call {K : Kd I} {f : FuncId} {args : Array Value} {w : World} {er : Int} {xs ys : List I} (h : Calls Try.prog f args w (RwPost K er xs w)) (e1 : er = 0) (e2 : xs = ys) :
    Calls Try.prog f args w fun e w' => ∃ A c, e = .returned (.tuple #[.slice A ys.length c, .int .i64 0]) ∧ K.Rd w' A ys ∧ Below w.heap.size w w' :=
  h.mono fun e w' ⟨v, h1, h2, h3⟩ => by
    subst e1 e2
    obtain ⟨A, c, rfl, hr, _⟩ := row_rd K h2
    exact ⟨A, c, h1, hr, h3⟩
theorem el_call {f : FuncId} {args : Array Value} {w : World} {er r : Int} {xs ys : List E} (h : Calls Try.prog f args w (RwPost KE er xs w)) (e1 : er = r) (e2 : xs = ys) :
    Calls Try.prog f args w fun e w' => ∃ A c, e = .returned (.tuple #[.slice A ys.length c, .int .i64 r]) ∧ KE.Rd w' A ys ∧ Below w.heap.size w w' :=
  h.mono fun e w' ⟨v, h1, h2, h3⟩ => by
    subst e1 e2
    obtain ⟨A, c, rfl, hr, _⟩ := row_rd KE h2
    exact ⟨A, c, h1, hr, h3⟩
theorem rd_drop {w : World} {b o k : Nat} {l : List E} (h : KE.Rd w (some ⟨b, o, none⟩) l) : KE.Rd w (some ⟨b, o + k * 4, none⟩) (l.drop k) := fun i x hi => by
  rw [List.getElem?_drop] at hi
  obtain ⟨b', o', e, c⟩ := h (k + i) x hi
  cases e
  refine ⟨b, o + k * 4, rfl, ?_⟩
  rw [show o + k * 4 + i * KE.sz = o + (k + i) * KE.sz by show o + k * 4 + i * 4 = o + (k + i) * 4; omega]
  exact c
set_option maxRecDepth 100000 in
set_option maxHeartbeats 4000000 in
theorem awake_any (w0 : World) : Calls Try.prog 19 #[] w0 fun e w' => e = .returned (.bool true) ∧ Below w0.heap.size w0 w' := by
  have X0 := Lib.hid xc0
  have X1 := Lib.hid xc1
  have X2 := Lib.hid xc2
  have I0 := Lib.hid xi0
  have I1 := Lib.hid xi1
  have B := Lib.hid (Below.refl w0.heap.size w0)
  go_enter Try.func19, Try.ntmps19
  go_wp2_with fail
  refine (ex_call _).mono ?_
  rintro e w1 ⟨rfl, R1, O1, b1⟩
  try simp only [World.size_alloc] at R1 O1
  replace B := Lib.hid (bel_trans B.out b1)
  clear b1
  have RX := Lib.hid R1
  clear R1
  clear O1
  go_wp2_with fail
  refine (check_any _ 6 6 xE _ rfl (by unfold maxLen; omega) RX.out).mono ?_
  rintro e w2 ⟨h2, b2⟩
  replace B := Lib.hid (bel_trans B.out b2)
  clear b2
  rw [X0.out] at h2
  subst h2
  clear RX
  go_wp2_with fail
  refine (ex_call _).mono ?_
  rintro e w3 ⟨rfl, R3, O3, b3⟩
  try simp only [World.size_alloc] at R3 O3
  replace B := Lib.hid (bel_trans B.out b3)
  clear b3
  have RX := Lib.hid R3
  clear R3
  clear O3
  go_wp2_with fail
  refine (sl_call (Sections_any _ 6 6 xE _ rfl (by omega) RX.out) xe0 xs1).mono ?_
  rintro e w4 ⟨A4, c4, rfl, rd4, b4⟩
  have RA := Lib.hid rd4
  clear rd4
  replace B := Lib.hid (bel_trans B.out b4)
  clear b4
  clear RX
  go_wp2_with fail
  refine (ex_call _).mono ?_
  rintro e w5 ⟨rfl, R5, O5, b5⟩
  try simp only [World.size_alloc] at R5 O5
  have RA_6 := Lib.hid (RA.out.below b5)
  clear RA
  replace B := Lib.hid (bel_trans B.out b5)
  clear b5
  have RX := Lib.hid R5
  clear R5
  clear O5
  go_wp2_with fail
  refine (sl_call (Waits_any _ 6 6 xE _ rfl (by omega) RX.out) xe0 xs3).mono ?_
  rintro e w7 ⟨A7, c7, rfl, rd7, b7⟩
  have RB := Lib.hid rd7
  clear rd7
  have RA_8 := Lib.hid (RA_6.out.below b7)
  clear RA_6
  replace B := Lib.hid (bel_trans B.out b7)
  clear b7
  clear RX
  have LT := Lib.hid (KS.lit_rd w7 [xS] #[.int .i64 0, .int .u64 3, .int .i64 1, .int .i64 4] rfl (by simp))
  have b9 := bel_alloc (Below.refl w7.heap.size w7) (.cells #[.int .i64 0, .int .u64 3, .int .i64 1, .int .i64 4] KS.E)
  have RA_10 := Lib.hid (RA_8.out.below b9)
  clear RA_8
  have RB_11 := Lib.hid (RB.out.below b9)
  clear RB
  replace B := Lib.hid (bel_trans B.out b9)
  clear b9
  go_wp2_with fail
  refine (equS_same _ _ 1 _ 1 [xS] _ rfl (by omega) RA_10.out LT.out).mono ?_
  rintro e w12 ⟨rfl, b12⟩
  have RA_13 := Lib.hid (RA_10.out.below b12)
  clear RA_10
  have RB_14 := Lib.hid (RB_11.out.below b12)
  clear RB_11
  replace B := Lib.hid (bel_trans B.out b12)
  clear b12
  clear LT
  have LT := Lib.hid (KW.lit_rd w12 [xW1, xW2] #[.int .i64 1, .int .u64 8, .int .i64 2, .int .i64 5, .int .i64 1, .int .u64 1, .int .i64 7, .int .i64 7] rfl (by simp))
  have b15 := bel_alloc (Below.refl w12.heap.size w12) (.cells #[.int .i64 1, .int .u64 8, .int .i64 2, .int .i64 5, .int .i64 1, .int .u64 1, .int .i64 7, .int .i64 7] KW.E)
  have RB_16 := Lib.hid (RB_14.out.below b15)
  clear RB_14
  replace B := Lib.hid (bel_trans B.out b15)
  clear b15
  go_wp2_with fail
  refine (equW_same _ _ 2 _ 2 [xW1, xW2] _ rfl (by omega) RB_16.out LT.out).mono ?_
  rintro e w17 ⟨rfl, b17⟩
  have RB_18 := Lib.hid (RB_16.out.below b17)
  clear RB_16
  replace B := Lib.hid (bel_trans B.out b17)
  clear b17
  clear LT
  go_wp2_with fail
  refine (ex_call _).mono ?_
  rintro e w19 ⟨rfl, R19, O19, b19⟩
  try simp only [World.size_alloc] at R19 O19
  replace B := Lib.hid (bel_trans B.out b19)
  clear b19
  have RX := Lib.hid R19
  clear R19
  clear O19
  go_wp2_with fail
  refine (sl_call (open_any 1 _ 6 6 xE _ rfl (by omega) RX.out) xo1 xol1).mono ?_
  rintro e w20 ⟨A20, c20, rfl, rd20, b20⟩
  have RC := Lib.hid rd20
  clear rd20
  replace B := Lib.hid (bel_trans B.out b20)
  clear b20
  clear RX
  go_wp2_with fail
  refine (ex_call _).mono ?_
  rintro e w21 ⟨rfl, R21, O21, b21⟩
  try simp only [World.size_alloc] at R21 O21
  have RC_22 := Lib.hid (RC.out.below b21)
  clear RC
  replace B := Lib.hid (bel_trans B.out b21)
  clear b21
  have RX := Lib.hid R21
  clear R21
  clear O21
  go_wp2_with fail
  refine (sl_call (open_any 4 _ 6 6 xE _ rfl (by omega) RX.out) xo4 xol4).mono ?_
  rintro e w23 ⟨A23, c23, rfl, rd23, b23⟩
  have RC_24 := Lib.hid (RC_22.out.below b23)
  clear RC_22
  replace B := Lib.hid (bel_trans B.out b23)
  clear b23
  clear RX rd23
  go_wp2_with fail
  refine (ex_call _).mono ?_
  rintro e w25 ⟨rfl, R25, O25, b25⟩
  try simp only [World.size_alloc] at R25 O25
  have RC_26 := Lib.hid (RC_24.out.below b25)
  clear RC_24
  replace B := Lib.hid (bel_trans B.out b25)
  clear b25
  have RX := Lib.hid R25
  clear R25
  clear O25
  go_wp2_with fail
  refine (inside_any 0 3 _ 6 6 xE _ rfl (by omega) RX.out).mono ?_
  rintro e w27 ⟨h27, b27⟩
  have RC_28 := Lib.hid (RC_26.out.below b27)
  clear RC_26
  replace B := Lib.hid (bel_trans B.out b27)
  clear b27
  rw [I0.out] at h27
  subst h27
  clear RX
  have BX := Lib.hid (Bs.new w27 xO)
  have b29 := bel_alloc (Below.refl w27.heap.size w27) (.cells #[.int .i64 0, .int .u64 3, .int .i64 1, .int .i64 (-1)] 41)
  have RC_30 := Lib.hid (RC_28.out.below b29)
  clear RC_28
  replace B := Lib.hid (bel_trans B.out b29)
  clear b29
  go_wp2_with fail
  refine (ex_call _).mono ?_
  rintro e w31 ⟨rfl, R31, O31, b31⟩
  try simp only [World.size_alloc] at R31 O31
  have RC_32 := Lib.hid (RC_30.out.below b31)
  clear RC_30
  have BX_33 := Lib.hid (BX.out.below b31 BX.out.lt)
  clear BX
  replace B := Lib.hid (bel_trans B.out b31)
  clear b31
  have RX := Lib.hid R31
  clear R31
  clear O31
  go_wp2_with fail
  refine (inside_any 1 3 _ 6 6 xE _ rfl (by omega) RX.out).mono ?_
  rintro e w34 ⟨h34, b34⟩
  have RC_35 := Lib.hid (RC_32.out.below b34)
  clear RC_32
  have BX_36 := Lib.hid (BX_33.out.below b34 BX_33.out.lt)
  clear BX_33
  replace B := Lib.hid (bel_trans B.out b34)
  clear b34
  rw [I1.out] at h34
  subst h34
  clear RX
  have b37 := bel_alloc (Below.refl w34.heap.size w34) (.cells #[.int .i64 0, .int .u64 0, .int .i64 0, .int .i64 0] 41)
  have RC_38 := Lib.hid (RC_35.out.below b37)
  clear RC_35
  have BX_39 := Lib.hid (BX_36.out.below b37 BX_36.out.lt)
  clear BX_36
  replace B := Lib.hid (bel_trans B.out b37)
  clear b37
  go_wp2_with fail
  refine (ex_call _).mono ?_
  rintro e w40 ⟨rfl, R40, O40, b40⟩
  try simp only [World.size_alloc] at R40 O40
  have RC_41 := Lib.hid (RC_38.out.below b40)
  clear RC_38
  have BX_42 := Lib.hid (BX_39.out.below b40 BX_39.out.lt)
  clear BX_39
  replace B := Lib.hid (bel_trans B.out b40)
  clear b40
  have RX := Lib.hid R40
  clear R40
  clear O40
  go_wp2_with fail
  refine (el_call (prefix_any 3 _ 6 6 xE _ rfl (by omega) RX.out) xp3 xup3).mono ?_
  rintro e w43 ⟨A43, c43, rfl, rd43, b43⟩
  have RC_44 := Lib.hid (RC_41.out.below b43)
  clear RC_41
  have BX_45 := Lib.hid (BX_42.out.below b43 BX_42.out.lt)
  clear BX_42
  replace B := Lib.hid (bel_trans B.out b43)
  clear b43
  clear RX rd43
  go_wp2_with fail
  refine (ex_call _).mono ?_
  rintro e w46 ⟨rfl, R46, O46, b46⟩
  try simp only [World.size_alloc] at R46 O46
  have RC_47 := Lib.hid (RC_44.out.below b46)
  clear RC_44
  have BX_48 := Lib.hid (BX_45.out.below b46 BX_45.out.lt)
  clear BX_45
  replace B := Lib.hid (bel_trans B.out b46)
  clear b46
  have RX := Lib.hid R46
  clear R46
  clear O46
  go_wp2_with fail
  refine (el_call (prefix_any (-2) _ 6 6 xE _ rfl (by omega) RX.out) xp2 xup2).mono ?_
  rintro e w49 ⟨A49, c49, rfl, rd49, b49⟩
  have RC_50 := Lib.hid (RC_47.out.below b49)
  clear RC_47
  have BX_51 := Lib.hid (BX_48.out.below b49 BX_48.out.lt)
  clear BX_48
  replace B := Lib.hid (bel_trans B.out b49)
  clear b49
  clear RX rd49
  have BC := RC_50
  have BY := BX_51
  clear RC_50 BX_51
  obtain ⟨gb, gg, eA, cc⟩ := BC.out 0 xO rfl
  subst eA
  obtain ⟨c0, c1, c2, c3⟩ := KS.cells cc
  simp only [Nat.zero_mul, Nat.add_zero, xO] at c0 c1 c2 c3
  obtain ⟨x0, x1, x2, x3⟩ := BY.out.c
  simp only [xO] at x0 x1 x2 x3
  have lc := cell_lt c0
  have lx := cell_lt x0
  clear cc
  have ER := fun W => eqS xO xO W
  rw [decide_eq_true rfl] at ER
  simp only [xO] at ER
  have RA1 := Lib.hid (BC.out.below (bel_alloc (Below.refl w49.heap.size w49) (.cells #[.int .i64 0, .int .u64 3, .int .i64 1, .int .i64 (-1)] 41)))
  have RB1 := Lib.hid (KS.lit_rd w49 [xO] #[.int .i64 0, .int .u64 3, .int .i64 1, .int .i64 (-1)] rfl (by simp))
  have BA := Lib.hid (bel_alloc (Below.refl w49.heap.size w49) (.cells #[.int .i64 0, .int .u64 3, .int .i64 1, .int .i64 (-1)] 41))
  clear BC BY
  go_upto_region 12 with fail
  go_region_held3 (fun w' => w'.cell? ⟨gb, gg, none⟩ = some (.int .i64 0) ∧ w'.cell? ⟨gb, gg + 1, none⟩ = some (.int .u64 3) ∧ w'.cell? ⟨gb, gg + 2, none⟩ = some (.int .i64 1) ∧ w'.cell? ⟨gb, gg + 3, none⟩ = some (.int .i64 (-1)) ∧ w'.cell? ⟨w27.heap.size, 0, none⟩ = some (.int .i64 0) ∧ w'.cell? ⟨w27.heap.size, 1, none⟩ = some (.int .u64 3) ∧ w'.cell? ⟨w27.heap.size, 2, none⟩ = some (.int .i64 1) ∧ w'.cell? ⟨w27.heap.size, 3, none⟩ = some (.int .i64 (-1))) (first | exact ⟨c0, c1, c2, c3, x0, x1, x2, x3⟩ | exact ⟨m0, m1, m2, m3, n0, n1, n2, n3⟩ | go_keep) (first | (go_at_call 16; refine (equS_same _ _ 1 _ 1 [xO] ((w49.alloc (.cells #[.int .i64 0, .int .u64 3, .int .i64 1, .int .i64 (-1)] 41)).drew) rfl (by omega) RA1.out RB1.out).mono ?_; rintro r wz ⟨rfl, bz⟩; have bb : Below w49.heap.size w49 wz := BA.out.trans (Below.mono ⟨bz.os, bz.tape, bz.output, bz.size, bz.block⟩ BA.out.size); have m0 := (bb.cell (p := ⟨gb, gg, none⟩) lc).trans c0; have m1 := (bb.cell (p := ⟨gb, gg + 1, none⟩) lc).trans c1; have m2 := (bb.cell (p := ⟨gb, gg + 2, none⟩) lc).trans c2; have m3 := (bb.cell (p := ⟨gb, gg + 3, none⟩) lc).trans c3; have n0 := (bb.cell (p := ⟨w27.heap.size, 0, none⟩) lx).trans x0; have n1 := (bb.cell (p := ⟨w27.heap.size, 1, none⟩) lx).trans x1; have n2 := (bb.cell (p := ⟨w27.heap.size, 2, none⟩) lx).trans x2; have n3 := (bb.cell (p := ⟨w27.heap.size, 3, none⟩) lx).trans x3; (skip)))
  clear RA1 RB1 BA ER bz c0 c1 c2 c3 x0 x1 x2 x3 m0 m1 m2 m3 n0 n1 n2 n3
  have BZ := Lib.hid (bel_trans B.out bb)
  replace B := Lib.hid (bel_trans B.out bb)
  clear bb
  go_wp2_with fail
  refine (ex_call _).mono ?_
  rintro e w52 ⟨rfl, R52, O52, b52⟩
  try simp only [World.size_alloc] at R52 O52
  replace B := Lib.hid (bel_trans B.out b52)
  clear b52
  have RX := Lib.hid R52
  clear R52
  clear RX
  have y11 : w52.cell? ⟨wz.heap.size, 11, none⟩ = some (.int .u64 3) := O52.cellAt 11 (by decide)
  have f11 := O52.frozenAt 11
  have RW := Lib.hid (KE.row_get (n := 6) (l := xWr) (show (w52.setCell ⟨wz.heap.size, 11, none⟩ (.int .u64 2)).ownsRow wz.heap.size KE.E KE.sz (.slice (some ⟨wz.heap.size, 0, none⟩) 6 6) 6 (KE.flat xWr) from (O52.stored 11 (.int .u64 2)).1))
  have BS := Lib.hid (B.out.setCell (p := ⟨wz.heap.size, 11, none⟩) (by have h := BZ.out.size; exact h) (.int .u64 2))
  clear O52
  go_wp2_with fail
  refine (check_any _ 6 6 xWr _ rfl (by unfold maxLen; omega) RW.out).mono ?_
  rintro e w53 ⟨h53, b53⟩
  rw [X1.out] at h53
  subst h53
  replace B := Lib.hid (BS.out.trans (b53.mono BS.out.size))
  clear BS RW y11 f11 b53
  go_wp2_with fail
  refine (ex_call _).mono ?_
  rintro e w54 ⟨rfl, R54, O54, b54⟩
  try simp only [World.size_alloc] at R54 O54
  replace B := Lib.hid (bel_trans B.out b54)
  clear b54
  have RX := Lib.hid R54
  clear R54
  clear O54
  have RD := Lib.hid (rd_drop (k := 1) RX.out)
  clear RX
  go_wp2_with fail
  refine (check_any _ 5 5 (xE.drop 1) _ rfl (by unfold maxLen; omega) RD.out).mono ?_
  rintro e w55 ⟨h55, b55⟩
  rw [X2.out] at h55
  subst h55
  replace B := Lib.hid (bel_trans B.out b55)
  clear b55
  go_wp2
  go_ret
  exact ⟨rfl, B.out⟩
end Ev
end Go.Proofs.Ytbnchajkfceaoaa
