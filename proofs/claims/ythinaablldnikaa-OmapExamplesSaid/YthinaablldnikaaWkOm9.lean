/- The walk of the law OmapExamples (written by tools/mkXom.py), from the contracts of package omap. Conditions: none. -/
import Derived.Test.YthinaablldnikaaOmB
import Derived.Test.YthinaablldnikaaOmC2
import Derived.Test.YthinaablldnikaaOmU
namespace Go.Proofs.Ythinaablldnikaa
open Go.RowKit Go.Sort
set_option linter.unusedVariables false
set_option linter.unusedSimpArgs false
namespace Om
theorem rd_lit2 (w : World) (a b c d : Int) : Rd (w.alloc (.cells #[.int .u64 a, .int .u64 b, .int .u64 c, .int .u64 d] 45)) (some ⟨w.heap.size, 0, none⟩) [(a, b), (c, d)] := by
  intro k x hk
  match k, hk with
  | 0, hk => simp at hk; subst hk; exact ⟨_, 0, rfl, by simp, by simp⟩
  | 1, hk => simp at hk; subst hk; exact ⟨_, 0, rfl, by simp, by simp⟩
  | k + 2, hk => simp at hk
def xL0 : List Pr := [(1, 10), (3, 30)]
theorem xA0 : Asc xL0 := by simp [Asc, xL0]
theorem xB0 : Bd xL0 := by unfold Bd; decide
theorem xN0 : xL0.length ≤ 1000 := by decide
def xL1 : List Pr := [(1, 10), (2, 20), (3, 30)]
theorem xA1 : Asc xL1 := by simp [Asc, xL1]
theorem xB1 : Bd xL1 := by unfold Bd; decide
theorem xN1 : xL1.length ≤ 1000 := by decide
def xL2 : List Pr := [(1, 10), (2, 21), (3, 30)]
theorem xA2 : Asc xL2 := by simp [Asc, xL2]
theorem xB2 : Bd xL2 := by unfold Bd; decide
theorem xN2 : xL2.length ≤ 1000 := by decide
def xL3 : List Pr := [(1, 10), (2, 9), (3, 30)]
theorem xA3 : Asc xL3 := by simp [Asc, xL3]
theorem xB3 : Bd xL3 := by unfold Bd; decide
theorem xN3 : xL3.length ≤ 1000 := by decide
def xL4 : List Pr := [(2, 10), (3, 9)]
theorem xA4 : Asc xL4 := by simp [Asc, xL4]
theorem xB4 : Bd xL4 := by unfold Bd; decide
theorem xN4 : xL4.length ≤ 1000 := by decide
def xL5 : List Pr := [(3, 9)]
theorem xA5 : Asc xL5 := by simp [Asc, xL5]
theorem xB5 : Bd xL5 := by unfold Bd; decide
theorem xN5 : xL5.length ≤ 1000 := by decide
theorem ex_put1 (bm : Nat) (v : Value) (W : World) (hm : MapAt W bm v xL0) : Calls Try.prog 21 #[.pointer (some ⟨bm, 0, none⟩), .int .u64 2, .int .u64 20] W (Opn W bm v xL1 (.tuple #[.int .u64 0, .bool false, .int .i64 0])) := by
  have C := putC_any bm v xL0 2 20 W hm xA0 xN0
  rw [show getL xL0 2 = none by decide] at C
  rw [show setL xL0 (2, 20) = xL1 by decide] at C
  rw [show pT none = .tuple #[.int .u64 0, .bool false, .int .i64 0] from rfl] at C
  exact C
theorem ex_put2 (bm : Nat) (v : Value) (W : World) (hm : MapAt W bm v xL1) : Calls Try.prog 21 #[.pointer (some ⟨bm, 0, none⟩), .int .u64 2, .int .u64 21] W (Opn W bm v xL2 (.tuple #[.int .u64 20, .bool true, .int .i64 0])) := by
  have C := putC_any bm v xL1 2 21 W hm xA1 xN1
  rw [show getL xL1 2 = some 20 by decide] at C
  rw [show setL xL1 (2, 21) = xL2 by decide] at C
  rw [show pT (some 20) = .tuple #[.int .u64 20, .bool true, .int .i64 0] from rfl] at C
  exact C
theorem ex_put3 (bm : Nat) (v : Value) (W : World) (hm : MapAt W bm v xL2) : Calls Try.prog 22 #[.pointer (some ⟨bm, 0, none⟩), .int .u64 2, .int .u64 22] W (Opn W bm v xL2 (.tuple #[.int .u64 21, .bool true, .int .i64 0])) := by
  have C := putAbsC_any bm v xL2 2 22 W hm xA2 xN2
  rw [show getL xL2 2 = some 21 by decide] at C
  rw [show paL xL2 (some 21) (2, 22) = xL2 from rfl] at C
  rw [show pT (some 21) = .tuple #[.int .u64 21, .bool true, .int .i64 0] from rfl] at C
  exact C
theorem ex_get (bm : Nat) (v : Value) (W : World) (hm : MapAt W bm v xL2) : Calls Try.prog 23 #[.pointer (some ⟨bm, 0, none⟩), .int .u64 2] W fun e w' => e = .returned (.tuple #[.int .u64 21, .bool true]) ∧ Below W.heap.size W w' := by
  have C := getC_any bm v xL2 2 W hm xA2 xN2
  rw [show getL xL2 2 = some 21 by decide] at C
  rw [show gT (some 21) = .tuple #[.int .u64 21, .bool true] from rfl] at C
  exact C
theorem ex_cas1 (bm : Nat) (v : Value) (W : World) (hm : MapAt W bm v xL2) : Calls Try.prog 24 #[.pointer (some ⟨bm, 0, none⟩), .int .u64 2, .int .u64 20, .int .u64 9] W (Opn W bm v xL2 (.tuple #[.int .u64 21, .bool true, .bool false, .int .i64 0])) := by
  have C := casC_any bm v xL2 2 20 9 W hm xA2 xN2
  rw [show getL xL2 2 = (some 21) by decide] at C
  rw [show casL xL2 (some 21) 20 (2, 9) = xL2 by decide] at C
  rw [show cT (some 21) 20 = .tuple #[.int .u64 21, .bool true, .bool false, .int .i64 0] from by simp [cT]] at C
  exact C
theorem ex_cas2 (bm : Nat) (v : Value) (W : World) (hm : MapAt W bm v xL2) : Calls Try.prog 24 #[.pointer (some ⟨bm, 0, none⟩), .int .u64 2, .int .u64 21, .int .u64 9] W (Opn W bm v xL3 (.tuple #[.int .u64 21, .bool true, .bool true, .int .i64 0])) := by
  have C := casC_any bm v xL2 2 21 9 W hm xA2 xN2
  rw [show getL xL2 2 = (some 21) by decide] at C
  rw [show casL xL2 (some 21) 21 (2, 9) = xL3 by decide] at C
  rw [show cT (some 21) 21 = .tuple #[.int .u64 21, .bool true, .bool true, .int .i64 0] from by simp [cT]] at C
  exact C
theorem ex_cas3 (bm : Nat) (v : Value) (W : World) (hm : MapAt W bm v xL3) : Calls Try.prog 24 #[.pointer (some ⟨bm, 0, none⟩), .int .u64 5, .int .u64 0, .int .u64 1] W (Opn W bm v xL3 (.tuple #[.int .u64 0, .bool false, .bool false, .int .i64 0])) := by
  have C := casC_any bm v xL3 5 0 1 W hm xA3 xN3
  rw [show getL xL3 5 = none by decide] at C
  rw [show casL xL3 none 0 (5, 1) = xL3 by decide] at C
  rw [show cT none 0 = .tuple #[.int .u64 0, .bool false, .bool false, .int .i64 0] from by simp [cT]] at C
  exact C
theorem ex_mo1 (bm : Nat) (v : Value) (W : World) (hm : MapAt W bm v xL3) : Calls Try.prog 25 #[.pointer (some ⟨bm, 0, none⟩), .agg #[.int .u64 3, .int .u64 3], .int .u64 18446744073709551615] W (Opn W bm v xL3 (.tuple #[.int .i64 0, .int .i64 12])) := by
  have C := moC_any bm v xL3 3 3 18446744073709551615 W hm xA3 xN3 xB3 (by omega) (by omega) (by omega) (by omega) (by omega) (by omega)
  rw [show moL xL3 3 3 18446744073709551615 = xL3 by decide] at C
  rw [show moT xL3 3 3 18446744073709551615 = .tuple #[.int .i64 0, .int .i64 12] from by rfl] at C
  exact C
theorem ex_mo2 (bm : Nat) (v : Value) (W : World) (hm : MapAt W bm v xL3) : Calls Try.prog 25 #[.pointer (some ⟨bm, 0, none⟩), .agg #[.int .u64 3, .int .u64 3], .int .u64 0] W (Opn W bm v xL3 (.tuple #[.int .i64 0, .int .i64 13])) := by
  have C := moC_any bm v xL3 3 3 0 W hm xA3 xN3 xB3 (by omega) (by omega) (by omega) (by omega) (by omega) (by omega)
  rw [show moL xL3 3 3 0 = xL3 by decide] at C
  rw [show moT xL3 3 3 0 = .tuple #[.int .i64 0, .int .i64 13] from by rfl] at C
  exact C
theorem ex_mo3 (bm : Nat) (v : Value) (W : World) (hm : MapAt W bm v xL3) : Calls Try.prog 25 #[.pointer (some ⟨bm, 0, none⟩), .agg #[.int .u64 4, .int .u64 3], .int .u64 1] W (Opn W bm v xL3 (.tuple #[.int .i64 0, .int .i64 13])) := by
  have C := moC_any bm v xL3 4 3 1 W hm xA3 xN3 xB3 (by omega) (by omega) (by omega) (by omega) (by omega) (by omega)
  rw [show moL xL3 4 3 1 = xL3 by decide] at C
  rw [show moT xL3 4 3 1 = .tuple #[.int .i64 0, .int .i64 13] from by rfl] at C
  exact C
theorem ex_mo4 (bm : Nat) (v : Value) (W : World) (hm : MapAt W bm v xL3) : Calls Try.prog 25 #[.pointer (some ⟨bm, 0, none⟩), .agg #[.int .u64 1, .int .u64 2], .int .u64 1] W (Opn W bm v xL4 (.tuple #[.int .i64 2, .int .i64 0])) := by
  have C := moC_any bm v xL3 1 2 1 W hm xA3 xN3 xB3 (by omega) (by omega) (by omega) (by omega) (by omega) (by omega)
  rw [show moL xL3 1 2 1 = xL4 by decide] at C
  rw [show moT xL3 1 2 1 = .tuple #[.int .i64 2, .int .i64 0] from by rfl] at C
  exact C
theorem ex_nx1 (bm : Nat) (v : Value) (W : World) (hm : MapAt W bm v xL4) : Calls Try.prog 26 #[.pointer (some ⟨bm, 0, none⟩), .agg #[.int .u64 3, .int .u64 8]] W fun e w' => e = .returned (.tuple #[.agg #[.int .u64 3, .int .u64 9], .bool true, .int .i64 0]) ∧ Below W.heap.size W w' := by
  have C := nextC_any bm v xL4 3 8 W hm xA4 xN4
  rw [show rgL xL4 3 8 = [(3, 9)] by decide] at C
  rw [show rgE 3 8 = 0 by decide] at C
  rw [show nxT [(3, 9)] 0 = .tuple #[.agg #[.int .u64 3, .int .u64 9], .bool true, .int .i64 0] from rfl] at C
  exact C
theorem ex_nx2 (bm : Nat) (v : Value) (W : World) (hm : MapAt W bm v xL4) : Calls Try.prog 26 #[.pointer (some ⟨bm, 0, none⟩), .agg #[.int .u64 4, .int .u64 8]] W fun e w' => e = .returned (.tuple #[.agg #[.int .u64 0, .int .u64 0], .bool false, .int .i64 0]) ∧ Below W.heap.size W w' := by
  have C := nextC_any bm v xL4 4 8 W hm xA4 xN4
  rw [show rgL xL4 4 8 = [] by decide] at C
  rw [show rgE 4 8 = 0 by decide] at C
  rw [show nxT [] 0 = .tuple #[.agg #[.int .u64 0, .int .u64 0], .bool false, .int .i64 0] from rfl] at C
  exact C
theorem ex_de (bm : Nat) (v : Value) (W : World) (hm : MapAt W bm v xL4) : Calls Try.prog 27 #[.pointer (some ⟨bm, 0, none⟩), .agg #[.int .u64 0, .int .u64 2]] W (Opn W bm v xL5 (.tuple #[.int .i64 1, .int .i64 0])) := by
  have C := deC_any bm v xL4 0 2 W hm xA4 xN4 xB4 (by omega) (by omega) (by omega) (by omega)
  rw [show deL xL4 0 2 = xL5 by decide] at C
  rw [show deT xL4 0 2 = .tuple #[.int .i64 1, .int .i64 0] from by rfl] at C
  exact C
end Om
namespace Wk
open Om
set_option maxRecDepth 100000 in
set_option maxHeartbeats 6000000 in
theorem walk_omapExamples (w : World) : Calls Try.prog 5 #[] w fun e w' => e = .returned (.bool true) ∧ Below w.heap.size w w' := by
  go_enter Try.func5, Try.ntmps5
  go_wp2_with fail
  refine (newC_any _ 2 2 [(3, 30), (1, 10)] _ rfl (by omega) (rd_lit2 w 3 30 1 10)).mono ?_
  intro r W0 h
  unfold NPost at h
  rw [if_pos (by decide), show nwL [(3, 30), (1, 10)] = xL0 by decide] at h
  obtain ⟨bm, v, rfl, hm, hb, hf, b⟩ := h
  have b0 := bel_alloc (Below.refl w.heap.size w) (.cells #[.int .u64 3, .int .u64 30, .int .u64 1, .int .u64 10] 45)
  have hsz := b0.size
  have HS := Lib.hid (show Stb w.heap.size w W0 bm v xL0 from ⟨hm, Nat.le_trans hsz hb, fun k hk => Nat.le_trans hsz (hf k hk), Nat.le_refl _, bel_trans b0 b⟩)
  clear hm hb hf b b0 hsz
  go_wp2_with fail
  refine (newC_any _ 2 2 [(1, 1), (1, 2)] _ rfl (by omega) (rd_lit2 W0 1 1 1 2)).mono ?_
  intro r W1 h
  unfold NPost at h
  rw [if_neg (by decide)] at h
  obtain ⟨rfl, b⟩ := h
  have HS := Lib.hid (HS.out.below (bel_trans (bel_alloc (Below.refl W0.heap.size W0) (.cells #[.int .u64 1, .int .u64 1, .int .u64 1, .int .u64 2] 45)) b)); clear b
  go_wp2_with fail
  refine (pairsC_any bm _ xL0 _ HS.out.m xN0).mono ?_
  rintro r V1 ⟨q, rfl, hq, b⟩
  have HS := Lib.hid (HS.out.below b); clear b
  obtain ⟨_, A, c, rfl, _, rd, _⟩ := row_form hq
  have bb := bel_alloc (Below.refl V1.heap.size V1) (.cells #[.int .u64 1, .int .u64 10, .int .u64 3, .int .u64 30] 45)
  have RP := Lib.hid (rd.below bb); have HS := Lib.hid (HS.out.below bb); clear hq rd bb
  go_wp2_with fail
  refine (sameR_any A _ _ c 2 2 xL0 [(1, 10), (3, 30)] _ rfl rfl (by decide) (by omega) RP.out (rd_lit2 V1 1 10 3 30)).mono ?_
  rw [show decide (xL0 = [(1, 10), (3, 30)]) = true by decide]
  rintro r W2 ⟨rfl, b⟩
  have HS := Lib.hid (HS.out.below b); clear b RP
  go_wp2_with fail
  refine (ex_put1 bm _ _ HS.out.m).mono ?_
  intro r W2 h
  obtain ⟨v, rfl, hs⟩ := HS.out.left h
  have HS := Lib.hid hs; clear hs h
  go_wp2_with fail
  refine (ex_put2 bm _ _ HS.out.m).mono ?_
  intro r W2 h
  obtain ⟨v, rfl, hs⟩ := HS.out.left h
  have HS := Lib.hid hs; clear hs h
  go_wp2_with fail
  refine (ex_put3 bm _ _ HS.out.m).mono ?_
  intro r W2 h
  obtain ⟨v, rfl, hs⟩ := HS.out.left h
  have HS := Lib.hid hs; clear hs h
  go_wp2_with fail
  refine (ex_get bm _ _ HS.out.m).mono ?_
  rintro r W2 ⟨rfl, b⟩
  have HS := Lib.hid (HS.out.below b); clear b
  go_wp2_with fail
  refine (ex_cas1 bm _ _ HS.out.m).mono ?_
  intro r W2 h
  obtain ⟨v, rfl, hs⟩ := HS.out.left h
  have HS := Lib.hid hs; clear hs h
  go_wp2_with fail
  refine (ex_cas2 bm _ _ HS.out.m).mono ?_
  intro r W2 h
  obtain ⟨v, rfl, hs⟩ := HS.out.left h
  have HS := Lib.hid hs; clear hs h
  go_wp2_with fail
  refine (ex_cas3 bm _ _ HS.out.m).mono ?_
  intro r W2 h
  obtain ⟨v, rfl, hs⟩ := HS.out.left h
  have HS := Lib.hid hs; clear hs h
  go_wp2_with fail
  refine (ex_mo1 bm _ _ HS.out.m).mono ?_
  intro r W2 h
  obtain ⟨v, rfl, hs⟩ := HS.out.left h
  have HS := Lib.hid hs; clear hs h
  go_wp2_with fail
  refine (ex_mo2 bm _ _ HS.out.m).mono ?_
  intro r W2 h
  obtain ⟨v, rfl, hs⟩ := HS.out.left h
  have HS := Lib.hid hs; clear hs h
  go_wp2_with fail
  refine (ex_mo3 bm _ _ HS.out.m).mono ?_
  intro r W2 h
  obtain ⟨v, rfl, hs⟩ := HS.out.left h
  have HS := Lib.hid hs; clear hs h
  go_wp2_with fail
  refine (ex_mo4 bm _ _ HS.out.m).mono ?_
  intro r W2 h
  obtain ⟨v, rfl, hs⟩ := HS.out.left h
  have HS := Lib.hid hs; clear hs h
  go_wp2_with fail
  refine (pairsC_any bm _ xL4 _ HS.out.m xN4).mono ?_
  rintro r V2 ⟨q, rfl, hq, b⟩
  have HS := Lib.hid (HS.out.below b); clear b
  obtain ⟨_, A, c, rfl, _, rd, _⟩ := row_form hq
  have bb := bel_alloc (Below.refl V2.heap.size V2) (.cells #[.int .u64 2, .int .u64 10, .int .u64 3, .int .u64 9] 45)
  have RP := Lib.hid (rd.below bb); have HS := Lib.hid (HS.out.below bb); clear hq rd bb
  go_wp2_with fail
  refine (sameR_any A _ _ c 2 2 xL4 [(2, 10), (3, 9)] _ rfl rfl (by decide) (by omega) RP.out (rd_lit2 V2 2 10 3 9)).mono ?_
  rw [show decide (xL4 = [(2, 10), (3, 9)]) = true by decide]
  rintro r W2 ⟨rfl, b⟩
  have HS := Lib.hid (HS.out.below b); clear b RP
  go_wp2_with fail
  refine (ex_nx1 bm _ _ HS.out.m).mono ?_
  rintro r W2 ⟨rfl, b⟩
  have HS := Lib.hid (HS.out.below b); clear b
  go_upto_region 25 with fail
  have P0 : (W2.alloc (.cells #[.int .u64 3, .int .u64 9] 45)).cell? ⟨W2.heap.size, 0, none⟩ = some (.int .u64 3) := by simp
  have P1 : (W2.alloc (.cells #[.int .u64 3, .int .u64 9] 45)).cell? ⟨W2.heap.size, 1, none⟩ = some (.int .u64 9) := by simp
  have Lp : W2.heap.size < (W2.alloc (.cells #[.int .u64 3, .int .u64 9] 45)).heap.size := by simp
  have off1 : W2.heap.size ≠ bm := by have := HS.out.m.lt; omega
  have off2 : v.ownBlock ≠ some W2.heap.size := fun e => by have := HS.out.m.row_lt _ e; omega
  have HS := Lib.hid (HS.out.below (bel_alloc (Below.refl W2.heap.size W2) (.cells #[.int .u64 3, .int .u64 9] 45)))
  generalize W2.alloc (.cells #[.int .u64 3, .int .u64 9] 45) = W3 at *
  generalize W2.heap.size = p0 at *
  go_wp2_with fail
  refine (ex_nx2 bm _ _ HS.out.m).mono ?_
  rintro r W4 ⟨rfl, b⟩
  replace P0 := (b.cell (p := ⟨p0, 0, none⟩) Lp).trans P0
  replace P1 := (b.cell (p := ⟨p0, 1, none⟩) Lp).trans P1
  replace Lp := Nat.lt_of_lt_of_le Lp b.size
  have HS := Lib.hid (HS.out.below b); clear b
  go_wp2_with fail
  refine (ex_de bm _ _ HS.out.m).mono ?_
  intro r W5 h
  have hc : Chg bm v W4 W5 := by obtain ⟨_, _, _, _, hc⟩ := h; exact hc
  have hpb := hc.block p0 Lp off1 off2
  replace P0 := (World.cell?_of_block (a := ⟨p0, 0, none⟩) hpb).trans P0
  replace P1 := (World.cell?_of_block (a := ⟨p0, 1, none⟩) hpb).trans P1
  replace Lp := Nat.lt_of_lt_of_le Lp hc.size
  obtain ⟨v, rfl, hs⟩ := HS.out.left h
  have HS := Lib.hid hs; clear hs h hc hpb off2
  go_wp2_with fail
  refine (lenC_any bm _ xL5 _ HS.out.m xN5).mono ?_
  rw [show ((xL5.length : Nat) : Int) = 1 from rfl]
  rintro r W6 ⟨rfl, b⟩
  have HS := Lib.hid (HS.out.below b); clear b P0 P1 Lp off1
  go_wp2_with fail
  refine (putC_nil 1 1 _).mono ?_
  rintro r W7 ⟨rfl, b⟩
  have HS := Lib.hid (HS.out.below b); clear b
  go_wp2_with fail
  refine (moC_nil 2 0 0 _).mono ?_
  rintro r W7 ⟨rfl, b⟩
  have HS := Lib.hid (HS.out.below b); clear b
  go_wp2_with fail
  refine (rangeC_nil 0 0 _).mono ?_
  rintro r W7 ⟨q, rfl, hq, b⟩
  have HS := Lib.hid (HS.out.below b); clear b
  obtain ⟨_, A, c, rfl, _, rd, _⟩ := row_form hq
  clear hq rd
  go_wp2_with fail
  refine (getC_nil 1 _).mono ?_
  rintro r W7 ⟨rfl, rfl⟩
  unfold gT
  go_wp2_with fail
  refine (lenC_nil _).mono ?_
  rintro r W7 ⟨rfl, b⟩
  have HS := Lib.hid (HS.out.below b); clear b
  go_wp2_with fail
  refine (pairsC_nil _).mono ?_
  rintro r W7 ⟨rfl, rfl⟩
  go_wp2_with fail
  refine (copyC_nil _).mono ?_
  rintro r W7 ⟨rfl, rfl⟩
  go_wp2_with fail
  refine (equalC_nn _).mono ?_
  rintro r W7 ⟨rfl, b⟩
  have HS := Lib.hid (HS.out.below b); clear b
  go_wp2_with fail
  refine ((equalC_no bm _).1).mono ?_
  rintro r W7 ⟨rfl, b⟩
  have HS := Lib.hid (HS.out.below b); clear b
  go_wp2_with fail
  refine ((equalC_no bm _).2).mono ?_
  rintro r W7 ⟨rfl, b⟩
  have HS := Lib.hid (HS.out.below b); clear b
  go_wp2
  go_ret
  exact ⟨rfl, HS.out.bel⟩
end Wk
end Go.Proofs.Ythinaablldnikaa
