/- The walk of the law OmapReturns, from the contracts of package omap (XOmC), XOmJ and XOmT. Conditions: those of the contracts. (tools/mk1om.py wrote it.) -/
import Derived.Test.YthinaablldnikaaOmT
namespace Go.Proofs.Ythinaablldnikaa
open Go.RowKit Go.Sort
set_option linter.unusedVariables false
set_option linter.unusedSimpArgs false
namespace Om
theorem MdPost.any {w w' : World} {ps : List Pr} {e : Ending} (h : MdPost w ps e w') : ∃ p, e = .returned (.pointer p) ∧ Below w.heap.size w w' := by
  unfold MdPost at h
  split at h
  · obtain ⟨bm, v, he, _, _, _, b⟩ := h
    exact ⟨_, he, b⟩
  · exact ⟨_, h.1, h.2⟩
theorem MdPost.some_ {w w' : World} {ps : List Pr} {e : Ending} (h : MdPost w ps e w') (hl : ps.length ≤ 60) : CpPost w (maL ps) e w' := by
  unfold MdPost at h
  rwa [if_pos (Nat.le_trans (mdL_len ps) hl)] at h
theorem cT_yes (x : Int) : cT (some x) x = .tuple #[.int .u64 x, .bool true, .bool true, .int .i64 0] := by simp [cT]
theorem cT_no {x y : Int} (h : x ≠ y) : cT (some x) y = .tuple #[.int .u64 x, .bool true, .bool false, .int .i64 0] := by simp [cT, h]
theorem casL_yes (l : List Pr) (x : Int) (p : Pr) : casL l (some x) x p = setL l p := if_pos rfl
theorem casL_no (l : List Pr) {x y : Int} (p : Pr) (h : x ≠ y) : casL l (some x) y p = l := if_neg (fun e => h (Option.some.inj e))
end Om
namespace Wk
open Om
set_option maxRecDepth 100000 in
set_option maxHeartbeats 4000000 in
theorem walk_omapReturns (a0 : Option Addr) (a0n a0c : Nat) (a0v : List Om.Pr) (a1 : Int) (a2Value : Int) (a2Old : Int) (a2New : Int) (w : World) (a0e : a0v.length = a0n) (a0m : a0n ≤ maxLen) (a0r : Om.Rd w a0 a0v) (a0b : Om.Bd a0v) (a0z : a0 = none → a0c = 0) (a0s : a0n * 16 ≤ 140737488351232) (a1l : 0 ≤ a1) (a1h : a1 ≤ 18446744073709551615) (a2Valuel : 0 ≤ a2Value) (a2Valueh : a2Value ≤ 18446744073709551615) (a2Oldl : 0 ≤ a2Old) (a2Oldh : a2Old ≤ 18446744073709551615) (a2Newl : 0 ≤ a2New) (a2Newh : a2New ≤ 18446744073709551615) :
    Calls Try.prog 8 #[.slice a0 a0n a0c, .int .u64 a1, .agg #[.int .u64 a2Value, .int .u64 a2Old, .int .u64 a2New]] w fun e w' => e = .returned (.bool true) ∧ Below w.heap.size w w' := by
  have HE := Lib.hid a0e; clear a0e
  have HR := Lib.hid a0r; clear a0r
  have HSZ := Lib.hid a0s; clear a0s
  have HBD := Lib.hid (maL_bd a0b); clear a0b
  have HA := Lib.hid (maL_asc a0v)
  clear a0z
  have b0 : Below w.heap.size w (w.alloc (.cells #[.int .u64 a2Value, .int .u64 a2Old, .int .u64 a2New] 70)) := bel_alloc (Below.refl _ _) _
  by_cases hbig : 60 < a0n
  · have t0 : decide (60 < (a0n : Int)) = true := decide_eq_true (by omega)
    go_enter Try.func8, Try.ntmps8
    go_wp2_with fail
    refine (made_any _ _ _ a0v _ HE.out HSZ.out (HR.out.below b0)).mono ?_
    intro r W0 h
    obtain ⟨p, rfl, b1⟩ := h.any
    clear h
    go_wp2_with fail
    refine (known_any _).mono ?_
    rintro r W1 ⟨rfl, b2⟩
    go_wp2
    go_ret
    exact ⟨rfl, bel_trans (bel_trans b0 b1) b2⟩
  have t0 : decide (60 < (a0n : Int)) = false := decide_eq_false (by omega)
  have HLEN := Lib.hid (show (maL a0v).length ≤ 60 by have := maL_len a0v; have := HE.out; omega)
  have hl60 : ((maL a0v).length : Int) ≤ 60 := by have := HLEN.out; omega
  have E0 := Lib.hid (show (w.alloc (.cells #[.int .u64 a2Value, .int .u64 a2Old, .int .u64 a2New] 70)).cell? ⟨w.heap.size, 0, none⟩ = some (.int .u64 a2Value) by simp)
  have E1 := Lib.hid (show (w.alloc (.cells #[.int .u64 a2Value, .int .u64 a2Old, .int .u64 a2New] 70)).cell? ⟨w.heap.size, 1, none⟩ = some (.int .u64 a2Old) by simp)
  have E2 := Lib.hid (show (w.alloc (.cells #[.int .u64 a2Value, .int .u64 a2Old, .int .u64 a2New] 70)).cell? ⟨w.heap.size, 2, none⟩ = some (.int .u64 a2New) by simp)
  cases hg : getL (maL a0v) a1 with
  | some x =>
    have HG := Lib.hid hg; clear hg
    by_cases ho : x = a2Old
    · subst ho
      go_enter Try.func8, Try.ntmps8
      go_wp2_with fail
      refine (made_any _ _ _ a0v _ HE.out HSZ.out (HR.out.below b0)).mono ?_
      intro r W0 h
      obtain ⟨bm, v, rfl, hs⟩ := Stb.start (B := w.heap.size + 1) (by simp) (by simp) (h.some_ (by have := HE.out; omega))
      have HB := Lib.hid hs; clear hs h
      go_wp2_with fail
      refine (copyC_any _ _ _ _ HB.out.m (by have := HLEN.out; omega)).mono ?_
      intro r W00 h
      obtain ⟨bn, u, rfl, hs⟩ := HB.out.more h
      have HS := Lib.hid hs; clear hs h HB
      go_wp2_with fail
      refine (equalC_any _ _ _ _ _ _ _ HS.out.m HS.out.c (by have := HLEN.out; omega) (by have := HLEN.out; omega)).mono ?_
      intro r1 W1 h
      rw [show decide (maL a0v = maL a0v) = true from decide_eq_true rfl] at h
      obtain ⟨rfl, b1⟩ := h
      have HS := Lib.hid (HS.out.below b1)
      have e0 := (HS.out.bel.cell (p := ⟨w.heap.size, 0, none⟩) (Nat.lt_succ_self _)).trans E0.out
      have e1 := (HS.out.bel.cell (p := ⟨w.heap.size, 1, none⟩) (Nat.lt_succ_self _)).trans E1.out
      have e2 := (HS.out.bel.cell (p := ⟨w.heap.size, 2, none⟩) (Nat.lt_succ_self _)).trans E2.out
      go_wp2_with fail
      refine (equalC_any _ _ _ _ _ _ _ HS.out.c HS.out.m (by have := HLEN.out; omega) (by have := HLEN.out; omega)).mono ?_
      intro r2 W2 h
      rw [show decide (maL a0v = maL a0v) = true from decide_eq_true rfl] at h
      obtain ⟨rfl, b2⟩ := h
      have HS := Lib.hid (HS.out.below b2)
      have e0 := (HS.out.bel.cell (p := ⟨w.heap.size, 0, none⟩) (Nat.lt_succ_self _)).trans E0.out
      have e1 := (HS.out.bel.cell (p := ⟨w.heap.size, 1, none⟩) (Nat.lt_succ_self _)).trans E1.out
      have e2 := (HS.out.bel.cell (p := ⟨w.heap.size, 2, none⟩) (Nat.lt_succ_self _)).trans E2.out
      go_wp2_with fail
      refine (getC_any _ _ _ a1 _ HS.out.m HA.out (by have := HLEN.out; omega)).mono ?_
      intro r3 W3 h
      rw [show getL (maL a0v) a1 = some x from HG.out] at h
      unfold gT at h
      obtain ⟨rfl, b3⟩ := h
      have HS := Lib.hid (HS.out.below b3)
      have e0 := (HS.out.bel.cell (p := ⟨w.heap.size, 0, none⟩) (Nat.lt_succ_self _)).trans E0.out
      have e1 := (HS.out.bel.cell (p := ⟨w.heap.size, 1, none⟩) (Nat.lt_succ_self _)).trans E1.out
      have e2 := (HS.out.bel.cell (p := ⟨w.heap.size, 2, none⟩) (Nat.lt_succ_self _)).trans E2.out
      go_wp2_with fail
      refine (delC_any _ _ _ a1 _ HS.out.m HA.out HBD.out (by have := HLEN.out; omega) a1l a1h).mono ?_
      intro r4 W4 h
      rw [show getL (maL a0v) a1 = some x from HG.out] at h
      unfold pT at h
      obtain ⟨v4, rfl, hS⟩ := HS.out.left h
      have HS := Lib.hid hS; clear hS h
      have e0 := (HS.out.bel.cell (p := ⟨w.heap.size, 0, none⟩) (Nat.lt_succ_self _)).trans E0.out
      have e1 := (HS.out.bel.cell (p := ⟨w.heap.size, 1, none⟩) (Nat.lt_succ_self _)).trans E1.out
      have e2 := (HS.out.bel.cell (p := ⟨w.heap.size, 2, none⟩) (Nat.lt_succ_self _)).trans E2.out
      go_wp2_with fail
      refine (getC_any _ _ _ a1 _ HS.out.m (outL_asc HA.out _ _) (by have := (Nat.le_trans (outL_len _ a1 a1) HLEN.out); omega)).mono ?_
      intro r5 W5 h
      rw [outL_get_self HA.out] at h
      unfold gT at h
      obtain ⟨rfl, b5⟩ := h
      have HS := Lib.hid (HS.out.below b5)
      have e0 := (HS.out.bel.cell (p := ⟨w.heap.size, 0, none⟩) (Nat.lt_succ_self _)).trans E0.out
      have e1 := (HS.out.bel.cell (p := ⟨w.heap.size, 1, none⟩) (Nat.lt_succ_self _)).trans E1.out
      have e2 := (HS.out.bel.cell (p := ⟨w.heap.size, 2, none⟩) (Nat.lt_succ_self _)).trans E2.out
      go_wp2_with fail
      refine (equalC_any _ _ _ _ _ _ _ HS.out.m HS.out.c (by have := (Nat.le_trans (outL_len _ a1 a1) HLEN.out); omega) (by have := HLEN.out; omega)).mono ?_
      intro r6 W6 h
      rw [show decide (outL (maL a0v) a1 a1 = maL a0v) = false from ne_of_get a1 (by rw [outL_get_self HA.out, HG.out]; simp)] at h
      obtain ⟨rfl, b6⟩ := h
      have HS := Lib.hid (HS.out.below b6)
      have e0 := (HS.out.bel.cell (p := ⟨w.heap.size, 0, none⟩) (Nat.lt_succ_self _)).trans E0.out
      have e1 := (HS.out.bel.cell (p := ⟨w.heap.size, 1, none⟩) (Nat.lt_succ_self _)).trans E1.out
      have e2 := (HS.out.bel.cell (p := ⟨w.heap.size, 2, none⟩) (Nat.lt_succ_self _)).trans E2.out
      go_wp2_with fail
      refine (lenC_any _ _ _ _ HS.out.m (by have := (Nat.le_trans (outL_len _ a1 a1) HLEN.out); omega)).mono ?_
      intro r7 W7 h
      rw [show ((outL (maL a0v) a1 a1).length : Int) = (maL a0v).length - 1 by have := out_len HA.out HG.out; omega] at h
      obtain ⟨rfl, b7⟩ := h
      have HS := Lib.hid (HS.out.below b7)
      have e0 := (HS.out.bel.cell (p := ⟨w.heap.size, 0, none⟩) (Nat.lt_succ_self _)).trans E0.out
      have e1 := (HS.out.bel.cell (p := ⟨w.heap.size, 1, none⟩) (Nat.lt_succ_self _)).trans E1.out
      have e2 := (HS.out.bel.cell (p := ⟨w.heap.size, 2, none⟩) (Nat.lt_succ_self _)).trans E2.out
      go_wp2_with fail
      refine (lenC_any _ _ _ _ HS.out.c (by have := HLEN.out; omega)).mono ?_
      intro r8 W8 h
      obtain ⟨rfl, b8⟩ := h
      have HS := Lib.hid (HS.out.below b8)
      have e0 := (HS.out.bel.cell (p := ⟨w.heap.size, 0, none⟩) (Nat.lt_succ_self _)).trans E0.out
      have e1 := (HS.out.bel.cell (p := ⟨w.heap.size, 1, none⟩) (Nat.lt_succ_self _)).trans E1.out
      have e2 := (HS.out.bel.cell (p := ⟨w.heap.size, 2, none⟩) (Nat.lt_succ_self _)).trans E2.out
      go_wp2_with fail
      refine (putC_any _ _ _ a1 x _ HS.out.m (outL_asc HA.out _ _) (by have := (Nat.le_trans (outL_len _ a1 a1) HLEN.out); omega)).mono ?_
      intro r9 W9 h
      rw [set_out HA.out HG.out] at h
      rw [show getL (outL (maL a0v) a1 a1) a1 = none from outL_get_self HA.out a1] at h
      unfold pT at h
      obtain ⟨v9, rfl, hS⟩ := HS.out.left h
      have HS := Lib.hid hS; clear hS h
      have e0 := (HS.out.bel.cell (p := ⟨w.heap.size, 0, none⟩) (Nat.lt_succ_self _)).trans E0.out
      have e1 := (HS.out.bel.cell (p := ⟨w.heap.size, 1, none⟩) (Nat.lt_succ_self _)).trans E1.out
      have e2 := (HS.out.bel.cell (p := ⟨w.heap.size, 2, none⟩) (Nat.lt_succ_self _)).trans E2.out
      go_wp2_with fail
      refine (equalC_any _ _ _ _ _ _ _ HS.out.m HS.out.c (by have := HLEN.out; omega) (by have := HLEN.out; omega)).mono ?_
      intro r10 W10 h
      rw [show decide (maL a0v = maL a0v) = true from decide_eq_true rfl] at h
      obtain ⟨rfl, b10⟩ := h
      have HS := Lib.hid (HS.out.below b10)
      have e0 := (HS.out.bel.cell (p := ⟨w.heap.size, 0, none⟩) (Nat.lt_succ_self _)).trans E0.out
      have e1 := (HS.out.bel.cell (p := ⟨w.heap.size, 1, none⟩) (Nat.lt_succ_self _)).trans E1.out
      have e2 := (HS.out.bel.cell (p := ⟨w.heap.size, 2, none⟩) (Nat.lt_succ_self _)).trans E2.out
      go_wp2_with fail
      refine (putAbsC_any _ _ _ a1 a2Value _ HS.out.m HA.out (by have := HLEN.out; omega)).mono ?_
      intro r11 W11 h
      rw [show getL (maL a0v) a1 = some x from HG.out] at h
      rw [show paL (maL a0v) (some x) (a1, a2Value) = maL a0v from rfl] at h
      unfold pT at h
      obtain ⟨v11, rfl, hS⟩ := HS.out.left h
      have HS := Lib.hid hS; clear hS h
      have e0 := (HS.out.bel.cell (p := ⟨w.heap.size, 0, none⟩) (Nat.lt_succ_self _)).trans E0.out
      have e1 := (HS.out.bel.cell (p := ⟨w.heap.size, 1, none⟩) (Nat.lt_succ_self _)).trans E1.out
      have e2 := (HS.out.bel.cell (p := ⟨w.heap.size, 2, none⟩) (Nat.lt_succ_self _)).trans E2.out
      have GC := HG
      go_wp2_with fail
      refine (getC_any _ _ _ a1 _ HS.out.m HA.out (by have := HLEN.out; omega)).mono ?_
      intro r12 W12 h
      rw [show getL (maL a0v) a1 = some x from GC.out] at h
      unfold gT at h
      obtain ⟨rfl, b12⟩ := h
      have HS := Lib.hid (HS.out.below b12)
      have e0 := (HS.out.bel.cell (p := ⟨w.heap.size, 0, none⟩) (Nat.lt_succ_self _)).trans E0.out
      have e1 := (HS.out.bel.cell (p := ⟨w.heap.size, 1, none⟩) (Nat.lt_succ_self _)).trans E1.out
      have e2 := (HS.out.bel.cell (p := ⟨w.heap.size, 2, none⟩) (Nat.lt_succ_self _)).trans E2.out
      go_wp2_with fail
      refine (casC_any _ _ _ a1 x a2New _ HS.out.m HA.out (by have := HLEN.out; omega)).mono ?_
      intro r13 W13 h
      rw [show getL (maL a0v) a1 = some x from GC.out] at h
      rw [casL_yes] at h
      rw [cT_yes] at h
      obtain ⟨v13, rfl, hS⟩ := HS.out.left h
      have HS := Lib.hid hS; clear hS h
      have e0 := (HS.out.bel.cell (p := ⟨w.heap.size, 0, none⟩) (Nat.lt_succ_self _)).trans E0.out
      have e1 := (HS.out.bel.cell (p := ⟨w.heap.size, 1, none⟩) (Nat.lt_succ_self _)).trans E1.out
      have e2 := (HS.out.bel.cell (p := ⟨w.heap.size, 2, none⟩) (Nat.lt_succ_self _)).trans E2.out
      go_wp2_with fail
      refine (getC_any _ _ _ a1 _ HS.out.m (setL_asc HA.out _) (by have := (Nat.le_trans (setL_len_le _ (a1, a2New)) (Nat.succ_le_succ HLEN.out)); omega)).mono ?_
      intro r14 W14 h
      rw [show getL (setL (maL a0v) (a1, a2New)) a1 = some a2New by rw [getL_setL HA.out, if_pos rfl]] at h
      unfold gT at h
      obtain ⟨rfl, b14⟩ := h
      have HS := Lib.hid (HS.out.below b14)
      have e0 := (HS.out.bel.cell (p := ⟨w.heap.size, 0, none⟩) (Nat.lt_succ_self _)).trans E0.out
      have e1 := (HS.out.bel.cell (p := ⟨w.heap.size, 1, none⟩) (Nat.lt_succ_self _)).trans E1.out
      have e2 := (HS.out.bel.cell (p := ⟨w.heap.size, 2, none⟩) (Nat.lt_succ_self _)).trans E2.out
      go_wp2_with fail
      refine (known_any _).mono ?_
      rintro r WK ⟨rfl, bk⟩
      have HS := Lib.hid (HS.out.below bk)
      go_wp2
      go_ret
      exact ⟨rfl, b0.trans (HS.out.bel.mono (Nat.le_succ _))⟩
    · have HNE := Lib.hid ho
      have t3 : (a2Old == x) = false := by simp only [beq_eq_false_iff_ne, ne_eq]; exact fun h => ho h.symm
      clear ho
      go_enter Try.func8, Try.ntmps8
      go_wp2_with fail
      refine (made_any _ _ _ a0v _ HE.out HSZ.out (HR.out.below b0)).mono ?_
      intro r W0 h
      obtain ⟨bm, v, rfl, hs⟩ := Stb.start (B := w.heap.size + 1) (by simp) (by simp) (h.some_ (by have := HE.out; omega))
      have HB := Lib.hid hs; clear hs h
      go_wp2_with fail
      refine (copyC_any _ _ _ _ HB.out.m (by have := HLEN.out; omega)).mono ?_
      intro r W00 h
      obtain ⟨bn, u, rfl, hs⟩ := HB.out.more h
      have HS := Lib.hid hs; clear hs h HB
      go_wp2_with fail
      refine (equalC_any _ _ _ _ _ _ _ HS.out.m HS.out.c (by have := HLEN.out; omega) (by have := HLEN.out; omega)).mono ?_
      intro r15 W15 h
      rw [show decide (maL a0v = maL a0v) = true from decide_eq_true rfl] at h
      obtain ⟨rfl, b15⟩ := h
      have HS := Lib.hid (HS.out.below b15)
      have e0 := (HS.out.bel.cell (p := ⟨w.heap.size, 0, none⟩) (Nat.lt_succ_self _)).trans E0.out
      have e1 := (HS.out.bel.cell (p := ⟨w.heap.size, 1, none⟩) (Nat.lt_succ_self _)).trans E1.out
      have e2 := (HS.out.bel.cell (p := ⟨w.heap.size, 2, none⟩) (Nat.lt_succ_self _)).trans E2.out
      go_wp2_with fail
      refine (equalC_any _ _ _ _ _ _ _ HS.out.c HS.out.m (by have := HLEN.out; omega) (by have := HLEN.out; omega)).mono ?_
      intro r16 W16 h
      rw [show decide (maL a0v = maL a0v) = true from decide_eq_true rfl] at h
      obtain ⟨rfl, b16⟩ := h
      have HS := Lib.hid (HS.out.below b16)
      have e0 := (HS.out.bel.cell (p := ⟨w.heap.size, 0, none⟩) (Nat.lt_succ_self _)).trans E0.out
      have e1 := (HS.out.bel.cell (p := ⟨w.heap.size, 1, none⟩) (Nat.lt_succ_self _)).trans E1.out
      have e2 := (HS.out.bel.cell (p := ⟨w.heap.size, 2, none⟩) (Nat.lt_succ_self _)).trans E2.out
      go_wp2_with fail
      refine (getC_any _ _ _ a1 _ HS.out.m HA.out (by have := HLEN.out; omega)).mono ?_
      intro r17 W17 h
      rw [show getL (maL a0v) a1 = some x from HG.out] at h
      unfold gT at h
      obtain ⟨rfl, b17⟩ := h
      have HS := Lib.hid (HS.out.below b17)
      have e0 := (HS.out.bel.cell (p := ⟨w.heap.size, 0, none⟩) (Nat.lt_succ_self _)).trans E0.out
      have e1 := (HS.out.bel.cell (p := ⟨w.heap.size, 1, none⟩) (Nat.lt_succ_self _)).trans E1.out
      have e2 := (HS.out.bel.cell (p := ⟨w.heap.size, 2, none⟩) (Nat.lt_succ_self _)).trans E2.out
      go_wp2_with fail
      refine (delC_any _ _ _ a1 _ HS.out.m HA.out HBD.out (by have := HLEN.out; omega) a1l a1h).mono ?_
      intro r18 W18 h
      rw [show getL (maL a0v) a1 = some x from HG.out] at h
      unfold pT at h
      obtain ⟨v18, rfl, hS⟩ := HS.out.left h
      have HS := Lib.hid hS; clear hS h
      have e0 := (HS.out.bel.cell (p := ⟨w.heap.size, 0, none⟩) (Nat.lt_succ_self _)).trans E0.out
      have e1 := (HS.out.bel.cell (p := ⟨w.heap.size, 1, none⟩) (Nat.lt_succ_self _)).trans E1.out
      have e2 := (HS.out.bel.cell (p := ⟨w.heap.size, 2, none⟩) (Nat.lt_succ_self _)).trans E2.out
      go_wp2_with fail
      refine (getC_any _ _ _ a1 _ HS.out.m (outL_asc HA.out _ _) (by have := (Nat.le_trans (outL_len _ a1 a1) HLEN.out); omega)).mono ?_
      intro r19 W19 h
      rw [outL_get_self HA.out] at h
      unfold gT at h
      obtain ⟨rfl, b19⟩ := h
      have HS := Lib.hid (HS.out.below b19)
      have e0 := (HS.out.bel.cell (p := ⟨w.heap.size, 0, none⟩) (Nat.lt_succ_self _)).trans E0.out
      have e1 := (HS.out.bel.cell (p := ⟨w.heap.size, 1, none⟩) (Nat.lt_succ_self _)).trans E1.out
      have e2 := (HS.out.bel.cell (p := ⟨w.heap.size, 2, none⟩) (Nat.lt_succ_self _)).trans E2.out
      go_wp2_with fail
      refine (equalC_any _ _ _ _ _ _ _ HS.out.m HS.out.c (by have := (Nat.le_trans (outL_len _ a1 a1) HLEN.out); omega) (by have := HLEN.out; omega)).mono ?_
      intro r20 W20 h
      rw [show decide (outL (maL a0v) a1 a1 = maL a0v) = false from ne_of_get a1 (by rw [outL_get_self HA.out, HG.out]; simp)] at h
      obtain ⟨rfl, b20⟩ := h
      have HS := Lib.hid (HS.out.below b20)
      have e0 := (HS.out.bel.cell (p := ⟨w.heap.size, 0, none⟩) (Nat.lt_succ_self _)).trans E0.out
      have e1 := (HS.out.bel.cell (p := ⟨w.heap.size, 1, none⟩) (Nat.lt_succ_self _)).trans E1.out
      have e2 := (HS.out.bel.cell (p := ⟨w.heap.size, 2, none⟩) (Nat.lt_succ_self _)).trans E2.out
      go_wp2_with fail
      refine (lenC_any _ _ _ _ HS.out.m (by have := (Nat.le_trans (outL_len _ a1 a1) HLEN.out); omega)).mono ?_
      intro r21 W21 h
      rw [show ((outL (maL a0v) a1 a1).length : Int) = (maL a0v).length - 1 by have := out_len HA.out HG.out; omega] at h
      obtain ⟨rfl, b21⟩ := h
      have HS := Lib.hid (HS.out.below b21)
      have e0 := (HS.out.bel.cell (p := ⟨w.heap.size, 0, none⟩) (Nat.lt_succ_self _)).trans E0.out
      have e1 := (HS.out.bel.cell (p := ⟨w.heap.size, 1, none⟩) (Nat.lt_succ_self _)).trans E1.out
      have e2 := (HS.out.bel.cell (p := ⟨w.heap.size, 2, none⟩) (Nat.lt_succ_self _)).trans E2.out
      go_wp2_with fail
      refine (lenC_any _ _ _ _ HS.out.c (by have := HLEN.out; omega)).mono ?_
      intro r22 W22 h
      obtain ⟨rfl, b22⟩ := h
      have HS := Lib.hid (HS.out.below b22)
      have e0 := (HS.out.bel.cell (p := ⟨w.heap.size, 0, none⟩) (Nat.lt_succ_self _)).trans E0.out
      have e1 := (HS.out.bel.cell (p := ⟨w.heap.size, 1, none⟩) (Nat.lt_succ_self _)).trans E1.out
      have e2 := (HS.out.bel.cell (p := ⟨w.heap.size, 2, none⟩) (Nat.lt_succ_self _)).trans E2.out
      go_wp2_with fail
      refine (putC_any _ _ _ a1 x _ HS.out.m (outL_asc HA.out _ _) (by have := (Nat.le_trans (outL_len _ a1 a1) HLEN.out); omega)).mono ?_
      intro r23 W23 h
      rw [set_out HA.out HG.out] at h
      rw [show getL (outL (maL a0v) a1 a1) a1 = none from outL_get_self HA.out a1] at h
      unfold pT at h
      obtain ⟨v23, rfl, hS⟩ := HS.out.left h
      have HS := Lib.hid hS; clear hS h
      have e0 := (HS.out.bel.cell (p := ⟨w.heap.size, 0, none⟩) (Nat.lt_succ_self _)).trans E0.out
      have e1 := (HS.out.bel.cell (p := ⟨w.heap.size, 1, none⟩) (Nat.lt_succ_self _)).trans E1.out
      have e2 := (HS.out.bel.cell (p := ⟨w.heap.size, 2, none⟩) (Nat.lt_succ_self _)).trans E2.out
      go_wp2_with fail
      refine (equalC_any _ _ _ _ _ _ _ HS.out.m HS.out.c (by have := HLEN.out; omega) (by have := HLEN.out; omega)).mono ?_
      intro r24 W24 h
      rw [show decide (maL a0v = maL a0v) = true from decide_eq_true rfl] at h
      obtain ⟨rfl, b24⟩ := h
      have HS := Lib.hid (HS.out.below b24)
      have e0 := (HS.out.bel.cell (p := ⟨w.heap.size, 0, none⟩) (Nat.lt_succ_self _)).trans E0.out
      have e1 := (HS.out.bel.cell (p := ⟨w.heap.size, 1, none⟩) (Nat.lt_succ_self _)).trans E1.out
      have e2 := (HS.out.bel.cell (p := ⟨w.heap.size, 2, none⟩) (Nat.lt_succ_self _)).trans E2.out
      go_wp2_with fail
      refine (putAbsC_any _ _ _ a1 a2Value _ HS.out.m HA.out (by have := HLEN.out; omega)).mono ?_
      intro r25 W25 h
      rw [show getL (maL a0v) a1 = some x from HG.out] at h
      rw [show paL (maL a0v) (some x) (a1, a2Value) = maL a0v from rfl] at h
      unfold pT at h
      obtain ⟨v25, rfl, hS⟩ := HS.out.left h
      have HS := Lib.hid hS; clear hS h
      have e0 := (HS.out.bel.cell (p := ⟨w.heap.size, 0, none⟩) (Nat.lt_succ_self _)).trans E0.out
      have e1 := (HS.out.bel.cell (p := ⟨w.heap.size, 1, none⟩) (Nat.lt_succ_self _)).trans E1.out
      have e2 := (HS.out.bel.cell (p := ⟨w.heap.size, 2, none⟩) (Nat.lt_succ_self _)).trans E2.out
      have GC := HG
      go_wp2_with fail
      refine (getC_any _ _ _ a1 _ HS.out.m HA.out (by have := HLEN.out; omega)).mono ?_
      intro r26 W26 h
      rw [show getL (maL a0v) a1 = some x from GC.out] at h
      unfold gT at h
      obtain ⟨rfl, b26⟩ := h
      have HS := Lib.hid (HS.out.below b26)
      have e0 := (HS.out.bel.cell (p := ⟨w.heap.size, 0, none⟩) (Nat.lt_succ_self _)).trans E0.out
      have e1 := (HS.out.bel.cell (p := ⟨w.heap.size, 1, none⟩) (Nat.lt_succ_self _)).trans E1.out
      have e2 := (HS.out.bel.cell (p := ⟨w.heap.size, 2, none⟩) (Nat.lt_succ_self _)).trans E2.out
      go_wp2_with fail
      refine (casC_any _ _ _ a1 a2Old a2New _ HS.out.m HA.out (by have := HLEN.out; omega)).mono ?_
      intro r27 W27 h
      rw [show getL (maL a0v) a1 = some x from GC.out] at h
      rw [casL_no _ _ HNE.out] at h
      rw [cT_no HNE.out] at h
      obtain ⟨v27, rfl, hS⟩ := HS.out.left h
      have HS := Lib.hid hS; clear hS h
      have e0 := (HS.out.bel.cell (p := ⟨w.heap.size, 0, none⟩) (Nat.lt_succ_self _)).trans E0.out
      have e1 := (HS.out.bel.cell (p := ⟨w.heap.size, 1, none⟩) (Nat.lt_succ_self _)).trans E1.out
      have e2 := (HS.out.bel.cell (p := ⟨w.heap.size, 2, none⟩) (Nat.lt_succ_self _)).trans E2.out
      go_wp2_with fail
      refine (getC_any _ _ _ a1 _ HS.out.m HA.out (by have := HLEN.out; omega)).mono ?_
      intro r28 W28 h
      rw [show getL (maL a0v) a1 = some x from GC.out] at h
      unfold gT at h
      obtain ⟨rfl, b28⟩ := h
      have HS := Lib.hid (HS.out.below b28)
      have e0 := (HS.out.bel.cell (p := ⟨w.heap.size, 0, none⟩) (Nat.lt_succ_self _)).trans E0.out
      have e1 := (HS.out.bel.cell (p := ⟨w.heap.size, 1, none⟩) (Nat.lt_succ_self _)).trans E1.out
      have e2 := (HS.out.bel.cell (p := ⟨w.heap.size, 2, none⟩) (Nat.lt_succ_self _)).trans E2.out
      go_wp2_with fail
      refine (known_any _).mono ?_
      rintro r WK ⟨rfl, bk⟩
      have HS := Lib.hid (HS.out.below bk)
      go_wp2
      go_ret
      exact ⟨rfl, b0.trans (HS.out.bel.mono (Nat.le_succ _))⟩
  | none =>
    have HG := Lib.hid hg; clear hg
    by_cases ho : a2Value = a2Old
    · subst ho
      go_enter Try.func8, Try.ntmps8
      go_wp2_with fail
      refine (made_any _ _ _ a0v _ HE.out HSZ.out (HR.out.below b0)).mono ?_
      intro r W0 h
      obtain ⟨bm, v, rfl, hs⟩ := Stb.start (B := w.heap.size + 1) (by simp) (by simp) (h.some_ (by have := HE.out; omega))
      have HB := Lib.hid hs; clear hs h
      go_wp2_with fail
      refine (copyC_any _ _ _ _ HB.out.m (by have := HLEN.out; omega)).mono ?_
      intro r W00 h
      obtain ⟨bn, u, rfl, hs⟩ := HB.out.more h
      have HS := Lib.hid hs; clear hs h HB
      go_wp2_with fail
      refine (equalC_any _ _ _ _ _ _ _ HS.out.m HS.out.c (by have := HLEN.out; omega) (by have := HLEN.out; omega)).mono ?_
      intro r29 W29 h
      rw [show decide (maL a0v = maL a0v) = true from decide_eq_true rfl] at h
      obtain ⟨rfl, b29⟩ := h
      have HS := Lib.hid (HS.out.below b29)
      have e0 := (HS.out.bel.cell (p := ⟨w.heap.size, 0, none⟩) (Nat.lt_succ_self _)).trans E0.out
      have e1 := (HS.out.bel.cell (p := ⟨w.heap.size, 1, none⟩) (Nat.lt_succ_self _)).trans E1.out
      have e2 := (HS.out.bel.cell (p := ⟨w.heap.size, 2, none⟩) (Nat.lt_succ_self _)).trans E2.out
      go_wp2_with fail
      refine (equalC_any _ _ _ _ _ _ _ HS.out.c HS.out.m (by have := HLEN.out; omega) (by have := HLEN.out; omega)).mono ?_
      intro r30 W30 h
      rw [show decide (maL a0v = maL a0v) = true from decide_eq_true rfl] at h
      obtain ⟨rfl, b30⟩ := h
      have HS := Lib.hid (HS.out.below b30)
      have e0 := (HS.out.bel.cell (p := ⟨w.heap.size, 0, none⟩) (Nat.lt_succ_self _)).trans E0.out
      have e1 := (HS.out.bel.cell (p := ⟨w.heap.size, 1, none⟩) (Nat.lt_succ_self _)).trans E1.out
      have e2 := (HS.out.bel.cell (p := ⟨w.heap.size, 2, none⟩) (Nat.lt_succ_self _)).trans E2.out
      go_wp2_with fail
      refine (getC_any _ _ _ a1 _ HS.out.m HA.out (by have := HLEN.out; omega)).mono ?_
      intro r31 W31 h
      rw [show getL (maL a0v) a1 = none from HG.out] at h
      unfold gT at h
      obtain ⟨rfl, b31⟩ := h
      have HS := Lib.hid (HS.out.below b31)
      have e0 := (HS.out.bel.cell (p := ⟨w.heap.size, 0, none⟩) (Nat.lt_succ_self _)).trans E0.out
      have e1 := (HS.out.bel.cell (p := ⟨w.heap.size, 1, none⟩) (Nat.lt_succ_self _)).trans E1.out
      have e2 := (HS.out.bel.cell (p := ⟨w.heap.size, 2, none⟩) (Nat.lt_succ_self _)).trans E2.out
      go_wp2_with fail
      refine (putC_any _ _ _ a1 a2Value _ HS.out.m HA.out (by have := HLEN.out; omega)).mono ?_
      intro r32 W32 h
      rw [show getL (maL a0v) a1 = none from HG.out] at h
      unfold pT at h
      obtain ⟨v32, rfl, hS⟩ := HS.out.left h
      have HS := Lib.hid hS; clear hS h
      have e0 := (HS.out.bel.cell (p := ⟨w.heap.size, 0, none⟩) (Nat.lt_succ_self _)).trans E0.out
      have e1 := (HS.out.bel.cell (p := ⟨w.heap.size, 1, none⟩) (Nat.lt_succ_self _)).trans E1.out
      have e2 := (HS.out.bel.cell (p := ⟨w.heap.size, 2, none⟩) (Nat.lt_succ_self _)).trans E2.out
      go_wp2_with fail
      refine (equalC_any _ _ _ _ _ _ _ HS.out.m HS.out.c (by have := (Nat.le_trans (setL_len_le _ (a1, a2Value)) (Nat.succ_le_succ HLEN.out)); omega) (by have := HLEN.out; omega)).mono ?_
      intro r33 W33 h
      rw [show decide (setL (maL a0v) (a1, a2Value) = maL a0v) = false from ne_of_get a1 (by rw [getL_setL HA.out, if_pos rfl, HG.out]; simp)] at h
      obtain ⟨rfl, b33⟩ := h
      have HS := Lib.hid (HS.out.below b33)
      have e0 := (HS.out.bel.cell (p := ⟨w.heap.size, 0, none⟩) (Nat.lt_succ_self _)).trans E0.out
      have e1 := (HS.out.bel.cell (p := ⟨w.heap.size, 1, none⟩) (Nat.lt_succ_self _)).trans E1.out
      have e2 := (HS.out.bel.cell (p := ⟨w.heap.size, 2, none⟩) (Nat.lt_succ_self _)).trans E2.out
      go_wp2_with fail
      refine (lenC_any _ _ _ _ HS.out.m (by have := (Nat.le_trans (setL_len_le _ (a1, a2Value)) (Nat.succ_le_succ HLEN.out)); omega)).mono ?_
      intro r34 W34 h
      rw [show ((setL (maL a0v) (a1, a2Value)).length : Int) = (maL a0v).length + 1 by have := set_len HA.out a2Value HG.out; omega] at h
      obtain ⟨rfl, b34⟩ := h
      have HS := Lib.hid (HS.out.below b34)
      have e0 := (HS.out.bel.cell (p := ⟨w.heap.size, 0, none⟩) (Nat.lt_succ_self _)).trans E0.out
      have e1 := (HS.out.bel.cell (p := ⟨w.heap.size, 1, none⟩) (Nat.lt_succ_self _)).trans E1.out
      have e2 := (HS.out.bel.cell (p := ⟨w.heap.size, 2, none⟩) (Nat.lt_succ_self _)).trans E2.out
      go_wp2_with fail
      refine (lenC_any _ _ _ _ HS.out.c (by have := HLEN.out; omega)).mono ?_
      intro r35 W35 h
      obtain ⟨rfl, b35⟩ := h
      have HS := Lib.hid (HS.out.below b35)
      have e0 := (HS.out.bel.cell (p := ⟨w.heap.size, 0, none⟩) (Nat.lt_succ_self _)).trans E0.out
      have e1 := (HS.out.bel.cell (p := ⟨w.heap.size, 1, none⟩) (Nat.lt_succ_self _)).trans E1.out
      have e2 := (HS.out.bel.cell (p := ⟨w.heap.size, 2, none⟩) (Nat.lt_succ_self _)).trans E2.out
      go_wp2_with fail
      refine (delC_any _ _ _ a1 _ HS.out.m (setL_asc HA.out _) (setL_bd HBD.out ⟨a1l, a1h, a2Valuel, a2Valueh⟩) (by have := (Nat.le_trans (setL_len_le _ (a1, a2Value)) (Nat.succ_le_succ HLEN.out)); omega) a1l a1h).mono ?_
      intro r36 W36 h
      rw [out_set HA.out a2Value HG.out] at h
      rw [show getL (setL (maL a0v) (a1, a2Value)) a1 = some a2Value by rw [getL_setL HA.out, if_pos rfl]] at h
      unfold pT at h
      obtain ⟨v36, rfl, hS⟩ := HS.out.left h
      have HS := Lib.hid hS; clear hS h
      have e0 := (HS.out.bel.cell (p := ⟨w.heap.size, 0, none⟩) (Nat.lt_succ_self _)).trans E0.out
      have e1 := (HS.out.bel.cell (p := ⟨w.heap.size, 1, none⟩) (Nat.lt_succ_self _)).trans E1.out
      have e2 := (HS.out.bel.cell (p := ⟨w.heap.size, 2, none⟩) (Nat.lt_succ_self _)).trans E2.out
      go_wp2_with fail
      refine (equalC_any _ _ _ _ _ _ _ HS.out.m HS.out.c (by have := HLEN.out; omega) (by have := HLEN.out; omega)).mono ?_
      intro r37 W37 h
      rw [show decide (maL a0v = maL a0v) = true from decide_eq_true rfl] at h
      obtain ⟨rfl, b37⟩ := h
      have HS := Lib.hid (HS.out.below b37)
      have e0 := (HS.out.bel.cell (p := ⟨w.heap.size, 0, none⟩) (Nat.lt_succ_self _)).trans E0.out
      have e1 := (HS.out.bel.cell (p := ⟨w.heap.size, 1, none⟩) (Nat.lt_succ_self _)).trans E1.out
      have e2 := (HS.out.bel.cell (p := ⟨w.heap.size, 2, none⟩) (Nat.lt_succ_self _)).trans E2.out
      go_wp2_with fail
      refine (putAbsC_any _ _ _ a1 a2Value _ HS.out.m HA.out (by have := HLEN.out; omega)).mono ?_
      intro r38 W38 h
      rw [show getL (maL a0v) a1 = none from HG.out] at h
      rw [show paL (maL a0v) none (a1, a2Value) = setL (maL a0v) (a1, a2Value) from rfl] at h
      unfold pT at h
      obtain ⟨v38, rfl, hS⟩ := HS.out.left h
      have HS := Lib.hid hS; clear hS h
      have e0 := (HS.out.bel.cell (p := ⟨w.heap.size, 0, none⟩) (Nat.lt_succ_self _)).trans E0.out
      have e1 := (HS.out.bel.cell (p := ⟨w.heap.size, 1, none⟩) (Nat.lt_succ_self _)).trans E1.out
      have e2 := (HS.out.bel.cell (p := ⟨w.heap.size, 2, none⟩) (Nat.lt_succ_self _)).trans E2.out
      have GC := Lib.hid (show getL (setL (maL a0v) (a1, a2Value)) a1 = some a2Value by rw [getL_setL HA.out, if_pos rfl])
      go_wp2_with fail
      refine (getC_any _ _ _ a1 _ HS.out.m (setL_asc HA.out _) (by have := (Nat.le_trans (setL_len_le _ (a1, a2Value)) (Nat.succ_le_succ HLEN.out)); omega)).mono ?_
      intro r39 W39 h
      rw [show getL (setL (maL a0v) (a1, a2Value)) a1 = some a2Value from GC.out] at h
      unfold gT at h
      obtain ⟨rfl, b39⟩ := h
      have HS := Lib.hid (HS.out.below b39)
      have e0 := (HS.out.bel.cell (p := ⟨w.heap.size, 0, none⟩) (Nat.lt_succ_self _)).trans E0.out
      have e1 := (HS.out.bel.cell (p := ⟨w.heap.size, 1, none⟩) (Nat.lt_succ_self _)).trans E1.out
      have e2 := (HS.out.bel.cell (p := ⟨w.heap.size, 2, none⟩) (Nat.lt_succ_self _)).trans E2.out
      go_wp2_with fail
      refine (casC_any _ _ _ a1 a2Value a2New _ HS.out.m (setL_asc HA.out _) (by have := (Nat.le_trans (setL_len_le _ (a1, a2Value)) (Nat.succ_le_succ HLEN.out)); omega)).mono ?_
      intro r40 W40 h
      rw [show getL (setL (maL a0v) (a1, a2Value)) a1 = some a2Value from GC.out] at h
      rw [casL_yes] at h
      rw [cT_yes] at h
      obtain ⟨v40, rfl, hS⟩ := HS.out.left h
      have HS := Lib.hid hS; clear hS h
      have e0 := (HS.out.bel.cell (p := ⟨w.heap.size, 0, none⟩) (Nat.lt_succ_self _)).trans E0.out
      have e1 := (HS.out.bel.cell (p := ⟨w.heap.size, 1, none⟩) (Nat.lt_succ_self _)).trans E1.out
      have e2 := (HS.out.bel.cell (p := ⟨w.heap.size, 2, none⟩) (Nat.lt_succ_self _)).trans E2.out
      go_wp2_with fail
      refine (getC_any _ _ _ a1 _ HS.out.m (setL_asc (setL_asc HA.out _) _) (by have := (Nat.le_trans (setL_len_le _ (a1, a2New)) (Nat.succ_le_succ (Nat.le_trans (setL_len_le _ (a1, a2Value)) (Nat.succ_le_succ HLEN.out)))); omega)).mono ?_
      intro r41 W41 h
      rw [show getL (setL (setL (maL a0v) (a1, a2Value)) (a1, a2New)) a1 = some a2New by rw [getL_setL (setL_asc HA.out _), if_pos rfl]] at h
      unfold gT at h
      obtain ⟨rfl, b41⟩ := h
      have HS := Lib.hid (HS.out.below b41)
      have e0 := (HS.out.bel.cell (p := ⟨w.heap.size, 0, none⟩) (Nat.lt_succ_self _)).trans E0.out
      have e1 := (HS.out.bel.cell (p := ⟨w.heap.size, 1, none⟩) (Nat.lt_succ_self _)).trans E1.out
      have e2 := (HS.out.bel.cell (p := ⟨w.heap.size, 2, none⟩) (Nat.lt_succ_self _)).trans E2.out
      go_wp2_with fail
      refine (known_any _).mono ?_
      rintro r WK ⟨rfl, bk⟩
      have HS := Lib.hid (HS.out.below bk)
      go_wp2
      go_ret
      exact ⟨rfl, b0.trans (HS.out.bel.mono (Nat.le_succ _))⟩
    · have HNE := Lib.hid ho
      have t3 : (a2Old == a2Value) = false := by simp only [beq_eq_false_iff_ne, ne_eq]; exact fun h => ho h.symm
      clear ho
      go_enter Try.func8, Try.ntmps8
      go_wp2_with fail
      refine (made_any _ _ _ a0v _ HE.out HSZ.out (HR.out.below b0)).mono ?_
      intro r W0 h
      obtain ⟨bm, v, rfl, hs⟩ := Stb.start (B := w.heap.size + 1) (by simp) (by simp) (h.some_ (by have := HE.out; omega))
      have HB := Lib.hid hs; clear hs h
      go_wp2_with fail
      refine (copyC_any _ _ _ _ HB.out.m (by have := HLEN.out; omega)).mono ?_
      intro r W00 h
      obtain ⟨bn, u, rfl, hs⟩ := HB.out.more h
      have HS := Lib.hid hs; clear hs h HB
      go_wp2_with fail
      refine (equalC_any _ _ _ _ _ _ _ HS.out.m HS.out.c (by have := HLEN.out; omega) (by have := HLEN.out; omega)).mono ?_
      intro r42 W42 h
      rw [show decide (maL a0v = maL a0v) = true from decide_eq_true rfl] at h
      obtain ⟨rfl, b42⟩ := h
      have HS := Lib.hid (HS.out.below b42)
      have e0 := (HS.out.bel.cell (p := ⟨w.heap.size, 0, none⟩) (Nat.lt_succ_self _)).trans E0.out
      have e1 := (HS.out.bel.cell (p := ⟨w.heap.size, 1, none⟩) (Nat.lt_succ_self _)).trans E1.out
      have e2 := (HS.out.bel.cell (p := ⟨w.heap.size, 2, none⟩) (Nat.lt_succ_self _)).trans E2.out
      go_wp2_with fail
      refine (equalC_any _ _ _ _ _ _ _ HS.out.c HS.out.m (by have := HLEN.out; omega) (by have := HLEN.out; omega)).mono ?_
      intro r43 W43 h
      rw [show decide (maL a0v = maL a0v) = true from decide_eq_true rfl] at h
      obtain ⟨rfl, b43⟩ := h
      have HS := Lib.hid (HS.out.below b43)
      have e0 := (HS.out.bel.cell (p := ⟨w.heap.size, 0, none⟩) (Nat.lt_succ_self _)).trans E0.out
      have e1 := (HS.out.bel.cell (p := ⟨w.heap.size, 1, none⟩) (Nat.lt_succ_self _)).trans E1.out
      have e2 := (HS.out.bel.cell (p := ⟨w.heap.size, 2, none⟩) (Nat.lt_succ_self _)).trans E2.out
      go_wp2_with fail
      refine (getC_any _ _ _ a1 _ HS.out.m HA.out (by have := HLEN.out; omega)).mono ?_
      intro r44 W44 h
      rw [show getL (maL a0v) a1 = none from HG.out] at h
      unfold gT at h
      obtain ⟨rfl, b44⟩ := h
      have HS := Lib.hid (HS.out.below b44)
      have e0 := (HS.out.bel.cell (p := ⟨w.heap.size, 0, none⟩) (Nat.lt_succ_self _)).trans E0.out
      have e1 := (HS.out.bel.cell (p := ⟨w.heap.size, 1, none⟩) (Nat.lt_succ_self _)).trans E1.out
      have e2 := (HS.out.bel.cell (p := ⟨w.heap.size, 2, none⟩) (Nat.lt_succ_self _)).trans E2.out
      go_wp2_with fail
      refine (putC_any _ _ _ a1 a2Value _ HS.out.m HA.out (by have := HLEN.out; omega)).mono ?_
      intro r45 W45 h
      rw [show getL (maL a0v) a1 = none from HG.out] at h
      unfold pT at h
      obtain ⟨v45, rfl, hS⟩ := HS.out.left h
      have HS := Lib.hid hS; clear hS h
      have e0 := (HS.out.bel.cell (p := ⟨w.heap.size, 0, none⟩) (Nat.lt_succ_self _)).trans E0.out
      have e1 := (HS.out.bel.cell (p := ⟨w.heap.size, 1, none⟩) (Nat.lt_succ_self _)).trans E1.out
      have e2 := (HS.out.bel.cell (p := ⟨w.heap.size, 2, none⟩) (Nat.lt_succ_self _)).trans E2.out
      go_wp2_with fail
      refine (equalC_any _ _ _ _ _ _ _ HS.out.m HS.out.c (by have := (Nat.le_trans (setL_len_le _ (a1, a2Value)) (Nat.succ_le_succ HLEN.out)); omega) (by have := HLEN.out; omega)).mono ?_
      intro r46 W46 h
      rw [show decide (setL (maL a0v) (a1, a2Value) = maL a0v) = false from ne_of_get a1 (by rw [getL_setL HA.out, if_pos rfl, HG.out]; simp)] at h
      obtain ⟨rfl, b46⟩ := h
      have HS := Lib.hid (HS.out.below b46)
      have e0 := (HS.out.bel.cell (p := ⟨w.heap.size, 0, none⟩) (Nat.lt_succ_self _)).trans E0.out
      have e1 := (HS.out.bel.cell (p := ⟨w.heap.size, 1, none⟩) (Nat.lt_succ_self _)).trans E1.out
      have e2 := (HS.out.bel.cell (p := ⟨w.heap.size, 2, none⟩) (Nat.lt_succ_self _)).trans E2.out
      go_wp2_with fail
      refine (lenC_any _ _ _ _ HS.out.m (by have := (Nat.le_trans (setL_len_le _ (a1, a2Value)) (Nat.succ_le_succ HLEN.out)); omega)).mono ?_
      intro r47 W47 h
      rw [show ((setL (maL a0v) (a1, a2Value)).length : Int) = (maL a0v).length + 1 by have := set_len HA.out a2Value HG.out; omega] at h
      obtain ⟨rfl, b47⟩ := h
      have HS := Lib.hid (HS.out.below b47)
      have e0 := (HS.out.bel.cell (p := ⟨w.heap.size, 0, none⟩) (Nat.lt_succ_self _)).trans E0.out
      have e1 := (HS.out.bel.cell (p := ⟨w.heap.size, 1, none⟩) (Nat.lt_succ_self _)).trans E1.out
      have e2 := (HS.out.bel.cell (p := ⟨w.heap.size, 2, none⟩) (Nat.lt_succ_self _)).trans E2.out
      go_wp2_with fail
      refine (lenC_any _ _ _ _ HS.out.c (by have := HLEN.out; omega)).mono ?_
      intro r48 W48 h
      obtain ⟨rfl, b48⟩ := h
      have HS := Lib.hid (HS.out.below b48)
      have e0 := (HS.out.bel.cell (p := ⟨w.heap.size, 0, none⟩) (Nat.lt_succ_self _)).trans E0.out
      have e1 := (HS.out.bel.cell (p := ⟨w.heap.size, 1, none⟩) (Nat.lt_succ_self _)).trans E1.out
      have e2 := (HS.out.bel.cell (p := ⟨w.heap.size, 2, none⟩) (Nat.lt_succ_self _)).trans E2.out
      go_wp2_with fail
      refine (delC_any _ _ _ a1 _ HS.out.m (setL_asc HA.out _) (setL_bd HBD.out ⟨a1l, a1h, a2Valuel, a2Valueh⟩) (by have := (Nat.le_trans (setL_len_le _ (a1, a2Value)) (Nat.succ_le_succ HLEN.out)); omega) a1l a1h).mono ?_
      intro r49 W49 h
      rw [out_set HA.out a2Value HG.out] at h
      rw [show getL (setL (maL a0v) (a1, a2Value)) a1 = some a2Value by rw [getL_setL HA.out, if_pos rfl]] at h
      unfold pT at h
      obtain ⟨v49, rfl, hS⟩ := HS.out.left h
      have HS := Lib.hid hS; clear hS h
      have e0 := (HS.out.bel.cell (p := ⟨w.heap.size, 0, none⟩) (Nat.lt_succ_self _)).trans E0.out
      have e1 := (HS.out.bel.cell (p := ⟨w.heap.size, 1, none⟩) (Nat.lt_succ_self _)).trans E1.out
      have e2 := (HS.out.bel.cell (p := ⟨w.heap.size, 2, none⟩) (Nat.lt_succ_self _)).trans E2.out
      go_wp2_with fail
      refine (equalC_any _ _ _ _ _ _ _ HS.out.m HS.out.c (by have := HLEN.out; omega) (by have := HLEN.out; omega)).mono ?_
      intro r50 W50 h
      rw [show decide (maL a0v = maL a0v) = true from decide_eq_true rfl] at h
      obtain ⟨rfl, b50⟩ := h
      have HS := Lib.hid (HS.out.below b50)
      have e0 := (HS.out.bel.cell (p := ⟨w.heap.size, 0, none⟩) (Nat.lt_succ_self _)).trans E0.out
      have e1 := (HS.out.bel.cell (p := ⟨w.heap.size, 1, none⟩) (Nat.lt_succ_self _)).trans E1.out
      have e2 := (HS.out.bel.cell (p := ⟨w.heap.size, 2, none⟩) (Nat.lt_succ_self _)).trans E2.out
      go_wp2_with fail
      refine (putAbsC_any _ _ _ a1 a2Value _ HS.out.m HA.out (by have := HLEN.out; omega)).mono ?_
      intro r51 W51 h
      rw [show getL (maL a0v) a1 = none from HG.out] at h
      rw [show paL (maL a0v) none (a1, a2Value) = setL (maL a0v) (a1, a2Value) from rfl] at h
      unfold pT at h
      obtain ⟨v51, rfl, hS⟩ := HS.out.left h
      have HS := Lib.hid hS; clear hS h
      have e0 := (HS.out.bel.cell (p := ⟨w.heap.size, 0, none⟩) (Nat.lt_succ_self _)).trans E0.out
      have e1 := (HS.out.bel.cell (p := ⟨w.heap.size, 1, none⟩) (Nat.lt_succ_self _)).trans E1.out
      have e2 := (HS.out.bel.cell (p := ⟨w.heap.size, 2, none⟩) (Nat.lt_succ_self _)).trans E2.out
      have GC := Lib.hid (show getL (setL (maL a0v) (a1, a2Value)) a1 = some a2Value by rw [getL_setL HA.out, if_pos rfl])
      go_wp2_with fail
      refine (getC_any _ _ _ a1 _ HS.out.m (setL_asc HA.out _) (by have := (Nat.le_trans (setL_len_le _ (a1, a2Value)) (Nat.succ_le_succ HLEN.out)); omega)).mono ?_
      intro r52 W52 h
      rw [show getL (setL (maL a0v) (a1, a2Value)) a1 = some a2Value from GC.out] at h
      unfold gT at h
      obtain ⟨rfl, b52⟩ := h
      have HS := Lib.hid (HS.out.below b52)
      have e0 := (HS.out.bel.cell (p := ⟨w.heap.size, 0, none⟩) (Nat.lt_succ_self _)).trans E0.out
      have e1 := (HS.out.bel.cell (p := ⟨w.heap.size, 1, none⟩) (Nat.lt_succ_self _)).trans E1.out
      have e2 := (HS.out.bel.cell (p := ⟨w.heap.size, 2, none⟩) (Nat.lt_succ_self _)).trans E2.out
      go_wp2_with fail
      refine (casC_any _ _ _ a1 a2Old a2New _ HS.out.m (setL_asc HA.out _) (by have := (Nat.le_trans (setL_len_le _ (a1, a2Value)) (Nat.succ_le_succ HLEN.out)); omega)).mono ?_
      intro r53 W53 h
      rw [show getL (setL (maL a0v) (a1, a2Value)) a1 = some a2Value from GC.out] at h
      rw [casL_no _ _ HNE.out] at h
      rw [cT_no HNE.out] at h
      obtain ⟨v53, rfl, hS⟩ := HS.out.left h
      have HS := Lib.hid hS; clear hS h
      have e0 := (HS.out.bel.cell (p := ⟨w.heap.size, 0, none⟩) (Nat.lt_succ_self _)).trans E0.out
      have e1 := (HS.out.bel.cell (p := ⟨w.heap.size, 1, none⟩) (Nat.lt_succ_self _)).trans E1.out
      have e2 := (HS.out.bel.cell (p := ⟨w.heap.size, 2, none⟩) (Nat.lt_succ_self _)).trans E2.out
      go_wp2_with fail
      refine (getC_any _ _ _ a1 _ HS.out.m (setL_asc HA.out _) (by have := (Nat.le_trans (setL_len_le _ (a1, a2Value)) (Nat.succ_le_succ HLEN.out)); omega)).mono ?_
      intro r54 W54 h
      rw [show getL (setL (maL a0v) (a1, a2Value)) a1 = some a2Value from GC.out] at h
      unfold gT at h
      obtain ⟨rfl, b54⟩ := h
      have HS := Lib.hid (HS.out.below b54)
      have e0 := (HS.out.bel.cell (p := ⟨w.heap.size, 0, none⟩) (Nat.lt_succ_self _)).trans E0.out
      have e1 := (HS.out.bel.cell (p := ⟨w.heap.size, 1, none⟩) (Nat.lt_succ_self _)).trans E1.out
      have e2 := (HS.out.bel.cell (p := ⟨w.heap.size, 2, none⟩) (Nat.lt_succ_self _)).trans E2.out
      go_wp2_with fail
      refine (known_any _).mono ?_
      rintro r WK ⟨rfl, bk⟩
      have HS := Lib.hid (HS.out.below bk)
      go_wp2
      go_ret
      exact ⟨rfl, b0.trans (HS.out.bel.mono (Nat.le_succ _))⟩
end Wk
end Go.Proofs.Ythinaablldnikaa
