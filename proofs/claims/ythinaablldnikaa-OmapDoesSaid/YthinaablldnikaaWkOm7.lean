/- The walk of the law OmapDoes (written by tools/mk8om.py), from XWkOm6 (a deed on two maps) and the contracts of package omap and of leapfrogref05. Conditions: those of the contracts. -/
import Derived.Test.YthinaablldnikaaWkOm6
import Derived.Test.YthinaablldnikaaOmJ
namespace Go.Proofs.Ythinaablldnikaa
open Go.RowKit Go.Sort
set_option linter.unusedVariables false
set_option linter.unusedSimpArgs false
namespace Wk
open Om
set_option maxRecDepth 100000 in
set_option maxHeartbeats 2000000 in
theorem walk_omapDoes (a0 : Option Addr) (a0n a0c : Nat) (a0v : List Om.Pr) (a1 : Option Addr) (a1n a1c : Nat) (a1v : List Om.Dd) (w : World) (a0e : a0v.length = a0n) (a0m : a0n ≤ maxLen) (a0r : Om.Rd w a0 a0v) (a0b : Om.Bd a0v) (a0z : a0 = none → a0c = 0) (a0s : a0n * 16 ≤ 140737488351232) (a1e : a1v.length = a1n) (a1m : a1n ≤ maxLen) (a1r : Om.RdD w a1 a1v) (a1b : Om.BdD a1v) (a1z : a1 = none → a1c = 0) :
    Calls Try.prog 3 #[.slice a0 a0n a0c, .slice a1 a1n a1c] w fun e w' => e = .returned (.bool true) ∧ Below w.heap.size w w' := by
  have HE := Lib.hid a0e; clear a0e
  have HR := Lib.hid a0r; clear a0r
  have HE1 := Lib.hid a1e; clear a1e
  have HR1 := Lib.hid a1r; clear a1r
  have HB1 := Lib.hid a1b; clear a1b
  have HB0 := Lib.hid a0b; clear a0b
  clear a0z a1z a0m a1m a0s
  by_cases h1 : 40 < a0n
  · have t1 : decide (40 < (a0n : Int)) = true := decide_eq_true (by omega)
    go_enter Try.func3, Try.ntmps3
    go_wp2_with fail
    refine (known_any _).mono ?_
    rintro r W1 ⟨rfl, b2⟩
    go_wp2
    go_ret
    exact ⟨rfl, b2⟩
  have t1 : decide (40 < (a0n : Int)) = false := decide_eq_false (by omega)
  by_cases h2 : 60 < a1n
  · have t2 : decide (60 < (a1n : Int)) = true := decide_eq_true (by omega)
    go_enter Try.func3, Try.ntmps3
    go_wp2_with fail
    refine (known_any _).mono ?_
    rintro r W1 ⟨rfl, b2⟩
    go_wp2
    go_ret
    exact ⟨rfl, b2⟩
  have t2 : decide (60 < (a1n : Int)) = false := decide_eq_false (by omega)
  have hz1 : (a1n : Int) ≤ 60 := by omega
  go_enter Try.func3, Try.ntmps3
  go_wp2_with fail
  refine (newC_any a0 a0n a0c a0v w HE.out (by omega) HR.out).mono ?_
  intro r W0 h
  unfold NPost at h
  by_cases ok : okN a0v a0v.length = true
  · rw [if_pos ok] at h
    obtain ⟨bm, v, rfl, hm, hb, hf, b⟩ := h
    have HS := Lib.hid (show Stb w.heap.size w W0 bm v (nwL a0v) from ⟨hm, hb, hf, Nat.le_refl _, b⟩)
    have HR := Lib.hid (HR.out.below b)
    clear hm hb hf b
    go_wp2_with fail
    refine (newR_any a0 a0n a0c a0v W0 HE.out (by omega) HR.out).mono ?_
    intro r W1 h
    unfold NPost at h
    rw [if_pos ok] at h
    obtain ⟨bn, u, rfl, hm', hb', hf', b'⟩ := h
    obtain ⟨bn', u', e, hs⟩ := HS.out.more (e := .returned (.pointer (some ⟨bn, 0, none⟩))) ⟨bn, u, rfl, hm', hb', hf', b'⟩
    cases e
    clear HS HR hm' hb' hf' b' u
    have HS := Lib.hid hs; clear hs
    have HL := Lib.hid (show (nwL a0v).length ≤ 40 by have := nwL_len a0v; have := HE.out; omega)
    have HB := Lib.hid (show Bd (nwL a0v) from fun x hx => by rcases mem_setA a0v [] x hx with h | h; cases h; exact HB0.out x h)
    have HA := Lib.hid (nwL_asc a0v)
    clear HB0 HE ok t1 t2
    go_wp2
    go_loopw [9] (fun i wr => ∃ (k : Nat) (v u : Value) (l : List Pr), k ≤ a1n ∧ i = .int .i64 (k : Int) ∧ Sta w.heap.size w wr bm v l bn u l ∧ Asc l ∧ Bd l ∧ l.length ≤ 40 + k) (fun i _ => a1n - (intOf i).toNat)
    case atStart => exact ⟨0, v, u', nwL a0v, Nat.zero_le _, rfl, HS.out, HA.out, HB.out, HL.out⟩
    case round =>
      clear HS HL HB HA
      obtain ⟨k, v, u, l, hk, rfl, hs, ha, hb, hl⟩ := hrel
      have HS := Lib.hid hs; clear hs
      by_cases hlt : k < a1n
      · have u0 : decide ((k : Int) < a1n) = true := decide_eq_true (by omega)
        have hki : (k : Int) < a1n := by omega
        have hkl : k < a1v.length := by have := HE1.out; omega
        obtain ⟨x, hx⟩ : ∃ x, a1v[k]? = some x := ⟨_, List.getElem?_eq_getElem hkl⟩
        have BX := Lib.hid (HB1.out x (List.mem_of_getElem? hx))
        obtain ⟨b, o, rfl, c0, c1, c2, c3, c4⟩ := (HR1.out.below HS.out.bel) k x hx
        clear hx hkl
        have HL := Lib.hid (show l.length ≤ 900 by omega)
        have HM := Lib.hid (show l.length ≤ 40 + k from hl)
        have HA := Lib.hid ha; have HB := Lib.hid hb
        clear ha hb hl
        go_wp2_with fail
        refine (do_any w.heap.size bm bn v u l w wr x HS.out HA.out HB.out HL.out BX.out).mono ?_
        rintro r W2 ⟨rfl, v2, u2, l2, hs, ha, hb, hl⟩
        have HS := Lib.hid hs; have HA := Lib.hid ha; have HB := Lib.hid hb
        have HM := Lib.hid (show l2.length ≤ 40 + k + 1 by have := HM.out; omega)
        have HL := Lib.hid (show l2.length ≤ 1000 by have := HM.out; omega)
        clear c0 c1 c2 c3 c4 hs ha hb hl
        go_wp2_with fail
        refine (pairsC_any _ _ l2 _ HS.out.m HL.out).mono ?_
        rintro r W3 ⟨p, rfl, hq, b⟩
        obtain ⟨_, Ap, np, rfl, _, rd, _⟩ := row_form hq
        have HS := Lib.hid (HS.out.below b)
        have RP := Lib.hid rd; clear rd hq b
        go_wp2_with fail
        refine (pairsR_any _ _ l2 _ HS.out.c HL.out).mono ?_
        rintro r W4 ⟨q, rfl, hq, b⟩
        obtain ⟨_, Aq, nq, rfl, _, rd, _⟩ := row_form hq
        have HS := Lib.hid (HS.out.below b)
        have RP := Lib.hid (RP.out.below b); have RQ := Lib.hid rd; clear rd hq b
        go_wp2_with fail
        refine (sameR_any _ _ _ _ _ _ l2 l2 _ rfl rfl (by have := HL.out; omega) (by have := HL.out; omega) RP.out RQ.out).mono ?_
        rw [show decide (l2 = l2) = true from decide_eq_true rfl]
        rintro r W5 ⟨rfl, b⟩
        have HS := Lib.hid (HS.out.below b); clear b RP RQ
        go_wp2_with fail
        refine (lenC_any _ _ l2 _ HS.out.m HL.out).mono ?_
        rintro r W6 ⟨rfl, b⟩
        have HS := Lib.hid (HS.out.below b); clear b
        go_wp2_with fail
        refine (pairsR_any _ _ l2 _ HS.out.c HL.out).mono ?_
        rintro r W7 ⟨q2, rfl, hq, b⟩
        obtain ⟨_, Aq2, nq2, rfl, _, rd, _⟩ := row_form hq
        have HS := Lib.hid (HS.out.below b)
        clear rd hq b
        go_wp2
        go_roundw
        case rel => exact ⟨k + 1, v2, u2, l2, by omega, by go_num, HS.out, HA.out, HB.out, HM.out⟩
        case measure => simp [intOf]; omega
      · obtain rfl : k = a1n := by omega
        have u0 : decide ((k : Int) < k) = false := decide_eq_false (by omega)
        have bel := HS.out.bel
        clear ha hb hl
        go_wp2
        go_ret
        exact ⟨rfl, bel⟩
  · rw [if_neg ok] at h
    obtain ⟨rfl, b⟩ := h
    have HR := Lib.hid (HR.out.below b)
    go_wp2_with fail
    refine (newR_any a0 a0n a0c a0v W0 HE.out (by omega) HR.out).mono ?_
    intro r W1 h
    unfold NPost at h
    rw [if_neg ok] at h
    obtain ⟨rfl, b'⟩ := h
    have BL := Lib.hid (bel_trans b b'); clear b b' HR HB0 HE ok t1 t2
    go_wp2
    go_loopw [9] (fun i wr => ∃ k : Nat, k ≤ a1n ∧ i = .int .i64 (k : Int) ∧ Below w.heap.size w wr) (fun i _ => a1n - (intOf i).toNat)
    case atStart => exact ⟨0, Nat.zero_le _, rfl, BL.out⟩
    case round =>
      clear BL
      obtain ⟨k, hk, rfl, bl⟩ := hrel
      have BL := Lib.hid bl; clear bl
      by_cases hlt : k < a1n
      · have u0 : decide ((k : Int) < a1n) = true := decide_eq_true (by omega)
        have hki : (k : Int) < a1n := by omega
        have hkl : k < a1v.length := by have := HE1.out; omega
        obtain ⟨x, hx⟩ : ∃ x, a1v[k]? = some x := ⟨_, List.getElem?_eq_getElem hkl⟩
        have BX := Lib.hid (HB1.out x (List.mem_of_getElem? hx))
        obtain ⟨b, o, rfl, c0, c1, c2, c3, c4⟩ := (HR1.out.below BL.out) k x hx
        clear hx hkl
        go_wp2_with fail
        refine (do_nil wr x BX.out).mono ?_
        rintro r W2 ⟨rfl, b2⟩
        have BL := Lib.hid (bel_trans BL.out b2); clear b2 c0 c1 c2 c3 c4
        go_wp2_with fail
        refine (pairsC_nil _).mono ?_
        rintro r W3 ⟨rfl, rfl⟩
        go_wp2_with fail
        refine (pairsR_nil _).mono ?_
        rintro r W4 ⟨rfl, rfl⟩
        go_wp2_with fail
        refine (sameR_any none none 0 0 0 0 [] [] _ rfl rfl (by simp) (by simp) (rd_nil _ _) (rd_nil _ _)).mono ?_
        rw [show decide (([] : List Pr) = []) = true from decide_eq_true rfl]
        rintro r W5 ⟨rfl, b5⟩
        have BL := Lib.hid (bel_trans BL.out b5); clear b5
        go_wp2_with fail
        refine (lenC_nil _).mono ?_
        rintro r W6 ⟨rfl, b6⟩
        have BL := Lib.hid (bel_trans BL.out b6); clear b6
        go_wp2_with fail
        refine (pairsR_nil _).mono ?_
        rintro r W7 ⟨rfl, rfl⟩
        go_wp2
        go_roundw
        case rel => exact ⟨k + 1, by omega, by go_num, BL.out⟩
        case measure => simp [intOf]; omega
      · obtain rfl : k = a1n := by omega
        have u0 : decide ((k : Int) < k) = false := decide_eq_false (by omega)
        have bel := BL.out
        go_wp2
        go_ret
        exact ⟨rfl, bel⟩
end Wk
end Go.Proofs.Ythinaablldnikaa
