/- MergeDoes: the walk. Conditions: those of the frame, and Tz. -/
import Derived.Test.YtncjdgijnipfkaaDoorMgG
namespace Go.Proofs.YtncjdgijnipfkaaDoor
open Go.RowKit Go.Sort
set_option linter.unusedVariables false
set_option linter.unusedSimpArgs false
namespace Wk
open Hq
open Om (bel_alloc Pr bel_trans flat)
open Mg (popT Dd BdD1 MrAt Chg)
open Dm (flatI RdK cell_lt)
set_option maxRecDepth 100000 in
set_option maxHeartbeats 8000000 in
theorem walk_mergeDoes (a0 : Int) (a1 : Option Addr) (a1n a1c : Nat) (a1v : List Mg.Dd) (w : World) (a0l : 0 ≤ a0) (a0h : a0 ≤ 18446744073709551615) (a1e : a1v.length = a1n) (a1m : a1n ≤ maxLen) (a1r : Mg.RdD w a1 a1v) (a1b : Mg.BdD a1v) (a1z : a1 = none → a1c = 0) (hT : Dm.Tz w) :
    Calls Tryd.prog 3 #[.int .u64 a0, .slice a1 a1n a1c] w fun e w' => e = .returned (.bool true) ∧ Below w.heap.size w w' := by
  unfold maxLen at a1m
  obtain ⟨S, rfl⟩ : ∃ S : Nat, a0 = S := ⟨a0.toNat, by omega⟩
  have hS : S < 18446744073709551616 := by omega
  have HR := Lib.hid a1r; have HE := Lib.hid a1e; have HB := Lib.hid a1b
  have hw0 : 0 < w.heap.size := cell_lt (hT 0 (by decide))
  have T0 := Lib.hid hT
  clear a1r a1e a1b hT a1z
  by_cases hn : 120 < a1n
  · have t0 : decide (120 < (a1n : Int)) = true := decide_eq_true (by omega)
    have K := Lib.hid (known_any w T0.out)
    go_enter Tryd.func3, Tryd.ntmps3
    go_wp2_with fail
    refine K.out.mono ?_
    rintro r w1 ⟨rfl, bb⟩
    go_wp2_with fail
    go_ret
    exact ⟨rfl, bb⟩
  · have t0 : decide (120 < (a1n : Int)) = false := decide_eq_false (by omega)
    go_enter Tryd.func3, Tryd.ntmps3
    go_wp2_with fail
    refine (new_both S w hS).mono ?_
    rintro r w1 ⟨rfl, sm, bb⟩
    have SM := Lib.hid sm
    have B1 := Lib.hid bb
    clear sm bb
    go_wp2_with fail
    refine (new_ref S w.heap.size w.heap.size w1 hS SM.out B1.out.size).mono ?_
    rintro r w2 ⟨rfl, du, bb⟩
    have DU := Lib.hid du
    have B2 := Lib.hid (bel_trans B1.out bb)
    clear du bb SM
    generalize w1.heap.size = br at *
    clear B1
    go_wp2_with fail
    go_loopw [7] (fun s5 wr => ∃ (i : Nat) (M : Mg.Mg), s5 = .int .i64 i ∧ i ≤ a1n ∧ Du w.heap.size wr w.heap.size br M ∧ Below w.heap.size w wr) (fun s _ => (120 - intOf s).toNat)
    case atStart => exact ⟨0, _, rfl, Nat.zero_le _, DU.out, B2.out⟩
    case round =>
      obtain ⟨i, M, rfl, hi, du, bb⟩ := hrel
      have DU := Lib.hid du
      have BB := Lib.hid bb
      clear du bb
      by_cases hlt : i < a1n
      · have t1 : decide ((i : Int) < (a1n : Int)) = true := decide_eq_true (by omega)
        obtain ⟨x, hx, hxm⟩ : ∃ x, a1v[i]? = some x ∧ x ∈ a1v := ⟨_, List.getElem?_eq_getElem (by have := HE.out; omega), List.getElem_mem _⟩
        obtain ⟨ab, ao, rfl, e0, e1, e2, e3⟩ := (HR.out.below BB.out) i x hx
        have i0 : 0 ≤ (i : Int) := by omega
        have i1 : (i : Int) < (a1n : Int) := by omega
        go_wp2_with fail
        refine (do_any w.heap.size w.heap.size br M wr x DU.out (HB.out x hxm)).mono ?_
        rintro r w3 ⟨rfl, N, du, bb⟩
        have DU := Lib.hid du
        have BB := Lib.hid (BB.out.trans bb)
        have TZ := Lib.hid (T0.out.belowN hw0 BB.out)
        clear du bb e0 e1 e2 e3
        have hbr := DU.out.mr.lt
        have hle := DU.out.le
        go_wp2_with fail
        refine (missS DU.out.sm TZ.out).mono ?_
        rintro r w4 ⟨⟨A, Ac, rfl, hr, ho⟩, hb⟩
        have RA := Lib.hid hr
        have WA := Lib.hid (own_wr ho)
        have G4 := Lib.hid hb
        have la := Mg.missN_len N 64
        clear hr ho hb
        go_wp2_with fail
        refine (listS (DU.out.sm.below G4.out)).mono ?_
        rintro r w5 ⟨⟨L, Lc, rfl, hr, ho⟩, hb⟩
        have RL := Lib.hid hr
        have WL := Lib.hid (own_wr (own_mono ho G4.out.size))
        have RA := Lib.hid (RA.out.below hb)
        have WA := Lib.hid (WA.out.below hb)
        have G5 := Lib.hid (bel_trans G4.out hb)
        have ll := Mg.list_len N
        clear hr ho hb G4
        go_wp2_with fail
        refine (Mg.missingR N br _ (DU.out.mr.below G5.out)).mono ?_
        rintro r w6 ⟨⟨v, rfl, ho⟩, hb⟩
        obtain ⟨_, A', c', rfl, hr'⟩ := Dm.row_rd ho
        have RL := Lib.hid (RL.out.below hb)
        have WL := Lib.hid (WL.out.below hb)
        have RA := Lib.hid (RA.out.below hb)
        have WA := Lib.hid (WA.out.below hb)
        have G6 := Lib.hid (bel_trans G5.out hb)
        have RA2 := Lib.hid hr'
        clear ho hb hr' G5
        go_wp2_with fail
        refine (same_i _ Ac _ c' true rfl rfl la la RA.out RA2.out (decide_eq_true rfl)).mono ?_
        rintro r w7 ⟨rfl, hb⟩
        have RL := Lib.hid (RL.out.below hb)
        have WL := Lib.hid (WL.out.below hb)
        have WA := Lib.hid (WA.out.below hb)
        have G7 := Lib.hid (bel_trans G6.out hb)
        clear hb RA RA2 G6
        go_wp2_with fail
        refine (Mg.listR N br _ (DU.out.mr.below G7.out) DU.out.sm.inv).mono ?_
        rintro r w8 ⟨v, rfl, ho, hb⟩
        obtain ⟨_, L', d', rfl, _, hr', _⟩ := Om.row_form ho
        have RL := Lib.hid (RL.out.below hb)
        have WL := Lib.hid (WL.out.below hb)
        have WA := Lib.hid (WA.out.below hb)
        have G8 := Lib.hid (bel_trans G7.out hb)
        have RL2 := Lib.hid hr'
        clear ho hb hr' G7
        go_wp2_with fail
        refine (same_p _ Lc _ d' true rfl rfl ll ll RL.out RL2.out (decide_eq_true rfl)).mono ?_
        rintro r w9 ⟨rfl, hb⟩
        have WL := Lib.hid (WL.out.below hb)
        have WA := Lib.hid (WA.out.below hb)
        have G9 := Lib.hid (bel_trans G8.out hb)
        clear hb RL RL2 G8
        go_wp2_with fail
        generalize hna : (N.missN 64).length = na at *
        generalize hnl : N.list.length = nl at *
        go_loopw [10] (fun s wk => ∃ k : Nat, s = .int .i64 k ∧ k ≤ na ∧ Wr w3.heap.size wk A (na * 1) ∧ Wr w3.heap.size wk L (nl * 2) ∧ Below w3.heap.size w3 wk) (fun s _ => (64 - intOf s).toNat)
        case atStart => exact ⟨0, rfl, Nat.zero_le _, WA.out, WL.out, G9.out⟩
        case round =>
          obtain ⟨k, rfl, hk, wa, wl, g⟩ := hrel
          have WA := Lib.hid wa
          have WL := Lib.hid wl
          have GK := Lib.hid g
          clear wa wl g
          by_cases hlk : k < na
          · have t2 : decide ((k : Int) < (na : Int)) = true := decide_eq_true (by omega)
            obtain ⟨ga, rfl, hga, ⟨va, hva⟩, hfa⟩ := WA.out k (by omega)
            have j0 : 0 ≤ (k : Int) := by omega
            have j1 : (k : Int) < (na : Int) := by omega
            have NX := Lib.hid (WA.out.set ga k (.int .i64 (-1)))
            have NL := Lib.hid (WL.out.set ga k (.int .i64 (-1)))
            have NG := Lib.hid (bel_set GK.out hga k (.int .i64 (-1)))
            go_wp2_with fail
            go_roundw
            case rel => exact ⟨k + 1, by go_num, by omega, NX.out, NL.out, NG.out⟩
            case measure => simp [intOf]; omega
          · have t2 : decide ((k : Int) < (na : Int)) = false := decide_eq_false (by omega)
            go_wp2_with fail
            go_loopw [11] (fun s wk => ∃ k : Nat, s = .int .i64 k ∧ k ≤ nl ∧ Wr w3.heap.size wk L (nl * 2) ∧ Below w3.heap.size w3 wk) (fun s _ => (64 - intOf s).toNat)
            case atStart => exact ⟨0, rfl, Nat.zero_le _, WL.out, GK.out⟩
            case round =>
              obtain ⟨k, rfl, hk, wl, g⟩ := hrel
              have WL := Lib.hid wl
              have GK := Lib.hid g
              clear wl g
              by_cases hlk : k < nl
              · have t2 : decide ((k : Int) < (nl : Int)) = true := decide_eq_true (by omega)
                obtain ⟨gl, rfl, hgl, ⟨v0, hv0⟩, hf0⟩ := WL.out (k * 2) (by omega)
                obtain ⟨gl', eg, _, ⟨v1, hv1⟩, hf1⟩ := WL.out (k * 2 + 1) (by omega)
                injection eg with eg
                injection eg with eg
                subst eg
                have j0 : 0 ≤ (k : Int) := by omega
                have j1 : (k : Int) < (nl : Int) := by omega
                have NL := Lib.hid ((WL.out.set gl (k * 2) (.int .u64 0)).set gl (k * 2 + 1) (.int .u64 0))
                have NG := Lib.hid (bel_set (bel_set GK.out hgl (k * 2) (.int .u64 0)) hgl (k * 2 + 1) (.int .u64 0))
                go_wp2_with fail
                go_roundw
                case rel => exact ⟨k + 1, by go_num, by omega, NL.out, NG.out⟩
                case measure => simp [intOf]; omega
              · have t2 : decide ((k : Int) < (nl : Int)) = false := decide_eq_false (by omega)
                have DK := Lib.hid (DU.out.below GK.out)
                have BK := Lib.hid (BB.out.trans (GK.out.mono (show w.heap.size ≤ w3.heap.size by omega)))
                go_wp2_with fail
                go_roundw
                case rel => exact ⟨i + 1, N, by go_num, by omega, DK.out, BK.out⟩
                case measure => simp [intOf]; omega
      · have t1 : decide ((i : Int) < (a1n : Int)) = false := decide_eq_false (by omega)
        have TZ := Lib.hid (T0.out.belowN hw0 BB.out)
        go_wp2_with fail
        refine (missS DU.out.sm TZ.out).mono ?_
        rintro r w3 ⟨⟨A, c, rfl, hr, _⟩, hb⟩
        have HA := Lib.hid hr
        have D3 := Lib.hid (DU.out.below hb)
        have B3 := Lib.hid (BB.out.trans (hb.mono BB.out.size))
        clear hr hb
        go_wp2_with fail
        refine (Mg.missingR M br _ D3.out.mr).mono ?_
        rintro r w4 ⟨⟨v, rfl, ho⟩, hb⟩
        obtain ⟨_, A', c', rfl, hr'⟩ := Dm.row_rd ho
        have HA2 := Lib.hid hr'
        have HA := Lib.hid (HA.out.below hb)
        have B4 := Lib.hid (B3.out.trans (hb.mono B3.out.size))
        have hl := Mg.missN_len M 64
        clear hr' hb ho
        go_wp2_with fail
        refine (same_i _ c _ c' true rfl rfl hl hl HA.out HA2.out (decide_eq_true rfl)).mono ?_
        rintro r w5 ⟨rfl, hb⟩
        have B5 := Lib.hid (B4.out.trans (hb.mono B4.out.size))
        clear hb
        go_wp2_with fail
        go_ret
        exact ⟨rfl, B5.out⟩
end Wk
end Go.Proofs.YtncjdgijnipfkaaDoor
