/- LayoutPlaces: the walk. Conditions: those of the arguments' kinds. Written by tools/mk9places.py. -/
import Derived.Test.YthmadcjkodfdeaaLrW
import Derived.Test.YthmadcjkodfdeaaLrF
import Derived.Test.YthmadcjkodfdeaaLyAs
import Derived.Test.YthmadcjkodfdeaaLyK
import Derived.Test.YthmadcjkodfdeaaLyL
import Derived.Test.YthmadcjkodfdeaaLyP
import Derived.Test.YthmadcjkodfdeaaLyQ
import Derived.WalkSpells
import Derived.Lib.QuietBelow
import Derived.BigQuiet
namespace Go.Proofs.Ythmadcjkodfdeaa
open Go.RowKit Go.Sort
set_option linter.unusedVariables false
set_option linter.unusedSimpArgs false
namespace Wk
open Ly
open Dm (RdK BdU dmB dmE dmN bel_alloc bel_trans cell_lt)
theorem hg_fm (g : Ge) (x : Int) : ∃ p q : Int, hgE g x = .tuple #[.int .i64 p, .int .i64 q] := by
  unfold hgE
  split
  · exact ⟨_, _, rfl⟩
  · exact ⟨_, _, rfl⟩
set_option maxRecDepth 100000 in
set_option maxHeartbeats 4000000 in
theorem walk_layoutPlaces (a0 : Ly.Cf) (a0v : List Int) (a1 : Option Addr) (a1n a1c : Nat) (a1v : List Ly.Ak) (w : World) (a0b : a0.Bd a0v) (a0r : Dm.RdK .u64 w a0.A a0v) (a0y : a0.m ≤ a0.c ∧ a0.c ≤ maxLen) (a1e : a1v.length = a1n) (a1m : a1n ≤ maxLen) (a1r : Ly.RdQ w a1 a1v) (a1b : Ly.BdQ a1v) (a1z : a1 = none → a1c = 0) :
    Calls Try.prog 4 #[.agg #[.int .i64 a0.th, .int .i64 a0.sl, .int .u8 a0.en, .int .i64 a0.bu, .int .u8 a0.k, .int .i64 a0.n, .slice a0.A a0.m a0.c, .int .i64 (a0.t 0), .int .i64 (a0.t 1), .int .i64 (a0.t 2), .int .i64 (a0.t 3), .int .i64 (a0.t 4), .int .i64 (a0.t 5), .int .i64 a0.lo, .int .i64 a0.tr, .int .i64 a0.ba], .slice a1 a1n a1c] w fun e w' => e = .returned (.bool true) ∧ Below w.heap.size w w' := by
  have HBd := Lib.hid a0b
  have HR := Lib.hid a0r
  have HQ := Lib.hid a1r
  have HQB := Lib.hid a1b
  have HQE := Lib.hid a1e
  have BX := Lib.hid (bel_alloc (Below.refl w.heap.size w) (.cells #[.int .i64 a0.th, .int .i64 a0.sl, .int .u8 a0.en, .int .i64 a0.bu, .int .u8 a0.k, .int .i64 a0.n, .slice a0.A a0.m a0.c, .int .i64 (a0.t 0), .int .i64 (a0.t 1), .int .i64 (a0.t 2), .int .i64 (a0.t 3), .int .i64 (a0.t 4), .int .i64 (a0.t 5), .int .i64 a0.lo, .int .i64 a0.tr, .int .i64 a0.ba] 27))
  have CF0 := Lib.hid (CfB.made w a0 27)
  clear a0b a0r a0y a1r a1b a1e a1m a1z
  by_cases hA : (a1n : Int) > 50
  · have e1 : decide ((a1n : Int) > 50) = true := decide_eq_true hA
    go_enter Try.func4, Try.ntmps4
    go_wp2
    go_ret
    exact ⟨rfl, BX.out⟩
  have e1 : decide ((a1n : Int) > 50) = false := decide_eq_false hA
  have hn50 : a1n ≤ 50 := by omega
  by_cases hM : (a0.m : Int) > 100
  · have e2 : decide ((a0.m : Int) > 100) = true := decide_eq_true hM
    have c6 := CF0.out.c6
    go_enter Try.func4, Try.ntmps4
    go_wp2
    go_ret
    exact ⟨rfl, BX.out⟩
  have e2 : decide ((a0.m : Int) > 100) = false := decide_eq_false hM
  have c6 := CF0.out.c6
  cases hok : okB a0 a0v with
  | false =>
    have HN := Lib.hid (show ∀ W, NewPost a0 a0v W = fun e w' => e = .returned (.tuple #[.pointer none, .int .i64 2]) ∧ Below W.heap.size W w' from fun W => by unfold NewPost; rw [hok]; rfl)
    have HM := Lib.hid (show ∀ W, NewRPost a0 a0v W = fun e w' => e = .returned (.tuple #[.pointer none, .int .i64 2]) ∧ Below W.heap.size W w' from fun W => by unfold NewRPost; rw [hok]; rfl)
    clear hok
    go_enter Try.func4, Try.ntmps4
    go_wp2_with (first | (refine ld_cfg rfl (.tmp 2) rfl w.heap.size a0 CF0.out rfl ?_))
    refine (new_any a0 a0v _ HBd.out (HR.out.below BX.out)).mono ?_
    rw [HN.out]
    rintro e w3 ⟨rfl, b3⟩
    have CF3 := Lib.hid (CF0.out.below b3)
    have BW3 := Lib.hid (bel_trans BX.out b3)
    clear b3 CF0 c6
    go_wp2_with (first | (refine ld_cfg rfl (.tmp 2) rfl w.heap.size a0 CF3.out rfl ?_))
    refine (newR_any a0 a0v _ HBd.out (HR.out.below BW3.out)).mono ?_
    rw [HM.out]
    rintro e w4 ⟨rfl, b4⟩
    go_wp2
    go_ret
    exact ⟨rfl, bel_trans BW3.out b4⟩
  | true =>
    have HN := Lib.hid (show ∀ W, NewPost a0 a0v W = fun e w' => ∃ b A c, e = .returned (.tuple #[.pointer (some ⟨b, 0, none⟩), .int .i64 0]) ∧ W.heap.size ≤ b ∧ LyAt w' b (a0.cut A c) a0v (geo a0 a0v) ∧ (A = none → c = 0) ∧ (∀ a, A = some a → W.heap.size ≤ a.block) ∧ Below W.heap.size W w' from fun W => by unfold NewPost; rw [hok]; rfl)
    have HM := Lib.hid (show ∀ W, NewRPost a0 a0v W = fun e w' => ∃ b, e = .returned (.tuple #[.pointer (some ⟨b, 0, none⟩), .int .i64 0]) ∧ W.heap.size ≤ b ∧ RAt w' b (geo a0 a0v) ∧ Below W.heap.size W w' from fun W => by unfold NewRPost; rw [hok]; rfl)
    have HGO := Lib.hid (nums hok).ok
    obtain ⟨g, hg⟩ : ∃ g, geo a0 a0v = g := ⟨_, rfl⟩
    rw [hg] at HN HM HGO
    clear hok hg
    go_enter Try.func4, Try.ntmps4
    go_wp2_with (first | (refine ld_cfg rfl (.tmp 2) rfl w.heap.size a0 CF0.out rfl ?_))
    refine (new_any a0 a0v _ HBd.out (HR.out.below BX.out)).mono ?_
    rw [HN.out]
    rintro e w3 ⟨bl, A3, c3, rfl, _, ly3, _, _, b3⟩
    have CF3 := Lib.hid (CF0.out.below b3)
    have BW3 := Lib.hid (bel_trans BX.out b3)
    have LY3 := Lib.hid ly3
    clear b3 CF0 c6 ly3
    go_wp2_with (first | (refine ld_cfg rfl (.tmp 2) rfl w.heap.size a0 CF3.out rfl ?_))
    refine (newR_any a0 a0v _ HBd.out (HR.out.below BW3.out)).mono ?_
    rw [HM.out]
    rintro e w4 ⟨br, rfl, _, ra4, b4⟩
    have BW4 := Lib.hid (bel_trans BW3.out b4)
    have LY4 := Lib.hid (LY3.out.below b4)
    have RA4 := Lib.hid ra4
    clear b4 CF3 BW3 LY3 ra4 e2 e1
    go_wp2_with fail
    go_loopw [9] (fun v wr => ∃ i : Nat, i ≤ a1n ∧ v = .int .i64 i ∧ Below w4.heap.size w4 wr) (fun v _ => a1n - (intOf v).toNat)
    case atStart => exact ⟨0, Nat.zero_le _, rfl, Below.refl _ _⟩
    case round =>
      obtain ⟨i, hi, rfl, bel⟩ := hrel
      have BE := Lib.hid bel
      clear bel
      by_cases hin : i < a1n
      · have d0 : decide ((i : Int) < a1n) = true := decide_eq_true (by omega)
        have i1 : (i : Int) < a1n := by omega
        have hil : i < a1v.length := by rw [HQE.out]; exact hin
        obtain ⟨x, hx⟩ : ∃ x, a1v[i]? = some x := ⟨_, List.getElem?_eq_getElem hil⟩
        have BXX := Lib.hid (HQB.out x (List.mem_of_getElem? hx))
        obtain ⟨ba, oa, rfl, q0, q1, q2, q3, q4⟩ := (HQ.out.below (bel_trans BW4.out BE.out)) i x hx
        obtain ⟨wb, hwb⟩ : ∃ wb : World, wb = wr.alloc (.cells #[.int .i64 x.d, .int .i64 x.k, .int .i64 x.h, .int .i64 x.v, .int .i64 x.b] 51) := ⟨_, rfl⟩
        have NB := Lib.hid (show wb.heap[wr.heap.size]? = some (.cells #[.int .i64 x.d, .int .i64 x.k, .int .i64 x.h, .int .i64 x.v, .int .i64 x.b] 51) from by rw [hwb]; exact heap_new _ _)
        have B40 := Lib.hid (show Below w4.heap.size w4 wb from by rw [hwb]; exact BE.out.trans ((bel_alloc (Below.refl _ _) _).mono BE.out.size))
        have hlt : wr.heap.size < wb.heap.size := by rw [hwb, World.size_alloc]; omega
        clear hx
        go_upto_region 13 with fail
        rw [← hwb]
        obtain ⟨B, hB⟩ : ∃ B, wr.heap.size = B := ⟨_, rfl⟩
        rw [hB] at NB hlt ⊢
        have LY := Lib.hid (LY4.out.below B40.out)
        have RA := Lib.hid (RA4.out.below B40.out)
        have K0 := Lib.hid (Below.refl wb.heap.size wb)
        clear hwb hB q0 q1 q2 q3 q4
        obtain ⟨p0, r0, hp0⟩ := hg_fm g x.k
        have HP0 := Lib.hid hp0
        clear hp0
        have s0 : (p0 != p0) = false := by simp
        have t0 : (r0 != r0) = false := by simp
        have y1 := (K0.out.cell (p := ⟨B, 1, none⟩) hlt).trans (cell_of (j := 1) NB.out rfl)
        go_wp2_with fail
        refine (height_any (LY.out.below K0.out) HGO.out x.k).mono ?_
        rw [HP0.out]
        rintro e v1 ⟨rfl, b1⟩
        have K1 := Lib.hid (K0.out.trans (b1.mono K0.out.size))
        clear b1 K0 y1
        have y1 := (K1.out.cell (p := ⟨B, 1, none⟩) hlt).trans (cell_of (j := 1) NB.out rfl)
        go_wp2_with fail
        refine (heightR_any (RA.out.below K1.out) HGO.out x.k BXX.out.k).mono ?_
        rw [HP0.out]
        rintro e v2 ⟨rfl, b2⟩
        have K2 := Lib.hid (K1.out.trans (b2.mono K1.out.size))
        clear b2 K1 y1
        obtain ⟨p1, r1, hp1⟩ := resp_fm (wdO g x.k x.h)
        have HP1 := Lib.hid hp1
        clear hp1
        have s1 : (p1 != p1) = false := by simp
        have t1 : (r1 != r1) = false := by simp
        have y1 := (K2.out.cell (p := ⟨B, 1, none⟩) hlt).trans (cell_of (j := 1) NB.out rfl)
        have y2 := (K2.out.cell (p := ⟨B, 2, none⟩) hlt).trans (cell_of (j := 2) NB.out rfl)
        go_wp2_with fail
        refine (word_any (LY.out.below K2.out) HGO.out x.k x.h).mono ?_
        rw [HP1.out]
        rintro e v3 ⟨rfl, b3⟩
        have K3 := Lib.hid (K2.out.trans (b3.mono K2.out.size))
        clear b3 K2 y1 y2
        have y1 := (K3.out.cell (p := ⟨B, 1, none⟩) hlt).trans (cell_of (j := 1) NB.out rfl)
        have y2 := (K3.out.cell (p := ⟨B, 2, none⟩) hlt).trans (cell_of (j := 2) NB.out rfl)
        go_wp2_with fail
        refine (wordR_any (RA.out.below K3.out) HGO.out x.k x.h).mono ?_
        rw [HP1.out]
        rintro e v4 ⟨rfl, b4⟩
        have K4 := Lib.hid (K3.out.trans (b4.mono K3.out.size))
        clear b4 K3 y1 y2
        obtain ⟨p2, r2, hp2⟩ := resp_fm (nxO g x.b x.v)
        have HP2 := Lib.hid hp2
        clear hp2
        have s2 : (p2 != p2) = false := by simp
        have t2 : (r2 != r2) = false := by simp
        have y4 := (K4.out.cell (p := ⟨B, 4, none⟩) hlt).trans (cell_of (j := 4) NB.out rfl)
        have y3 := (K4.out.cell (p := ⟨B, 3, none⟩) hlt).trans (cell_of (j := 3) NB.out rfl)
        go_wp2_with fail
        refine (next_any (LY.out.below K4.out) HGO.out x.b x.v BXX.out.b).mono ?_
        rw [HP2.out]
        rintro e v5 ⟨rfl, b5⟩
        have K5 := Lib.hid (K4.out.trans (b5.mono K4.out.size))
        clear b5 K4 y4 y3
        have y4 := (K5.out.cell (p := ⟨B, 4, none⟩) hlt).trans (cell_of (j := 4) NB.out rfl)
        have y3 := (K5.out.cell (p := ⟨B, 3, none⟩) hlt).trans (cell_of (j := 3) NB.out rfl)
        go_wp2_with fail
        refine (nextR_any (RA.out.below K5.out) HGO.out x.b x.v BXX.out.b).mono ?_
        rw [HP2.out]
        rintro e v6 ⟨rfl, b6⟩
        have K6 := Lib.hid (K5.out.trans (b6.mono K5.out.size))
        clear b6 K5 y4 y3
        obtain ⟨p3, r3, hp3⟩ := resp_fm (ltO g x.b)
        have HP3 := Lib.hid hp3
        clear hp3
        have s3 : (p3 != p3) = false := by simp
        have t3 : (r3 != r3) = false := by simp
        have y4 := (K6.out.cell (p := ⟨B, 4, none⟩) hlt).trans (cell_of (j := 4) NB.out rfl)
        go_wp2_with fail
        refine (latch_any (LY.out.below K6.out) HGO.out x.b BXX.out.b).mono ?_
        rw [HP3.out]
        rintro e v7 ⟨rfl, b7⟩
        have K7 := Lib.hid (K6.out.trans (b7.mono K6.out.size))
        clear b7 K6 y4
        have y4 := (K7.out.cell (p := ⟨B, 4, none⟩) hlt).trans (cell_of (j := 4) NB.out rfl)
        go_wp2_with fail
        refine (latchR_any (RA.out.below K7.out) HGO.out x.b BXX.out.b).mono ?_
        rw [HP3.out]
        rintro e v8 ⟨rfl, b8⟩
        have K8 := Lib.hid (K7.out.trans (b8.mono K7.out.size))
        clear b8 K7 y4
        obtain ⟨pl, hpl⟩ : ∃ pl, ofZ g x.d = pl := ⟨_, rfl⟩
        have C1 := fun d os => ofc_any (LY.out.below (K8.out.trans ((below_regrown v8 d os).mono K8.out.size))) HGO.out x.d
        have C2 := fun d os => ofR_all (RA.out.below (K8.out.trans ((below_regrown v8 d os).mono K8.out.size))) HGO.out x.d
        rw [hpl] at C1 C2
        unfold plcV at C1 C2
        have y0 := (K8.out.cell (p := ⟨B, 0, none⟩) hlt).trans (cell_of (j := 0) NB.out rfl)
        have z0 := fun d os => cell_regrown y0 d os
        have HEQ : ∀ W, (Op.equalIn 10000 59 (.agg #[.int .u8 pl.1, .int .i64 pl.2.1, .int .i64 pl.2.2]) (.agg #[.int .u8 pl.1, .int .i64 pl.2.1, .int .i64 pl.2.2])).run Try.prog W = .ok true W := fun W => by rw [eqPl]; simp
        have HGP := guardPl
        clear hpl
        go_wp2_with fail
        refine wp_region_quiet_below (by kernel_rfl) (by kernel_rfl) ?_
        repeat (go_big_quiet_step ((first | (go_at_call 27; with_reducible exact Calls.regrown_of (C1 _ _)) | (go_at_call 28; with_reducible exact Calls.regrown_of (C2 _ _)))))
        refine wpQuiet_nil ?_
        rintro w' ⟨q, rfl⟩
        have BN := Lib.hid (B40.out.trans ((K8.out.trans ((below_regrown v8 q.d q.os).mono K8.out.size)).mono B40.out.size))
        clear C1 C2 HEQ HGP y0 z0
        go_wp2
        go_roundw
        case rel => exact ⟨i + 1, by omega, by go_num, BN.out⟩
        case measure => simp [intOf]; omega
      · obtain rfl : i = a1n := by omega
        have d0 : decide ((i : Int) < i) = false := by simp
        go_wp2
        go_ret
        exact ⟨rfl, bel_trans BW4.out BE.out⟩
end Wk
end Go.Proofs.Ythmadcjkodfdeaa
