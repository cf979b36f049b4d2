/- The walk of the law TowerLists, from the contracts of package tower. Conditions: none. (Written by tools/mk15w1.py.) -/
import Derived.Test.YtjcbjbhlclajnaaTwO
import Derived.Test.YtjcbjbhlclajnaaTwK
import Derived.Deep.CutBlock
namespace Go.Proofs.Ytjcbjbhlclajnaa
open Go.RowKit Go.Sort
set_option linter.unusedVariables false
set_option linter.unusedSimpArgs false
set_option maxRecDepth 100000
namespace Tw
open Wd
open Ly (Ge tot pk pW nxO wdO ad tg gs InT Cf LyAt I64 KI RAt okB geo CfB)
theorem hasB_in {g : Ge} {v u : Int} (h0 : 0 ≤ v) (h1 : v < (g.D : Int)) (u0 : 0 ≤ u) (u1 : u ≤ 5) : hasB g v u = true := by
  obtain ⟨a, rfl⟩ := Int.eq_ofNat_of_zero_le h0
  obtain ⟨b, rfl⟩ := Int.eq_ofNat_of_zero_le u0
  have e : nxO g (-1 - (a : Int)) (b : Int) = some (Ly.pH g + 7 * a + (1 + b)) := by
    unfold nxO
    rw [if_pos (by omega), if_neg (by omega), if_neg (by omega)]
    rw [show -1 - (-1 - (a : Int)) = (a : Int) by omega, show (1 : Int) + (b : Int) = ((1 + b : Nat) : Int) by omega]
    exact Ly.ad_head g (by omega) (by omega)
  unfold hasB nxE
  rw [e, decide_eq_true h0]
  rfl
theorem nxE_head {g : Ge} {v u : Int} (h : hasB g v u = true) : nxE g (-1 - v) u = 0 := by
  unfold hasB at h
  rw [Bool.and_eq_true, decide_eq_true_iff, decide_eq_true_iff] at h
  exact h.2
theorem nxE_tower {g : Ge} {x u : Int} (u0 : 0 ≤ u) (h : u < (hgt g x : Int)) : nxE g x u = 0 := by
  have hp := hgt_pos (g := g) (x := x) (by omega)
  have h6 := hgt_le g x
  unfold hgt at h h6
  split at h
  · next hk =>
    have h1 := Ly.pk_lt g.t 6 (Nat.le_refl _) hk
    generalize pk g.t x 6 = j at h h1 hk
    obtain ⟨b, rfl⟩ := Int.eq_ofNat_of_zero_le u0
    obtain ⟨y, hy⟩ : ∃ y : Nat, x = ((1 + tot g.t j + y : Nat) : Int) := ⟨(x - ((1 + tot g.t j : Nat) : Int)).toNat, by omega⟩
    have hyt : y < g.t j := by omega
    have e : nxO g x (b : Int) = some (Ly.pT g + Ly.wds g.t j + y * (6 + j) + (5 + b)) := by
      unfold nxO
      rw [if_pos (by omega), if_pos (by omega), hy, show (5 : Int) + (b : Int) = ((5 + b : Nat) : Int) by omega]
      exact Ly.ad_tower g hk hyt (by omega)
    unfold nxE
    rw [e]
    rfl
  · omega
theorem cfT_D (n : Int) (t : Nat → Int) : ((geo (cfT n t) []).D : Int) = nnV n := by
  have hn := nnV_bd n
  show (((Dm.dmN 2 (nnV n) []).toNat : Nat) : Int) = nnV n
  rcases (show nnV n = 1 ∨ nnV n = 2 ∨ nnV n = 3 ∨ nnV n = 4 by omega) with e | e | e | e <;> (rw [e]; decide)
theorem Li.pre_len {g : Ge} {M : Wm} {u : Int} {xs pre : List Int} {at_ : Int} {k : Nat} (h : Li g M u xs pre at_ k) : pre = xs.take pre.length ∧ pre.length ≤ xs.length := by
  have e := h.e
  refine ⟨?_, ?_⟩
  · rw [e]; simp
  · rw [e, List.length_append]; omega
theorem hgt_zero {g : Ge} {x : Int} (h : x ≤ 0) : hgt g x = 0 := by
  by_cases e : 0 < hgt g x
  · have := hgt_pos e; omega
  · omega
theorem lit2 (W : World) : KI.Rd (W.alloc (.cells #[.int .i64 1, .int .i64 3] 3)) (some ⟨W.heap.size, 0, none⟩) [1, 3] := fun i x hi => by
  refine ⟨W.heap.size, 0, rfl, fun j u hj => ?_⟩
  rw [World.cell?_alloc_new]
  match i, hi, j, hj with
  | 0, hi, 0, hj => cases hi; exact hj
  | 1, hi, 0, hj => cases hi; exact hj
  | 0, _, j + 1, hj => cases hj
  | 1, _, j + 1, hj => cases hj
  | i + 2, hi, _, _ => simp at hi
theorem sm_facts : hasB gS 0 0 = true ∧ hasB gS 0 1 = true ∧ hasB gS 1 0 = true ∧ ls gS smM 0 0 = [1, 3] ∧ ls gS smM 0 1 = [3] ∧ ls gS smM 1 0 = [] := by
  refine ⟨by decide +kernel, by decide +kernel, by decide +kernel, by decide +kernel, by decide +kernel, by decide +kernel⟩
end Tw
namespace Wk
open Wd Tw
open Ly (Ge tot pW Cf LyAt I64 KI geo CfB)
open Dm (bel_alloc bel_trans)
set_option maxRecDepth 100000 in
set_option maxHeartbeats 40000000 in
theorem walk_towerLists (a0 : Int) (a1 : Nat → Int) (a2 : Option Addr) (a2n a2c : Nat) (a2v : List Tw.Pt) (a3 : Int) (w : World) (a0l : (-9223372036854775808) ≤ a0) (a0h : a0 ≤ 9223372036854775807) (a1b : ∀ i, i < 6 → 0 ≤ a1 i ∧ a1 i ≤ 255) (a2e : a2v.length = a2n) (a2m : a2n ≤ maxLen) (a2r : Tw.RdT w a2 a2v) (a2b : Tw.BdT a2v) (a2z : a2 = none → a2c = 0) (a3l : (-9223372036854775808) ≤ a3) (a3h : a3 ≤ 9223372036854775807) :
    Calls Try.prog 7 #[.int .i64 a0, .agg (Tw.six8 a1), .slice a2 a2n a2c, .int .i64 a3] w fun e w' => e = .returned (.bool true) ∧ Below w.heap.size w w' := by
  obtain ⟨W0, hW0⟩ : ∃ W, W = w.alloc (.cells (six8 a1) 82) := ⟨_, rfl⟩
  have HB0 := Lib.hid (show Below w.heap.size w W0 by rw [hW0]; exact bel_alloc (Below.refl _ _) _)
  have HC0 := Lib.hid (show ∀ i, i < 6 → W0.cell? ⟨w.heap.size, i, none⟩ = some (.int .u8 (a1 i)) from fun i hi => six8_cell (ty := 82) (by rw [hW0]; exact heap_alloc_new w _) hi)
  have HW0 := Lib.hid hW0
  have CC := Lib.hid (config_any a0 a1 a1b W0)
  have HE := Lib.hid a2e
  have HR := Lib.hid a2r
  have HB := Lib.hid a2b
  clear a1b a2e a2r a2b a2m a2z hW0 a0l a0h
  unfold six8 at HW0
  by_cases hn : 300 < a2n
  · have d1 : decide ((300 : Int) < (a2n : Int)) = true := decide_eq_true (by omega)
    have d1' : decide (300 < a2n) = true := decide_eq_true hn
    clear hn
    unfold six8
    go_enter Try.func7, Try.ntmps7
    go_wp2
    go_ret
    rw [← HW0.out]
    exact ⟨rfl, HB0.out⟩
  have d1 : decide ((300 : Int) < (a2n : Int)) = false := decide_eq_false (by omega)
  have d1' : decide (300 < a2n) = false := decide_eq_false hn
  have HN := Lib.hid (show a2n ≤ 300 by omega)
  obtain ⟨f, hf⟩ : ∃ f, f = cfT a0 a1 := ⟨_, rfl⟩
  have hgd : Gd f := by rw [hf]; exact cfT_gd a0 a1
  have hfn : f.n = nnV a0 := by rw [hf]; rfl
  have hD : ((geo f []).D : Int) = f.n := by rw [hfn, hf]; exact cfT_D a0 a1
  have hn4 := nnV_bd a0
  rw [← hfn] at hn4
  have HGD := Lib.hid hgd
  have HD := Lib.hid hD
  have HN4 := Lib.hid hn4
  rw [← hf] at CC
  unfold cfgV at CC
  clear hf hgd hfn hD hn4 hn
  have k0 := HC0.out 0 (by omega)
  have k1 := HC0.out 1 (by omega)
  have k2 := HC0.out 2 (by omega)
  have k3 := HC0.out 3 (by omega)
  have k4 := HC0.out 4 (by omega)
  have k5 := HC0.out 5 (by omega)
  rw [HW0.out] at k0 k1 k2 k3 k4 k5
  unfold six8
  go_enter Try.func7, Try.ntmps7
  go_wp2_with fail
  rw [← HW0.out]
  refine CC.out.mono ?_
  rintro r1 W1 ⟨rfl, hb1⟩
  have HB1 := Lib.hid (HB0.out.trans (hb1.mono HB0.out.size))
  obtain ⟨WC, hWC⟩ : ∃ W, W = W1.alloc (.cells #[.int .i64 f.th, .int .i64 f.sl, .int .u8 f.en, .int .i64 f.bu, .int .u8 f.k, .int .i64 f.n, .slice f.A f.m f.c, .int .i64 (f.t 0), .int .i64 (f.t 1), .int .i64 (f.t 2), .int .i64 (f.t 3), .int .i64 (f.t 4), .int .i64 (f.t 5), .int .i64 f.lo, .int .i64 f.tr, .int .i64 f.ba] 87) := ⟨_, rfl⟩
  have bC : Below W1.heap.size W1 WC := by rw [hWC]; exact bel_alloc (Below.refl _ _) _
  have hcf : CfB WC W1.heap.size f := by rw [hWC]; exact CfB.made ..
  have HBC := Lib.hid (HB1.out.trans (bC.mono HB1.out.size))
  have HCF := Lib.hid hcf
  have HWC := Lib.hid hWC
  have CB := begin_any HGD.out (cp := a2c) (HR.out.below HBC.out) HB.out HE.out HN.out
  unfold cfgV BgP at CB
  replace CB := Lib.hid CB
  have d0 := hcf
  rw [hWC] at d0
  obtain ⟨c0, c1, c2, c3, c4, c5, c6, c7, c8, c9, c10, c11, c12, c13, c14, c15⟩ := d0
  clear hb1 bC hcf hWC CC k0 k1 k2 k3 k4 k5 HC0 HW0 HB1
  go_wp2_with fail
  rw [← HWC.out]
  refine CB.out.mono ?_
  rintro r1 WB ⟨cc, wb, x, bm, bl, f', rfl, hbn, ⟨y0, y1, y2, _⟩, _, hbb⟩
  obtain ⟨g, hg⟩ : ∃ g, g = geo f [] := ⟨_, rfl⟩
  rw [← hg] at hbn
  obtain ⟨M, hM⟩ : ∃ M, M = puts (pW g : Nat) a2v ⟨Ly.ini g, []⟩ := ⟨_, rfl⟩
  rw [← hM] at hbn
  obtain ⟨p, q, htt⟩ := hbn.tt
  obtain ⟨cb, hcb⟩ : ∃ b, b = W1.heap.size := ⟨_, rfl⟩
  have hcn := (HCF.out.below hbb).c5
  have HD2 := Lib.hid (show ((g.D : Nat) : Int) = f.n by rw [hg]; exact HD.out)
  have HTT := Lib.hid htt
  have HBB := Lib.hid (HBC.out.trans (hbb.mono HBC.out.size))
  rw [← hcb] at hcn ⊢
  have lcb : cb < WB.heap.size := World.block_lt_of_cell? WB _ hcn
  have lwb : wb < WB.heap.size := World.block_lt_of_cell? WB _ y0
  obtain ⟨u, hu⟩ := Int.eq_ofNat_of_zero_le (show 0 ≤ a3 % (6 : Int) from Int.emod_nonneg _ (by omega))
  have hu5 : u ≤ 5 := by omega
  have CI := indexB a3 6 (by omega) (by omega) WB
  rw [show ((6 : Nat) : Int) = 6 from rfl, hu] at CI
  replace CI := Lib.hid CI
  have HU5 := Lib.hid hu5
  clear hbn htt hbb hM hg hu hu5 hcb CB HCF HWC HBC HB HR HE HN HGD HD c0 c1 c2 c3 c4 c5 c6 c7 c8 c9 c10 c11 c12 c13 c14 c15
  go_wp2_with fail
  refine CI.out.mono ?_
  rintro r1 W2 ⟨rfl, e⟩
  obtain rfl := e.symm
  clear CI
  have KW := Lib.hid (fun (V : World) (hb : Below WB.heap.size WB V) => (show V.cell? ⟨cb, 5, none⟩ = some (.int .i64 f.n) ∧ V.cell? ⟨wb, 0, none⟩ = some (.pointer (some ⟨bl, 0, none⟩)) ∧ V.cell? ⟨wb, 2, none⟩ = some (.pointer (some ⟨x, 0, none⟩)) from ⟨(hb.cell (p := ⟨cb, 5, none⟩) lcb).trans hcn, (hb.cell (p := ⟨wb, 0, none⟩) lwb).trans y0, (hb.cell (p := ⟨wb, 2, none⟩) lwb).trans y2⟩))
  clear hcn y0 y1 y2 lcb lwb
  have hmm := @run_makeMap Try.prog
  go_wp2_with fail
  have HTT0 := HTT
  go_loopw [11] (fun vv wr => ∃ v : Nat, vv = .int .i64 (v : Int) ∧ (v : Int) ≤ f.n ∧ Below WB.heap.size WB wr) (fun vv _ => (f.n - intOf vv).toNat)
  case atStart => exact ⟨0, rfl, by have := HN4.out; omega, Below.refl _ _⟩
  case round =>
    obtain ⟨v, rfl, hv, hbel⟩ := hrel
    have hn4 := HN4.out
    obtain ⟨kc, ky, kt⟩ := KW.out wr hbel
    by_cases hlt : (v : Int) < f.n
    · have e0 : decide ((v : Int) < f.n) = true := decide_eq_true hlt
      have hw1 : IntKind.i64.wrap ((v : Int) + 1) = (v : Int) + 1 := IntWalk.i64_in _ (by omega)
      have hw2 : IntKind.i64.wrap (-1 - (v : Int)) = -1 - (v : Int) := IntWalk.i64_in _ (by omega)
      have hw3 : wrap64 (-1 - (v : Int)) = -1 - (v : Int) := IntWalk.wrap64_in _ (by omega)
      have hh : hasB g (v : Int) (u : Int) = true := hasB_in (by omega) (by rw [HD2.out]; exact hlt) (by omega) (by have := HU5.out; omega)
      have CL := list_any (HTT.out.below hbel) (v : Int) (u : Int) ⟨by omega, by omega⟩
      unfold LsP at CL
      rw [hh] at CL
      have hnh := nxE_head hh
      have hls := Li.start g M (v : Int) (u : Int)
      have hxl := ls_len g M (v : Int) (u : Int)
      have htt24 := HTT.out.ok.tt
      obtain ⟨xs, hxs⟩ : ∃ xs, xs = ls g M (v : Int) (u : Int) := ⟨_, rfl⟩
      rw [← hxs] at CL hls hxl
      replace CL := Lib.hid CL
      have HLS := Lib.hid hls
      have HNH := Lib.hid hnh
      have HXL := Lib.hid (show xs.length ≤ 1025 by omega)
      have HBL := Lib.hid hbel
      clear hh hnh hls hxs hbel hxl htt24
      go_wp2_with fail
      refine CL.out.mono ?_
      rintro r1 W3 (⟨_, A, ca, rfl, hrd, hb3⟩ | ⟨e, _⟩)
      rotate_left 1
      · cases e
      have HB3 := Lib.hid (HBL.out.trans (hb3.mono HBL.out.size))
      have HRD := Lib.hid hrd
      have HSM := Lib.hid (Sw.made W3)
      have HBM := Lib.hid (bel_alloc (Below.refl W3.heap.size W3) (.map #[] 0))
      clear CL hrd hb3 kc ky kt
      go_wp2_with fail
      go_loopw [15, 16] (fun vr vi wr => ∃ (i : Nat) (r : Int), vr = .int .i64 r ∧ vi = .int .i64 (i : Int) ∧ I64 r ∧ i ≤ xs.length + 1 ∧ (i ≤ xs.length → (∃ k, Li g M (u : Int) xs (xs.take i) r k) ∧ nxE g r (u : Int) = 0 ∧ Sw wr W3.heap.size (xs.take i)) ∧ Below W3.heap.size W3 wr) (fun _ vi _ => (xs.length + 1 - intOf vi).toNat)
      case atStart => exact ⟨0, -1 - (v : Int), by first | rfl | go_num, rfl, ⟨by omega, by omega⟩, by omega, fun _ => ⟨⟨_, HLS.out⟩, HNH.out, HSM.out⟩, HBM.out⟩
      case round =>
        obtain ⟨i, r, rfl, rfl, hr, hi, hst, hbel⟩ := hrel
        have hxl := HXL.out
        by_cases hle : i ≤ xs.length
        · have e1 : decide ((i : Int) ≤ (xs.length : Int)) = true := decide_eq_true (by omega)
          have e1' : decide (i ≤ xs.length) = true := decide_eq_true hle
          have hw4 : IntKind.i64.wrap ((i : Int) + 1) = (i : Int) + 1 := IntWalk.i64_in _ (by omega)
          obtain ⟨⟨k, hli⟩, hne, hsw⟩ := hst hle
          have hbB := HB3.out.trans (hbel.mono HB3.out.size)
          obtain ⟨kc, ky, kt⟩ := KW.out wr hbB
          have CA := after_any (HTT.out.below hbB) r (u : Int) hr
          have hbd := af_bd (g := g) (M := M) HTT.out.bd r (u : Int)
          have h24 := HTT.out.ok.tt
          have HNX := Lib.hid (show I64 (af g M r (u : Int)) from ⟨by omega, by omega⟩)
          rw [hne] at CA
          obtain ⟨nx, hnx⟩ : ∃ nx, nx = af g M r (u : Int) := ⟨_, rfl⟩
          rw [← hnx] at CA HNX hbd
          have HAF := Lib.hid hnx.symm
          replace CA := Lib.hid CA
          have HLI := Lib.hid hli
          have HSW := Lib.hid hsw
          have HBL3 := Lib.hid hbel
          clear hli hne hsw hbel hbB hnx hst hr h24
          go_wp2_with fail
          refine CA.out.mono ?_
          rintro r1 W5 ⟨rfl, hb5⟩
          have HB35 := Lib.hid (HBL3.out.trans (hb5.mono HBL3.out.size))
          have hbB := HB3.out.trans (HB35.out.mono HB3.out.size)
          obtain ⟨kc5, ky5, kt5⟩ := KW.out W5 hbB
          have CH := Lib.hid (height_x (HTT.out.below hbB).ly (HTT.out.below hbB).ok nx)
          have HSW5 := Lib.hid (HSW.out.below hb5)
          clear hb5 CA hbB kc ky kt
          go_wp2_with fail
          refine CH.out.mono ?_
          rintro r1 W6 ⟨⟨E, rfl⟩, hb6⟩
          have HB36 := Lib.hid (HB35.out.trans (hb6.mono HB35.out.size))
          have HSW4 := Lib.hid (HSW5.out.below hb6)
          obtain ⟨HH, hHH⟩ : ∃ HH : Int, HH = ((hgt g nx : Nat) : Int) := ⟨_, rfl⟩
          rw [← hHH]
          obtain ⟨W7, hst7, hsw7, hg7⟩ := HSW4.out.put HNX.out (by rw [List.length_take]; unfold maxLen; omega)
          have HSW7 := Lib.hid hsw7
          have HB7 := Lib.hid (show Below W3.heap.size W3 W7 from HB36.out.grown hg7 HB36.out.size (fun k e => by cases e; exact Nat.le_refl _))
          have HHE := Lib.hid hHH
          clear hb6 CH kc5 ky5 kt5 hsw7 hg7 hHH
          by_cases hz : nx = 0
          · skip
            have b0 : (nx != 0) = false := by simp [hz]
            have hst := HLI.out.stop (.inl (by rw [HAF.out]; have q : hgt g nx = 0 := hgt_zero (by omega); omega))
            have hil : i = xs.length := by have q1 := congrArg List.length hst; rw [List.length_take] at q1; omega
            have HIL := Lib.hid hil
            have b3 : decide ((i : Int) < (xs.length : Int)) = false := decide_eq_false (by omega)
            have b4 : decide (i < xs.length) = false := decide_eq_false (by omega)
            clear hz hst hil
            go_wp2
            go_roundw
            case rel => exact ⟨i + 1, nx, by first | rfl | go_num, by first | rfl | go_num, HNX.out, by omega, fun h => absurd h (by have := HIL.out; omega), HB7.out⟩
            case measure => simp [intOf]; omega
          by_cases hh : HH ≤ (u : Int)
          · skip
            have b0 : (nx != 0) = true := by simp [hz]
            have b1 : decide ((u : Int) < HH) = false := decide_eq_false (by omega)
            have b2 : decide (HH > (u : Int)) = false := decide_eq_false (by omega)
            have b6 : decide (HH ≤ (u : Int)) = true := decide_eq_true hh
            have hst := HLI.out.stop (.inl (by rw [HAF.out, ← HHE.out]; exact hh))
            have hil : i = xs.length := by have q1 := congrArg List.length hst; rw [List.length_take] at q1; omega
            have HIL := Lib.hid hil
            have b3 : decide ((i : Int) < (xs.length : Int)) = false := decide_eq_false (by omega)
            have b4 : decide (i < xs.length) = false := decide_eq_false (by omega)
            clear hz hst hil hh
            go_wp2
            go_roundw
            case rel => exact ⟨i + 1, nx, by first | rfl | go_num, by first | rfl | go_num, HNX.out, by omega, fun h => absurd h (by have := HIL.out; omega), HB7.out⟩
            case measure => simp [intOf]; omega
          by_cases hm : nx ∈ xs.take i
          · skip
            have b0 : (nx != 0) = true := by simp [hz]
            have b1 : decide ((u : Int) < HH) = true := decide_eq_true (by omega)
            have b2 : decide (HH > (u : Int)) = true := decide_eq_true (by omega)
            have b6 : decide (HH ≤ (u : Int)) = false := decide_eq_false hh
            have hlk := (HSW4.out.look HNX.out)
            rw [decide_eq_true hm] at hlk
            have hst := HLI.out.stop (.inr (by rw [HAF.out]; exact hm))
            have hil : i = xs.length := by have q1 := congrArg List.length hst; rw [List.length_take] at q1; omega
            have HIL := Lib.hid hil
            have b3 : decide ((i : Int) < (xs.length : Int)) = false := decide_eq_false (by omega)
            have b4 : decide (i < xs.length) = false := decide_eq_false (by omega)
            clear hz hst hil hh hm
            go_wp2
            go_roundw
            case rel => exact ⟨i + 1, nx, by first | rfl | go_num, by first | rfl | go_num, HNX.out, by omega, fun h => absurd h (by have := HIL.out; omega), HB7.out⟩
            case measure => simp [intOf]; omega
          · skip
            have b0 : (nx != 0) = true := by simp [hz]
            have b1 : decide ((u : Int) < HH) = true := decide_eq_true (by omega)
            have b2 : decide (HH > (u : Int)) = true := decide_eq_true (by omega)
            have b6 : decide (HH ≤ (u : Int)) = false := decide_eq_false hh
            have hlk := (HSW4.out.look HNX.out)
            rw [decide_eq_false hm] at hlk
            obtain ⟨hpx, j, hkj, hli2⟩ := HLI.out.go (by omega) (by rw [HAF.out, ← HHE.out]; exact hh) (by rw [HAF.out]; exact hm)
            rw [HAF.out] at hpx hli2
            have hil : i < xs.length := by have q1 := hpx.length_le; rw [List.length_append, List.length_take, List.length_singleton] at q1; omega
            have hxi : xs[i]? = some nx := by
              obtain ⟨r, hr⟩ := hpx
              have q1 : (xs.take i).length = i := by rw [List.length_take]; omega
              rw [← hr, List.append_assoc, List.getElem?_append_right (by omega), q1, Nat.sub_self]
              rfl
            have htk : xs.take (i + 1) = xs.take i ++ [nx] := by rw [List.take_add_one, hxi]; rfl
            rw [← htk] at hli2
            have b3 : decide ((i : Int) < (xs.length : Int)) = true := decide_eq_true (by omega)
            have b4 : decide (i < xs.length) = true := decide_eq_true (by omega)
            have b5 : (nx != nx) = false := by simp
            have il : (i : Int) < xs.length := by omega
            obtain ⟨rb, ro, rfl, hat⟩ := HRD.out i nx hxi
            have qx : W6.cell? ⟨rb, ro + i, none⟩ = some (.int .i64 nx) := by
              have q1 := (hat.keep (HB36.out.block rb hat.lt)) 0 _ rfl
              rw [show KI.sz = 1 from rfl, Nat.mul_one, Nat.add_zero] at q1
              exact q1
            have HIL := Lib.hid hil
            have HLI2 := Lib.hid hli2
            have HTK := Lib.hid htk
            have HNE := Lib.hid (nxE_tower (g := g) (x := nx) (u := (u : Int)) (by omega) (by rw [← HHE.out]; omega))
            clear hz hm hh hpx hkj hli2 hil hxi htk hat
            go_wp2
            go_roundw
            case rel => exact ⟨i + 1, nx, by first | rfl | go_num, by first | rfl | go_num, HNX.out, by omega, fun _ => ⟨⟨_, HLI2.out⟩, HNE.out, by rw [HTK.out]; exact HSW7.out⟩, HB7.out⟩
            case measure => simp [intOf]; omega
        · have e1 : decide ((i : Int) ≤ (xs.length : Int)) = false := decide_eq_false (by omega)
          have e1' : decide (i ≤ xs.length) = false := decide_eq_false hle
          have HBE := Lib.hid (HB3.out.trans (hbel.mono HB3.out.size))
          clear hst hbel hr
          go_wp2
          go_roundw
          case rel => exact ⟨v + 1, by go_num, by omega, HBE.out⟩
          case measure => simp [intOf]; omega
    · have e0 : decide ((v : Int) < f.n) = false := decide_eq_false hlt
      have HBE := Lib.hid (HBB.out.trans (hbel.mono HBB.out.size))
      have CS := Lib.hid (small_any wr)
      clear hbel
      go_wp2_with fail
      refine CS.out.mono ?_
      rintro r1 W8 ⟨c8, x8, bm8, bl8, f8, rfl, hb8, _, hbe8⟩
      obtain ⟨s1, _, _, s4, _, _⟩ := sm_facts
      obtain ⟨p8, q8, ht8⟩ := hb8.tt
      have CQ := fun (W : World) (A : Option Addr) (c : Nat) (hb : Below W8.heap.size W8 W) (hr : KI.Rd W A [1, 3]) => Lib.hid (listQ (c := c) (ht8.below hb) 0 0 ⟨by decide, by decide⟩ s1 hr (m := 2) rfl s4)
      have HB8 := Lib.hid (HBE.out.trans (hbe8.mono HBE.out.size))
      have HLT := Lib.hid (lit2 W8)
      have HBA := Lib.hid (bel_alloc (Below.refl W8.heap.size W8) (.cells #[.int .i64 1, .int .i64 3] 3))
      clear hb8 ht8 hbe8 s1 s4 CS kc ky kt
      go_wp2_with fail
      refine (CQ _ _ _ HBA.out HLT.out).out.mono ?_
      rintro r1 W9 ⟨rfl, hb9⟩
      have HB9 := Lib.hid (HB8.out.trans ((HBA.out.trans (hb9.mono HBA.out.size)).mono HB8.out.size))
      clear hb9 CQ
      go_wp2
      go_ret
      exact ⟨rfl, HB9.out⟩
end Wk
end Go.Proofs.Ytjcbjbhlclajnaa
