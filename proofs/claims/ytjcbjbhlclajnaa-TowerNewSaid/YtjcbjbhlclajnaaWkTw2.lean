/- The walk of the law TowerNew, from the contracts of package tower. Conditions: none. (Written by tools/mk15w2.py.) -/
import Derived.Test.YtjcbjbhlclajnaaTwO
import Derived.Test.YtjcbjbhlclajnaaTwX
import Derived.Deep.CutBlock
namespace Go.Proofs.Ytjcbjbhlclajnaa
open Go.RowKit Go.Sort
set_option linter.unusedVariables false
set_option linter.unusedSimpArgs false
set_option maxRecDepth 100000
namespace Tw
open Wd
open Ly (Ge tot pk pW nxO wdO ad tg gs InT Cf LyAt I64 KI RAt okB geo CfB)
theorem cfT_D2 (n : Int) (t : Nat → Int) : ((geo (cfT n t) []).D : Int) = nnV n := by
  have hn := nnV_bd n
  show (((Dm.dmN 2 (nnV n) []).toNat : Nat) : Int) = nnV n
  rcases (show nnV n = 1 ∨ nnV n = 2 ∨ nnV n = 3 ∨ nnV n = 4 by omega) with e | e | e | e <;> (rw [e]; decide)
theorem hasB_in2 {g : Ge} {a b : Nat} (h1 : a < g.D) (u1 : b ≤ 5) : hasB g (a : Int) (b : Int) = true := by
  have e : nxO g (-1 - (a : Int)) (b : Int) = some (Ly.pH g + 7 * a + (1 + b)) := by
    unfold nxO
    rw [if_pos (by omega), if_neg (by omega), if_neg (by omega)]
    rw [show -1 - (-1 - (a : Int)) = (a : Int) by omega, show (1 : Int) + (b : Int) = ((1 + b : Nat) : Int) by omega]
    exact Ly.ad_head g (by omega) (by omega)
  unfold hasB nxE
  rw [e]
  simp
end Tw
namespace Wk
open Wd Tw
open Ly (Ge tot pW Cf LyAt I64 KI geo CfB)
open Dm (bel_alloc bel_trans)
set_option maxRecDepth 100000 in
set_option maxHeartbeats 40000000 in
theorem walk_towerNew (a0 : Int) (a1 : Nat → Int) (w : World) (a0l : (-9223372036854775808) ≤ a0) (a0h : a0 ≤ 9223372036854775807) (a1b : ∀ i, i < 6 → 0 ≤ a1 i ∧ a1 i ≤ 255) :
    Calls Try.prog 6 #[.int .i64 a0, .agg (Tw.six8 a1)] w fun e w' => e = .returned (.bool true) ∧ Below w.heap.size w w' := by
  obtain ⟨W0, hW0⟩ : ∃ W, W = w.alloc (.cells (six8 a1) 82) := ⟨_, rfl⟩
  have HB0 := Lib.hid (show Below w.heap.size w W0 by rw [hW0]; exact bel_alloc (Below.refl _ _) _)
  have HC0 := Lib.hid (show ∀ i, i < 6 → W0.cell? ⟨w.heap.size, i, none⟩ = some (.int .u8 (a1 i)) from fun i hi => six8_cell (ty := 82) (by rw [hW0]; exact heap_alloc_new w _) hi)
  have HW0 := Lib.hid hW0
  have CC := Lib.hid (config_any a0 a1 a1b W0)
  clear a1b hW0 a0l a0h
  unfold six8 at HW0
  obtain ⟨f, hf⟩ : ∃ f, f = cfT a0 a1 := ⟨_, rfl⟩
  have hgd : Gd f := by rw [hf]; exact cfT_gd a0 a1
  have hfn : f.n = nnV a0 := by rw [hf]; rfl
  have hD : ((geo f []).D : Int) = f.n := by rw [hfn, hf]; exact cfT_D2 a0 a1
  have hn4 := nnV_bd a0
  rw [← hfn] at hn4
  have HGD := Lib.hid hgd
  have HD := Lib.hid hD
  have HN4 := Lib.hid hn4
  rw [← hf] at CC
  unfold cfgV at CC
  clear hf hgd hfn hD hn4
  have k0 := HC0.out 0 (by omega)
  have k1 := HC0.out 1 (by omega)
  have k2 := HC0.out 2 (by omega)
  have k3 := HC0.out 3 (by omega)
  have k4 := HC0.out 4 (by omega)
  have k5 := HC0.out 5 (by omega)
  rw [HW0.out] at k0 k1 k2 k3 k4 k5
  unfold six8
  go_enter Try.func6, Try.ntmps6
  go_wp2_with fail
  rw [← HW0.out]
  refine CC.out.mono ?_
  rintro r1 W1 ⟨rfl, hb1⟩
  have HB1 := Lib.hid (HB0.out.trans (hb1.mono HB0.out.size))
  obtain ⟨WC, hWC⟩ : ∃ W, W = W1.alloc (.cells #[.int .i64 f.th, .int .i64 f.sl, .int .u8 f.en, .int .i64 f.bu, .int .u8 f.k, .int .i64 f.n, .slice f.A f.m f.c, .int .i64 (f.t 0), .int .i64 (f.t 1), .int .i64 (f.t 2), .int .i64 (f.t 3), .int .i64 (f.t 4), .int .i64 (f.t 5), .int .i64 f.lo, .int .i64 f.tr, .int .i64 f.ba] 87) := ⟨_, rfl⟩
  have bC : Below W1.heap.size W1 WC := by rw [hWC]; exact bel_alloc (Below.refl _ _) _
  have hcf : CfB WC W1.heap.size f := by rw [hWC]; exact CfB.made ..
  have HBC := Lib.hid (HB1.out.trans (bC.mono HB1.out.size))
  have HCF := Lib.hid hcf
  have HWC := Lib.hid hWC
  have CB := begin_any (A := none) (n := 0) (cp := 0) (l := []) (w := WC) HGD.out (fun i x hi => by simp at hi) (fun x hx => by cases hx) rfl (by decide)
  unfold cfgV BgP at CB
  replace CB := Lib.hid CB
  have d0 := hcf
  rw [hWC] at d0
  obtain ⟨c0, c1, c2, c3, c4, c5, c6, c7, c8, c9, c10, c11, c12, c13, c14, c15⟩ := d0
  clear hb1 bC hcf hWC CC k0 k1 k2 k3 k4 k5 HC0 HW0 HB1
  go_wp2_with fail
  rw [← HWC.out]
  refine CB.out.mono ?_
  rintro r1 WB ⟨cc, wb, x, bm, bl, f', rfl, hbn, ⟨y0, y1, y2, _⟩, _, hbb⟩
  obtain ⟨g, hg⟩ : ∃ g, g = geo f [] := ⟨_, rfl⟩
  rw [← hg] at hbn
  rw [show puts (pW g : Nat) [] ⟨Ly.ini g, []⟩ = ⟨Ly.ini g, []⟩ from rfl] at hbn
  obtain ⟨p, q, htt⟩ := hbn.tt
  obtain ⟨cb, hcb⟩ : ∃ b, b = W1.heap.size := ⟨_, rfl⟩
  have hcn := (HCF.out.below hbb).c5
  have HD2 := Lib.hid (show ((g.D : Nat) : Int) = f.n by rw [hg]; exact HD.out)
  have HTT := Lib.hid htt
  have HBB := Lib.hid (HBC.out.trans (hbb.mono HBC.out.size))
  rw [← hcb] at hcn ⊢
  have lcb : cb < WB.heap.size := World.block_lt_of_cell? WB _ hcn
  have lwb : wb < WB.heap.size := World.block_lt_of_cell? WB _ y0
  have KW := Lib.hid (fun (V : World) (hb : Below WB.heap.size WB V) => (show V.cell? ⟨cb, 5, none⟩ = some (.int .i64 f.n) ∧ V.cell? ⟨wb, 2, none⟩ = some (.pointer (some ⟨x, 0, none⟩)) from ⟨(hb.cell (p := ⟨cb, 5, none⟩) lcb).trans hcn, (hb.cell (p := ⟨wb, 2, none⟩) lwb).trans y2⟩))
  clear hbn htt hbb hg hcb CB HCF HWC HBC HGD HD c0 c1 c2 c3 c4 c5 c6 c7 c8 c9 c10 c11 c12 c13 c14 c15
  clear hcn y0 y1 y2 lcb lwb
  go_wp2_with fail
  have HTT0 := HTT
  go_loopw [7] (fun vv wr => ∃ v : Nat, vv = .int .i64 (v : Int) ∧ (v : Int) ≤ f.n ∧ Below WB.heap.size WB wr) (fun vv _ => (f.n - intOf vv).toNat)
  case atStart => exact ⟨0, rfl, by have := HN4.out; omega, Below.refl _ _⟩
  case round =>
    obtain ⟨v, rfl, hv, hbel⟩ := hrel
    have hn4 := HN4.out
    obtain ⟨kc, kt⟩ := KW.out wr hbel
    by_cases hlt : (v : Int) < f.n
    · have e0 : decide ((v : Int) < f.n) = true := decide_eq_true hlt
      have hw1 : IntKind.i64.wrap ((v : Int) + 1) = (v : Int) + 1 := IntWalk.i64_in _ (by omega)
      have HLT := Lib.hid hlt
      have HBL := Lib.hid hbel
      clear hbel
      go_wp2_with fail
      go_loopw [8] (fun vu wr2 => ∃ u : Nat, vu = .int .i64 (u : Int) ∧ u ≤ 6 ∧ Below WB.heap.size WB wr2) (fun vu _ => (6 - intOf vu).toNat)
      case atStart => exact ⟨0, rfl, by omega, HBL.out⟩
      case round =>
        obtain ⟨u, rfl, hu, hbel⟩ := hrel
        clear kc kt
        obtain ⟨kc, kt⟩ := KW.out wr hbel
        by_cases hul : u < 6
        · have e1 : decide ((u : Int) < 6) = true := decide_eq_true (by omega)
          have hw2 : IntKind.i64.wrap ((u : Int) + 1) = (u : Int) + 1 := IntWalk.i64_in _ (by omega)
          have CL := list_any (HTT.out.below hbel) (v : Int) (u : Int) ⟨by omega, by omega⟩
          unfold LsP at CL
          rw [hasB_in2 (by have := HD2.out; omega) (by omega), ls_ini (by have := HD2.out; omega) (by omega)] at CL
          replace CL := Lib.hid CL
          have HBU := Lib.hid hbel
          clear hbel
          go_wp2_with fail
          refine CL.out.mono ?_
          rintro r1 W3 (⟨_, A, ca, rfl, hrd, hb3⟩ | ⟨e, _⟩)
          rotate_left 1
          · cases e
          have HB3 := Lib.hid (HBU.out.trans (hb3.mono HBU.out.size))
          clear CL hrd hb3 kc kt
          go_wp2
          go_roundw
          case rel => exact ⟨u + 1, by go_num, by omega, HB3.out⟩
          case measure => simp [intOf]; omega
        · have e1 : decide ((u : Int) < 6) = false := decide_eq_false (by omega)
          have HBU := Lib.hid hbel
          clear hbel
          go_wp2
          go_roundw
          case rel => exact ⟨v + 1, by go_num, by omega, HBU.out⟩
          case measure => simp [intOf]; omega
    · have e0 : decide ((v : Int) < f.n) = false := decide_eq_false hlt
      have HBL := Lib.hid hbel
      have CP := pairs_any (HTT.out.below hbel) (fun v hv y hy => by rw [show (0 : Int) = ((0 : Nat) : Int) from rfl, ls_ini hv (by omega)] at hy; cases hy) (by rw [raw_ini _ (Nat.le_refl _)]; exact List.Pairwise.nil) (by rw [raw_ini _ (Nat.le_refl _)]; decide)
      unfold PrP at CP
      rw [raw_ini _ (Nat.le_refl _)] at CP
      replace CP := Lib.hid CP
      clear hbel
      go_wp2_with fail
      refine CP.out.mono ?_
      rintro r1 W4 ⟨A, ca, rfl, hrd, hb4⟩
      have HB4 := Lib.hid (HBB.out.trans ((HBL.out.trans (hb4.mono HBL.out.size)).mono HBB.out.size))
      have CS := Lib.hid (small_any W4)
      clear hrd hb4 CP kt kc
      go_wp2_with fail
      refine CS.out.mono ?_
      rintro r1 W8 ⟨c8, x8, bm8, bl8, f8, rfl, hb8, _, hbe8⟩
      obtain ⟨p8, q8, ht8⟩ := hb8.tt
      have CQ := Lib.hid (pairsQ ht8)
      have HB8 := Lib.hid (HB4.out.trans (hbe8.mono HB4.out.size))
      clear hb8 ht8 hbe8 CS
      go_wp2_with fail
      refine CQ.out.mono ?_
      rintro r1 W9 ⟨rfl, hb9⟩
      have HB9 := Lib.hid (HB8.out.trans (hb9.mono HB8.out.size))
      clear hb9 CQ
      go_wp2
      go_ret
      exact ⟨rfl, HB9.out⟩
end Wk
end Go.Proofs.Ytjcbjbhlclajnaa
