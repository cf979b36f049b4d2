/- LayoutChecks: the walk. Conditions: those of the arguments' kinds. Written by tools/mk9checks.py. -/
import Derived.Test.YthmadcjkodfdeaaLrX
import Derived.WalkSpells
import Derived.Lib.QuietBelow
namespace Go.Proofs.Ythmadcjkodfdeaa
open Go.RowKit Go.Sort
set_option linter.unusedVariables false
set_option linter.unusedSimpArgs false
namespace Wk
open Ly
open Dm (RdK BdU dmB dmE dmN bel_alloc bel_trans cell_lt)
def zf : Cf := ⟨0, 0, 0, 0, 0, 0, none, 0, 0, fun _ => 0, 0, 0, 0⟩
set_option maxRecDepth 100000 in
set_option maxHeartbeats 4000000 in
theorem walk_layoutChecks (a0 : Ly.Cf) (a0v : List Int) (w : World) (a0b : a0.Bd a0v) (a0r : Dm.RdK .u64 w a0.A a0v) (a0y : a0.m ≤ a0.c ∧ a0.c ≤ maxLen) :
    Calls Try.prog 3 #[.agg #[.int .i64 a0.th, .int .i64 a0.sl, .int .u8 a0.en, .int .i64 a0.bu, .int .u8 a0.k, .int .i64 a0.n, .slice a0.A a0.m a0.c, .int .i64 (a0.t 0), .int .i64 (a0.t 1), .int .i64 (a0.t 2), .int .i64 (a0.t 3), .int .i64 (a0.t 4), .int .i64 (a0.t 5), .int .i64 a0.lo, .int .i64 a0.tr, .int .i64 a0.ba]] w fun e w' => e = .returned (.bool true) ∧ Below w.heap.size w w' := by
  have HBd := Lib.hid a0b
  have HCT := fun (W : World) (h : RdK .u64 W a0.A a0v) => Lib.hid (cut_any a0 a0v W a0b.e a0y a0b.z h)
  have HR := Lib.hid a0r
  have NB := Lib.hid (heap_new w (.cells #[.int .i64 a0.th, .int .i64 a0.sl, .int .u8 a0.en, .int .i64 a0.bu, .int .u8 a0.k, .int .i64 a0.n, .slice a0.A a0.m a0.c, .int .i64 (a0.t 0), .int .i64 (a0.t 1), .int .i64 (a0.t 2), .int .i64 (a0.t 3), .int .i64 (a0.t 4), .int .i64 (a0.t 5), .int .i64 a0.lo, .int .i64 a0.tr, .int .i64 a0.ba] 27))
  have BX := Lib.hid (bel_alloc (Below.refl w.heap.size w) (.cells #[.int .i64 a0.th, .int .i64 a0.sl, .int .u8 a0.en, .int .i64 a0.bu, .int .u8 a0.k, .int .i64 a0.n, .slice a0.A a0.m a0.c, .int .i64 (a0.t 0), .int .i64 (a0.t 1), .int .i64 (a0.t 2), .int .i64 (a0.t 3), .int .i64 (a0.t 4), .int .i64 (a0.t 5), .int .i64 a0.lo, .int .i64 a0.tr, .int .i64 a0.ba] 27))
  have CF0 := Lib.hid (CfB.made w a0 27)
  obtain ⟨l2, hl2⟩ : ∃ l2, a0v.take (min a0.m 100) = l2 := ⟨_, rfl⟩
  have HB2 := Lib.hid (fun A c (hz : A = none → c = 0) => two_bd a0b (A := A) (c := c) hz)
  rw [hl2] at HCT HB2
  clear a0b a0r a0y hl2
  go_enter Try.func3, Try.ntmps3
  obtain ⟨wb, hwb⟩ : ∃ wb : World, wb = w.alloc (.cells #[.int .i64 a0.th, .int .i64 a0.sl, .int .u8 a0.en, .int .i64 a0.bu, .int .u8 a0.k, .int .i64 a0.n, .slice a0.A a0.m a0.c, .int .i64 (a0.t 0), .int .i64 (a0.t 1), .int .i64 (a0.t 2), .int .i64 (a0.t 3), .int .i64 (a0.t 4), .int .i64 (a0.t 5), .int .i64 a0.lo, .int .i64 a0.tr, .int .i64 a0.ba] 27) := ⟨_, rfl⟩
  go_upto_region 1 with fail
  rw [← hwb] at NB BX CF0 ⊢
  have hszb : wb.heap.size = w.heap.size + 1 := by rw [hwb, World.size_alloc]
  obtain ⟨bc, hbc⟩ : ∃ n, w.heap.size = n := ⟨_, rfl⟩
  have HBC := Lib.hid hbc
  rw [hbc] at NB CF0 hszb ⊢
  clear hwb hbc
  go_wp2_with (first | (refine ld_cfg rfl (.tmp 1) rfl bc a0 CF0.out rfl ?_))
  refine (HCT _ (HR.out.below BX.out)).out.mono ?_
  rintro e w1 ⟨A, c, rfl, b1, rd1, hz, hmc, hA⟩
  have TH := Lib.hid (cfg_there NB.out b1)
  obtain ⟨f2, hf2⟩ : ∃ f2 : Cf, f2 = a0.two A c := ⟨_, rfl⟩
  have HF2 := Lib.hid hf2
  have B2 := Lib.hid (HB2.out A c hz)
  rw [← hf2] at B2
  have ev : (Value.agg #[.int .i64 a0.few.th, .int .i64 a0.few.sl, .int .u8 a0.few.en, .int .i64 a0.few.bu, .int .u8 a0.few.k, .int .i64 a0.few.n, .slice A a0.few.m c, .int .i64 (a0.few.t 0), .int .i64 (a0.few.t 1), .int .i64 (a0.few.t 2), .int .i64 (a0.few.t 3), .int .i64 (a0.few.t 4), .int .i64 (a0.few.t 5), .int .i64 a0.few.lo, .int .i64 a0.few.tr, .int .i64 a0.few.ba]) = .agg #[.int .i64 f2.th, .int .i64 f2.sl, .int .u8 f2.en, .int .i64 f2.bu, .int .u8 f2.k, .int .i64 f2.n, .slice f2.A f2.m f2.c, .int .i64 (f2.t 0), .int .i64 (f2.t 1), .int .i64 (f2.t 2), .int .i64 (f2.t 3), .int .i64 (f2.t 4), .int .i64 (f2.t 5), .int .i64 f2.lo, .int .i64 f2.tr, .int .i64 f2.ba] := by rw [hf2]; rfl
  rw [ev]
  have RD1 := Lib.hid (show RdK .u64 w1 f2.A l2 from by rw [hf2]; exact rd1)
  have HA1 := Lib.hid (show ∀ a, f2.A = some a → bc < a.block ∧ a.block < w1.heap.size from fun a e => by rw [hf2] at e; have := hA a e; exact ⟨by omega, this.2⟩)
  have BW1 := Lib.hid (bel_trans BX.out b1)
  have hs1 : bc < w1.heap.size := by have := b1.size; omega
  clear hf2 ev hz hmc hA rd1 b1 NB CF0 HCT HB2
  go_upto_region 2 with (refine st_cfg rfl (.tmp 1) (.tmp 10) rfl bc f2 TH.out rfl rfl ?_; intro w2 cf2 bel2 blk2)
  have CF := Lib.hid cf2
  have BW2 := Lib.hid (bel2 _ _ (Nat.le_of_eq HBC.out) BW1.out)
  have RD2 := Lib.hid (show RdK .u64 w2 f2.A l2 from fun k hk => by
    obtain ⟨b, o, e, c⟩ := RD1.out k hk
    exact ⟨b, o, e, (World.cell?_of_block (blk2 b (by have := HA1.out _ e; simp at this; omega))).trans c⟩)
  clear cf2 bel2 blk2 TH BW1 RD1
  cases hok : okB f2 l2 with
  | false =>
    have HN := Lib.hid (show ∀ W, NewPost f2 l2 W = fun e w' => e = .returned (.tuple #[.pointer none, .int .i64 2]) ∧ Below W.heap.size W w' from fun W => by unfold NewPost; rw [hok]; rfl)
    have HM := Lib.hid (show ∀ W, NewRPost f2 l2 W = fun e w' => e = .returned (.tuple #[.pointer none, .int .i64 2]) ∧ Below W.heap.size W w' from fun W => by unfold NewRPost; rw [hok]; rfl)
    clear hok
    go_wp2_with (first | (refine ld_cfg rfl (.tmp 1) rfl bc f2 CF.out rfl ?_))
    refine (new_any f2 l2 _ B2.out RD2.out).mono ?_
    rw [HN.out]
    rintro e w3 ⟨rfl, b3⟩
    have CF3 := Lib.hid (CF.out.below b3)
    have BW3 := Lib.hid (bel_trans BW2.out b3)
    have RD3 := Lib.hid (RD2.out.below b3)
    clear b3 CF BW2 RD2
    go_wp2_with (first | (refine ld_cfg rfl (.tmp 1) rfl bc f2 CF3.out rfl ?_))
    refine (newR_any f2 l2 _ B2.out RD3.out).mono ?_
    rw [HM.out]
    rintro e w4 ⟨rfl, b4⟩
    have BW4 := Lib.hid (bel_trans BW3.out b4)
    have CF4 := Lib.hid (CF3.out.below b4)
    have RD4 := Lib.hid (RD3.out.below b4)
    clear b4 CF3 BW3 RD3
    have hcm : ∀ d os, CfB (grow (redrawn w4 d) os) bc f2 := fun d os => CF4.out.below (below_regrown w4 d os)
    have C1 := fun d os => check_any f2 l2 (grow (redrawn w4 d) os) B2.out (RD4.out.below (below_regrown w4 d os))
    have C2 := fun d os => checkR_any f2 l2 (grow (redrawn w4 d) os) B2.out (RD4.out.below (below_regrown w4 d os))
    generalize ckE f2 l2 = ce at C1 C2
    have sce : (ce != ce) = false := by simp
    go_wp2_with fail
    refine wp_region_quiet_below (by kernel_rfl) (by kernel_rfl) ?_
    repeat (first | (go_big_quiet_want; refine ldQ_cfg (.tmp 1) rfl bc f2 (fun w h => by obtain ⟨p, rfl⟩ := h; exact hcm _ _) rfl ?_; go_simp; go_big_quiet_on) | go_big_quiet_step ((first | (go_at_call 13; with_reducible exact Calls.regrown_of (C1 _ _)) | (go_at_call 14; with_reducible exact Calls.regrown_of (C2 _ _)))))
    refine wpQuiet_nil ?_
    intro w5 hq
    have b5 : Below w4.heap.size w4 w5 := by obtain ⟨q, rfl⟩ := hq; exact below_regrown _ _ _
    clear hq hcm C1 C2 sce
    go_wp2
    go_ret
    exact ⟨rfl, bel_trans BW4.out b5⟩
  | true =>
    have HN := Lib.hid (show ∀ W, NewPost f2 l2 W = fun e w' => ∃ b A c, e = .returned (.tuple #[.pointer (some ⟨b, 0, none⟩), .int .i64 0]) ∧ W.heap.size ≤ b ∧ LyAt w' b (f2.cut A c) l2 (geo f2 l2) ∧ (A = none → c = 0) ∧ (∀ a, A = some a → W.heap.size ≤ a.block) ∧ Below W.heap.size W w' from fun W => by unfold NewPost; rw [hok]; rfl)
    have HM := Lib.hid (show ∀ W, NewRPost f2 l2 W = fun e w' => ∃ b, e = .returned (.tuple #[.pointer (some ⟨b, 0, none⟩), .int .i64 0]) ∧ W.heap.size ≤ b ∧ RAt w' b (geo f2 l2) ∧ Below W.heap.size W w' from fun W => by unfold NewRPost; rw [hok]; rfl)
    obtain ⟨g, hg⟩ : ∃ g, geo f2 l2 = g := ⟨_, rfl⟩
    rw [hg] at HN HM
    clear hok hg
    have hm2 : f2.m ≤ 100 := by rw [HF2.out]; show min a0.m 100 ≤ 100; omega
    have HE2 := Lib.hid B2.out.e
    go_wp2_with (first | (refine ld_cfg rfl (.tmp 1) rfl bc f2 CF.out rfl ?_))
    refine (new_any f2 l2 _ B2.out RD2.out).mono ?_
    rw [HN.out]
    rintro e w3 ⟨bl, A3, c3, rfl, _, ly3, _, _, b3⟩
    have CF3 := Lib.hid (CF.out.below b3)
    have BW3 := Lib.hid (bel_trans BW2.out b3)
    have RD3 := Lib.hid (RD2.out.below b3)
    have LY3 := Lib.hid ly3
    clear b3 CF BW2 RD2 ly3
    go_wp2_with (first | (refine ld_cfg rfl (.tmp 1) rfl bc f2 CF3.out rfl ?_))
    refine (newR_any f2 l2 _ B2.out RD3.out).mono ?_
    rw [HM.out]
    rintro e w4 ⟨br, rfl, _, ra4, b4⟩
    have BW4 := Lib.hid (bel_trans BW3.out b4)
    have CF4 := Lib.hid (CF3.out.below b4)
    have RD4 := Lib.hid (RD3.out.below b4)
    have LY4 := Lib.hid (LY3.out.below b4)
    have RA4 := Lib.hid ra4
    clear b4 CF3 BW3 RD3 LY3 ra4
    have hcm : ∀ d os, CfB (grow (redrawn w4 d) os) bc f2 := fun d os => CF4.out.below (below_regrown w4 d os)
    have C1 := fun d os => check_any f2 l2 (grow (redrawn w4 d) os) B2.out (RD4.out.below (below_regrown w4 d os))
    have C2 := fun d os => checkR_any f2 l2 (grow (redrawn w4 d) os) B2.out (RD4.out.below (below_regrown w4 d os))
    generalize ckE f2 l2 = ce at C1 C2
    have sce : (ce != ce) = false := by simp
    go_wp2_with fail
    refine wp_region_quiet_below (by kernel_rfl) (by kernel_rfl) ?_
    repeat (first | (go_big_quiet_want; refine ldQ_cfg (.tmp 1) rfl bc f2 (fun w h => by obtain ⟨p, rfl⟩ := h; exact hcm _ _) rfl ?_; go_simp; go_big_quiet_on) | go_big_quiet_step ((first | (go_at_call 13; with_reducible exact Calls.regrown_of (C1 _ _)) | (go_at_call 14; with_reducible exact Calls.regrown_of (C2 _ _)))))
    refine wpQuiet_nil ?_
    intro w5 hq
    have b5 : Below w4.heap.size w4 w5 := by obtain ⟨q, rfl⟩ := hq; exact below_regrown _ _ _
    clear hq hcm C1 C2 sce
    have BW5 := Lib.hid (bel_trans BW4.out b5)
    have CF5 := Lib.hid (CF4.out.below b5)
    have RD5 := Lib.hid (RD4.out.below b5)
    have LY5 := Lib.hid (LY4.out.below b5)
    have RA5 := Lib.hid (RA4.out.below b5)
    clear b5 BW4 CF4 RD4 LY4 RA4
    go_wp2_with fail
    refine (config_own LY5.out (show (f2.cut A3 c3).m ≤ 100000 from by show f2.m ≤ 100000; omega)).mono ?_
    rintro e w6 ⟨A6, c6, rfl, b6, rd6, hz6, hmc6, hA6, hfz6⟩
    obtain ⟨f3, hf3⟩ : ∃ f3 : Cf, f3 = f2.cut A6 c6 := ⟨_, rfl⟩
    have HF3 := Lib.hid hf3
    have ev : (Value.agg #[.int .i64 (f2.cut A3 c3).th, .int .i64 (f2.cut A3 c3).sl, .int .u8 (f2.cut A3 c3).en, .int .i64 (f2.cut A3 c3).bu, .int .u8 (f2.cut A3 c3).k, .int .i64 (f2.cut A3 c3).n, .slice A6 (f2.cut A3 c3).m c6, .int .i64 ((f2.cut A3 c3).t 0), .int .i64 ((f2.cut A3 c3).t 1), .int .i64 ((f2.cut A3 c3).t 2), .int .i64 ((f2.cut A3 c3).t 3), .int .i64 ((f2.cut A3 c3).t 4), .int .i64 ((f2.cut A3 c3).t 5), .int .i64 (f2.cut A3 c3).lo, .int .i64 (f2.cut A3 c3).tr, .int .i64 (f2.cut A3 c3).ba]) = .agg #[.int .i64 f3.th, .int .i64 f3.sl, .int .u8 f3.en, .int .i64 f3.bu, .int .u8 f3.k, .int .i64 f3.n, .slice f3.A f3.m f3.c, .int .i64 (f3.t 0), .int .i64 (f3.t 1), .int .i64 (f3.t 2), .int .i64 (f3.t 3), .int .i64 (f3.t 4), .int .i64 (f3.t 5), .int .i64 f3.lo, .int .i64 f3.tr, .int .i64 f3.ba] := by rw [hf3]; rfl
    rw [ev]
    have B6 := Lib.hid b6
    have RD6 := Lib.hid rd6
    have HA6 := Lib.hid hA6
    have HZ6 := Lib.hid hfz6
    have CF6 := Lib.hid (CF5.out.below b6)
    clear hf3 ev b6 rd6 hz6 hmc6 hA6 hfz6
    have TH7 := Lib.hid (cfg_there (w := w6.alloc (.cells #[.int .i64 zf.th, .int .i64 zf.sl, .int .u8 zf.en, .int .i64 zf.bu, .int .u8 zf.k, .int .i64 zf.n, .slice zf.A zf.m zf.c, .int .i64 (zf.t 0), .int .i64 (zf.t 1), .int .i64 (zf.t 2), .int .i64 (zf.t 3), .int .i64 (zf.t 4), .int .i64 (zf.t 5), .int .i64 zf.lo, .int .i64 zf.tr, .int .i64 zf.ba] 27)) (heap_new w6 (.cells #[.int .i64 zf.th, .int .i64 zf.sl, .int .u8 zf.en, .int .i64 zf.bu, .int .u8 zf.k, .int .i64 zf.n, .slice zf.A zf.m zf.c, .int .i64 (zf.t 0), .int .i64 (zf.t 1), .int .i64 (zf.t 2), .int .i64 (zf.t 3), .int .i64 (zf.t 4), .int .i64 (zf.t 5), .int .i64 zf.lo, .int .i64 zf.tr, .int .i64 zf.ba] 27)) (Below.refl _ _))
    have BA7 := Lib.hid (bel_alloc (Below.refl w6.heap.size w6) (.cells #[.int .i64 zf.th, .int .i64 zf.sl, .int .u8 zf.en, .int .i64 zf.bu, .int .u8 zf.k, .int .i64 zf.n, .slice zf.A zf.m zf.c, .int .i64 (zf.t 0), .int .i64 (zf.t 1), .int .i64 (zf.t 2), .int .i64 (zf.t 3), .int .i64 (zf.t 4), .int .i64 (zf.t 5), .int .i64 zf.lo, .int .i64 zf.tr, .int .i64 zf.ba] 27))
    go_upto_region 9 with (refine st_cfg rfl (.tmp 7) (.tmp 41) rfl w6.heap.size f3 TH7.out rfl rfl ?_; intro w7 cf7 bel7 blk7)
    have B7 := Lib.hid (bel7 _ _ (Nat.le_refl _) BA7.out)
    have CFo := Lib.hid cf7
    have hbo : w6.heap.size < w7.heap.size := cell_lt cf7.c0
    obtain ⟨bo, hbo2⟩ : ∃ bo, w6.heap.size = bo := ⟨_, rfl⟩
    have HBO := Lib.hid hbo2
    have CF7 := Lib.hid (CF6.out.below B7.out)
    have RDo := Lib.hid (RD6.out.below B7.out)
    rw [hbo2] at CFo hbo ⊢
    clear cf7 bel7 blk7 TH7 BA7 hbo2 CF6
    have B57 := Lib.hid (B6.out.trans (B7.out.mono B6.out.size))
    have RD7 := Lib.hid (RD5.out.below B57.out)
    have EQ := fun h => Lib.hid (show Calls Try.prog 16 #[.agg #[.int .i64 f3.th, .int .i64 f3.sl, .int .u8 f3.en, .int .i64 f3.bu, .int .u8 f3.k, .int .i64 f3.n, .slice f3.A f3.m f3.c, .int .i64 (f3.t 0), .int .i64 (f3.t 1), .int .i64 (f3.t 2), .int .i64 (f3.t 3), .int .i64 (f3.t 4), .int .i64 (f3.t 5), .int .i64 f3.lo, .int .i64 f3.tr, .int .i64 f3.ba], .agg #[.int .i64 f2.th, .int .i64 f2.sl, .int .u8 f2.en, .int .i64 f2.bu, .int .u8 f2.k, .int .i64 f2.n, .slice f2.A f2.m f2.c, .int .i64 (f2.t 0), .int .i64 (f2.t 1), .int .i64 (f2.t 2), .int .i64 (f2.t 3), .int .i64 (f2.t 4), .int .i64 (f2.t 5), .int .i64 f2.lo, .int .i64 f2.tr, .int .i64 f2.ba]] w7 (fun e w' => e = .returned (.bool true) ∧ Below w7.heap.size w7 w') from by rw [HF3.out]; exact eqcfg_same f2 A6 f2.A f2.m c6 f2.c l2 w7 HE2.out h RDo.out RD7.out)
    go_wp2_with (first | (refine ld_cfg rfl (.tmp 7) rfl bo f3 CFo.out rfl ?_) | (refine ld_cfg rfl (.tmp 1) rfl bc f2 CF7.out rfl ?_))
    refine (EQ (by omega)).out.mono ?_
    rintro e w8 ⟨rfl, b8⟩
    have B58 := Lib.hid (B57.out.trans (b8.mono B57.out.size))
    have CFo8 := Lib.hid (CFo.out.below b8)
    have RW8 := Lib.hid (show ∀ b o, A6 = some ⟨b, o, none⟩ → (∀ j, j < f2.m → ∃ u, w8.cell? ⟨b, o + j, none⟩ = some u) ∧ (∀ j, w8.frozen? ⟨b, j, none⟩ = false) from fun b o ea => ⟨fun j hj => by
      obtain ⟨b', o', eb, c⟩ := (RDo.out.below b8) j (by rw [HE2.out]; exact hj)
      rw [ea] at eb
      injection eb with eb
      injection eb with e1 e2
      subst e1 e2
      exact ⟨_, c⟩, fun j => by
      have hlt := (HA6.out _ ea).2
      have h1 := B7.out.frozen (p := ⟨b, j, none⟩) hlt
      have h2 := b8.frozen (p := ⟨b, j, none⟩) (Nat.lt_of_lt_of_le hlt B7.out.size)
      rw [h2, h1]
      exact HZ6.out b o ea j⟩)
    have hsz8 : bo < w8.heap.size := Nat.lt_of_lt_of_le hbo b8.size
    clear b8 EQ B57 CFo CF7 RD7
    go_wp2_with fail
    go_loopw [8] (fun v wr => ∃ i : Nat, i ≤ f2.m ∧ v = .int .i64 i ∧ Below w5.heap.size w5 wr ∧ CfB wr bo f3 ∧ (∀ b o, A6 = some ⟨b, o, none⟩ → (∀ j, j < f2.m → ∃ u, wr.cell? ⟨b, o + j, none⟩ = some u) ∧ (∀ j, wr.frozen? ⟨b, j, none⟩ = false))) (fun v _ => f2.m - (intOf v).toNat)
    case atStart => exact ⟨0, Nat.zero_le _, rfl, B58.out, CFo8.out, RW8.out⟩
    case round =>
      clear B58 CFo8 RW8
      obtain ⟨i, hi, rfl, bel, cfo, hrw⟩ := hrel
      have BE := Lib.hid bel
      have CFr := Lib.hid cfo
      have x6 : wr.cell? ⟨bo, 6, none⟩ = some (.slice A6 f2.m c6) := by have := cfo.c6; rw [HF3.out] at this; exact this
      clear bel cfo
      by_cases him : i < f2.m
      · have d0 : decide ((i : Int) < f2.m) = true := decide_eq_true (by omega)
        have i1 : (i : Int) < f2.m := by omega
        obtain ⟨ba, oa, eA, _⟩ := RD6.out i (by rw [HE2.out]; exact him)
        obtain ⟨hc, hf⟩ := hrw ba oa eA
        obtain ⟨u, ku⟩ := hc i him
        have fu := hf (oa + i)
        have hbl := HA6.out _ eA
        have hbl1 : w5.heap.size ≤ ba := hbl.1
        have hbl2 : ba < bo := by rw [← HBO.out]; exact hbl.2
        rw [eA] at x6
        have HC := Lib.hid hc
        have HFz := Lib.hid hf
        have HEA := Lib.hid eA
        clear hrw hc hf hbl eA
        obtain ⟨ws, hws⟩ : ∃ ws : World, ws = wr.setCell ⟨ba, oa + i, none⟩ (.int .u64 0) := ⟨_, rfl⟩
        have BN := Lib.hid (show Below w5.heap.size w5 ws from by rw [hws]; exact BE.out.setCell (p := ⟨ba, oa + i, none⟩) hbl1 _)
        have CFs := Lib.hid (show CfB ws bo f3 from by rw [hws]; exact CFr.out.cong fun j _ => cell_set_b (by omega))
        have RWs := Lib.hid (show ∀ b o, A6 = some ⟨b, o, none⟩ → (∀ j, j < f2.m → ∃ u, ws.cell? ⟨b, o + j, none⟩ = some u) ∧ (∀ j, ws.frozen? ⟨b, j, none⟩ = false) from fun b o ea => by
          rw [HEA.out] at ea
          injection ea with ea
          injection ea with e1 e2
          subst e1 e2
          rw [hws]
          refine ⟨fun j hj => ?_, fun j => by rw [World.frozen?_setCell]; exact HFz.out j⟩
          by_cases e : i = j
          · subst e; exact ⟨_, World.cell?_setCell_same _ _ _ ku⟩
          · rw [cell_set (by omega)]; exact HC.out j hj)
        rw [← HEA.out] at x6
        have x6' := x6
        rw [HEA.out] at x6'
        clear x6
        go_wp2_with fail
        try rw [← hws]
        clear ku fu x6' hws
        go_roundw
        case rel => exact ⟨i + 1, by omega, by go_num, BN.out, CFs.out, RWs.out⟩
        case measure => simp [intOf]; omega
      · obtain hie : i = f2.m := by omega
        have d0 : decide ((i : Int) < f2.m) = false := decide_eq_false (by omega)
        have d0' : decide (i < f2.m) = false := decide_eq_false (by omega)
        have CF9 := Lib.hid (CF5.out.below BE.out)
        have LY9 := Lib.hid (LY5.out.below BE.out)
        have RA9 := Lib.hid (RA5.out.below BE.out)
        have RD9 := Lib.hid (RD5.out.below BE.out)
        have BW9 := Lib.hid (bel_trans BW5.out BE.out)
        clear hrw CFr
        go_wp2_with fail
        obtain ⟨Ah, cch, c26, _⟩ := RA9.out.hr
        have C26 := Lib.hid c26
        have hlb := RA9.out.lt
        clear c26 x6
        have hHeld : Below wr.heap.size wr wr.drew := Om_drew (Below.refl _ _)
        refine wp_region_held_drew (S := fun W => Below wr.heap.size wr W) (by kernel_rfl) hHeld (fun _ => ?_)
        refine wpAnyH_take (i := 0) (oi := ?o1) (v := .pointer (some ⟨bl, 0, none⟩)) ?hi1 (by kernel_rfl) (by kernel_rfl) (by kernel_rfl) ?hq1 ?hy1 hHeld ?rest1
        case hi1 => (simp only [List.getElem?_toArray, List.getElem?_cons_zero, List.getElem?_cons_succ]; rfl)
        case hy1 => exact y_move (by rfl) (.tmp 3) rfl (.pointer (some ⟨bl, 0, none⟩)) rfl
        case hq1 => exact fun _ _ _ h => h
        try simp only [Act.put, List.setIfInBounds_toArray, List.set_cons_zero, List.set_cons_succ]
        refine wpAnyH_take (i := 2) (oi := ?o2) (v := .agg #[.int .i64 f2.th, .int .i64 f2.sl, .int .u8 f2.en, .int .i64 f2.bu, .int .u8 f2.k, .int .i64 f2.n, .slice f2.A f2.m f2.c, .int .i64 (f2.t 0), .int .i64 (f2.t 1), .int .i64 (f2.t 2), .int .i64 (f2.t 3), .int .i64 (f2.t 4), .int .i64 (f2.t 5), .int .i64 f2.lo, .int .i64 f2.tr, .int .i64 f2.ba]) ?hi2 (by kernel_rfl) (by kernel_rfl) (by kernel_rfl) ?hq2 ?hy2 hHeld ?rest2
        case hi2 => (simp only [List.getElem?_toArray, List.getElem?_cons_zero, List.getElem?_cons_succ]; rfl)
        case hy2 => exact y_ldc (by rfl) (.tmp 1) rfl bc rfl f2 (fun W h => CF9.out.below h)
        case hq2 => exact fun _ _ _ h => h
        try simp only [Act.put, List.setIfInBounds_toArray, List.set_cons_zero, List.set_cons_succ]
        refine wpAnyH_ready (rs := [1]) (by kernel_rfl) (by simp) ?_
        refine AllReadyH.cons (o := ?o3) ?hi3 (fun K hK => ?rest3) AllReadyH.nil
        case hi3 => (simp only [List.getElem?_toArray, List.getElem?_cons_zero, List.getElem?_cons_succ]; rfl)
        go_simp
        refine (config_any (LY9.out.below hHeld) (show (f2.cut A3 c3).m ≤ 100000 from by show f2.m ≤ 100000; omega)).mono ?_
        rintro e wz ⟨A9, c9, rfl, bz, rd9, _, _, _⟩
        replace hHeld := hHeld.trans (bz.mono hHeld.size)
        refine hK.out _ _ hHeld (fun _ => ?_)
        clear hK K
        try simp only [Act.put, List.setIfInBounds_toArray, List.set_cons_zero, List.set_cons_succ]
        refine wpAnyH_ready (rs := [3]) (by kernel_rfl) (by simp) ?_
        refine AllReadyH.cons (o := ?o4) ?hi4 (fun K hK => ?rest4) AllReadyH.nil
        case hi4 => (simp only [List.getElem?_toArray, List.getElem?_cons_zero, List.getElem?_cons_succ]; rfl)
        go_simp
        refine (show Calls Try.prog 16 _ wz _ from eqcfg_same f2 A9 f2.A f2.m c9 f2.c l2 wz HE2.out (by omega) rd9 (RD9.out.below hHeld)).mono ?_
        rintro e wz ⟨rfl, bz⟩
        replace hHeld := hHeld.trans (bz.mono hHeld.size)
        refine hK.out _ _ hHeld (fun _ => ?_)
        clear hK K
        try simp only [Act.put, List.setIfInBounds_toArray, List.set_cons_zero, List.set_cons_succ]
        refine wpAnyH_take (i := 4) (oi := ?o5) (v := .bool true) ?hi5 (by kernel_rfl) (by kernel_rfl) (by kernel_rfl) ?hq5 ?hy5 hHeld ?rest5
        case hi5 => (simp only [List.getElem?_toArray, List.getElem?_cons_zero, List.getElem?_cons_succ]; rfl)
        case hy5 => exact y_move (by rfl) (.tmp 62) rfl (.bool true) rfl
        case hq5 => exact fun _ _ _ h => h
        try simp only [Act.put, List.setIfInBounds_toArray, List.set_cons_zero, List.set_cons_succ]
        refine wpAnyH_take (i := 5) (oi := ?o6) (v := .pointer (some ⟨bl, 0, none⟩)) ?hi6 (by kernel_rfl) (by kernel_rfl) (by kernel_rfl) ?hq6 ?hy6 hHeld ?rest6
        case hi6 => (simp only [List.getElem?_toArray, List.getElem?_cons_zero, List.getElem?_cons_succ]; rfl)
        case hy6 => exact y_move (by rfl) (.tmp 3) rfl (.pointer (some ⟨bl, 0, none⟩)) rfl
        case hq6 => exact fun _ _ _ h => h
        try simp only [Act.put, List.setIfInBounds_toArray, List.set_cons_zero, List.set_cons_succ]
        refine wpAnyH_take (i := 7) (oi := ?o7) (v := .pointer (some ⟨br, 0, none⟩)) ?hi7 (by kernel_rfl) (by kernel_rfl) (by kernel_rfl) ?hq7 ?hy7 hHeld ?rest7
        case hi7 => (simp only [List.getElem?_toArray, List.getElem?_cons_zero, List.getElem?_cons_succ]; rfl)
        case hy7 => exact y_move (by rfl) (.tmp 5) rfl (.pointer (some ⟨br, 0, none⟩)) rfl
        case hq7 => exact fun _ _ _ h => h
        try simp only [Act.put, List.setIfInBounds_toArray, List.set_cons_zero, List.set_cons_succ]
        refine wpAnyH_take (i := 8) (oi := ?o8) (v := .pointer (some ⟨br, 0, none⟩)) ?hi8 (by kernel_rfl) (by kernel_rfl) (by kernel_rfl) ?hq8 ?hy8 hHeld ?rest8
        case hi8 => (simp only [List.getElem?_toArray, List.getElem?_cons_zero, List.getElem?_cons_succ]; rfl)
        case hy8 => exact y_nil (by rfl) (.tmp 66) rfl br rfl
        case hq8 => exact fun _ _ _ h => h
        try simp only [Act.put, List.setIfInBounds_toArray, List.set_cons_zero, List.set_cons_succ]
        refine wpAnyH_take (i := 9) (oi := ?o9) (v := .pointer (some ⟨br, 16, none⟩)) ?hi9 (by kernel_rfl) (by kernel_rfl) (by kernel_rfl) ?hq9 ?hy9 hHeld ?rest9
        case hi9 => (simp only [List.getElem?_toArray, List.getElem?_cons_zero, List.getElem?_cons_succ]; rfl)
        case hy9 => exact y_fldP (by rfl) (.tmp 67) rfl br rfl
        case hq9 => exact fun _ _ _ h => h
        try simp only [Act.put, List.setIfInBounds_toArray, List.set_cons_zero, List.set_cons_succ]
        refine wpAnyH_take (i := 10) (oi := ?o10) (v := plV g) ?hi10 (by kernel_rfl) (by kernel_rfl) (by kernel_rfl) ?hq10 ?hy10 hHeld ?rest10
        case hi10 => (simp only [List.getElem?_toArray, List.getElem?_cons_zero, List.getElem?_cons_succ]; rfl)
        case hy10 => exact y_ld10 (by rfl) (.tmp 68) rfl br rfl g (fun W h => RA9.out.below h)
        case hq10 => exact fun _ _ _ h => h
        try simp only [Act.put, List.setIfInBounds_toArray, List.set_cons_zero, List.set_cons_succ]
        refine wpAnyH_ready (rs := [6]) (by kernel_rfl) (by simp) ?_
        refine AllReadyH.cons (o := ?o11) ?hi11 (fun K hK => ?rest11) AllReadyH.nil
        case hi11 => (simp only [List.getElem?_toArray, List.getElem?_cons_zero, List.getElem?_cons_succ]; rfl)
        go_simp
        refine (places_any (LY9.out.below hHeld)).mono ?_
        rintro e wz ⟨rfl, bz⟩
        replace hHeld := hHeld.trans (bz.mono hHeld.size)
        refine hK.out _ _ hHeld (fun _ => ?_)
        clear hK K
        try simp only [Act.put, List.setIfInBounds_toArray, List.set_cons_zero, List.set_cons_succ]
        refine wpAnyH_take (i := 11) (oi := ?o12) (v := .bool true) ?hi12 (by kernel_rfl) (by kernel_rfl) (by kernel_rfl) ?hq12 ?hy12 hHeld ?rest12
        case hi12 => (simp only [List.getElem?_toArray, List.getElem?_cons_zero, List.getElem?_cons_succ]; rfl)
        case hy12 => exact y_eqL (by rfl) (.tmp 65) (.tmp 69) _ rfl g rfl rfl
        case hq12 => exact fun _ _ _ h => h
        try simp only [Act.put, List.setIfInBounds_toArray, List.set_cons_zero, List.set_cons_succ]
        refine wpAnyH_take (i := 12) (oi := ?o13) (v := .bool true) ?hi13 (by kernel_rfl) (by kernel_rfl) (by kernel_rfl) ?hq13 ?hy13 hHeld ?rest13
        case hi13 => (simp only [List.getElem?_toArray, List.getElem?_cons_zero, List.getElem?_cons_succ]; rfl)
        case hy13 => exact y_pickT (by rfl) (.tmp 70) _ (.tmp 63) rfl rfl (.bool true) rfl
        case hq13 => exact fun _ _ _ h => h
        try simp only [Act.put, List.setIfInBounds_toArray, List.set_cons_zero, List.set_cons_succ]
        refine wpAnyH_take (i := 13) (oi := ?o14) (v := .bool true) ?hi14 (by kernel_rfl) (by kernel_rfl) (by kernel_rfl) ?hq14 ?hy14 hHeld ?rest14
        case hi14 => (simp only [List.getElem?_toArray, List.getElem?_cons_zero, List.getElem?_cons_succ]; rfl)
        case hy14 => exact y_move (by rfl) (.tmp 71) rfl (.bool true) rfl
        case hq14 => exact fun _ _ _ h => h
        try simp only [Act.put, List.setIfInBounds_toArray, List.set_cons_zero, List.set_cons_succ]
        refine wpAnyH_take (i := 14) (oi := ?o15) (v := .pointer (some ⟨bl, 0, none⟩)) ?hi15 (by kernel_rfl) (by kernel_rfl) (by kernel_rfl) ?hq15 ?hy15 hHeld ?rest15
        case hi15 => (simp only [List.getElem?_toArray, List.getElem?_cons_zero, List.getElem?_cons_succ]; rfl)
        case hy15 => exact y_move (by rfl) (.tmp 3) rfl (.pointer (some ⟨bl, 0, none⟩)) rfl
        case hq15 => exact fun _ _ _ h => h
        try simp only [Act.put, List.setIfInBounds_toArray, List.set_cons_zero, List.set_cons_succ]
        refine wpAnyH_take (i := 16) (oi := ?o16) (v := .pointer (some ⟨br, 0, none⟩)) ?hi16 (by kernel_rfl) (by kernel_rfl) (by kernel_rfl) ?hq16 ?hy16 hHeld ?rest16
        case hi16 => (simp only [List.getElem?_toArray, List.getElem?_cons_zero, List.getElem?_cons_succ]; rfl)
        case hy16 => exact y_move (by rfl) (.tmp 5) rfl (.pointer (some ⟨br, 0, none⟩)) rfl
        case hq16 => exact fun _ _ _ h => h
        try simp only [Act.put, List.setIfInBounds_toArray, List.set_cons_zero, List.set_cons_succ]
        refine wpAnyH_take (i := 17) (oi := ?o17) (v := .pointer (some ⟨br, 0, none⟩)) ?hi17 (by kernel_rfl) (by kernel_rfl) (by kernel_rfl) ?hq17 ?hy17 hHeld ?rest17
        case hi17 => (simp only [List.getElem?_toArray, List.getElem?_cons_zero, List.getElem?_cons_succ]; rfl)
        case hy17 => exact y_nil (by rfl) (.tmp 75) rfl br rfl
        case hq17 => exact fun _ _ _ h => h
        try simp only [Act.put, List.setIfInBounds_toArray, List.set_cons_zero, List.set_cons_succ]
        refine wpAnyH_take (i := 18) (oi := ?o18) (v := .pointer (some ⟨br, 26, none⟩)) ?hi18 (by kernel_rfl) (by kernel_rfl) (by kernel_rfl) ?hq18 ?hy18 hHeld ?rest18
        case hi18 => (simp only [List.getElem?_toArray, List.getElem?_cons_zero, List.getElem?_cons_succ]; rfl)
        case hy18 => exact y_fldH (by rfl) (.tmp 76) rfl br rfl
        case hq18 => exact fun _ _ _ h => h
        try simp only [Act.put, List.setIfInBounds_toArray, List.set_cons_zero, List.set_cons_succ]
        refine wpAnyH_take (i := 19) (oi := ?o19) (v := .slice Ah (tot g.t 6) cch) ?hi19 (by kernel_rfl) (by kernel_rfl) (by kernel_rfl) ?hq19 ?hy19 hHeld ?rest19
        case hi19 => (simp only [List.getElem?_toArray, List.getElem?_cons_zero, List.getElem?_cons_succ]; rfl)
        case hy19 => exact y_ldH (by rfl) (.tmp 77) rfl br rfl _ (fun W h => (h.cell (p := ⟨br, 26, none⟩) hlb).trans C26.out)
        case hq19 => exact fun _ _ _ h => h
        try simp only [Act.put, List.setIfInBounds_toArray, List.set_cons_zero, List.set_cons_succ]
        refine wpAnyH_take (i := 20) (oi := ?o20) (v := .int .i64 (tot g.t 6 : Nat)) ?hi20 (by kernel_rfl) (by kernel_rfl) (by kernel_rfl) ?hq20 ?hy20 hHeld ?rest20
        case hi20 => (simp only [List.getElem?_toArray, List.getElem?_cons_zero, List.getElem?_cons_succ]; rfl)
        case hy20 => exact y_len (by rfl) (.tmp 78) rfl Ah (tot g.t 6) cch rfl
        case hq20 => exact fun _ _ _ h => h
        try simp only [Act.put, List.setIfInBounds_toArray, List.set_cons_zero, List.set_cons_succ]
        refine wpAnyH_ready (rs := [15]) (by kernel_rfl) (by simp) ?_
        refine AllReadyH.cons (o := ?o21) ?hi21 (fun K hK => ?rest21) AllReadyH.nil
        case hi21 => (simp only [List.getElem?_toArray, List.getElem?_cons_zero, List.getElem?_cons_succ]; rfl)
        go_simp
        refine (towers_any (LY9.out.below hHeld)).mono ?_
        rintro e wz ⟨rfl, rfl⟩
        replace hHeld := hHeld
        refine hK.out _ _ hHeld (fun _ => ?_)
        clear hK K
        try simp only [Act.put, List.setIfInBounds_toArray, List.set_cons_zero, List.set_cons_succ]
        refine wpAnyH_take (i := 21) (oi := ?o22) (v := .bool true) ?hi22 (by kernel_rfl) (by kernel_rfl) (by kernel_rfl) ?hq22 ?hy22 hHeld ?rest22
        case hi22 => (simp only [List.getElem?_toArray, List.getElem?_cons_zero, List.getElem?_cons_succ]; rfl)
        case hy22 => exact y_eqI (by rfl) (.tmp 74) (.tmp 79) _ rfl (tot g.t 6 : Nat) rfl rfl
        case hq22 => exact fun _ _ _ h => h
        try simp only [Act.put, List.setIfInBounds_toArray, List.set_cons_zero, List.set_cons_succ]
        refine wpAnyH_take (i := 22) (oi := ?o23) (v := .bool true) ?hi23 (by kernel_rfl) (by kernel_rfl) (by kernel_rfl) ?hq23 ?hy23 hHeld ?rest23
        case hi23 => (simp only [List.getElem?_toArray, List.getElem?_cons_zero, List.getElem?_cons_succ]; rfl)
        case hy23 => exact y_pickT (by rfl) (.tmp 80) _ (.tmp 72) rfl rfl (.bool true) rfl
        case hq23 => exact fun _ _ _ h => h
        try simp only [Act.put, List.setIfInBounds_toArray, List.set_cons_zero, List.set_cons_succ]
        refine wpAnyH_take (i := 23) (oi := ?o24) (v := .bool true) ?hi24 (by kernel_rfl) (by kernel_rfl) (by kernel_rfl) ?hq24 ?hy24 hHeld ?rest24
        case hi24 => (simp only [List.getElem?_toArray, List.getElem?_cons_zero, List.getElem?_cons_succ]; rfl)
        case hy24 => exact y_assign (by rfl) (.tmp 81) rfl (.bool true) rfl
        case hq24 => exact fun _ _ _ h => h
        try simp only [Act.put, List.setIfInBounds_toArray, List.set_cons_zero, List.set_cons_succ]
        refine wpAnyH_done (by kernel_rfl) ?_ _
        go_wp2
        go_ret
        exact ⟨rfl, bel_trans BW9.out hHeld⟩
end Wk
end Go.Proofs.Ythmadcjkodfdeaa
