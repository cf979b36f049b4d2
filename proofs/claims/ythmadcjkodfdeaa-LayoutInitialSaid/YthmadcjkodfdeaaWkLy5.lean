/- LayoutInitial: the walk. Conditions: those of the arguments' kinds. -/
import Derived.Test.YthmadcjkodfdeaaLrW
import Derived.Test.YthmadcjkodfdeaaLyK
import Derived.WalkSpells
namespace Go.Proofs.Ythmadcjkodfdeaa
open Go.RowKit Go.Sort
set_option linter.unusedVariables false
set_option linter.unusedSimpArgs false
namespace Wk
open Ly
open Dm (RdK BdU dmB dmE dmN bel_alloc bel_trans cell_lt)
set_option maxRecDepth 100000 in
set_option maxHeartbeats 4000000 in
theorem walk_layoutInitial (a0 : Ly.Cf) (a0v : List Int) (w : World) (a0b : a0.Bd a0v) (a0r : Dm.RdK .u64 w a0.A a0v) (a0y : a0.m ≤ a0.c ∧ a0.c ≤ maxLen) :
    Calls Try.prog 5 #[.agg #[.int .i64 a0.th, .int .i64 a0.sl, .int .u8 a0.en, .int .i64 a0.bu, .int .u8 a0.k, .int .i64 a0.n, .slice a0.A a0.m a0.c, .int .i64 (a0.t 0), .int .i64 (a0.t 1), .int .i64 (a0.t 2), .int .i64 (a0.t 3), .int .i64 (a0.t 4), .int .i64 (a0.t 5), .int .i64 a0.lo, .int .i64 a0.tr, .int .i64 a0.ba]] w fun e w' => e = .returned (.bool true) ∧ Below w.heap.size w w' := by
  have HBd := Lib.hid a0b
  have HCT := fun (W : World) (h : RdK .u64 W a0.A a0v) => Lib.hid (cut_any a0 a0v W a0b.e a0y a0b.z h)
  have HR := Lib.hid a0r
  have NB := Lib.hid (heap_new w (.cells #[.int .i64 a0.th, .int .i64 a0.sl, .int .u8 a0.en, .int .i64 a0.bu, .int .u8 a0.k, .int .i64 a0.n, .slice a0.A a0.m a0.c, .int .i64 (a0.t 0), .int .i64 (a0.t 1), .int .i64 (a0.t 2), .int .i64 (a0.t 3), .int .i64 (a0.t 4), .int .i64 (a0.t 5), .int .i64 a0.lo, .int .i64 a0.tr, .int .i64 a0.ba] 27))
  have BX := Lib.hid (bel_alloc (Below.refl w.heap.size w) (.cells #[.int .i64 a0.th, .int .i64 a0.sl, .int .u8 a0.en, .int .i64 a0.bu, .int .u8 a0.k, .int .i64 a0.n, .slice a0.A a0.m a0.c, .int .i64 (a0.t 0), .int .i64 (a0.t 1), .int .i64 (a0.t 2), .int .i64 (a0.t 3), .int .i64 (a0.t 4), .int .i64 (a0.t 5), .int .i64 a0.lo, .int .i64 a0.tr, .int .i64 a0.ba] 27))
  have CF0 := Lib.hid (CfB.made w a0 27)
  obtain ⟨l2, hl2⟩ : ∃ l2, a0v.take (min a0.m 100) = l2 := ⟨_, rfl⟩
  have HB2 := Lib.hid (fun A c (hz : A = none → c = 0) => two_bd a0b (A := A) (c := c) hz)
  rw [hl2] at HCT HB2
  clear a0b a0r a0y hl2
  go_enter Try.func5, Try.ntmps5
  obtain ⟨wb, hwb⟩ : ∃ wb : World, wb = w.alloc (.cells #[.int .i64 a0.th, .int .i64 a0.sl, .int .u8 a0.en, .int .i64 a0.bu, .int .u8 a0.k, .int .i64 a0.n, .slice a0.A a0.m a0.c, .int .i64 (a0.t 0), .int .i64 (a0.t 1), .int .i64 (a0.t 2), .int .i64 (a0.t 3), .int .i64 (a0.t 4), .int .i64 (a0.t 5), .int .i64 a0.lo, .int .i64 a0.tr, .int .i64 a0.ba] 27) := ⟨_, rfl⟩
  go_upto_region 1 with fail
  rw [← hwb] at NB BX CF0 ⊢
  have hszb : wb.heap.size = w.heap.size + 1 := by rw [hwb, World.size_alloc]
  obtain ⟨bc, hbc⟩ : ∃ n, w.heap.size = n := ⟨_, rfl⟩
  have HBC := Lib.hid hbc
  rw [hbc] at NB CF0 hszb ⊢
  clear hwb hbc
  go_wp2_with (first | (refine ld_cfg rfl (.tmp 1) rfl bc a0 CF0.out rfl ?_))
  refine (HCT _ (HR.out.below BX.out)).out.mono ?_
  rintro e w1 ⟨A, c, rfl, b1, rd1, hz, hmc, hA⟩
  have TH := Lib.hid (cfg_there NB.out b1)
  obtain ⟨f2, hf2⟩ : ∃ f2 : Cf, f2 = a0.two A c := ⟨_, rfl⟩
  have HF2 := Lib.hid hf2
  have B2 := Lib.hid (HB2.out A c hz)
  rw [← hf2] at B2
  have ev : (Value.agg #[.int .i64 a0.few.th, .int .i64 a0.few.sl, .int .u8 a0.few.en, .int .i64 a0.few.bu, .int .u8 a0.few.k, .int .i64 a0.few.n, .slice A a0.few.m c, .int .i64 (a0.few.t 0), .int .i64 (a0.few.t 1), .int .i64 (a0.few.t 2), .int .i64 (a0.few.t 3), .int .i64 (a0.few.t 4), .int .i64 (a0.few.t 5), .int .i64 a0.few.lo, .int .i64 a0.few.tr, .int .i64 a0.few.ba]) = .agg #[.int .i64 f2.th, .int .i64 f2.sl, .int .u8 f2.en, .int .i64 f2.bu, .int .u8 f2.k, .int .i64 f2.n, .slice f2.A f2.m f2.c, .int .i64 (f2.t 0), .int .i64 (f2.t 1), .int .i64 (f2.t 2), .int .i64 (f2.t 3), .int .i64 (f2.t 4), .int .i64 (f2.t 5), .int .i64 f2.lo, .int .i64 f2.tr, .int .i64 f2.ba] := by rw [hf2]; rfl
  rw [ev]
  have RD1 := Lib.hid (show RdK .u64 w1 f2.A l2 from by rw [hf2]; exact rd1)
  have HA1 := Lib.hid (show ∀ a, f2.A = some a → bc < a.block ∧ a.block < w1.heap.size from fun a e => by rw [hf2] at e; have := hA a e; exact ⟨by omega, this.2⟩)
  have BW1 := Lib.hid (bel_trans BX.out b1)
  have hs1 : bc < w1.heap.size := by have := b1.size; omega
  clear hf2 ev hz hmc hA rd1 b1 NB CF0 HCT HB2
  go_upto_region 2 with (refine st_cfg rfl (.tmp 1) (.tmp 9) rfl bc f2 TH.out rfl rfl ?_; intro w2 cf2 bel2 blk2)
  have CF := Lib.hid cf2
  have BW2 := Lib.hid (bel2 _ _ (Nat.le_of_eq HBC.out) BW1.out)
  have RD2 := Lib.hid (show RdK .u64 w2 f2.A l2 from fun k hk => by
    obtain ⟨b, o, e, c⟩ := RD1.out k hk
    exact ⟨b, o, e, (World.cell?_of_block (blk2 b (by have := HA1.out _ e; simp at this; omega))).trans c⟩)
  clear cf2 bel2 blk2 TH BW1 RD1
  cases hok : okB f2 l2 with
  | false =>
    have HN := Lib.hid (show ∀ W, NewPost f2 l2 W = fun e w' => e = .returned (.tuple #[.pointer none, .int .i64 2]) ∧ Below W.heap.size W w' from fun W => by unfold NewPost; rw [hok]; rfl)
    have HM := Lib.hid (show ∀ W, NewRPost f2 l2 W = fun e w' => e = .returned (.tuple #[.pointer none, .int .i64 2]) ∧ Below W.heap.size W w' from fun W => by unfold NewRPost; rw [hok]; rfl)
    clear hok
    go_wp2_with (first | (refine ld_cfg rfl (.tmp 1) rfl bc f2 CF.out rfl ?_))
    refine (new_any f2 l2 _ B2.out RD2.out).mono ?_
    rw [HN.out]
    rintro e w3 ⟨rfl, b3⟩
    have CF3 := Lib.hid (CF.out.below b3)
    have BW3 := Lib.hid (bel_trans BW2.out b3)
    have RD3 := Lib.hid (RD2.out.below b3)
    clear b3 CF BW2 RD2
    go_wp2_with (first | (refine ld_cfg rfl (.tmp 1) rfl bc f2 CF3.out rfl ?_))
    refine (newR_any f2 l2 _ B2.out RD3.out).mono ?_
    rw [HM.out]
    rintro e w4 ⟨rfl, b4⟩
    have BW4 := Lib.hid (bel_trans BW3.out b4)
    clear b4 CF3 BW3 RD3
    go_wp2_with fail
    refine (nil_initial _).mono ?_
    rintro e w5 ⟨rfl, b5⟩
    go_wp2
    go_ret
    exact ⟨rfl, bel_trans BW4.out b5⟩
  | true =>
    have HN := Lib.hid (show ∀ W, NewPost f2 l2 W = fun e w' => ∃ b A c, e = .returned (.tuple #[.pointer (some ⟨b, 0, none⟩), .int .i64 0]) ∧ W.heap.size ≤ b ∧ LyAt w' b (f2.cut A c) l2 (geo f2 l2) ∧ (A = none → c = 0) ∧ (∀ a, A = some a → W.heap.size ≤ a.block) ∧ Below W.heap.size W w' from fun W => by unfold NewPost; rw [hok]; rfl)
    have HM := Lib.hid (show ∀ W, NewRPost f2 l2 W = fun e w' => ∃ b, e = .returned (.tuple #[.pointer (some ⟨b, 0, none⟩), .int .i64 0]) ∧ W.heap.size ≤ b ∧ RAt w' b (geo f2 l2) ∧ Below W.heap.size W w' from fun W => by unfold NewRPost; rw [hok]; rfl)
    have HGO := Lib.hid (nums hok).ok
    have hN0 := geo_s1 hok
    obtain ⟨g, hg⟩ : ∃ g, geo f2 l2 = g := ⟨_, rfl⟩
    rw [hg] at HN HM HGO hN0
    have hpw := pW_20 HGO.out
    clear hok hg
    go_wp2_with (first | (refine ld_cfg rfl (.tmp 1) rfl bc f2 CF.out rfl ?_))
    refine (new_any f2 l2 _ B2.out RD2.out).mono ?_
    rw [HN.out]
    rintro e w3 ⟨bl, A3, c3, rfl, _, ly3, _, _, b3⟩
    have CF3 := Lib.hid (CF.out.below b3)
    have BW3 := Lib.hid (bel_trans BW2.out b3)
    have RD3 := Lib.hid (RD2.out.below b3)
    have LY3 := Lib.hid ly3
    clear b3 CF BW2 RD2 ly3
    go_wp2_with (first | (refine ld_cfg rfl (.tmp 1) rfl bc f2 CF3.out rfl ?_))
    refine (newR_any f2 l2 _ B2.out RD3.out).mono ?_
    rw [HM.out]
    rintro e w4 ⟨br, rfl, _, ra4, b4⟩
    have BW4 := Lib.hid (bel_trans BW3.out b4)
    have LY4 := Lib.hid (LY3.out.below b4)
    have RA4 := Lib.hid ra4
    clear b4 CF3 BW3 RD3 LY3 ra4
    go_wp2_with fail
    refine (initial_any LY4.out HGO.out).mono ?_
    rintro e w5 ⟨rfl, own5, b5⟩
    have B5 := Lib.hid b5
    have OW5 := Lib.hid own5
    have RI5 := Lib.hid (ini_rd own5)
    have RA5 := Lib.hid (RA4.out.below b5)
    clear b5 own5
    go_wp2_with fail
    refine (initialR_any RA5.out HGO.out).mono ?_
    rintro e w6 ⟨rfl, own6, b6⟩
    have B6 := Lib.hid (B5.out.trans (b6.mono B5.out.size))
    have RI6 := Lib.hid (RI5.out.below b6)
    have RJ6 := Lib.hid (ini_rd own6)
    have OW6 := Lib.hid (KU.own_keep OW5.out fun g hg => b6.block g (World.ownsRow.lt OW5.out g hg).2)
    clear b6 own6 B5 OW5 RI5 RA5
    obtain ⟨N, hN⟩ : ∃ N, pW g = N := ⟨_, rfl⟩
    have HNN := Lib.hid hN
    have HIL := Lib.hid (show (ini g).length = N by rw [ini_len, hN])
    rw [hN] at hN0 hpw OW6 ⊢
    go_wp2_with fail
    refine (equ_same _ _ N N N (ini g) _ HIL.out (by omega) RI6.out RJ6.out).mono ?_
    rintro e w7 ⟨rfl, b7⟩
    have B7 := Lib.hid (B6.out.trans (b7.mono B6.out.size))
    have OW7 := Lib.hid (KU.own_keep OW6.out fun g hg => b7.block g (World.ownsRow.lt OW6.out g hg).2)
    clear b7 B6 RI6 RJ6 OW6
    have hN1 : (0 : Int) < N := by omega
    have hN2 : 0 < N := by omega
    have hil := HIL.out
    obtain ⟨x0, hx0⟩ : ∃ x0, (ini g)[0]? = some x0 := ⟨_, List.getElem?_eq_getElem (by omega)⟩
    have k0 : w7.cell? ⟨w4.heap.size, 0, none⟩ = some (.int .u64 x0) := by
      rw [World.ownsRow.cellAt OW7.out 0 (by show 0 < N * 1; omega), List.getElem?_map, hx0]; rfl
    have f0 := World.ownsRow.frozenAt OW7.out 0
    clear hil hx0
    go_upto_region 12 with fail
    obtain ⟨w8, hw8⟩ : ∃ w8 : World, w8 = w7.setCell ⟨w4.heap.size, 0, none⟩ (.int .u64 (IntKind.u64.wrap (x0 + 1))) := ⟨_, rfl⟩
    have B8 := Lib.hid (show Below w4.heap.size w4 w8 from by rw [hw8]; exact B7.out.setCell (p := ⟨w4.heap.size, 0, none⟩) (Nat.le_refl _) _)
    rw [← hw8]
    have LY8 := Lib.hid (LY4.out.below B8.out)
    clear hw8 k0 f0 B7 OW7
    go_wp2_with fail
    refine (initial_any LY8.out HGO.out).mono ?_
    rw [HNN.out]
    rintro e w9 ⟨rfl, own9, b9⟩
    have B9 := Lib.hid (B8.out.trans (b9.mono B8.out.size))
    have RA9 := Lib.hid (RA4.out.below B9.out)
    have RI9 := Lib.hid (show RdK .u64 w9 (some ⟨w8.heap.size, 0, none⟩) (ini g) from ini_rd (g := g) (by rw [HNN.out]; exact own9))
    clear b9 own9 B8 LY8
    go_wp2_with fail
    refine (initialR_any RA9.out HGO.out).mono ?_
    rw [HNN.out]
    rintro e wa ⟨rfl, owna, ba⟩
    have BA := Lib.hid (B9.out.trans (ba.mono B9.out.size))
    have RIa := Lib.hid (RI9.out.below ba)
    have RJa := Lib.hid (show RdK .u64 wa (some ⟨w9.heap.size, 0, none⟩) (ini g) from ini_rd (g := g) (by rw [HNN.out]; exact owna))
    clear ba owna B9 RI9 RA9
    go_wp2_with fail
    refine (equ_same _ _ N N N (ini g) _ HIL.out (by omega) RIa.out RJa.out).mono ?_
    rintro e wc ⟨rfl, bz⟩
    go_wp2
    go_ret
    exact ⟨rfl, bel_trans (bel_trans BW4.out BA.out) bz⟩
end Wk
end Go.Proofs.Ythmadcjkodfdeaa
