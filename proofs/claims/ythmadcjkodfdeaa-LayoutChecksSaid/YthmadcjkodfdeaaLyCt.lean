/- leapfroglaw09: cut (a configuration of at most 100 cuts): contract of the translated code. Conditions: those of each lemma. -/
import Derived.Test.YthmadcjkodfdeaaLyX
namespace Go.Proofs.Ythmadcjkodfdeaa
open Go.RowKit Go.Sort
set_option linter.unusedVariables false
set_option linter.unusedSimpArgs false
namespace Ly
open Dm (RdK BdU dmB dmE dmN bel_alloc bel_trans cell_lt)
/-- a configuration of at most 100 cuts, in memory of its own -/
def Cf.few (f : Cf) : Cf := { f with m := min f.m 100 }
theorem takeU_run (A : Option Addr) (n m c : Nat) (hm : m ≤ n) (hc : n ≤ c) : ∀ w : World, (Instr.sliceAt 22 (.slice A n c) none (some (.int .i64 m)) none).run Try.prog w = .ok (.slice A m c) w := fun w => by
  have u : Try.prog.underlying 22 = some (.slice (Try.prog.elem 22)) := by kernel_rfl
  have hmc : (m : Int) ≤ c := by omega
  simp [go_sem, Instr.sliceBounds, hmc, sliced]
set_option maxRecDepth 100000 in
set_option maxHeartbeats 4000000 in
theorem cut_any (f : Cf) (l : List Int) (w : World) (hn : l.length = f.m) (hm : f.m ≤ f.c ∧ f.c ≤ maxLen) (hzc : f.A = none → f.c = 0) (hr : RdK .u64 w f.A l) : Calls Try.prog 10 #[.agg #[.int .i64 f.th, .int .i64 f.sl, .int .u8 f.en, .int .i64 f.bu, .int .u8 f.k, .int .i64 f.n, .slice f.A f.m f.c, .int .i64 (f.t 0), .int .i64 (f.t 1), .int .i64 (f.t 2), .int .i64 (f.t 3), .int .i64 (f.t 4), .int .i64 (f.t 5), .int .i64 f.lo, .int .i64 f.tr, .int .i64 f.ba]] w (CopyPost f.few (l.take (min f.m 100)) w) := by
  obtain ⟨k, hk⟩ : ∃ k, min f.m 100 = k := ⟨_, rfl⟩
  have hmin : min (f.m : Int) 100 = (k : Int) := by omega
  have hmin2 : (if (100 : Int) < (f.m : Int) then (100 : Int) else (f.m : Int)) = (k : Int) := by split <;> omega
  have hk1 : k ≤ f.m := by omega
  have hk2 : k ≤ 100 := by omega
  have HP := Lib.hid (show ∀ e w', CopyPost f.few (l.take k) w e w' ↔ CopyPost { f with m := k } (l.take k) w e w' from fun e w' => by unfold Cf.few; rw [hk])
  have HR := Lib.hid (show RdK .u64 w f.A (l.take k) from fun i hi => by
    have hi2 : i < k := by rw [List.length_take] at hi; omega
    obtain ⟨b, o, e, c⟩ := hr i (by omega)
    refine ⟨b, o, e, ?_⟩
    rw [c, List.getD_eq_getElem?_getD, List.getD_eq_getElem?_getD, List.getElem?_take, if_pos hi2])
  have hlk : (l.take k).length = k := by rw [List.length_take]; omega
  have HLK := Lib.hid hlk
  have HZC := Lib.hid hzc
  have TR := takeU_run f.A f.m k f.c hk1 hm.1
  have hk3 : (k : Int) ≤ f.m := by omega
  have hm2 := hm.2
  unfold maxLen at hm2
  rw [hk]
  generalize l.take k = lk at *
  clear hr hn hk hlk hzc hm
  go_enter Try.func10, Try.ntmps10
  have BB := bel_alloc (bel_alloc (Below.refl w.heap.size w) (.cells #[.int .i64 f.th, .int .i64 f.sl, .int .u8 f.en, .int .i64 f.bu, .int .u8 f.k, .int .i64 f.n, .slice f.A f.m f.c, .int .i64 (f.t 0), .int .i64 (f.t 1), .int .i64 (f.t 2), .int .i64 (f.t 3), .int .i64 (f.t 4), .int .i64 (f.t 5), .int .i64 f.lo, .int .i64 f.tr, .int .i64 f.ba] 27)) (.cells #[.int .i64 0, .int .i64 0, .int .u8 0, .int .i64 0, .int .u8 0, .int .i64 0, .slice none 0 0, .int .i64 0, .int .i64 0, .int .i64 0, .int .i64 0, .int .i64 0, .int .i64 0, .int .i64 0, .int .i64 0, .int .i64 0] 27)
  have hbox : ∃ W : World, W = (w.alloc (.cells #[.int .i64 f.th, .int .i64 f.sl, .int .u8 f.en, .int .i64 f.bu, .int .u8 f.k, .int .i64 f.n, .slice f.A f.m f.c, .int .i64 (f.t 0), .int .i64 (f.t 1), .int .i64 (f.t 2), .int .i64 (f.t 3), .int .i64 (f.t 4), .int .i64 (f.t 5), .int .i64 f.lo, .int .i64 f.tr, .int .i64 f.ba] 27)).alloc (.cells #[.int .i64 0, .int .i64 0, .int .u8 0, .int .i64 0, .int .u8 0, .int .i64 0, .slice none 0 0, .int .i64 0, .int .i64 0, .int .i64 0, .int .i64 0, .int .i64 0, .int .i64 0, .int .i64 0, .int .i64 0, .int .i64 0] 27) := ⟨_, rfl⟩
  obtain ⟨W, hW⟩ := hbox
  have g0 : W.heap[w.heap.size]? = some (.cells #[.int .i64 f.th, .int .i64 f.sl, .int .u8 f.en, .int .i64 f.bu, .int .u8 f.k, .int .i64 f.n, .slice f.A f.m f.c, .int .i64 (f.t 0), .int .i64 (f.t 1), .int .i64 (f.t 2), .int .i64 (f.t 3), .int .i64 (f.t 4), .int .i64 (f.t 5), .int .i64 f.lo, .int .i64 f.tr, .int .i64 f.ba] 27) := by subst hW; rw [Below.heap_alloc _ _ _ (by simp)]; exact heap_new _ _
  have g1 : W.heap[w.heap.size + 1]? = some (.cells #[.int .i64 0, .int .i64 0, .int .u8 0, .int .i64 0, .int .u8 0, .int .i64 0, .slice none 0 0, .int .i64 0, .int .i64 0, .int .i64 0, .int .i64 0, .int .i64 0, .int .i64 0, .int .i64 0, .int .i64 0, .int .i64 0] 27) := by subst hW; have := heap_new (w.alloc (.cells #[.int .i64 f.th, .int .i64 f.sl, .int .u8 f.en, .int .i64 f.bu, .int .u8 f.k, .int .i64 f.n, .slice f.A f.m f.c, .int .i64 (f.t 0), .int .i64 (f.t 1), .int .i64 (f.t 2), .int .i64 (f.t 3), .int .i64 (f.t 4), .int .i64 (f.t 5), .int .i64 f.lo, .int .i64 f.tr, .int .i64 f.ba] 27)); simp only [World.size_alloc] at this; exact this _
  have fz : ∀ j, W.frozen? ⟨w.heap.size, j, none⟩ = false ∧ W.frozen? ⟨w.heap.size + 1, j, none⟩ = false := fun j => by subst hW; exact ⟨by rw [World.frozen?_alloc_old _ _ _ (by simp), World.frozen?_alloc_new], by have := World.frozen?_alloc_new (w.alloc (.cells #[.int .i64 f.th, .int .i64 f.sl, .int .u8 f.en, .int .i64 f.bu, .int .u8 f.k, .int .i64 f.n, .slice f.A f.m f.c, .int .i64 (f.t 0), .int .i64 (f.t 1), .int .i64 (f.t 2), .int .i64 (f.t 3), .int .i64 (f.t 4), .int .i64 (f.t 5), .int .i64 f.lo, .int .i64 f.tr, .int .i64 f.ba] 27)); simp only [World.size_alloc] at this; exact this _ _ _⟩
  have hz : W.heap.size = w.heap.size + 2 := by subst hW; simp
  have OWN : (W.alloc (.cells #[] 39)).ownsRow W.heap.size 39 1 (.slice (some ⟨W.heap.size, 0, none⟩) 0 0) 0 [] := World.ownsRow_made W #[] 0 (Nat.le_refl _) (Nat.zero_le _) (by simp)
  rw [← hW] at BB
  have HRW := Lib.hid (rdK_KU ((HR.out.below BB).below (bel_alloc (Below.refl _ _) (.cells #[] 39))))
  go_upto_region 1 with fail
  rw [← hW]
  have c6 : W.cell? ⟨w.heap.size, 6, none⟩ = some (.slice f.A f.m f.c) := cell_of g0 rfl
  have lw : w.heap.size < W.heap.size := by omega
  have G0 := Lib.hid g0
  have G1 := Lib.hid g1
  have FZ := Lib.hid fz
  have HZW := Lib.hid hz
  have HBB := Lib.hid BB
  have HOW := Lib.hid OWN
  clear hW g0 g1 fz hz BB OWN
  go_step
  iterate 9 (go_step; go_simp; rename_i hK; refine hK _ _ ?_; clear hK)
  go_step; go_simp; rename_i hK; refine hK _ _ ?_; clear hK
  refine KU.appAll rfl (.tmp 3) (.tmp 12) rfl (W.alloc (.cells #[] 39)) W.heap.size 0 (.slice (some ⟨W.heap.size, 0, none⟩) 0 0) [] f.A k f.c lk rfl rfl HOW.out HLK.out HRW.out HZC.out (by omega) (by simp) ?_
  intro v w3 row b3
  have g0 := G0.out
  have g1 := G1.out
  have fz := FZ.out
  have hz := HZW.out
  have BB := HBB.out
  clear G0 G1 FZ HBB HOW c6
  rw [Nat.zero_add, List.nil_append] at row
  replace b3 := (bel_alloc (Below.refl W.heap.size W) (.cells #[] 39)).trans b3
  obtain ⟨hl, A, c, rfl, hnc, rd, hz2, hA⟩ := KU.row row
  have RDA := Lib.hid rd
  have HA := Lib.hid hA
  have HZ2 := Lib.hid hz2
  have B3 := Lib.hid b3
  have BW := Lib.hid BB
  have hblk : ∀ b, b < W.heap.size → (∀ j, w3.cell? ⟨b, j, none⟩ = W.cell? ⟨b, j, none⟩) ∧ (∀ j, w3.frozen? ⟨b, j, none⟩ = W.frozen? ⟨b, j, none⟩) := fun b hb => ⟨fun j => b3.cell (p := ⟨b, j, none⟩) hb, fun j => b3.frozen (p := ⟨b, j, none⟩) hb⟩
  obtain ⟨k0, f0⟩ := hblk w.heap.size (by omega)
  obtain ⟨k1, f1⟩ := hblk (w.heap.size + 1) (by omega)
  have x0 : w3.cell? ⟨w.heap.size, 0, none⟩ = some (.int .i64 f.th) := (k0 _).trans (cell_of g0 rfl)
  have x1 : w3.cell? ⟨w.heap.size, 1, none⟩ = some (.int .i64 f.sl) := (k0 _).trans (cell_of g0 rfl)
  have x2 : w3.cell? ⟨w.heap.size, 2, none⟩ = some (.int .u8 f.en) := (k0 _).trans (cell_of g0 rfl)
  have x3 : w3.cell? ⟨w.heap.size, 3, none⟩ = some (.int .i64 f.bu) := (k0 _).trans (cell_of g0 rfl)
  have x4 : w3.cell? ⟨w.heap.size, 4, none⟩ = some (.int .u8 f.k) := (k0 _).trans (cell_of g0 rfl)
  have x5 : w3.cell? ⟨w.heap.size, 5, none⟩ = some (.int .i64 f.n) := (k0 _).trans (cell_of g0 rfl)
  have x6 : w3.cell? ⟨w.heap.size, 6, none⟩ = some (.slice f.A f.m f.c) := (k0 _).trans (cell_of g0 rfl)
  have x7 : w3.cell? ⟨w.heap.size, 7, none⟩ = some (.int .i64 (f.t 0)) := (k0 _).trans (cell_of g0 rfl)
  have x8 : w3.cell? ⟨w.heap.size, 8, none⟩ = some (.int .i64 (f.t 1)) := (k0 _).trans (cell_of g0 rfl)
  have x9 : w3.cell? ⟨w.heap.size, 9, none⟩ = some (.int .i64 (f.t 2)) := (k0 _).trans (cell_of g0 rfl)
  have x10 : w3.cell? ⟨w.heap.size, 10, none⟩ = some (.int .i64 (f.t 3)) := (k0 _).trans (cell_of g0 rfl)
  have x11 : w3.cell? ⟨w.heap.size, 11, none⟩ = some (.int .i64 (f.t 4)) := (k0 _).trans (cell_of g0 rfl)
  have x12 : w3.cell? ⟨w.heap.size, 12, none⟩ = some (.int .i64 (f.t 5)) := (k0 _).trans (cell_of g0 rfl)
  have x13 : w3.cell? ⟨w.heap.size, 13, none⟩ = some (.int .i64 f.lo) := (k0 _).trans (cell_of g0 rfl)
  have x14 : w3.cell? ⟨w.heap.size, 14, none⟩ = some (.int .i64 f.tr) := (k0 _).trans (cell_of g0 rfl)
  have x15 : w3.cell? ⟨w.heap.size, 15, none⟩ = some (.int .i64 f.ba) := (k0 _).trans (cell_of g0 rfl)
  have y0 : w3.cell? ⟨w.heap.size + 1, 0, none⟩ = some (.int .i64 0) := (k1 _).trans (cell_of g1 rfl)
  have y1 : w3.cell? ⟨w.heap.size + 1, 1, none⟩ = some (.int .i64 0) := (k1 _).trans (cell_of g1 rfl)
  have y2 : w3.cell? ⟨w.heap.size + 1, 2, none⟩ = some (.int .u8 0) := (k1 _).trans (cell_of g1 rfl)
  have y3 : w3.cell? ⟨w.heap.size + 1, 3, none⟩ = some (.int .i64 0) := (k1 _).trans (cell_of g1 rfl)
  have y4 : w3.cell? ⟨w.heap.size + 1, 4, none⟩ = some (.int .u8 0) := (k1 _).trans (cell_of g1 rfl)
  have y5 : w3.cell? ⟨w.heap.size + 1, 5, none⟩ = some (.int .i64 0) := (k1 _).trans (cell_of g1 rfl)
  have y6 : w3.cell? ⟨w.heap.size + 1, 6, none⟩ = some (.slice none 0 0) := (k1 _).trans (cell_of g1 rfl)
  have y7 : w3.cell? ⟨w.heap.size + 1, 7, none⟩ = some (.int .i64 0) := (k1 _).trans (cell_of g1 rfl)
  have y8 : w3.cell? ⟨w.heap.size + 1, 8, none⟩ = some (.int .i64 0) := (k1 _).trans (cell_of g1 rfl)
  have y9 : w3.cell? ⟨w.heap.size + 1, 9, none⟩ = some (.int .i64 0) := (k1 _).trans (cell_of g1 rfl)
  have y10 : w3.cell? ⟨w.heap.size + 1, 10, none⟩ = some (.int .i64 0) := (k1 _).trans (cell_of g1 rfl)
  have y11 : w3.cell? ⟨w.heap.size + 1, 11, none⟩ = some (.int .i64 0) := (k1 _).trans (cell_of g1 rfl)
  have y12 : w3.cell? ⟨w.heap.size + 1, 12, none⟩ = some (.int .i64 0) := (k1 _).trans (cell_of g1 rfl)
  have y13 : w3.cell? ⟨w.heap.size + 1, 13, none⟩ = some (.int .i64 0) := (k1 _).trans (cell_of g1 rfl)
  have y14 : w3.cell? ⟨w.heap.size + 1, 14, none⟩ = some (.int .i64 0) := (k1 _).trans (cell_of g1 rfl)
  have y15 : w3.cell? ⟨w.heap.size + 1, 15, none⟩ = some (.int .i64 0) := (k1 _).trans (cell_of g1 rfl)
  have p0 : w3.frozen? ⟨w.heap.size + 1, 0, none⟩ = false := (f1 _).trans (fz _).2
  have p1 : w3.frozen? ⟨w.heap.size + 1, 1, none⟩ = false := (f1 _).trans (fz _).2
  have p2 : w3.frozen? ⟨w.heap.size + 1, 2, none⟩ = false := (f1 _).trans (fz _).2
  have p3 : w3.frozen? ⟨w.heap.size + 1, 3, none⟩ = false := (f1 _).trans (fz _).2
  have p4 : w3.frozen? ⟨w.heap.size + 1, 4, none⟩ = false := (f1 _).trans (fz _).2
  have p5 : w3.frozen? ⟨w.heap.size + 1, 5, none⟩ = false := (f1 _).trans (fz _).2
  have p6 : w3.frozen? ⟨w.heap.size + 1, 6, none⟩ = false := (f1 _).trans (fz _).2
  have p7 : w3.frozen? ⟨w.heap.size + 1, 7, none⟩ = false := (f1 _).trans (fz _).2
  have p8 : w3.frozen? ⟨w.heap.size + 1, 8, none⟩ = false := (f1 _).trans (fz _).2
  have p9 : w3.frozen? ⟨w.heap.size + 1, 9, none⟩ = false := (f1 _).trans (fz _).2
  have p10 : w3.frozen? ⟨w.heap.size + 1, 10, none⟩ = false := (f1 _).trans (fz _).2
  have p11 : w3.frozen? ⟨w.heap.size + 1, 11, none⟩ = false := (f1 _).trans (fz _).2
  have p12 : w3.frozen? ⟨w.heap.size + 1, 12, none⟩ = false := (f1 _).trans (fz _).2
  have p13 : w3.frozen? ⟨w.heap.size + 1, 13, none⟩ = false := (f1 _).trans (fz _).2
  have p14 : w3.frozen? ⟨w.heap.size + 1, 14, none⟩ = false := (f1 _).trans (fz _).2
  have p15 : w3.frozen? ⟨w.heap.size + 1, 15, none⟩ = false := (f1 _).trans (fz _).2
  have q6 : w3.frozen? ⟨w.heap.size, 6, none⟩ = false := (f0 _).trans (fz _).1
  clear k0 k1 f0 f1 hblk g0 g1 fz rd hA hz2 b3 BB row hl
  go_wp2_with fail
  have hin := World.cell?_setCells_in (w.heap.size + 1) [.int .i64 f.th, .int .i64 f.sl, .int .u8 f.en, .int .i64 f.bu, .int .u8 f.k, .int .i64 f.n, .slice A k c, .int .i64 (f.t 0), .int .i64 (f.t 1), .int .i64 (f.t 2), .int .i64 (f.t 3), .int .i64 (f.t 4), .int .i64 (f.t 5), .int .i64 f.lo, .int .i64 f.tr, .int .i64 f.ba] 0 (w3.setCell ⟨w.heap.size, 6, none⟩ (.slice A k c)) (fun j hj => by
    rw [Nat.zero_add, World.cell?_setCell_other _ _ _ _ (by simp)]
    have hj : j < 16 := hj
    rcases j with _ | _ | _ | _ | _ | _ | _ | _ | _ | _ | _ | _ | _ | _ | _ | _ | j
    all_goals first | omega | simp only [Nat.zero_add, Nat.reduceAdd, *, Option.isSome_some])
  have hB : Below w.heap.size w ((w3.setCell ⟨w.heap.size, 6, none⟩ (.slice A k c)).setCells (w.heap.size + 1) 0 [.int .i64 f.th, .int .i64 f.sl, .int .u8 f.en, .int .i64 f.bu, .int .u8 f.k, .int .i64 f.n, .slice A k c, .int .i64 (f.t 0), .int .i64 (f.t 1), .int .i64 (f.t 2), .int .i64 (f.t 3), .int .i64 (f.t 4), .int .i64 (f.t 5), .int .i64 f.lo, .int .i64 f.tr, .int .i64 f.ba]) :=
    below_setCells (((BW.out.trans (B3.out.mono BW.out.size))).setCell (p := ⟨w.heap.size, 6, none⟩) (Nat.le_refl _) _) (by omega) _ _
  have hsz : ((w3.setCell ⟨w.heap.size, 6, none⟩ (.slice A k c)).setCells (w.heap.size + 1) 0 [.int .i64 f.th, .int .i64 f.sl, .int .u8 f.en, .int .i64 f.bu, .int .u8 f.k, .int .i64 f.n, .slice A k c, .int .i64 (f.t 0), .int .i64 (f.t 1), .int .i64 (f.t 2), .int .i64 (f.t 3), .int .i64 (f.t 4), .int .i64 (f.t 5), .int .i64 f.lo, .int .i64 f.tr, .int .i64 f.ba]).heap.size = w3.heap.size := by rw [size_setCells]; simp
  have hrd : RdK .u64 ((w3.setCell ⟨w.heap.size, 6, none⟩ (.slice A k c)).setCells (w.heap.size + 1) 0 [.int .i64 f.th, .int .i64 f.sl, .int .u8 f.en, .int .i64 f.bu, .int .u8 f.k, .int .i64 f.n, .slice A k c, .int .i64 (f.t 0), .int .i64 (f.t 1), .int .i64 (f.t 2), .int .i64 (f.t 3), .int .i64 (f.t 4), .int .i64 (f.t 5), .int .i64 f.lo, .int .i64 f.tr, .int .i64 f.ba]) A lk := KU_rdK (RDA.out.keep fun b hb ⟨a, ea, eb⟩ => by
    have h1 := (HA.out a ea).1
    rw [block_setCells _ _ _ _ _ (by omega)]
    exact Below.heap_setCell _ _ _ _ (by rw [← eb]; simp; omega))
  have hres : ∀ W : World, W = (w3.setCell ⟨w.heap.size, 6, none⟩ (.slice A k c)).setCells (w.heap.size + 1) 0 [.int .i64 f.th, .int .i64 f.sl, .int .u8 f.en, .int .i64 f.bu, .int .u8 f.k, .int .i64 f.n, .slice A k c, .int .i64 (f.t 0), .int .i64 (f.t 1), .int .i64 (f.t 2), .int .i64 (f.t 3), .int .i64 (f.t 4), .int .i64 (f.t 5), .int .i64 f.lo, .int .i64 f.tr, .int .i64 f.ba] → True := fun _ _ => trivial
  show bodyPost _ _ _ _ _ ((w3.setCell ⟨w.heap.size, 6, none⟩ (.slice A k c)).setCells (w.heap.size + 1) 0 [.int .i64 f.th, .int .i64 f.sl, .int .u8 f.en, .int .i64 f.bu, .int .u8 f.k, .int .i64 f.n, .slice A k c, .int .i64 (f.t 0), .int .i64 (f.t 1), .int .i64 (f.t 2), .int .i64 (f.t 3), .int .i64 (f.t 4), .int .i64 (f.t 5), .int .i64 f.lo, .int .i64 f.tr, .int .i64 f.ba])
  generalize (w3.setCell ⟨w.heap.size, 6, none⟩ (.slice A k c)).setCells (w.heap.size + 1) 0 [.int .i64 f.th, .int .i64 f.sl, .int .u8 f.en, .int .i64 f.bu, .int .u8 f.k, .int .i64 f.n, .slice A k c, .int .i64 (f.t 0), .int .i64 (f.t 1), .int .i64 (f.t 2), .int .i64 (f.t 3), .int .i64 (f.t 4), .int .i64 (f.t 5), .int .i64 f.lo, .int .i64 f.tr, .int .i64 f.ba] = W4 at *
  have z0 := hin 0 (by show 0 < 16; omega)
  have z1 := hin 1 (by show 1 < 16; omega)
  have z2 := hin 2 (by show 2 < 16; omega)
  have z3 := hin 3 (by show 3 < 16; omega)
  have z4 := hin 4 (by show 4 < 16; omega)
  have z5 := hin 5 (by show 5 < 16; omega)
  have z6 := hin 6 (by show 6 < 16; omega)
  have z7 := hin 7 (by show 7 < 16; omega)
  have z8 := hin 8 (by show 8 < 16; omega)
  have z9 := hin 9 (by show 9 < 16; omega)
  have z10 := hin 10 (by show 10 < 16; omega)
  have z11 := hin 11 (by show 11 < 16; omega)
  have z12 := hin 12 (by show 12 < 16; omega)
  have z13 := hin 13 (by show 13 < 16; omega)
  have z14 := hin 14 (by show 14 < 16; omega)
  have z15 := hin 15 (by show 15 < 16; omega)
  simp only [List.getElem_cons_zero, List.getElem_cons_succ, Nat.zero_add] at z0 z1 z2 z3 z4 z5 z6 z7 z8 z9 z10 z11 z12 z13 z14 z15
  refine bodyPost_ret (v := .agg #[.int .i64 f.th, .int .i64 f.sl, .int .u8 f.en, .int .i64 f.bu, .int .u8 f.k, .int .i64 f.n, .slice A k c, .int .i64 (f.t 0), .int .i64 (f.t 1), .int .i64 (f.t 2), .int .i64 (f.t 3), .int .i64 (f.t 4), .int .i64 (f.t 5), .int .i64 f.lo, .int .i64 f.tr, .int .i64 f.ba]) ?_ rfl ((HP.out _ _).2 ⟨A, c, rfl, hB, hrd, HZ2.out, hnc, fun a e => ⟨by have := (HA.out a e).1; omega, by rw [hsz]; exact (HA.out a e).2⟩⟩)
  simp [results, Try.results10, go_sem, z0, z1, z2, z3, z4, z5, z6, z7, z8, z9, z10, z11, z12, z13, z14, z15]
end Ly
end Go.Proofs.Ythmadcjkodfdeaa
