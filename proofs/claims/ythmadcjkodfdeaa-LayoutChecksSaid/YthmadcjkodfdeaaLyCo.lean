/- Package layout: Config hands out cuts that may be written: contract of the translated code. Conditions: those of each lemma. Written by tools/mk9own.py. -/
import Derived.Test.YthmadcjkodfdeaaLyY
import Derived.Test.YthmadcjkodfdeaaLrW
namespace Go.Proofs.Ythmadcjkodfdeaa
open Go.RowKit Go.Sort
set_option linter.unusedVariables false
set_option linter.unusedSimpArgs false
namespace Ly
open Dm (RdK BdU dmB dmE dmN bel_alloc bel_trans cell_lt)
theorem own_fz {w : World} {base : Nat} {E : TypeId} {sz n c : Nat} {A : Option Addr} {xs : List Value} (h : w.ownsRow base E sz (.slice A n c) n xs) : ∀ b o, A = some ⟨b, o, none⟩ → ∀ j, w.frozen? ⟨b, j, none⟩ = false := by
  rintro b o rfl j
  rcases h.2 with ⟨e, _⟩ | ⟨g, cap, cur, e, _⟩
  · cases e
  · injection e with e1 e2 e3
    injection e1 with e1
    injection e1 with e1 e4
    subst e1 e4
    exact World.ownsRow.frozenAt h j
def CopyOwn (f : Cf) (l : List Int) (w : World) (e : Ending) (w' : World) : Prop :=
  ∃ A c, e = .returned (.agg #[.int .i64 f.th, .int .i64 f.sl, .int .u8 f.en, .int .i64 f.bu, .int .u8 f.k, .int .i64 f.n, .slice A f.m c, .int .i64 (f.t 0), .int .i64 (f.t 1), .int .i64 (f.t 2), .int .i64 (f.t 3), .int .i64 (f.t 4), .int .i64 (f.t 5), .int .i64 f.lo, .int .i64 f.tr, .int .i64 f.ba]) ∧
    Below w.heap.size w w' ∧ RdK .u64 w' A l ∧ (A = none → c = 0) ∧ f.m ≤ c ∧ (∀ a, A = some a → w.heap.size ≤ a.block ∧ a.block < w'.heap.size) ∧ (∀ b o, A = some ⟨b, o, none⟩ → ∀ j, w'.frozen? ⟨b, j, none⟩ = false)
theorem copied_own (f : Cf) (l : List Int) (w : World) (hn : l.length = f.m) (hs : f.m ≤ 100000) (hr : RdK .u64 w f.A l) : Calls Try.prog 35 #[.agg #[.int .i64 f.th, .int .i64 f.sl, .int .u8 f.en, .int .i64 f.bu, .int .u8 f.k, .int .i64 f.n, .slice f.A f.m f.c, .int .i64 (f.t 0), .int .i64 (f.t 1), .int .i64 (f.t 2), .int .i64 (f.t 3), .int .i64 (f.t 4), .int .i64 (f.t 5), .int .i64 f.lo, .int .i64 f.tr, .int .i64 f.ba]] w (CopyOwn f l w) := by
  have HR := Lib.hid hr
  clear hr
  go_enter Try.func35, Try.ntmps35
  go_wp2_with fail
  have BB := bel_alloc (bel_alloc (Below.refl w.heap.size w) (.cells #[.int .i64 f.th, .int .i64 f.sl, .int .u8 f.en, .int .i64 f.bu, .int .u8 f.k, .int .i64 f.n, .slice f.A f.m f.c, .int .i64 (f.t 0), .int .i64 (f.t 1), .int .i64 (f.t 2), .int .i64 (f.t 3), .int .i64 (f.t 4), .int .i64 (f.t 5), .int .i64 f.lo, .int .i64 f.tr, .int .i64 f.ba] 27)) (.cells #[.int .i64 0, .int .i64 0, .int .u8 0, .int .i64 0, .int .u8 0, .int .i64 0, .slice none 0 0, .int .i64 0, .int .i64 0, .int .i64 0, .int .i64 0, .int .i64 0, .int .i64 0, .int .i64 0, .int .i64 0, .int .i64 0] 27)
  have hbox : ∃ W : World, W = (w.alloc (.cells #[.int .i64 f.th, .int .i64 f.sl, .int .u8 f.en, .int .i64 f.bu, .int .u8 f.k, .int .i64 f.n, .slice f.A f.m f.c, .int .i64 (f.t 0), .int .i64 (f.t 1), .int .i64 (f.t 2), .int .i64 (f.t 3), .int .i64 (f.t 4), .int .i64 (f.t 5), .int .i64 f.lo, .int .i64 f.tr, .int .i64 f.ba] 27)).alloc (.cells #[.int .i64 0, .int .i64 0, .int .u8 0, .int .i64 0, .int .u8 0, .int .i64 0, .slice none 0 0, .int .i64 0, .int .i64 0, .int .i64 0, .int .i64 0, .int .i64 0, .int .i64 0, .int .i64 0, .int .i64 0, .int .i64 0] 27) := ⟨_, rfl⟩
  obtain ⟨W, hW⟩ := hbox
  have g0 : W.heap[w.heap.size]? = some (.cells #[.int .i64 f.th, .int .i64 f.sl, .int .u8 f.en, .int .i64 f.bu, .int .u8 f.k, .int .i64 f.n, .slice f.A f.m f.c, .int .i64 (f.t 0), .int .i64 (f.t 1), .int .i64 (f.t 2), .int .i64 (f.t 3), .int .i64 (f.t 4), .int .i64 (f.t 5), .int .i64 f.lo, .int .i64 f.tr, .int .i64 f.ba] 27) := by subst hW; rw [Below.heap_alloc _ _ _ (by simp)]; exact heap_new _ _
  have g1 : W.heap[w.heap.size + 1]? = some (.cells #[.int .i64 0, .int .i64 0, .int .u8 0, .int .i64 0, .int .u8 0, .int .i64 0, .slice none 0 0, .int .i64 0, .int .i64 0, .int .i64 0, .int .i64 0, .int .i64 0, .int .i64 0, .int .i64 0, .int .i64 0, .int .i64 0] 27) := by subst hW; have := heap_new (w.alloc (.cells #[.int .i64 f.th, .int .i64 f.sl, .int .u8 f.en, .int .i64 f.bu, .int .u8 f.k, .int .i64 f.n, .slice f.A f.m f.c, .int .i64 (f.t 0), .int .i64 (f.t 1), .int .i64 (f.t 2), .int .i64 (f.t 3), .int .i64 (f.t 4), .int .i64 (f.t 5), .int .i64 f.lo, .int .i64 f.tr, .int .i64 f.ba] 27)); simp only [World.size_alloc] at this; exact this _
  have fz : ∀ j, W.frozen? ⟨w.heap.size, j, none⟩ = false ∧ W.frozen? ⟨w.heap.size + 1, j, none⟩ = false := fun j => by subst hW; exact ⟨by rw [World.frozen?_alloc_old _ _ _ (by simp), World.frozen?_alloc_new], by have := World.frozen?_alloc_new (w.alloc (.cells #[.int .i64 f.th, .int .i64 f.sl, .int .u8 f.en, .int .i64 f.bu, .int .u8 f.k, .int .i64 f.n, .slice f.A f.m f.c, .int .i64 (f.t 0), .int .i64 (f.t 1), .int .i64 (f.t 2), .int .i64 (f.t 3), .int .i64 (f.t 4), .int .i64 (f.t 5), .int .i64 f.lo, .int .i64 f.tr, .int .i64 f.ba] 27)); simp only [World.size_alloc] at this; exact this _ _ _⟩
  have hz : W.heap.size = w.heap.size + 2 := by subst hW; simp
  rw [← hW] at BB ⊢
  clear hW
  refine (cloneU f.A f.m f.c l W hn hs (HR.out.below BB)).mono ?_
  rintro r w3 ⟨v, rfl, row, b3⟩
  obtain ⟨hl, A, c, rfl, hnc, rd, hz2, hA⟩ := KU.row row
  have HFZ := Lib.hid (own_fz row)
  have RDA := Lib.hid rd
  have HA := Lib.hid hA
  have HZ2 := Lib.hid hz2
  have B3 := Lib.hid b3
  have BW := Lib.hid BB
  have hblk : ∀ b, b < W.heap.size → (∀ j, w3.cell? ⟨b, j, none⟩ = W.cell? ⟨b, j, none⟩) ∧ (∀ j, w3.frozen? ⟨b, j, none⟩ = W.frozen? ⟨b, j, none⟩) := fun b hb => ⟨fun j => b3.cell (p := ⟨b, j, none⟩) hb, fun j => b3.frozen (p := ⟨b, j, none⟩) hb⟩
  obtain ⟨k0, f0⟩ := hblk w.heap.size (by omega)
  obtain ⟨k1, f1⟩ := hblk (w.heap.size + 1) (by omega)
  have x0 : w3.cell? ⟨w.heap.size, 0, none⟩ = some (.int .i64 f.th) := (k0 _).trans (cell_of g0 rfl)
  have x1 : w3.cell? ⟨w.heap.size, 1, none⟩ = some (.int .i64 f.sl) := (k0 _).trans (cell_of g0 rfl)
  have x2 : w3.cell? ⟨w.heap.size, 2, none⟩ = some (.int .u8 f.en) := (k0 _).trans (cell_of g0 rfl)
  have x3 : w3.cell? ⟨w.heap.size, 3, none⟩ = some (.int .i64 f.bu) := (k0 _).trans (cell_of g0 rfl)
  have x4 : w3.cell? ⟨w.heap.size, 4, none⟩ = some (.int .u8 f.k) := (k0 _).trans (cell_of g0 rfl)
  have x5 : w3.cell? ⟨w.heap.size, 5, none⟩ = some (.int .i64 f.n) := (k0 _).trans (cell_of g0 rfl)
  have x6 : w3.cell? ⟨w.heap.size, 6, none⟩ = some (.slice f.A f.m f.c) := (k0 _).trans (cell_of g0 rfl)
  have x7 : w3.cell? ⟨w.heap.size, 7, none⟩ = some (.int .i64 (f.t 0)) := (k0 _).trans (cell_of g0 rfl)
  have x8 : w3.cell? ⟨w.heap.size, 8, none⟩ = some (.int .i64 (f.t 1)) := (k0 _).trans (cell_of g0 rfl)
  have x9 : w3.cell? ⟨w.heap.size, 9, none⟩ = some (.int .i64 (f.t 2)) := (k0 _).trans (cell_of g0 rfl)
  have x10 : w3.cell? ⟨w.heap.size, 10, none⟩ = some (.int .i64 (f.t 3)) := (k0 _).trans (cell_of g0 rfl)
  have x11 : w3.cell? ⟨w.heap.size, 11, none⟩ = some (.int .i64 (f.t 4)) := (k0 _).trans (cell_of g0 rfl)
  have x12 : w3.cell? ⟨w.heap.size, 12, none⟩ = some (.int .i64 (f.t 5)) := (k0 _).trans (cell_of g0 rfl)
  have x13 : w3.cell? ⟨w.heap.size, 13, none⟩ = some (.int .i64 f.lo) := (k0 _).trans (cell_of g0 rfl)
  have x14 : w3.cell? ⟨w.heap.size, 14, none⟩ = some (.int .i64 f.tr) := (k0 _).trans (cell_of g0 rfl)
  have x15 : w3.cell? ⟨w.heap.size, 15, none⟩ = some (.int .i64 f.ba) := (k0 _).trans (cell_of g0 rfl)
  have y0 : w3.cell? ⟨w.heap.size + 1, 0, none⟩ = some (.int .i64 0) := (k1 _).trans (cell_of g1 rfl)
  have y1 : w3.cell? ⟨w.heap.size + 1, 1, none⟩ = some (.int .i64 0) := (k1 _).trans (cell_of g1 rfl)
  have y2 : w3.cell? ⟨w.heap.size + 1, 2, none⟩ = some (.int .u8 0) := (k1 _).trans (cell_of g1 rfl)
  have y3 : w3.cell? ⟨w.heap.size + 1, 3, none⟩ = some (.int .i64 0) := (k1 _).trans (cell_of g1 rfl)
  have y4 : w3.cell? ⟨w.heap.size + 1, 4, none⟩ = some (.int .u8 0) := (k1 _).trans (cell_of g1 rfl)
  have y5 : w3.cell? ⟨w.heap.size + 1, 5, none⟩ = some (.int .i64 0) := (k1 _).trans (cell_of g1 rfl)
  have y6 : w3.cell? ⟨w.heap.size + 1, 6, none⟩ = some (.slice none 0 0) := (k1 _).trans (cell_of g1 rfl)
  have y7 : w3.cell? ⟨w.heap.size + 1, 7, none⟩ = some (.int .i64 0) := (k1 _).trans (cell_of g1 rfl)
  have y8 : w3.cell? ⟨w.heap.size + 1, 8, none⟩ = some (.int .i64 0) := (k1 _).trans (cell_of g1 rfl)
  have y9 : w3.cell? ⟨w.heap.size + 1, 9, none⟩ = some (.int .i64 0) := (k1 _).trans (cell_of g1 rfl)
  have y10 : w3.cell? ⟨w.heap.size + 1, 10, none⟩ = some (.int .i64 0) := (k1 _).trans (cell_of g1 rfl)
  have y11 : w3.cell? ⟨w.heap.size + 1, 11, none⟩ = some (.int .i64 0) := (k1 _).trans (cell_of g1 rfl)
  have y12 : w3.cell? ⟨w.heap.size + 1, 12, none⟩ = some (.int .i64 0) := (k1 _).trans (cell_of g1 rfl)
  have y13 : w3.cell? ⟨w.heap.size + 1, 13, none⟩ = some (.int .i64 0) := (k1 _).trans (cell_of g1 rfl)
  have y14 : w3.cell? ⟨w.heap.size + 1, 14, none⟩ = some (.int .i64 0) := (k1 _).trans (cell_of g1 rfl)
  have y15 : w3.cell? ⟨w.heap.size + 1, 15, none⟩ = some (.int .i64 0) := (k1 _).trans (cell_of g1 rfl)
  have p0 : w3.frozen? ⟨w.heap.size + 1, 0, none⟩ = false := (f1 _).trans (fz _).2
  have p1 : w3.frozen? ⟨w.heap.size + 1, 1, none⟩ = false := (f1 _).trans (fz _).2
  have p2 : w3.frozen? ⟨w.heap.size + 1, 2, none⟩ = false := (f1 _).trans (fz _).2
  have p3 : w3.frozen? ⟨w.heap.size + 1, 3, none⟩ = false := (f1 _).trans (fz _).2
  have p4 : w3.frozen? ⟨w.heap.size + 1, 4, none⟩ = false := (f1 _).trans (fz _).2
  have p5 : w3.frozen? ⟨w.heap.size + 1, 5, none⟩ = false := (f1 _).trans (fz _).2
  have p6 : w3.frozen? ⟨w.heap.size + 1, 6, none⟩ = false := (f1 _).trans (fz _).2
  have p7 : w3.frozen? ⟨w.heap.size + 1, 7, none⟩ = false := (f1 _).trans (fz _).2
  have p8 : w3.frozen? ⟨w.heap.size + 1, 8, none⟩ = false := (f1 _).trans (fz _).2
  have p9 : w3.frozen? ⟨w.heap.size + 1, 9, none⟩ = false := (f1 _).trans (fz _).2
  have p10 : w3.frozen? ⟨w.heap.size + 1, 10, none⟩ = false := (f1 _).trans (fz _).2
  have p11 : w3.frozen? ⟨w.heap.size + 1, 11, none⟩ = false := (f1 _).trans (fz _).2
  have p12 : w3.frozen? ⟨w.heap.size + 1, 12, none⟩ = false := (f1 _).trans (fz _).2
  have p13 : w3.frozen? ⟨w.heap.size + 1, 13, none⟩ = false := (f1 _).trans (fz _).2
  have p14 : w3.frozen? ⟨w.heap.size + 1, 14, none⟩ = false := (f1 _).trans (fz _).2
  have p15 : w3.frozen? ⟨w.heap.size + 1, 15, none⟩ = false := (f1 _).trans (fz _).2
  have q6 : w3.frozen? ⟨w.heap.size, 6, none⟩ = false := (f0 _).trans (fz _).1
  clear k0 k1 f0 f1 hblk g0 g1 fz rd hA hz2 b3 BB row hl
  go_wp2_with fail
  have hin := World.cell?_setCells_in (w.heap.size + 1) [.int .i64 f.th, .int .i64 f.sl, .int .u8 f.en, .int .i64 f.bu, .int .u8 f.k, .int .i64 f.n, .slice A f.m c, .int .i64 (f.t 0), .int .i64 (f.t 1), .int .i64 (f.t 2), .int .i64 (f.t 3), .int .i64 (f.t 4), .int .i64 (f.t 5), .int .i64 f.lo, .int .i64 f.tr, .int .i64 f.ba] 0 (w3.setCell ⟨w.heap.size, 6, none⟩ (.slice A f.m c)) (fun j hj => by
    rw [Nat.zero_add, World.cell?_setCell_other _ _ _ _ (by simp)]
    have hj : j < 16 := hj
    rcases j with _ | _ | _ | _ | _ | _ | _ | _ | _ | _ | _ | _ | _ | _ | _ | _ | j
    all_goals first | omega | simp only [Nat.zero_add, Nat.reduceAdd, *, Option.isSome_some])
  have hB : Below w.heap.size w ((w3.setCell ⟨w.heap.size, 6, none⟩ (.slice A f.m c)).setCells (w.heap.size + 1) 0 [.int .i64 f.th, .int .i64 f.sl, .int .u8 f.en, .int .i64 f.bu, .int .u8 f.k, .int .i64 f.n, .slice A f.m c, .int .i64 (f.t 0), .int .i64 (f.t 1), .int .i64 (f.t 2), .int .i64 (f.t 3), .int .i64 (f.t 4), .int .i64 (f.t 5), .int .i64 f.lo, .int .i64 f.tr, .int .i64 f.ba]) :=
    below_setCells (((BW.out.trans (B3.out.mono BW.out.size))).setCell (p := ⟨w.heap.size, 6, none⟩) (Nat.le_refl _) _) (by omega) _ _
  have hsz : ((w3.setCell ⟨w.heap.size, 6, none⟩ (.slice A f.m c)).setCells (w.heap.size + 1) 0 [.int .i64 f.th, .int .i64 f.sl, .int .u8 f.en, .int .i64 f.bu, .int .u8 f.k, .int .i64 f.n, .slice A f.m c, .int .i64 (f.t 0), .int .i64 (f.t 1), .int .i64 (f.t 2), .int .i64 (f.t 3), .int .i64 (f.t 4), .int .i64 (f.t 5), .int .i64 f.lo, .int .i64 f.tr, .int .i64 f.ba]).heap.size = w3.heap.size := by rw [size_setCells]; simp
  have hFZ : ∀ b o, A = some ⟨b, o, none⟩ → ∀ j, ((w3.setCell ⟨w.heap.size, 6, none⟩ (.slice A f.m c)).setCells (w.heap.size + 1) 0 [.int .i64 f.th, .int .i64 f.sl, .int .u8 f.en, .int .i64 f.bu, .int .u8 f.k, .int .i64 f.n, .slice A f.m c, .int .i64 (f.t 0), .int .i64 (f.t 1), .int .i64 (f.t 2), .int .i64 (f.t 3), .int .i64 (f.t 4), .int .i64 (f.t 5), .int .i64 f.lo, .int .i64 f.tr, .int .i64 f.ba]).frozen? ⟨b, j, none⟩ = false := fun b o e j => by rw [World.frozen?_setCells, World.frozen?_setCell]; exact HFZ.out b o e j
  have hrd : RdK .u64 ((w3.setCell ⟨w.heap.size, 6, none⟩ (.slice A f.m c)).setCells (w.heap.size + 1) 0 [.int .i64 f.th, .int .i64 f.sl, .int .u8 f.en, .int .i64 f.bu, .int .u8 f.k, .int .i64 f.n, .slice A f.m c, .int .i64 (f.t 0), .int .i64 (f.t 1), .int .i64 (f.t 2), .int .i64 (f.t 3), .int .i64 (f.t 4), .int .i64 (f.t 5), .int .i64 f.lo, .int .i64 f.tr, .int .i64 f.ba]) A l := KU_rdK (RDA.out.keep fun b hb ⟨a, ea, eb⟩ => by
    have h1 := (HA.out a ea).1
    rw [block_setCells _ _ _ _ _ (by omega)]
    exact Below.heap_setCell _ _ _ _ (by rw [← eb]; simp; omega))
  have hres : ∀ W : World, W = (w3.setCell ⟨w.heap.size, 6, none⟩ (.slice A f.m c)).setCells (w.heap.size + 1) 0 [.int .i64 f.th, .int .i64 f.sl, .int .u8 f.en, .int .i64 f.bu, .int .u8 f.k, .int .i64 f.n, .slice A f.m c, .int .i64 (f.t 0), .int .i64 (f.t 1), .int .i64 (f.t 2), .int .i64 (f.t 3), .int .i64 (f.t 4), .int .i64 (f.t 5), .int .i64 f.lo, .int .i64 f.tr, .int .i64 f.ba] → True := fun _ _ => trivial
  show bodyPost _ _ _ _ _ ((w3.setCell ⟨w.heap.size, 6, none⟩ (.slice A f.m c)).setCells (w.heap.size + 1) 0 [.int .i64 f.th, .int .i64 f.sl, .int .u8 f.en, .int .i64 f.bu, .int .u8 f.k, .int .i64 f.n, .slice A f.m c, .int .i64 (f.t 0), .int .i64 (f.t 1), .int .i64 (f.t 2), .int .i64 (f.t 3), .int .i64 (f.t 4), .int .i64 (f.t 5), .int .i64 f.lo, .int .i64 f.tr, .int .i64 f.ba])
  generalize (w3.setCell ⟨w.heap.size, 6, none⟩ (.slice A f.m c)).setCells (w.heap.size + 1) 0 [.int .i64 f.th, .int .i64 f.sl, .int .u8 f.en, .int .i64 f.bu, .int .u8 f.k, .int .i64 f.n, .slice A f.m c, .int .i64 (f.t 0), .int .i64 (f.t 1), .int .i64 (f.t 2), .int .i64 (f.t 3), .int .i64 (f.t 4), .int .i64 (f.t 5), .int .i64 f.lo, .int .i64 f.tr, .int .i64 f.ba] = W4 at *
  have z0 := hin 0 (by show 0 < 16; omega)
  have z1 := hin 1 (by show 1 < 16; omega)
  have z2 := hin 2 (by show 2 < 16; omega)
  have z3 := hin 3 (by show 3 < 16; omega)
  have z4 := hin 4 (by show 4 < 16; omega)
  have z5 := hin 5 (by show 5 < 16; omega)
  have z6 := hin 6 (by show 6 < 16; omega)
  have z7 := hin 7 (by show 7 < 16; omega)
  have z8 := hin 8 (by show 8 < 16; omega)
  have z9 := hin 9 (by show 9 < 16; omega)
  have z10 := hin 10 (by show 10 < 16; omega)
  have z11 := hin 11 (by show 11 < 16; omega)
  have z12 := hin 12 (by show 12 < 16; omega)
  have z13 := hin 13 (by show 13 < 16; omega)
  have z14 := hin 14 (by show 14 < 16; omega)
  have z15 := hin 15 (by show 15 < 16; omega)
  simp only [List.getElem_cons_zero, List.getElem_cons_succ, Nat.zero_add] at z0 z1 z2 z3 z4 z5 z6 z7 z8 z9 z10 z11 z12 z13 z14 z15
  refine bodyPost_ret (v := .agg #[.int .i64 f.th, .int .i64 f.sl, .int .u8 f.en, .int .i64 f.bu, .int .u8 f.k, .int .i64 f.n, .slice A f.m c, .int .i64 (f.t 0), .int .i64 (f.t 1), .int .i64 (f.t 2), .int .i64 (f.t 3), .int .i64 (f.t 4), .int .i64 (f.t 5), .int .i64 f.lo, .int .i64 f.tr, .int .i64 f.ba]) ?_ rfl ⟨A, c, rfl, hB, hrd, HZ2.out, hnc, fun a e => ⟨by have := (HA.out a e).1; omega, by rw [hsz]; exact (HA.out a e).2⟩, hFZ⟩
  simp [results, Try.results35, go_sem, z0, z1, z2, z3, z4, z5, z6, z7, z8, z9, z10, z11, z12, z13, z14, z15]
theorem config_own {w : World} {b : Nat} {f : Cf} {l : List Int} {g : Ge} (h : LyAt w b f l g) (hs : f.m ≤ 100000) : Calls Try.prog 15 #[.pointer (some ⟨b, 0, none⟩)] w (CopyOwn f l w) := by
  have cf := h.cf
  have lt := h.lt
  have HC := Lib.hid h.cu
  have HE := Lib.hid h.e
  obtain ⟨x0, x1, x2, x3, x4, x5, x6, x7, x8, x9, x10, x11, x12, x13, x14, x15⟩ := cf
  clear h
  go_enter Try.func15, Try.ntmps15
  go_wp2_with fail
  have hz : (w.alloc (.cells #[.int .i64 0, .int .i64 0, .int .u8 0, .int .i64 0, .int .u8 0, .int .i64 0, .slice none 0 0, .int .i64 0, .int .i64 0, .int .i64 0, .int .i64 0, .int .i64 0, .int .i64 0, .int .i64 0, .int .i64 0, .int .i64 0] 27)).heap.size = w.heap.size + 1 := World.size_alloc _ _
  have BA := bel_alloc (Below.refl w.heap.size w) (.cells #[.int .i64 0, .int .i64 0, .int .u8 0, .int .i64 0, .int .u8 0, .int .i64 0, .slice none 0 0, .int .i64 0, .int .i64 0, .int .i64 0, .int .i64 0, .int .i64 0, .int .i64 0, .int .i64 0, .int .i64 0, .int .i64 0] 27)
  have g1 := heap_new w (.cells #[.int .i64 0, .int .i64 0, .int .u8 0, .int .i64 0, .int .u8 0, .int .i64 0, .slice none 0 0, .int .i64 0, .int .i64 0, .int .i64 0, .int .i64 0, .int .i64 0, .int .i64 0, .int .i64 0, .int .i64 0, .int .i64 0] 27)
  have fz : ∀ j, (w.alloc (.cells #[.int .i64 0, .int .i64 0, .int .u8 0, .int .i64 0, .int .u8 0, .int .i64 0, .slice none 0 0, .int .i64 0, .int .i64 0, .int .i64 0, .int .i64 0, .int .i64 0, .int .i64 0, .int .i64 0, .int .i64 0, .int .i64 0] 27)).frozen? ⟨w.heap.size, j, none⟩ = false := fun j => World.frozen?_alloc_new _ _ _ _
  have BW := Lib.hid BA
  generalize w.alloc (.cells #[.int .i64 0, .int .i64 0, .int .u8 0, .int .i64 0, .int .u8 0, .int .i64 0, .slice none 0 0, .int .i64 0, .int .i64 0, .int .i64 0, .int .i64 0, .int .i64 0, .int .i64 0, .int .i64 0, .int .i64 0, .int .i64 0] 27) = W at *
  refine (copied_own f l W HE.out hs (HC.out.below BA)).mono ?_
  rintro r w3 ⟨A, c, rfl, b3, rd, hz2, hnc, hA, hfz⟩
  have HFZ := Lib.hid hfz
  clear hfz
  have RDA := Lib.hid rd
  have HA := Lib.hid hA
  have HZ2 := Lib.hid hz2
  have B3 := Lib.hid b3
  have hs3 := b3.size
  have k1 : ∀ j, w3.cell? ⟨w.heap.size, j, none⟩ = W.cell? ⟨w.heap.size, j, none⟩ := fun j => b3.cell (p := ⟨w.heap.size, j, none⟩) (by show w.heap.size < _; omega)
  have f1 : ∀ j, w3.frozen? ⟨w.heap.size, j, none⟩ = W.frozen? ⟨w.heap.size, j, none⟩ := fun j => b3.frozen (p := ⟨w.heap.size, j, none⟩) (by show w.heap.size < _; omega)
  have y0 : w3.cell? ⟨w.heap.size, 0, none⟩ = some (.int .i64 0) := (k1 _).trans (cell_of g1 rfl)
  have y1 : w3.cell? ⟨w.heap.size, 1, none⟩ = some (.int .i64 0) := (k1 _).trans (cell_of g1 rfl)
  have y2 : w3.cell? ⟨w.heap.size, 2, none⟩ = some (.int .u8 0) := (k1 _).trans (cell_of g1 rfl)
  have y3 : w3.cell? ⟨w.heap.size, 3, none⟩ = some (.int .i64 0) := (k1 _).trans (cell_of g1 rfl)
  have y4 : w3.cell? ⟨w.heap.size, 4, none⟩ = some (.int .u8 0) := (k1 _).trans (cell_of g1 rfl)
  have y5 : w3.cell? ⟨w.heap.size, 5, none⟩ = some (.int .i64 0) := (k1 _).trans (cell_of g1 rfl)
  have y6 : w3.cell? ⟨w.heap.size, 6, none⟩ = some (.slice none 0 0) := (k1 _).trans (cell_of g1 rfl)
  have y7 : w3.cell? ⟨w.heap.size, 7, none⟩ = some (.int .i64 0) := (k1 _).trans (cell_of g1 rfl)
  have y8 : w3.cell? ⟨w.heap.size, 8, none⟩ = some (.int .i64 0) := (k1 _).trans (cell_of g1 rfl)
  have y9 : w3.cell? ⟨w.heap.size, 9, none⟩ = some (.int .i64 0) := (k1 _).trans (cell_of g1 rfl)
  have y10 : w3.cell? ⟨w.heap.size, 10, none⟩ = some (.int .i64 0) := (k1 _).trans (cell_of g1 rfl)
  have y11 : w3.cell? ⟨w.heap.size, 11, none⟩ = some (.int .i64 0) := (k1 _).trans (cell_of g1 rfl)
  have y12 : w3.cell? ⟨w.heap.size, 12, none⟩ = some (.int .i64 0) := (k1 _).trans (cell_of g1 rfl)
  have y13 : w3.cell? ⟨w.heap.size, 13, none⟩ = some (.int .i64 0) := (k1 _).trans (cell_of g1 rfl)
  have y14 : w3.cell? ⟨w.heap.size, 14, none⟩ = some (.int .i64 0) := (k1 _).trans (cell_of g1 rfl)
  have y15 : w3.cell? ⟨w.heap.size, 15, none⟩ = some (.int .i64 0) := (k1 _).trans (cell_of g1 rfl)
  have p0 : w3.frozen? ⟨w.heap.size, 0, none⟩ = false := (f1 _).trans (fz _)
  have p1 : w3.frozen? ⟨w.heap.size, 1, none⟩ = false := (f1 _).trans (fz _)
  have p2 : w3.frozen? ⟨w.heap.size, 2, none⟩ = false := (f1 _).trans (fz _)
  have p3 : w3.frozen? ⟨w.heap.size, 3, none⟩ = false := (f1 _).trans (fz _)
  have p4 : w3.frozen? ⟨w.heap.size, 4, none⟩ = false := (f1 _).trans (fz _)
  have p5 : w3.frozen? ⟨w.heap.size, 5, none⟩ = false := (f1 _).trans (fz _)
  have p6 : w3.frozen? ⟨w.heap.size, 6, none⟩ = false := (f1 _).trans (fz _)
  have p7 : w3.frozen? ⟨w.heap.size, 7, none⟩ = false := (f1 _).trans (fz _)
  have p8 : w3.frozen? ⟨w.heap.size, 8, none⟩ = false := (f1 _).trans (fz _)
  have p9 : w3.frozen? ⟨w.heap.size, 9, none⟩ = false := (f1 _).trans (fz _)
  have p10 : w3.frozen? ⟨w.heap.size, 10, none⟩ = false := (f1 _).trans (fz _)
  have p11 : w3.frozen? ⟨w.heap.size, 11, none⟩ = false := (f1 _).trans (fz _)
  have p12 : w3.frozen? ⟨w.heap.size, 12, none⟩ = false := (f1 _).trans (fz _)
  have p13 : w3.frozen? ⟨w.heap.size, 13, none⟩ = false := (f1 _).trans (fz _)
  have p14 : w3.frozen? ⟨w.heap.size, 14, none⟩ = false := (f1 _).trans (fz _)
  have p15 : w3.frozen? ⟨w.heap.size, 15, none⟩ = false := (f1 _).trans (fz _)
  clear k1 f1 g1 fz rd hA hz2 b3 BA x0 x1 x2 x3 x4 x5 x6 x7 x8 x9 x10 x11 x12 x13 x14 x15
  go_wp2_with fail
  have hin := World.cell?_setCells_in w.heap.size [.int .i64 f.th, .int .i64 f.sl, .int .u8 f.en, .int .i64 f.bu, .int .u8 f.k, .int .i64 f.n, .slice A f.m c, .int .i64 (f.t 0), .int .i64 (f.t 1), .int .i64 (f.t 2), .int .i64 (f.t 3), .int .i64 (f.t 4), .int .i64 (f.t 5), .int .i64 f.lo, .int .i64 f.tr, .int .i64 f.ba] 0 w3 (fun j hj => by
    rw [Nat.zero_add]
    have hj : j < 16 := hj
    rcases j with _ | _ | _ | _ | _ | _ | _ | _ | _ | _ | _ | _ | _ | _ | _ | _ | j
    all_goals first | omega | simp only [Nat.zero_add, Nat.reduceAdd, *, Option.isSome_some])
  have hB : Below w.heap.size w (w3.setCells w.heap.size 0 [.int .i64 f.th, .int .i64 f.sl, .int .u8 f.en, .int .i64 f.bu, .int .u8 f.k, .int .i64 f.n, .slice A f.m c, .int .i64 (f.t 0), .int .i64 (f.t 1), .int .i64 (f.t 2), .int .i64 (f.t 3), .int .i64 (f.t 4), .int .i64 (f.t 5), .int .i64 f.lo, .int .i64 f.tr, .int .i64 f.ba]) := below_setCells (BW.out.trans (B3.out.mono BW.out.size)) (Nat.le_refl _) _ _
  have hsz : (w3.setCells w.heap.size 0 [.int .i64 f.th, .int .i64 f.sl, .int .u8 f.en, .int .i64 f.bu, .int .u8 f.k, .int .i64 f.n, .slice A f.m c, .int .i64 (f.t 0), .int .i64 (f.t 1), .int .i64 (f.t 2), .int .i64 (f.t 3), .int .i64 (f.t 4), .int .i64 (f.t 5), .int .i64 f.lo, .int .i64 f.tr, .int .i64 f.ba]).heap.size = w3.heap.size := by rw [size_setCells]
  have hFZ : ∀ b o, A = some ⟨b, o, none⟩ → ∀ j, (w3.setCells w.heap.size 0 [.int .i64 f.th, .int .i64 f.sl, .int .u8 f.en, .int .i64 f.bu, .int .u8 f.k, .int .i64 f.n, .slice A f.m c, .int .i64 (f.t 0), .int .i64 (f.t 1), .int .i64 (f.t 2), .int .i64 (f.t 3), .int .i64 (f.t 4), .int .i64 (f.t 5), .int .i64 f.lo, .int .i64 f.tr, .int .i64 f.ba]).frozen? ⟨b, j, none⟩ = false := fun b o e j => by rw [World.frozen?_setCells]; exact HFZ.out b o e j
  have hrd : RdK .u64 (w3.setCells w.heap.size 0 [.int .i64 f.th, .int .i64 f.sl, .int .u8 f.en, .int .i64 f.bu, .int .u8 f.k, .int .i64 f.n, .slice A f.m c, .int .i64 (f.t 0), .int .i64 (f.t 1), .int .i64 (f.t 2), .int .i64 (f.t 3), .int .i64 (f.t 4), .int .i64 (f.t 5), .int .i64 f.lo, .int .i64 f.tr, .int .i64 f.ba]) A l := KU_rdK ((rdK_KU RDA.out).keep fun b hb ⟨a, ea, eb⟩ => by
    have h1 := (HA.out a ea).1
    exact block_setCells _ _ _ _ _ (by omega))
  show bodyPost _ _ _ _ _ (w3.setCells w.heap.size 0 [.int .i64 f.th, .int .i64 f.sl, .int .u8 f.en, .int .i64 f.bu, .int .u8 f.k, .int .i64 f.n, .slice A f.m c, .int .i64 (f.t 0), .int .i64 (f.t 1), .int .i64 (f.t 2), .int .i64 (f.t 3), .int .i64 (f.t 4), .int .i64 (f.t 5), .int .i64 f.lo, .int .i64 f.tr, .int .i64 f.ba])
  generalize w3.setCells w.heap.size 0 [.int .i64 f.th, .int .i64 f.sl, .int .u8 f.en, .int .i64 f.bu, .int .u8 f.k, .int .i64 f.n, .slice A f.m c, .int .i64 (f.t 0), .int .i64 (f.t 1), .int .i64 (f.t 2), .int .i64 (f.t 3), .int .i64 (f.t 4), .int .i64 (f.t 5), .int .i64 f.lo, .int .i64 f.tr, .int .i64 f.ba] = W4 at *
  have z0 := hin 0 (by show 0 < 16; omega)
  have z1 := hin 1 (by show 1 < 16; omega)
  have z2 := hin 2 (by show 2 < 16; omega)
  have z3 := hin 3 (by show 3 < 16; omega)
  have z4 := hin 4 (by show 4 < 16; omega)
  have z5 := hin 5 (by show 5 < 16; omega)
  have z6 := hin 6 (by show 6 < 16; omega)
  have z7 := hin 7 (by show 7 < 16; omega)
  have z8 := hin 8 (by show 8 < 16; omega)
  have z9 := hin 9 (by show 9 < 16; omega)
  have z10 := hin 10 (by show 10 < 16; omega)
  have z11 := hin 11 (by show 11 < 16; omega)
  have z12 := hin 12 (by show 12 < 16; omega)
  have z13 := hin 13 (by show 13 < 16; omega)
  have z14 := hin 14 (by show 14 < 16; omega)
  have z15 := hin 15 (by show 15 < 16; omega)
  simp only [List.getElem_cons_zero, List.getElem_cons_succ, Nat.zero_add] at z0 z1 z2 z3 z4 z5 z6 z7 z8 z9 z10 z11 z12 z13 z14 z15
  refine bodyPost_ret (v := .agg #[.int .i64 f.th, .int .i64 f.sl, .int .u8 f.en, .int .i64 f.bu, .int .u8 f.k, .int .i64 f.n, .slice A f.m c, .int .i64 (f.t 0), .int .i64 (f.t 1), .int .i64 (f.t 2), .int .i64 (f.t 3), .int .i64 (f.t 4), .int .i64 (f.t 5), .int .i64 f.lo, .int .i64 f.tr, .int .i64 f.ba]) ?_ rfl ⟨A, c, rfl, hB, hrd, HZ2.out, hnc, fun a e => ⟨by have := (HA.out a e).1; omega, by rw [hsz]; exact (HA.out a e).2⟩, hFZ⟩
  simp [results, Try.results15, go_sem, z0, z1, z2, z3, z4, z5, z6, z7, z8, z9, z10, z11, z12, z13, z14, z15]
end Ly
end Go.Proofs.Ythmadcjkodfdeaa
