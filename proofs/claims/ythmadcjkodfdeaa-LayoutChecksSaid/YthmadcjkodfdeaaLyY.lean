/- Package layout: Config of a layout: contract of the translated code. No conditions. -/
import Derived.Test.YthmadcjkodfdeaaLyZ
namespace Go.Proofs.Ythmadcjkodfdeaa
open Go.RowKit Go.Sort
set_option linter.unusedVariables false
set_option linter.unusedSimpArgs false
namespace Ly
open Dm (RdK BdU dmB dmE dmN bel_alloc bel_trans cell_lt)
theorem config_any {w : World} {b : Nat} {f : Cf} {l : List Int} {g : Ge} (h : LyAt w b f l g) (hs : f.m ≤ 100000) : Calls Try.prog 15 #[.pointer (some ⟨b, 0, none⟩)] w (CopyPost f l w) := by
  have cf := h.cf
  have lt := h.lt
  have HC := Lib.hid h.cu
  have HE := Lib.hid h.e
  obtain ⟨x0, x1, x2, x3, x4, x5, x6, x7, x8, x9, x10, x11, x12, x13, x14, x15⟩ := cf
  clear h
  go_enter Try.func15, Try.ntmps15
  go_wp2_with fail
  have hz : (w.alloc (.cells #[.int .i64 0, .int .i64 0, .int .u8 0, .int .i64 0, .int .u8 0, .int .i64 0, .slice none 0 0, .int .i64 0, .int .i64 0, .int .i64 0, .int .i64 0, .int .i64 0, .int .i64 0, .int .i64 0, .int .i64 0, .int .i64 0] 27)).heap.size = w.heap.size + 1 := World.size_alloc _ _
  have BA := bel_alloc (Below.refl w.heap.size w) (.cells #[.int .i64 0, .int .i64 0, .int .u8 0, .int .i64 0, .int .u8 0, .int .i64 0, .slice none 0 0, .int .i64 0, .int .i64 0, .int .i64 0, .int .i64 0, .int .i64 0, .int .i64 0, .int .i64 0, .int .i64 0, .int .i64 0] 27)
  have g1 := heap_new w (.cells #[.int .i64 0, .int .i64 0, .int .u8 0, .int .i64 0, .int .u8 0, .int .i64 0, .slice none 0 0, .int .i64 0, .int .i64 0, .int .i64 0, .int .i64 0, .int .i64 0, .int .i64 0, .int .i64 0, .int .i64 0, .int .i64 0] 27)
  have fz : ∀ j, (w.alloc (.cells #[.int .i64 0, .int .i64 0, .int .u8 0, .int .i64 0, .int .u8 0, .int .i64 0, .slice none 0 0, .int .i64 0, .int .i64 0, .int .i64 0, .int .i64 0, .int .i64 0, .int .i64 0, .int .i64 0, .int .i64 0, .int .i64 0] 27)).frozen? ⟨w.heap.size, j, none⟩ = false := fun j => World.frozen?_alloc_new _ _ _ _
  have BW := Lib.hid BA
  generalize w.alloc (.cells #[.int .i64 0, .int .i64 0, .int .u8 0, .int .i64 0, .int .u8 0, .int .i64 0, .slice none 0 0, .int .i64 0, .int .i64 0, .int .i64 0, .int .i64 0, .int .i64 0, .int .i64 0, .int .i64 0, .int .i64 0, .int .i64 0] 27) = W at *
  refine (copied_any f l W HE.out hs (HC.out.below BA)).mono ?_
  rintro r w3 ⟨A, c, rfl, b3, rd, hz2, hnc, hA⟩
  have RDA := Lib.hid rd
  have HA := Lib.hid hA
  have HZ2 := Lib.hid hz2
  have B3 := Lib.hid b3
  have hs3 := b3.size
  have k1 : ∀ j, w3.cell? ⟨w.heap.size, j, none⟩ = W.cell? ⟨w.heap.size, j, none⟩ := fun j => b3.cell (p := ⟨w.heap.size, j, none⟩) (by show w.heap.size < _; omega)
  have f1 : ∀ j, w3.frozen? ⟨w.heap.size, j, none⟩ = W.frozen? ⟨w.heap.size, j, none⟩ := fun j => b3.frozen (p := ⟨w.heap.size, j, none⟩) (by show w.heap.size < _; omega)
  have y0 : w3.cell? ⟨w.heap.size, 0, none⟩ = some (.int .i64 0) := (k1 _).trans (cell_of g1 rfl)
  have y1 : w3.cell? ⟨w.heap.size, 1, none⟩ = some (.int .i64 0) := (k1 _).trans (cell_of g1 rfl)
  have y2 : w3.cell? ⟨w.heap.size, 2, none⟩ = some (.int .u8 0) := (k1 _).trans (cell_of g1 rfl)
  have y3 : w3.cell? ⟨w.heap.size, 3, none⟩ = some (.int .i64 0) := (k1 _).trans (cell_of g1 rfl)
  have y4 : w3.cell? ⟨w.heap.size, 4, none⟩ = some (.int .u8 0) := (k1 _).trans (cell_of g1 rfl)
  have y5 : w3.cell? ⟨w.heap.size, 5, none⟩ = some (.int .i64 0) := (k1 _).trans (cell_of g1 rfl)
  have y6 : w3.cell? ⟨w.heap.size, 6, none⟩ = some (.slice none 0 0) := (k1 _).trans (cell_of g1 rfl)
  have y7 : w3.cell? ⟨w.heap.size, 7, none⟩ = some (.int .i64 0) := (k1 _).trans (cell_of g1 rfl)
  have y8 : w3.cell? ⟨w.heap.size, 8, none⟩ = some (.int .i64 0) := (k1 _).trans (cell_of g1 rfl)
  have y9 : w3.cell? ⟨w.heap.size, 9, none⟩ = some (.int .i64 0) := (k1 _).trans (cell_of g1 rfl)
  have y10 : w3.cell? ⟨w.heap.size, 10, none⟩ = some (.int .i64 0) := (k1 _).trans (cell_of g1 rfl)
  have y11 : w3.cell? ⟨w.heap.size, 11, none⟩ = some (.int .i64 0) := (k1 _).trans (cell_of g1 rfl)
  have y12 : w3.cell? ⟨w.heap.size, 12, none⟩ = some (.int .i64 0) := (k1 _).trans (cell_of g1 rfl)
  have y13 : w3.cell? ⟨w.heap.size, 13, none⟩ = some (.int .i64 0) := (k1 _).trans (cell_of g1 rfl)
  have y14 : w3.cell? ⟨w.heap.size, 14, none⟩ = some (.int .i64 0) := (k1 _).trans (cell_of g1 rfl)
  have y15 : w3.cell? ⟨w.heap.size, 15, none⟩ = some (.int .i64 0) := (k1 _).trans (cell_of g1 rfl)
  have p0 : w3.frozen? ⟨w.heap.size, 0, none⟩ = false := (f1 _).trans (fz _)
  have p1 : w3.frozen? ⟨w.heap.size, 1, none⟩ = false := (f1 _).trans (fz _)
  have p2 : w3.frozen? ⟨w.heap.size, 2, none⟩ = false := (f1 _).trans (fz _)
  have p3 : w3.frozen? ⟨w.heap.size, 3, none⟩ = false := (f1 _).trans (fz _)
  have p4 : w3.frozen? ⟨w.heap.size, 4, none⟩ = false := (f1 _).trans (fz _)
  have p5 : w3.frozen? ⟨w.heap.size, 5, none⟩ = false := (f1 _).trans (fz _)
  have p6 : w3.frozen? ⟨w.heap.size, 6, none⟩ = false := (f1 _).trans (fz _)
  have p7 : w3.frozen? ⟨w.heap.size, 7, none⟩ = false := (f1 _).trans (fz _)
  have p8 : w3.frozen? ⟨w.heap.size, 8, none⟩ = false := (f1 _).trans (fz _)
  have p9 : w3.frozen? ⟨w.heap.size, 9, none⟩ = false := (f1 _).trans (fz _)
  have p10 : w3.frozen? ⟨w.heap.size, 10, none⟩ = false := (f1 _).trans (fz _)
  have p11 : w3.frozen? ⟨w.heap.size, 11, none⟩ = false := (f1 _).trans (fz _)
  have p12 : w3.frozen? ⟨w.heap.size, 12, none⟩ = false := (f1 _).trans (fz _)
  have p13 : w3.frozen? ⟨w.heap.size, 13, none⟩ = false := (f1 _).trans (fz _)
  have p14 : w3.frozen? ⟨w.heap.size, 14, none⟩ = false := (f1 _).trans (fz _)
  have p15 : w3.frozen? ⟨w.heap.size, 15, none⟩ = false := (f1 _).trans (fz _)
  clear k1 f1 g1 fz rd hA hz2 b3 BA x0 x1 x2 x3 x4 x5 x6 x7 x8 x9 x10 x11 x12 x13 x14 x15
  go_wp2_with fail
  have hin := World.cell?_setCells_in w.heap.size [.int .i64 f.th, .int .i64 f.sl, .int .u8 f.en, .int .i64 f.bu, .int .u8 f.k, .int .i64 f.n, .slice A f.m c, .int .i64 (f.t 0), .int .i64 (f.t 1), .int .i64 (f.t 2), .int .i64 (f.t 3), .int .i64 (f.t 4), .int .i64 (f.t 5), .int .i64 f.lo, .int .i64 f.tr, .int .i64 f.ba] 0 w3 (fun j hj => by
    rw [Nat.zero_add]
    have hj : j < 16 := hj
    rcases j with _ | _ | _ | _ | _ | _ | _ | _ | _ | _ | _ | _ | _ | _ | _ | _ | j
    all_goals first | omega | simp only [Nat.zero_add, Nat.reduceAdd, *, Option.isSome_some])
  have hB : Below w.heap.size w (w3.setCells w.heap.size 0 [.int .i64 f.th, .int .i64 f.sl, .int .u8 f.en, .int .i64 f.bu, .int .u8 f.k, .int .i64 f.n, .slice A f.m c, .int .i64 (f.t 0), .int .i64 (f.t 1), .int .i64 (f.t 2), .int .i64 (f.t 3), .int .i64 (f.t 4), .int .i64 (f.t 5), .int .i64 f.lo, .int .i64 f.tr, .int .i64 f.ba]) := below_setCells (BW.out.trans (B3.out.mono BW.out.size)) (Nat.le_refl _) _ _
  have hsz : (w3.setCells w.heap.size 0 [.int .i64 f.th, .int .i64 f.sl, .int .u8 f.en, .int .i64 f.bu, .int .u8 f.k, .int .i64 f.n, .slice A f.m c, .int .i64 (f.t 0), .int .i64 (f.t 1), .int .i64 (f.t 2), .int .i64 (f.t 3), .int .i64 (f.t 4), .int .i64 (f.t 5), .int .i64 f.lo, .int .i64 f.tr, .int .i64 f.ba]).heap.size = w3.heap.size := by rw [size_setCells]
  have hrd : RdK .u64 (w3.setCells w.heap.size 0 [.int .i64 f.th, .int .i64 f.sl, .int .u8 f.en, .int .i64 f.bu, .int .u8 f.k, .int .i64 f.n, .slice A f.m c, .int .i64 (f.t 0), .int .i64 (f.t 1), .int .i64 (f.t 2), .int .i64 (f.t 3), .int .i64 (f.t 4), .int .i64 (f.t 5), .int .i64 f.lo, .int .i64 f.tr, .int .i64 f.ba]) A l := KU_rdK ((rdK_KU RDA.out).keep fun b hb ⟨a, ea, eb⟩ => by
    have h1 := (HA.out a ea).1
    exact block_setCells _ _ _ _ _ (by omega))
  show bodyPost _ _ _ _ _ (w3.setCells w.heap.size 0 [.int .i64 f.th, .int .i64 f.sl, .int .u8 f.en, .int .i64 f.bu, .int .u8 f.k, .int .i64 f.n, .slice A f.m c, .int .i64 (f.t 0), .int .i64 (f.t 1), .int .i64 (f.t 2), .int .i64 (f.t 3), .int .i64 (f.t 4), .int .i64 (f.t 5), .int .i64 f.lo, .int .i64 f.tr, .int .i64 f.ba])
  generalize w3.setCells w.heap.size 0 [.int .i64 f.th, .int .i64 f.sl, .int .u8 f.en, .int .i64 f.bu, .int .u8 f.k, .int .i64 f.n, .slice A f.m c, .int .i64 (f.t 0), .int .i64 (f.t 1), .int .i64 (f.t 2), .int .i64 (f.t 3), .int .i64 (f.t 4), .int .i64 (f.t 5), .int .i64 f.lo, .int .i64 f.tr, .int .i64 f.ba] = W4 at *
  have z0 := hin 0 (by show 0 < 16; omega)
  have z1 := hin 1 (by show 1 < 16; omega)
  have z2 := hin 2 (by show 2 < 16; omega)
  have z3 := hin 3 (by show 3 < 16; omega)
  have z4 := hin 4 (by show 4 < 16; omega)
  have z5 := hin 5 (by show 5 < 16; omega)
  have z6 := hin 6 (by show 6 < 16; omega)
  have z7 := hin 7 (by show 7 < 16; omega)
  have z8 := hin 8 (by show 8 < 16; omega)
  have z9 := hin 9 (by show 9 < 16; omega)
  have z10 := hin 10 (by show 10 < 16; omega)
  have z11 := hin 11 (by show 11 < 16; omega)
  have z12 := hin 12 (by show 12 < 16; omega)
  have z13 := hin 13 (by show 13 < 16; omega)
  have z14 := hin 14 (by show 14 < 16; omega)
  have z15 := hin 15 (by show 15 < 16; omega)
  simp only [List.getElem_cons_zero, List.getElem_cons_succ, Nat.zero_add] at z0 z1 z2 z3 z4 z5 z6 z7 z8 z9 z10 z11 z12 z13 z14 z15
  refine bodyPost_ret (v := .agg #[.int .i64 f.th, .int .i64 f.sl, .int .u8 f.en, .int .i64 f.bu, .int .u8 f.k, .int .i64 f.n, .slice A f.m c, .int .i64 (f.t 0), .int .i64 (f.t 1), .int .i64 (f.t 2), .int .i64 (f.t 3), .int .i64 (f.t 4), .int .i64 (f.t 5), .int .i64 f.lo, .int .i64 f.tr, .int .i64 f.ba]) ?_ rfl ⟨A, c, rfl, hB, hrd, HZ2.out, hnc, fun a e => ⟨by have := (HA.out a e).1; omega, by rw [hsz]; exact (HA.out a e).2⟩⟩
  simp [results, Try.results15, go_sem, z0, z1, z2, z3, z4, z5, z6, z7, z8, z9, z10, z11, z12, z13, z14, z15]
end Ly
end Go.Proofs.Ythmadcjkodfdeaa
