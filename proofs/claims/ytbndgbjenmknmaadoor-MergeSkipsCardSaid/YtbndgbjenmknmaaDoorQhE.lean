/- take and drop of package merge: contracts of the translated code. Conditions: those of XQhA. -/
import Derived.Test.YtbndgbjenmknmaaDoorQhD
namespace Go.Proofs.YtbndgbjenmknmaaDoor
open Go.RowKit Go.Sort
set_option linter.unusedVariables false
set_option linter.unusedSimpArgs false
namespace Hq
open Om (bel_alloc below_drewN)
def takeT (x : Cd) (y : Bool) : Value := .tuple #[agg x, .bool y]
/-- three cells of a block, written one after the other -/
theorem cells3 {w : World} {g : Nat} {p0 p1 p2 x0 x1 x2 : Value} (z0 : w.cell? ⟨g, 0, none⟩ = some p0) (z1 : w.cell? ⟨g, 1, none⟩ = some p1) (z2 : w.cell? ⟨g, 2, none⟩ = some p2) :
    (((w.setCell ⟨g, 0, none⟩ x0).setCell ⟨g, 1, none⟩ x1).setCell ⟨g, 2, none⟩ x2).cell? ⟨g, 0, none⟩ = some x0 ∧ (((w.setCell ⟨g, 0, none⟩ x0).setCell ⟨g, 1, none⟩ x1).setCell ⟨g, 2, none⟩ x2).cell? ⟨g, 1, none⟩ = some x1 ∧ (((w.setCell ⟨g, 0, none⟩ x0).setCell ⟨g, 1, none⟩ x1).setCell ⟨g, 2, none⟩ x2).cell? ⟨g, 2, none⟩ = some x2 := by
  have ne : ∀ {o o' : Nat}, o ≠ o' → (⟨g, o, none⟩ : Addr) ≠ ⟨g, o', none⟩ := fun h e => h (by cases e; rfl)
  refine ⟨?_, ?_, ?_⟩
  · rw [World.cell?_setCell_other _ _ _ _ (ne (by omega)), World.cell?_setCell_other _ _ _ _ (ne (by omega))]; exact World.cell?_setCell_same _ _ _ z0
  · rw [World.cell?_setCell_other _ _ _ _ (ne (by omega))]; refine World.cell?_setCell_same (u := p1) _ _ _ ?_
    rw [World.cell?_setCell_other _ _ _ _ (ne (by omega))]; exact z1
  · refine World.cell?_setCell_same (u := p2) _ _ _ ?_
    rw [World.cell?_setCell_other _ _ _ _ (ne (by omega)), World.cell?_setCell_other _ _ _ _ (ne (by omega))]; exact z2
theorem lt3 {w : World} {g : Nat} {x0 x1 x2 : Value} (h : g < w.heap.size) (o : Obj) (k : Nat) : ((((w.setCell ⟨g, 0, none⟩ x0).setCell ⟨g, 1, none⟩ x1).setCell ⟨g, 2, none⟩ x2).alloc o).cell? ⟨g, k, none⟩ = (((w.setCell ⟨g, 0, none⟩ x0).setCell ⟨g, 1, none⟩ x1).setCell ⟨g, 2, none⟩ x2).cell? ⟨g, k, none⟩ :=
  World.cell?_alloc_lt _ _ _ (by simpa using h)
theorem bel3 {B g : Nat} {w w' : World} (h : Below B w w') (hg : B ≤ g) (x0 x1 x2 : Value) : Below B w (((w'.setCell ⟨g, 0, none⟩ x0).setCell ⟨g, 1, none⟩ x1).setCell ⟨g, 2, none⟩ x2) := ((h.setCell hg x0).setCell hg x1).setCell hg x2
theorem ch3 {b : Nat} {B : Nat → Prop} {g : Nat} {w w' : World} (h : Ch b B w w') (hg : w.heap.size ≤ g) (x0 x1 x2 : Value) : Ch b B w (((w'.setCell ⟨g, 0, none⟩ x0).setCell ⟨g, 1, none⟩ x1).setCell ⟨g, 2, none⟩ x2) := ((h.set _ x0 (.inr hg)).set _ x1 (.inr hg)).set _ x2 (.inr hg)
theorem keep3 {g k : Nat} {w : World} (h : k ≠ g) (x0 x1 x2 : Value) : (((w.setCell ⟨g, 0, none⟩ x0).setCell ⟨g, 1, none⟩ x1).setCell ⟨g, 2, none⟩ x2).heap[k]? = w.heap[k]? := by
  rw [Below.heap_setCell _ _ _ _ h, Below.heap_setCell _ _ _ _ h, Below.heap_setCell _ _ _ _ h]
set_option maxRecDepth 100000 in
set_option maxHeartbeats 1000000 in
theorem take_no (b c : Nat) (A : Option Addr) (w : World) (hd : w.cell? ⟨b, 2, none⟩ = some (.slice A 0 c)) :
    Calls Tryd.prog 34 #[iq b] w fun e w' => e = .returned (takeT ⟨0, 0, 0⟩ false) ∧ Below w.heap.size w w' := by
  have hbl := World.block_lt_of_cell? w ⟨b, 2, none⟩ hd
  obtain ⟨W, hW⟩ : ∃ W, W = w.alloc (.cells #[.int .u64 0, .int .u64 0, .int .i64 0] 73) := ⟨_, rfl⟩
  have B0 : Below w.heap.size w W := by rw [hW]; exact bel_alloc (Below.refl _ _) _
  have hsz : W.heap.size = w.heap.size + 1 := by rw [hW]; simp
  have hd := (B0.cell (p := ⟨b, 2, none⟩) hbl).trans hd
  have z0 : W.cell? ⟨w.heap.size, 0, none⟩ = some (.int .u64 0) := by rw [hW]; simp
  have z1 : W.cell? ⟨w.heap.size, 1, none⟩ = some (.int .u64 0) := by rw [hW]; simp
  have z2 : W.cell? ⟨w.heap.size, 2, none⟩ = some (.int .i64 0) := by rw [hW]; simp
  have f0 : W.frozen? ⟨w.heap.size, 0, none⟩ = false := by rw [hW]; simp
  have f1 : W.frozen? ⟨w.heap.size, 1, none⟩ = false := by rw [hW]; simp
  have f2 : W.frozen? ⟨w.heap.size, 2, none⟩ = false := by rw [hW]; simp
  have m1 := fun g => via_least g b A (0) c (w.alloc (.cells #[.int .u64 0, .int .u64 0, .int .i64 0] 73)) (by rw [← hW]; exact hd)
  have m0 := fun g => nil_any g ⟨b, 2, none⟩ (w.alloc (.cells #[.int .u64 0, .int .u64 0, .int .i64 0] 73)) "leapfrog/merge.least" (by simp)
  have CL := Lib.hid (least_no A c W)
  unfold agg at CL
  unfold iq
  have HW := Lib.hid hW
  clear hW
  go_enter Tryd.func34, Tryd.ntmps34
  go_wp2_with fail
  rw [← HW.out]
  refine CL.out.mono ?_
  rintro r w1 ⟨rfl, b1⟩
  clear m0 m1 hd
  have hsz1 : w.heap.size < w1.heap.size := by have := b1.size; omega
  have z0 := (b1.cell (p := ⟨w.heap.size, 0, none⟩) (by show w.heap.size < _; omega)).trans z0
  have z1 := (b1.cell (p := ⟨w.heap.size, 1, none⟩) (by show w.heap.size < _; omega)).trans z1
  have z2 := (b1.cell (p := ⟨w.heap.size, 2, none⟩) (by show w.heap.size < _; omega)).trans z2
  have f0 := (b1.frozen (p := ⟨w.heap.size, 0, none⟩) (by show w.heap.size < _; omega)).trans f0
  have f1 := (b1.frozen (p := ⟨w.heap.size, 1, none⟩) (by show w.heap.size < _; omega)).trans f1
  have f2 := (b1.frozen (p := ⟨w.heap.size, 2, none⟩) (by show w.heap.size < _; omega)).trans f2
  obtain ⟨k0, k1, k2⟩ := cells3 (x0 := .int .u64 0) (x1 := .int .u64 0) (x2 := .int .i64 0) z0 z1 z2
  have KL := fun o k => lt3 (x0 := .int .u64 0) (x1 := .int .u64 0) (x2 := .int .i64 0) hsz1 o k
  go_wp2
  exact bodyPost_ret (v := takeT ⟨0, 0, 0⟩ false) (by simp [takeT, agg, results, Tryd.results34, go_sem, KL, k0, k1, k2]) rfl ⟨rfl, bel_alloc (bel3 (B0.trans (b1.mono (by omega))) (Nat.le_refl _) _ _ _) _⟩
set_option maxRecDepth 100000 in
set_option maxHeartbeats 1000000 in
theorem take_yes (b q n c : Nat) (a : Nat → Cd) (w : World) (h : Qu w b q (n + 1) c a) (ho : Hp.Ok key a (n + 1)) :
    Calls Tryd.prog 34 #[iq b] w fun e w' => e = .returned (takeT (a 0) true) ∧ HPo b q n c a w w' := by
  have hd := h.hd
  have hlt := h.lt
  have hbl := World.block_lt_of_cell? w ⟨b, 2, none⟩ hd
  obtain ⟨W, hW⟩ : ∃ W, W = w.alloc (.cells #[.int .u64 0, .int .u64 0, .int .i64 0] 73) := ⟨_, rfl⟩
  have B0 : Below w.heap.size w W := by rw [hW]; exact bel_alloc (Below.refl _ _) _
  have hsz : W.heap.size = w.heap.size + 1 := by rw [hW]; simp
  have hd := (B0.cell (p := ⟨b, 2, none⟩) hbl).trans hd
  have z0 : W.cell? ⟨w.heap.size, 0, none⟩ = some (.int .u64 0) := by rw [hW]; simp
  have z1 : W.cell? ⟨w.heap.size, 1, none⟩ = some (.int .u64 0) := by rw [hW]; simp
  have z2 : W.cell? ⟨w.heap.size, 2, none⟩ = some (.int .i64 0) := by rw [hW]; simp
  have f0 : W.frozen? ⟨w.heap.size, 0, none⟩ = false := by rw [hW]; simp
  have f1 : W.frozen? ⟨w.heap.size, 1, none⟩ = false := by rw [hW]; simp
  have f2 : W.frozen? ⟨w.heap.size, 2, none⟩ = false := by rw [hW]; simp
  have m1 := fun g => via_least g b (some ⟨q, 0, none⟩) (n + 1) c (w.alloc (.cells #[.int .u64 0, .int .u64 0, .int .i64 0] 73)) (by rw [← hW]; exact hd)
  have m0 := fun g => nil_any g ⟨b, 2, none⟩ (w.alloc (.cells #[.int .u64 0, .int .u64 0, .int .i64 0] 73)) "leapfrog/merge.least" (by simp)
  have hq := h.below B0
  have CL := Lib.hid (least_yes b q (n + 1) c a W hq (by omega))
  have HO := Lib.hid ho
  have HQ := Lib.hid hq
  clear h ho hq
  unfold agg at CL
  unfold iq
  have HW := Lib.hid hW
  clear hW
  go_enter Tryd.func34, Tryd.ntmps34
  go_wp2_with fail
  rw [← HW.out]
  refine CL.out.mono ?_
  rintro r w1 ⟨rfl, b1⟩
  clear m0 m1 hd
  have hsz1 : w.heap.size < w1.heap.size := by have := b1.size; omega
  have z0 := (b1.cell (p := ⟨w.heap.size, 0, none⟩) (by show w.heap.size < _; omega)).trans z0
  have z1 := (b1.cell (p := ⟨w.heap.size, 1, none⟩) (by show w.heap.size < _; omega)).trans z1
  have z2 := (b1.cell (p := ⟨w.heap.size, 2, none⟩) (by show w.heap.size < _; omega)).trans z2
  have f0 := (b1.frozen (p := ⟨w.heap.size, 0, none⟩) (by show w.heap.size < _; omega)).trans f0
  have f1 := (b1.frozen (p := ⟨w.heap.size, 1, none⟩) (by show w.heap.size < _; omega)).trans f1
  have f2 := (b1.frozen (p := ⟨w.heap.size, 2, none⟩) (by show w.heap.size < _; omega)).trans f2
  have hsz2 : w.heap.size + 1 ≤ w1.heap.size := by have := b1.size; omega
  have hq1 := (HQ.out.below b1).below (bel_alloc (Below.refl w1.heap.size w1) (.cells #[.int .u64 (a 0).k, .int .u64 (a 0).v, .int .i64 (a 0).l] 73))
  have CP := Lib.hid (hpop_any b q n c a _ hq1 HO.out)
  have hq2 := HQ.out.lt
  have HQ1 := Lib.hid hq1
  clear hq1
  unfold iq at CP
  go_wp2_with fail
  refine CP.out.mono ?_
  rintro r w2 ⟨rfl, a', hq3, ho3, hp3, hc3⟩
  have hs3 := hc3.size
  rw [World.size_alloc] at hs3
  have kb : ∀ k, w.heap.size ≤ k → k < w1.heap.size + 1 → w2.heap[k]? = (w1.alloc (.cells #[.int .u64 (a 0).k, .int .u64 (a 0).v, .int .i64 (a 0).l] 73)).heap[k]? := fun k hk hl =>
    hc3.block k (by rw [World.size_alloc]; exact hl) (fun e => by rcases e with e | e <;> omega)
  have al : ∀ k, k < w1.heap.size → (w1.alloc (.cells #[.int .u64 (a 0).k, .int .u64 (a 0).v, .int .i64 (a 0).l] 73)).heap[k]? = w1.heap[k]? := fun k hk => (bel_alloc (Below.refl w1.heap.size w1) _).block k hk
  have g0 := (kb w.heap.size (Nat.le_refl _) (by omega)).trans (al _ hsz1)
  have z0 := (World.cell?_of_block (a := ⟨w.heap.size, 0, none⟩) g0).trans z0
  have z1 := (World.cell?_of_block (a := ⟨w.heap.size, 1, none⟩) g0).trans z1
  have z2 := (World.cell?_of_block (a := ⟨w.heap.size, 2, none⟩) g0).trans z2
  have f0 := (World.frozen?_of_block (a := ⟨w.heap.size, 0, none⟩) g0).trans f0
  have f1 := (World.frozen?_of_block (a := ⟨w.heap.size, 1, none⟩) g0).trans f1
  have f2 := (World.frozen?_of_block (a := ⟨w.heap.size, 2, none⟩) g0).trans f2
  have g1 := kb w1.heap.size (by omega) (by omega)
  have y0 : w2.cell? ⟨w1.heap.size, 0, none⟩ = some (.int .u64 (a 0).k) := (World.cell?_of_block (a := ⟨w1.heap.size, 0, none⟩) g1).trans (by simp)
  have y1 : w2.cell? ⟨w1.heap.size, 1, none⟩ = some (.int .u64 (a 0).v) := (World.cell?_of_block (a := ⟨w1.heap.size, 1, none⟩) g1).trans (by simp)
  have y2 : w2.cell? ⟨w1.heap.size, 2, none⟩ = some (.int .i64 (a 0).l) := (World.cell?_of_block (a := ⟨w1.heap.size, 2, none⟩) g1).trans (by simp)
  obtain ⟨k0, k1, k2⟩ := cells3 (x0 := .int .u64 (a 0).k) (x1 := .int .u64 (a 0).v) (x2 := .int .i64 (a 0).l) z0 z1 z2
  have EN : HPo b q n c a w (((w2.setCell ⟨w.heap.size, 0, none⟩ (.int .u64 (a 0).k)).setCell ⟨w.heap.size, 1, none⟩ (.int .u64 (a 0).v)).setCell ⟨w.heap.size, 2, none⟩ (.int .i64 (a 0).l)) :=
    ⟨a', hq3.keep (keep3 (by omega) _ _ _) (keep3 (by omega) _ _ _), ho3, hp3, ch3 ((((Ch.of_below (B0.trans (b1.mono (by omega)))).alloc _).trans hc3 fun _ _ h => h)) (Nat.le_refl _) _ _ _⟩
  have EN := Lib.hid EN
  clear kb al g0 g1 hq3 ho3 hp3 hc3 HQ HQ1 CP
  go_wp2
  exact bodyPost_ret (v := takeT (a 0) true) (by simp [takeT, agg, results, Tryd.results34, go_sem, k0, k1, k2]) rfl ⟨rfl, EN.out⟩
end Hq
end Go.Proofs.YtbndgbjenmknmaaDoor
