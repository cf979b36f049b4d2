/- New of leapfrogref14: contract of the translated code. Conditions: at most 1,024 towers. (Made ahead in round 13; written by tools/mk14n.py.) -/
import Derived.Test.YtdkkpaofodicjaaGreatPoO
import Derived.Laws.MakeOwn
namespace Go.Proofs.YtdkkpaofodicjaaGreat
open Go.RowKit Go.Sort
set_option linter.unusedVariables false
set_option linter.unusedSimpArgs false
set_option maxRecDepth 100000
namespace Po
open Wd
/-- what New hands out -/
def NpP (bm bl n : Nat) (M : Wm) (w : World) (e : Ending) (w' : World) : Prop :=
  ∃ x ta ga na, e = .returned (.tuple #[.pointer (some ⟨x, 0, none⟩), .int .i64 0]) ∧ PR w' x bm bl ta ga na n (pm0 M) ∧ w.heap.size ≤ x ∧ w.heap.size ≤ ta ∧ w.heap.size ≤ ga ∧ w.heap.size ≤ na ∧ Below w.heap.size w w'
theorem newR_bad {w : World} {bm bl p : Nat} {q : Option Nat} {M : Wm} {WN : Int} (h : At 101 w bm p q M) (hl : w.cell? ⟨bl, 25, none⟩ = some (.int .i64 WN)) (hn : ¬ (M.W.length : Int) = WN) : Calls Tryz.prog 13 #[.pointer (some ⟨bm, 0, none⟩), .pointer (some ⟨bl, 0, none⟩)] w fun e w' => e = .returned (.tuple #[.pointer none, .int .i64 2]) ∧ Below w.heap.size w w' := by
  obtain ⟨c, v, rfl, h⟩ := h
  have c0 := h.c0
  have t0 : ((M.W.length : Int) != WN) = true := by simp [hn]
  have t1 : ((M.W.length : Int) == WN) = false := by simp [hn]
  have t2 : decide ((M.W.length : Int) = WN) = false := decide_eq_false hn
  clear h hn
  go_enter Tryz.func13, Tryz.ntmps13
  go_wp2_with fail
  go_quiet (fail)
  go_wp2
  go_ret2
  exact ⟨rfl, Dm.below_drewN (Below.refl _ _) _⟩
theorem newR_nil (a b : Option Addr) (w : World) (h : a = none ∨ b = none) (ha : ∀ x, a = some x → ∃ i, x = ⟨i, 0, none⟩) : Calls Tryz.prog 13 #[.pointer a, .pointer b] w fun e w' => e = .returned (.tuple #[.pointer none, .int .i64 1]) ∧ w' = w := by
  cases a with
  | none =>
    go_enter Tryz.func13, Tryz.ntmps13
    go_wp2
    go_ret2
    exact ⟨rfl, rfl⟩
  | some a =>
    obtain ⟨i, rfl⟩ := ha a rfl
    have hb : b = none := by rcases h with e | e; cases e; exact e
    subst hb
    clear ha h
    go_enter Tryz.func13, Tryz.ntmps13
    go_wp2
    go_ret2
    exact ⟨rfl, rfl⟩
theorem three (W : World) (o1 o2 o3 o4 : Obj) : ((((W.alloc o1).alloc o2).alloc o3).alloc o4).heap[W.heap.size]? = some o1 ∧ ((((W.alloc o1).alloc o2).alloc o3).alloc o4).heap[W.heap.size + 1]? = some o2 ∧ ((((W.alloc o1).alloc o2).alloc o3).alloc o4).heap[W.heap.size + 1 + 1]? = some o3 := by
  have s1 : (W.alloc o1).heap.size = W.heap.size + 1 := World.size_alloc _ _
  have s2 : ((W.alloc o1).alloc o2).heap.size = W.heap.size + 1 + 1 := by rw [World.size_alloc, s1]
  have s3 : (((W.alloc o1).alloc o2).alloc o3).heap.size = W.heap.size + 1 + 1 + 1 := by rw [World.size_alloc, s2]
  refine ⟨?_, ?_, ?_⟩
  · rw [Below.heap_alloc _ _ _ (by omega), Below.heap_alloc _ _ _ (by omega), Below.heap_alloc _ _ _ (by omega)]
    exact heap_alloc_new W o1
  · rw [Below.heap_alloc _ _ _ (by omega), Below.heap_alloc _ _ _ (by omega)]
    have := heap_alloc_new (W.alloc o1) o2
    rw [s1] at this; exact this
  · rw [Below.heap_alloc _ _ _ (by omega)]
    have := heap_alloc_new ((W.alloc o1).alloc o2) o3
    rw [s2] at this; exact this
theorem last_cell (W : World) (o1 o2 o3 : Obj) (cs : Array Value) (ty : TypeId) (i : Nat) : ((((W.alloc o1).alloc o2).alloc o3).alloc (.cells cs ty)).cell? ⟨W.heap.size + 1 + 1 + 1, i, none⟩ = cs[i]? := by
  have s3 : (((W.alloc o1).alloc o2).alloc o3).heap.size = W.heap.size + 1 + 1 + 1 := by rw [World.size_alloc, World.size_alloc, World.size_alloc]
  have := World.cell?_alloc_new (((W.alloc o1).alloc o2).alloc o3) cs ty i
  rw [s3] at this
  exact this
theorem new_pr {W : World} {x bm bl ta ga na n : Nat} {M : Wm} (c0 : W.cell? ⟨x, 0, none⟩ = some (.pointer (some ⟨bm, 0, none⟩))) (c1 : W.cell? ⟨x, 1, none⟩ = some (.pointer (some ⟨bl, 0, none⟩))) (c2 : W.cell? ⟨x, 2, none⟩ = some (.slice (some ⟨ta, 0, none⟩) (n + 1) (n + 1))) (c3 : W.cell? ⟨x, 3, none⟩ = some (.slice (some ⟨ga, 0, none⟩) (n + 1) (n + 1))) (c4 : W.cell? ⟨x, 4, none⟩ = some (.slice (some ⟨na, 0, none⟩) (n + 1) (n + 1)))
    (h1 : W.heap[ta]? = some (.cells (madeCells (Value.bool false).cells ((n + 1) * 1)) 4)) (h2 : W.heap[ga]? = some (.cells (madeCells (Value.bool false).cells ((n + 1) * 1)) 4)) (h3 : W.heap[na]? = some (.cells (madeCells (Value.int .i64 0).cells ((n + 1) * 1)) 3)) (d1 : ta ≠ ga) (d2 : ta ≠ na) (d3 : ga ≠ na) (d4 : x ≠ ta) (d5 : x ≠ ga) (d6 : x ≠ na) : PR W x bm bl ta ga na n (pm0 M) :=
  ⟨c0, c1, c2, c3, c4, fun t ht => ⟨cell_heap h1 (made_at _ rfl _ _ (by omega)), froz_heap h1⟩, fun t ht => ⟨cell_heap h2 (made_at _ rfl _ _ (by omega)), froz_heap h2⟩, fun t ht => ⟨cell_heap h3 (made_at _ rfl _ _ (by omega)), froz_heap h3⟩, d1, d2, d3, d4, d5, d6⟩
set_option maxHeartbeats 4000000 in
theorem newR_any {w : World} {bm bl p n : Nat} {q : Option Nat} {M : Wm} {WN : Int} {A : Option Addr} {k : Nat} (h : At 101 w bm p q M) (hl : w.cell? ⟨bl, 25, none⟩ = some (.int .i64 WN)) (hh : w.cell? ⟨bl, 26, none⟩ = some (.slice A n k)) (hn : (M.W.length : Int) = WN) (n1 : n ≤ 1024) : Calls Tryz.prog 13 #[.pointer (some ⟨bm, 0, none⟩), .pointer (some ⟨bl, 0, none⟩)] w (NpP bm bl n M w) := by
  obtain ⟨c, v, rfl, h⟩ := h
  have c0 := h.c0
  have t0 : ((M.W.length : Int) != WN) = false := by simp [hn]
  have t1 : ((M.W.length : Int) == WN) = true := by simp [hn]
  have t2 : decide ((M.W.length : Int) = WN) = true := decide_eq_true hn
  obtain ⟨NN, hNN⟩ : ∃ v, v = (n : Int) + 1 := ⟨_, rfl⟩
  have w1 : IntKind.i64.wrap ((n : Int) + 1) = NN := by rw [hNN]; exact IntWalk.i64_in _ (by omega)
  have w1' : wrap64 ((n : Int) + 1) = NN := by rw [hNN]; exact IntWalk.wrap64_in _ (by omega)
  have hNt : NN.toNat = n + 1 := by omega
  obtain ⟨ib, hib, zb, sb, bb⟩ := Dm.info_parts (show (Tryz.prog.info? 4).map (fun i => (i.zero, i.size, i.bytes)) = some (some (.bool false), 1, 1) by kernel_rfl)
  obtain ⟨ii, hii, zi, si, bi⟩ := Dm.info_parts (show (Tryz.prog.info? 3).map (fun i => (i.zero, i.size, i.bytes)) = some (some (.int .i64 0), 1, 8) by kernel_rfl)
  obtain ⟨OB, hOB⟩ : ∃ o : Obj, o = .cells (madeCells (Value.bool false).cells ((n + 1) * 1)) 4 := ⟨_, rfl⟩
  obtain ⟨OI, hOI⟩ : ∃ o : Obj, o = .cells (madeCells (Value.int .i64 0).cells ((n + 1) * 1)) 3 := ⟨_, rfl⟩
  have mb : ∀ W, (Instr.makeSlice 119 (.int .i64 NN) (.int .i64 NN)).run Tryz.prog W = .ok (.slice (some ⟨W.heap.size, 0, none⟩) (n + 1) (n + 1)) (W.alloc OB) := fun W => by
    rw [run_make W 119 4 ib (.bool false) Tryz.underlying119 hib zb .i64 .i64 NN NN (by omega) (Int.le_refl _) (by rw [bb]; omega) (by omega), hNt, sb, hOB]
  have mi : ∀ W, (Instr.makeSlice 69 (.int .i64 NN) (.int .i64 NN)).run Tryz.prog W = .ok (.slice (some ⟨W.heap.size, 0, none⟩) (n + 1) (n + 1)) (W.alloc OI) := fun W => by
    rw [run_make W 69 3 ii (.int .i64 0) Tryz.underlying69 hii zi .i64 .i64 NN NN (by omega) (Int.le_refl _) (by rw [bi]; omega) (by omega), hNt, si, hOI]
  have HOB := Lib.hid hOB
  have HOI := Lib.hid hOI
  clear h hn hNN hNt hib zb sb bb hii zi si bi hOB hOI
  go_enter Tryz.func13, Tryz.ntmps13
  go_wp2_with fail
  go_quiet (fail)
  go_wp2_with fail
  go_region
  all_goals
    go_wp2
    go_ret2
    have hOB := HOB.out
    have hOI := HOI.out
    refine ⟨_, _, _, _, rfl, new_pr ((last_cell (w.drewN _) _ _ _ _ _ 0).trans rfl) ((last_cell (w.drewN _) _ _ _ _ _ 1).trans rfl) ((last_cell (w.drewN _) _ _ _ _ _ 2).trans rfl) ((last_cell (w.drewN _) _ _ _ _ _ 3).trans rfl) ((last_cell (w.drewN _) _ _ _ _ _ 4).trans rfl) ?_ ?_ ?_ ?_ ?_ ?_ ?_ ?_ ?_, ?_, ?_, ?_, ?_, bel_new (bel_new (bel_new (bel_new (Dm.below_drewN (Below.refl _ _) _) _) _) _) _⟩
    all_goals first
      | (rw [← hOB]; first | exact (three (w.drewN _) _ _ _ _).1 | exact (three (w.drewN _) _ _ _ _).2.1 | exact (three (w.drewN _) _ _ _ _).2.2)
      | (rw [← hOI]; first | exact (three (w.drewN _) _ _ _ _).1 | exact (three (w.drewN _) _ _ _ _).2.1 | exact (three (w.drewN _) _ _ _ _).2.2)
      | (simp; done)
      | (simp; omega)
      | omega
end Po
end Go.Proofs.YtdkkpaofodicjaaGreat
