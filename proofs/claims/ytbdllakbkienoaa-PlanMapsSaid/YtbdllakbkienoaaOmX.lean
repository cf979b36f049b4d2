/- Rows of pairs that are written in place: a block known whole, copies and clears of pairs. No conditions beside those of each lemma. -/
import Derived.Test.YtbdllakbkienoaaOmL
import Derived.Shelf.Spec.SlicesInsert
import Derived.Lib.AppendZerosOnto
import Derived.Laws.NewBlocks
import Derived.Laws.CopyOwn
namespace Go.Proofs.Ytbdllakbkienoaa
open Go.RowKit Go.Sort Go.Lib
set_option linter.unusedVariables false
set_option linter.unusedSimpArgs false
namespace Om
theorem flat_take : ∀ (l : List Pr) (i : Nat), flat (l.take i) = (flat l).take (i * 2)
  | [], i => by simp [flat]
  | x :: l, 0 => by simp [flat]
  | x :: l, i + 1 => by
    have e : ∀ t : List Pr, flat (x :: t) = .int .u64 x.1 :: .int .u64 x.2 :: flat t := fun _ => rfl
    rw [List.take_succ_cons, e, e, flat_take l i, show (i + 1) * 2 = i * 2 + 1 + 1 by omega, List.take_succ_cons, List.take_succ_cons]
theorem flat_drop : ∀ (l : List Pr) (i : Nat), flat (l.drop i) = (flat l).drop (i * 2)
  | [], i => by simp [flat]
  | x :: l, 0 => by simp
  | x :: l, i + 1 => by
    have e : ∀ t : List Pr, flat (x :: t) = .int .u64 x.1 :: .int .u64 x.2 :: flat t := fun _ => rfl
    rw [List.drop_succ_cons, e, flat_drop l i, show (i + 1) * 2 = i * 2 + 1 + 1 by omega, List.drop_succ_cons, List.drop_succ_cons]
/-- the block g is a row of c pairs with the cells L -/
def Blk (w : World) (g c : Nat) (L : List Value) : Prop := w.heap[g]? = some (.cells L.toArray 43 (0, 0)) ∧ L.length = c * 2
theorem row_blk {w : World} {B g n c : Nat} {l : List Pr} (h : w.ownsRow B 43 2 (.slice (some ⟨g, 0, none⟩) n c) n (flat l)) : ∃ R, Blk w g c (flat l ++ R) ∧ l.length = n ∧ n ≤ c ∧ c ≤ maxLen ∧ B ≤ g := by
  have hl : l.length = n := by have := h.1; rw [flat_len] at this; omega
  rcases h.2 with ⟨e, _⟩ | ⟨g', cap, cur, e, hb, hh, hnc, hcm, hs, ht⟩
  · cases e
  · injection e with e1 e2 e3
    injection e1 with e1
    injection e1 with e1
    subst e1 e3
    have e : flat l ++ cur.toList.drop (n * 2) = cur.toList := by rw [← ht, List.take_append_drop]
    refine ⟨cur.toList.drop (n * 2), ⟨?_, ?_⟩, hl, hnc, hcm, hb⟩
    · rw [e]; exact hh
    · rw [e]; simpa using hs
theorem blk_row {w : World} {B g n c : Nat} {l : List Pr} {R : List Value} (h : Blk w g c (flat l ++ R)) (hn : l.length = n) (hnc : n ≤ c) (hcm : c ≤ maxLen) (hb : B ≤ g) : w.ownsRow B 43 2 (.slice (some ⟨g, 0, none⟩) n c) n (flat l) :=
  ⟨by rw [flat_len, hn], .inr ⟨g, c, _, rfl, hb, h.1, hnc, hcm, by simpa using h.2, by
    have : (flat l).length = n * 2 := by rw [flat_len, hn]
    simp [← this]⟩⟩
theorem Blk.cell {w : World} {g c : Nat} {L : List Value} (h : Blk w g c L) (j : Nat) : w.cell? ⟨g, j, none⟩ = L[j]? := by rw [cell_of_row w g j _ _ _ h.1]; simp
theorem Blk.frozen {w : World} {g c : Nat} {L : List Value} (h : Blk w g c L) (j : Nat) : w.frozen? ⟨g, j, none⟩ = false := frozen_of_row w g j _ _ h.1
theorem Blk.some {w : World} {g c : Nat} {L : List Value} (h : Blk w g c L) {j : Nat} (hj : j < c * 2) : (w.cell? ⟨g, j, none⟩).isSome = true := by rw [h.cell, List.getElem?_eq_getElem (by rw [h.2]; exact hj)]; rfl
theorem Blk.shape {w : World} {g c : Nat} {L : List Value} (h : Blk w g c L) : w.shape? g = Option.some (43, c * 2) := by
  simp [World.shape?, h.1, h.2]
theorem Blk.drew {w : World} {g c : Nat} {L : List Value} (h : Blk w g c L) : Blk w.drew g c L := h
theorem Blk.lt {w : World} {g c : Nat} {L : List Value} (h : Blk w g c L) : g < w.heap.size := (Array.getElem?_eq_some_iff.1 h.1).1
theorem blk_setCells {g : Nat} {t : TypeId} : ∀ (vs : List Value) (o : Nat) (w : World) (L : List Value), w.heap[g]? = some (.cells L.toArray t (0, 0)) → o + vs.length ≤ L.length → (w.setCells g o vs).heap[g]? = some (.cells (splice L o vs).toArray t (0, 0))
  | [], o, w, L, h, _ => by rw [World.setCells, h]; simp [splice]
  | v :: r, o, w, L, h, hl => by
    rw [World.setCells]
    have h1 := heap_setCell_same w g o L.toArray t v h
    rw [show L.toArray.setIfInBounds o v = (L.set o v).toArray by simp] at h1
    have ih := blk_setCells r (o + 1) _ (L.set o v) h1 (by simp at hl ⊢; omega)
    rw [ih]
    have e := list_seg_step L o v r (by simpa using hl)
    congr 3
    simp only [splice, List.append_assoc] at e ⊢
    rw [e]; simp
theorem Blk.set {w : World} {g c o : Nat} {L vs : List Value} (h : Blk w g c L) (hl : o + vs.length ≤ c * 2) : Blk (w.setCells g o vs) g c (splice L o vs) :=
  ⟨blk_setCells vs o w L h.1 (by rw [h.2]; exact hl), by rw [length_splice _ _ _ (by rw [h.2]; exact hl), h.2]⟩
theorem heap_setCells_other (b k : Nat) (hk : k ≠ b) : ∀ (vs : List Value) (o : Nat) (w : World), (w.setCells b o vs).heap[k]? = w.heap[k]?
  | [], _, _ => rfl
  | v :: r, o, w => by rw [World.setCells, heap_setCells_other b k hk r, heap_setCell_other w _ k v hk]
theorem size_setCells (b : Nat) : ∀ (vs : List Value) (o : Nat) (w : World), (w.setCells b o vs).heap.size = w.heap.size
  | [], _, _ => rfl
  | v :: r, o, w => by rw [World.setCells, size_setCells b r]; simp
theorem os_setCells (b : Nat) : ∀ (vs : List Value) (o : Nat) (w : World), (w.setCells b o vs).os = w.os ∧ (w.setCells b o vs).tape = w.tape ∧ (w.setCells b o vs).output = w.output
  | [], _, _ => ⟨rfl, rfl, rfl⟩
  | v :: r, o, w => by rw [World.setCells]; exact os_setCells b r (o + 1) _
theorem grown_set (w : World) (g o : Nat) (vs : List Value) : w.grownBy (w.setCells g o vs) (some g) :=
  ⟨(os_setCells g vs o w).1, (os_setCells g vs o w).2.1, (os_setCells g vs o w).2.2, Nat.le_of_eq (size_setCells g vs o w).symm, fun k hk hn => heap_setCells_other g k (fun e => hn (by rw [e])) vs o w⟩
theorem grown_drew (w : World) (r : Option Nat) : w.grownBy w.drew r := ⟨rfl, rfl, rfl, Nat.le_refl _, fun _ _ _ => rfl⟩
theorem grown_refl (w : World) (r : Option Nat) : w.grownBy w r := ⟨rfl, rfl, rfl, Nat.le_refl _, fun _ _ _ => rfl⟩
theorem grown_below {w w' : World} {r : Option Nat} (h : Below w.heap.size w w') : w.grownBy w' r := ⟨h.os, h.tape, h.output, h.size, fun k hk _ => h.block k hk⟩
theorem grown_setCell (w : World) (g o : Nat) (v : Value) : w.grownBy (w.setCell ⟨g, o, none⟩ v) (some g) := ⟨rfl, rfl, rfl, Nat.le_of_eq (by simp), fun k hk hn => heap_setCell_other w _ k v (fun e => hn (by rw [e]))⟩
theorem size2 : (Try.prog.info? 43).map (·.size) = some 2 := by
  obtain ⟨i0, hi, hz0, hz1, hz2⟩ := info_parts info
  rw [hi]; simp [hz1]
/-- a copy of pairs: all is read before anything is written -/
theorem run_copy2 (w : World) (ty : TypeId) (b o dLen dCap : Nat) (a : Addr) (sLen sCap : Nat) (cs : List Value) (hn : cs.length = Nat.min sLen dLen * 2)
    (hsrc : ∀ j v, cs[j]? = some v → w.cell? (a.add j) = some v) (hc : ∀ j, j < cs.length → (w.cell? ⟨b, o + j, none⟩).isSome = true) (hf : ∀ j, j < cs.length → w.frozen? ⟨b, o + j, none⟩ = false) (h1 : ∀ v ∈ cs, v.oneCell' = true) :
    (Builtin.copy_ #[22, 22] ty #[.slice (some ⟨b, o, none⟩) dLen dCap, .slice (some a) sLen sCap]).run Try.prog w = .ok (goInt (Nat.min sLen dLen)) (w.setCells b o cs) := by
  have hl := run_loadCells_list (P := Try.prog) w a cs hsrc
  have hst := run_storeCells_cells (P := Try.prog) b o cs 0 w (by simpa using hc) (by simpa using hf) h1
  obtain ⟨i0, hi, hz0, hz1, hz2⟩ := info_parts info
  simp [Builtin.copy_, run_underlying Try.underlying22, Builtin.lenOf, Builtin.firstCells, sizeOf, typeInfo, hi, hz1, ← hn, hl, hst]
/-- where nothing is copied -/
theorem run_copy2_none (w : World) (ty : TypeId) (d a : Option Addr) (dLen dCap sLen sCap : Nat) (hn : Nat.min sLen dLen = 0) :
    (Builtin.copy_ #[22, 22] ty #[.slice d dLen dCap, .slice a sLen sCap]).run Try.prog w = .ok (goInt 0) w := by
  obtain ⟨i0, hi, hz0, hz1, hz2⟩ := info_parts info
  have hl : ∀ (x : Addr), (loadCells x 0).run Try.prog w = .ok #[] w := fun x => by simpa using run_loadCells_list (P := Try.prog) w x [] (by simp)
  cases d <;> cases a <;> simp [Builtin.copy_, run_underlying Try.underlying22, Builtin.lenOf, Builtin.firstCells, sizeOf, typeInfo, hi, hn, storeCells, hl]
def zeros (n : Nat) : List Value := (Builtin.zeroCells (Value.agg #[.int .u64 0, .int .u64 0]).cells n).toList
theorem zeros_len (n : Nat) : (zeros n).length = n * 2 := by simp [zeros, Builtin.zeroCells, Value.cells]
theorem zeros_one (n : Nat) : ∀ v ∈ zeros n, v.oneCell' = true := by
  intro v hv
  simp only [zeros, Builtin.zeroCells, Value.cells, Array.toList_map, List.mem_map] at hv
  obtain ⟨i, _, rfl⟩ := hv
  rcases Nat.mod_two_eq_zero_or_one i with h | h <;> simp [h] <;> rfl
/-- 'clear(s)' -/
theorem run_clear2 (w : World) (ty : TypeId) (b o n c : Nat) (hc : ∀ j, j < n * 2 → (w.cell? ⟨b, o + j, none⟩).isSome = true) (hf : ∀ j, j < n * 2 → w.frozen? ⟨b, o + j, none⟩ = false) :
    (Builtin.clear_ #[22] ty #[.slice (some ⟨b, o, none⟩) n c]).run Try.prog w = .ok (.tuple #[]) (w.setCells b o (zeros n)) := by
  have hst := run_storeCells_cells (P := Try.prog) b o (zeros n) 0 w (by simpa [zeros_len] using hc) (by simpa [zeros_len] using hf) (zeros_one n)
  simp only [Nat.add_zero] at hst
  have hzv : (zeroValue 43).run Try.prog w = .ok (.agg #[.int .u64 0, .int .u64 0]) w := by
    obtain ⟨i0, hi, hz0, hz1, hz2⟩ := info_parts info
    simp [zeroValue, typeInfo, hi, hz0]
  cases n with
  | zero => simp [Builtin.clear_, run_underlying Try.underlying22, zeros, Builtin.zeroCells, World.setCells]
  | succ m =>
    simp only [zeros] at hst
    simp [Builtin.clear_, run_underlying Try.underlying22, hzv, zeros, hst]
theorem run_clear_none (w : World) (ty : TypeId) (a : Option Addr) (c : Nat) :
    (Builtin.clear_ #[22] ty #[.slice a 0 c]).run Try.prog w = .ok (.tuple #[]) w := by
  cases a <;> simp [Builtin.clear_, run_underlying Try.underlying22]
end Om
end Go.Proofs.Ytbdllakbkienoaa
