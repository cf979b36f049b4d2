/- The library's math/bits.Mul at 1 and slices.Repeat of one int: contracts of the translated code. Conditions: at most 65,536 copies. -/
import Derived.Test.YtnoggggbghkgkaaPkK
import Derived.Shelf.Spec.SlicesInsert
import Derived.Laws.NewBlocks
import Derived.Laws.CopyOwn
namespace Go.Proofs.Ytnoggggbghkgkaa
open Go.RowKit Go.Sort Go.Lib
set_option linter.unusedVariables false
set_option linter.unusedSimpArgs false
namespace Pk
open Dm (RdK BdI bel_alloc bel_trans cell_lt flatI info info_parts row_rd app1)
theorem and_low (y : Nat) (h : y ≤ 65536) : bits .and .u64 (y : Int) 4294967295 = (y : Int) := by
  have e : y &&& 4294967295 = y := by
    rw [show 4294967295 = 2 ^ 32 - 1 from rfl, Nat.and_two_pow_sub_one_eq_mod, Nat.mod_eq_of_lt (by omega)]
  have : bits .and .u64 (y : Int) ((4294967295 : Nat) : Int) = ((y &&& 4294967295 : Nat) : Int) := u64_and_nat y 4294967295 (by omega) (by omega)
  rw [e] at this
  exact this
theorem mul64_one (y : Nat) (h : y ≤ 65536) (w : World) : Calls Try.prog 53 #[.int .u64 1, .int .u64 y] w fun e w' => e = .returned (.tuple #[.int .u64 0, .int .u64 y]) ∧ w = w' := by
  have h1 := and_low y h
  have h2 : (y : Int) / 4294967296 = 0 := by omega
  have h3 : (y : Int) ≤ 65536 := by omega
  have h4 : (0 : Int) ≤ y := by omega
  have h5 : bits .and .u64 1 4294967295 = 1 := and_low 1 (by omega)
  have h6 : bits .and .u64 0 4294967295 = 0 := and_low 0 (by omega)
  go_enter Try.func53, Try.ntmps53
  go_wp2
  go_ret2
  exact ⟨rfl, rfl⟩
theorem mul_one_any (y : Nat) (h : y ≤ 65536) (w : World) : Calls Try.prog 51 #[.int .u64 1, .int .u64 y] w fun e w' => e = .returned (.tuple #[.int .u64 0, .int .u64 y]) ∧ w = w' := by
  have C := Lib.hid (mul64_one y h w)
  go_enter Try.func51, Try.ntmps51
  go_wp2_with fail
  refine C.out.mono ?_
  rintro e w' ⟨rfl, rfl⟩
  go_wp2
  go_ret2
  exact ⟨rfl, rfl⟩
/-- a copy of ints: all is read before anything is written -/
theorem run_copyI (w : World) (ty : TypeId) (b o dLen dCap : Nat) (a : Addr) (sLen sCap : Nat) (cs : List Value) (hn : cs.length = Nat.min sLen dLen)
    (hsrc : ∀ j v, cs[j]? = some v → w.cell? (a.add j) = some v) (hc : ∀ j, j < cs.length → (w.cell? ⟨b, o + j, none⟩).isSome = true) (hf : ∀ j, j < cs.length → w.frozen? ⟨b, o + j, none⟩ = false) (h1 : ∀ v ∈ cs, v.oneCell' = true) :
    (Builtin.copy_ #[22, 22] ty #[.slice (some ⟨b, o, none⟩) dLen dCap, .slice (some a) sLen sCap]).run Try.prog w = .ok (goInt (Nat.min sLen dLen)) (w.setCells b o cs) := by
  have hl := run_loadCells_list (P := Try.prog) w a cs hsrc
  have hst := run_storeCells_cells (P := Try.prog) b o cs 0 w (by simpa using hc) (by simpa using hf) h1
  obtain ⟨i0, hi, hz0, hz1, hz2⟩ := info_parts info
  simp [Builtin.copy_, run_underlying Try.underlying22, Builtin.lenOf, Builtin.firstCells, sizeOf, typeInfo, hi, hz1, ← hn, hl, hst]
/-- where nothing is copied -/
theorem run_copyI_none (w : World) (ty : TypeId) (d a : Option Addr) (dLen dCap sLen sCap : Nat) (hn : Nat.min sLen dLen = 0) :
    (Builtin.copy_ #[22, 22] ty #[.slice d dLen dCap, .slice a sLen sCap]).run Try.prog w = .ok (goInt 0) w := by
  obtain ⟨i0, hi, hz0, hz1, hz2⟩ := info_parts info
  have hl : ∀ (x : Addr), (loadCells x 0).run Try.prog w = .ok #[] w := fun x => by simpa using run_loadCells_list (P := Try.prog) w x [] (by simp)
  cases d <;> cases a <;> simp [Builtin.copy_, run_underlying Try.underlying22, Builtin.lenOf, Builtin.firstCells, sizeOf, typeInfo, hi, hn, storeCells, hl]
/-- the block g is a row of the ints L -/
def Blk (w : World) (g : Nat) (L : List Int) : Prop := w.heap[g]? = some (.cells (flatI L).toArray 3 (0, 0))
theorem flatI_len (l : List Int) : (flatI l).length = l.length := by simp [flatI]
theorem row_blk {w : World} {B g n : Nat} {l : List Int} (h : w.ownsRow B 3 1 (.slice (some ⟨g, 0, none⟩) n n) n (flatI l)) : Blk w g l ∧ l.length = n ∧ B ≤ g := by
  have hl : l.length = n := by have := h.1; rw [flatI_len] at this; omega
  rcases h.2 with ⟨e, _⟩ | ⟨g', cap, cur, e, hb, hh, hnc, hcm, hs, ht⟩
  · cases e
  · injection e with e1 e2 e3
    injection e1 with e1
    injection e1 with e1
    subst e1 e3
    refine ⟨?_, hl, hb⟩
    unfold Blk
    rw [hh, ← ht, List.take_of_length_le (by simp; omega)]
theorem blk_row {w : World} {B g n : Nat} {l : List Int} (h : Blk w g l) (hn : l.length = n) (hcm : n ≤ maxLen) (hb : B ≤ g) : w.ownsRow B 3 1 (.slice (some ⟨g, 0, none⟩) n n) n (flatI l) :=
  ⟨by rw [flatI_len, hn]; omega, .inr ⟨g, n, _, rfl, hb, h, Nat.le_refl _, hcm, by simp [flatI_len, hn], by
    have : (flatI l).length = n * 1 := by rw [flatI_len, hn]; omega
    simp [← this]⟩⟩
theorem Blk.cell {w : World} {g : Nat} {L : List Int} (h : Blk w g L) (j : Nat) : w.cell? ⟨g, j, none⟩ = (flatI L)[j]? := by rw [cell_of_row w g j _ _ _ h]; simp
theorem Blk.frozen {w : World} {g : Nat} {L : List Int} (h : Blk w g L) (j : Nat) : w.frozen? ⟨g, j, none⟩ = false := frozen_of_row w g j _ _ h
theorem Blk.some {w : World} {g : Nat} {L : List Int} (h : Blk w g L) {j : Nat} (hj : j < L.length) : (w.cell? ⟨g, j, none⟩).isSome = true := by rw [h.cell, List.getElem?_eq_getElem (by rw [flatI_len]; exact hj)]; rfl
theorem blk_setCells {g : Nat} {t : TypeId} : ∀ (vs : List Value) (o : Nat) (w : World) (L : List Value), w.heap[g]? = some (.cells L.toArray t (0, 0)) → o + vs.length ≤ L.length → (w.setCells g o vs).heap[g]? = some (.cells (splice L o vs).toArray t (0, 0))
  | [], o, w, L, h, _ => by rw [World.setCells, h]; simp [splice]
  | v :: r, o, w, L, h, hl => by
    rw [World.setCells]
    have h1 := heap_setCell_same w g o L.toArray t v h
    rw [show L.toArray.setIfInBounds o v = (L.set o v).toArray by simp] at h1
    have ih := blk_setCells r (o + 1) _ (L.set o v) h1 (by simp at hl ⊢; omega)
    rw [ih]
    have e := list_seg_step L o v r (by simpa using hl)
    congr 3
    simp only [splice, List.append_assoc] at e ⊢
    rw [e]; simp
theorem heap_setCells_other (b k : Nat) (hk : k ≠ b) : ∀ (vs : List Value) (o : Nat) (w : World), (w.setCells b o vs).heap[k]? = w.heap[k]?
  | [], _, _ => rfl
  | v :: r, o, w => by rw [World.setCells, heap_setCells_other b k hk r, heap_setCell_other w _ k v hk]
theorem size_setCells (b : Nat) : ∀ (vs : List Value) (o : Nat) (w : World), (w.setCells b o vs).heap.size = w.heap.size
  | [], _, _ => rfl
  | v :: r, o, w => by rw [World.setCells, size_setCells b r]; simp
theorem os_setCells (b : Nat) : ∀ (vs : List Value) (o : Nat) (w : World), (w.setCells b o vs).os = w.os ∧ (w.setCells b o vs).tape = w.tape ∧ (w.setCells b o vs).output = w.output
  | [], _, _ => ⟨rfl, rfl, rfl⟩
  | v :: r, o, w => by rw [World.setCells]; exact os_setCells b r (o + 1) _
theorem bel_setCells {B g o : Nat} {a w : World} (vs : List Value) (h : Below B a w) (hg : B ≤ g) : Below B a (w.setCells g o vs) :=
  h.trans ⟨(os_setCells g vs o w).1, (os_setCells g vs o w).2.1, (os_setCells g vs o w).2.2, Nat.le_of_eq (size_setCells g vs o w).symm, fun k hk => heap_setCells_other g k (by omega) vs o w⟩
/-- the first k of q places are filled -/
def repL (q : Nat) (p : Int) (k : Nat) : List Int := List.replicate k p ++ List.replicate (q - k) 0
theorem repL_len {q k : Nat} (p : Int) (h : k ≤ q) : (repL q p k).length = q := by simp [repL]; omega
theorem flat_rep (k : Nat) (p : Int) : flatI (List.replicate k p) = List.replicate k (.int .i64 p) := by simp [flatI]
theorem splice_rep {q k c : Nat} (p : Int) (h : k + c ≤ q) : splice (flatI (repL q p k)) k (List.replicate c (.int .i64 p)) = flatI (repL q p (k + c)) := by
  apply List.ext_getElem?
  intro j
  simp only [splice, repL, flatI, List.map_append, List.map_replicate, List.length_replicate]
  rw [List.take_append_of_le_length (by simp), List.take_of_length_le (by simp), List.drop_append, List.drop_of_length_le (by simp)]
  simp only [List.length_replicate, List.nil_append, List.drop_replicate, List.replicate_append_replicate]
  rw [show q - k - (k + c - k) = q - (k + c) by omega, ← List.append_assoc, List.replicate_append_replicate]
theorem Blk.fill {w : World} {g q k c : Nat} {p : Int} (h : Blk w g (repL q p k)) (hk : k + c ≤ q) : Blk (w.setCells g k (List.replicate c (.int .i64 p))) g (repL q p (k + c)) := by
  unfold Blk
  rw [← splice_rep p hk]
  exact blk_setCells _ _ _ _ h (by rw [flatI_len, repL_len p (by omega)]; simp; omega)
theorem rep_get {q k : Nat} {p : Int} {j : Nat} (h : j < k) : (flatI (repL q p k))[j]? = some (.int .i64 p) := by
  simp only [repL, flatI, List.map_append, List.map_replicate]
  rw [List.getElem?_append_left (by simpa using h)]
  simp [h]
theorem made_rep (n : Nat) : (madeCells (Value.int .i64 0).cells (n * 1)).toList = flatI (repL n 7 0) := by
  simp only [repL, List.replicate_zero, List.nil_append, Nat.sub_zero]
  exact made_flat n
end Pk
end Go.Proofs.Ytnoggggbghkgkaa
