/- Round and Mixed of package picks, with their closures: contracts of the translated code. Conditions: those of each lemma. -/
import Derived.Test.YtnoggggbghkgkaaPkW
namespace Go.Proofs.Ytnoggggbghkgkaa
open Go.RowKit Go.Shelf Go.Sort
set_option linter.unusedVariables false
set_option linter.unusedSimpArgs false
namespace Pk
open Dm (RdK BdI bel_alloc bel_trans cell_lt flatI info info_parts row_rd app1)
theorem own_cell {w : World} {base g c n : Nat} {l : List Int} (h : w.ownsRow base 3 1 (.slice (some ⟨g, 0, none⟩) n c) n (flatI l)) (hl : l.length = n) {j : Nat} (hj : j < n) : w.cell? ⟨g, j, none⟩ = some (.int .i64 (l.getD j 0)) := by
  rw [h.cellAt _ (by omega)]
  simp only [flatI, List.getElem?_map, List.getElem?_eq_getElem (show j < l.length by omega), List.getD_eq_getElem?_getD]
  rfl
theorem made_flat (n : Nat) : (madeCells (Value.int .i64 0).cells (n * 1)).toList = flatI (List.replicate n 0) := by
  refine List.ext_getElem (by simp [madeCells, flatI]) fun t h1 h2 => ?_
  simp [madeCells, flatI, Value.cells, Nat.mod_one]
theorem flat_set (l : List Int) (j : Nat) (x : Int) : (flatI l).set j (.int .i64 x) = flatI (l.set j x) := by simp [flatI, List.map_set]
/-- the first k of N numbers, then zeros -/
def mdL (f : Nat → Int) (N k : Nat) : List Int := (List.range N).map fun i => if i < k then f i else 0
theorem mdL_zero (f : Nat → Int) (N : Nat) : mdL f N 0 = List.replicate N 0 := by
  refine List.ext_getElem (by simp [mdL]) fun t h1 h2 => ?_
  simp [mdL]
theorem mdL_full (f : Nat → Int) (N : Nat) : mdL f N N = (List.range N).map f := by
  refine List.ext_getElem (by simp [mdL]) fun t h1 h2 => ?_
  have : t < N := by simpa using h2
  simp [mdL, this]
theorem mdL_set (f : Nat → Int) {N k : Nat} (h : k < N) : (mdL f N k).set k (f k) = mdL f N (k + 1) := by
  refine List.ext_getElem (by simp [mdL]) fun t h1 h2 => ?_
  rw [List.getElem_set]
  by_cases e : k = t
  · subst e; simp [mdL]
  · have : (t < k + 1) = (t < k) := by apply propext; omega
    simp [mdL, e, this]
/-- what the closure keeps: all blocks but one below n -/
structure Cl (n : Nat) (b : Nat) (W W' : World) : Prop where
  blk : ∀ k, k ≠ b → W'.heap[k]? = W.heap[k]?
  size : W'.heap.size = W.heap.size
  os : W'.os = W.os
  tape : W'.tape = W.tape
  output : W'.output = W.output
theorem Cl.set {n b o : Nat} {W : World} {v : Value} : Cl n b W (W.setCell ⟨b, o, none⟩ v) :=
  ⟨fun k hk => Below.heap_setCell _ _ _ _ hk, by simp, rfl, rfl, rfl⟩
theorem Cl.bel {n b N : Nat} {W W' : World} (h : Cl n b W W') (hb : N ≤ b) : Below N W W' := ⟨h.os, h.tape, h.output, Nat.le_of_eq h.size.symm, fun k hk => h.blk k (by omega)⟩
theorem row_kept {w w' : World} {base n : Nat} {v : Value} {xs : List Value} (h : w.ownsRow base 3 1 v n xs) (hb : ∀ g, v.ownBlock = some g → w'.heap[g]? = w.heap[g]?) : w'.ownsRow base 3 1 v n xs := by
  rcases h.2 with ⟨rfl, rfl⟩ | ⟨g, cap, cur, rfl, h1, h2, h3, h4, h5, h6⟩
  · exact ⟨h.1, .inl ⟨rfl, rfl⟩⟩
  · exact ⟨h.1, .inr ⟨g, cap, cur, rfl, h1, (hb g rfl).trans h2, h3, h4, h5, h6⟩⟩
/-- the closure of Round -/
theorem round1_any (bt bn T : Nat) (v : Int) (W : World) (h1 : Boxed W bt 3 (.int .i64 v)) (h2 : Boxed W bn 3 (.int .i64 T)) (v0 : -1 ≤ v) (v1 : v ≤ 64) (t1 : 1 ≤ T) (t2 : T ≤ 64) (hne : bt ≠ bn) :
    Calls Try.prog 42 #[.pointer (some ⟨bt, 0, none⟩), .pointer (some ⟨bn, 0, none⟩)] W fun e W' => e = .returned (.int .i64 ((v + 1) % (T : Int))) ∧ W' = W.setCell ⟨bt, 0, none⟩ (.int .i64 ((v + 1) % (T : Int))) := by
  have c1 := h1.cell
  have f1 := h1.frozen
  have c2 := h2.cell
  have z0 : ((T : Int) == 0) = false := by simp; omega
  have z1 : ¬ (T : Int) = 0 := by omega
  have z2 : 0 ≤ v + 1 := by omega
  have z3 : (1 : Int) ≤ T := by omega
  have z4 : (T : Int) ≤ 64 := by omega
  have y0 : 0 ≤ (v + 1) % (T : Int) := Int.emod_nonneg _ (by omega)
  have y1 : (v + 1) % (T : Int) < T := Int.emod_lt_of_pos _ (by omega)
  clear h1 h2
  go_enter Try.func42, Try.ntmps42
  go_wp2
  go_ret
  exact ⟨rfl, rfl⟩
/-- the state of Round's closure -/
def tu (T j : Nat) : Int := if j = 0 then -1 else ((j - 1 : Nat) : Int) % (T : Int)
theorem tu_succ {T j : Nat} (h : 1 ≤ T) : (tu T j + 1) % (T : Int) = tu T (j + 1) ∧ tu T (j + 1) = ((j : Nat) : Int) % (T : Int) := by
  have e : tu T (j + 1) = ((j : Nat) : Int) % (T : Int) := by simp [tu]
  refine ⟨?_, e⟩
  rw [e]
  unfold tu
  split
  · rename_i h0; subst h0; simp
  · rename_i h0
    rw [Int.emod_add_emod]
    congr 1; omega
theorem tu_bd {T j : Nat} (h : 1 ≤ T) (h2 : T ≤ 64) : -1 ≤ tu T j ∧ tu T j ≤ 64 := by
  unfold tu
  split
  · omega
  · have := Int.emod_nonneg ((j - 1 : Nat) : Int) (show (T : Int) ≠ 0 by omega)
    have := Int.emod_lt_of_pos ((j - 1 : Nat) : Int) (show (0 : Int) < T by omega)
    omega
def JR (bt bn T : Nat) (j : Nat) (W : World) : Prop := Boxed W bt 3 (.int .i64 (tu T j)) ∧ Boxed W bn 3 (.int .i64 T)
theorem stepR (bt bn T : Nat) (t1 : 1 ≤ T) (t2 : T ≤ 64) (hne : bt ≠ bn) (j : Nat) (W : World) (h : JR bt bn T j W) : Calls Try.prog 42 #[.pointer (some ⟨bt, 0, none⟩), .pointer (some ⟨bn, 0, none⟩)] W fun e W' => e = .returned (.int .i64 (((j : Nat) : Int) % (T : Int))) ∧ JR bt bn T (j + 1) W' ∧ Cl 0 bt W W' := by
  have b := tu_bd (j := j) t1 t2
  have s := tu_succ (j := j) t1
  refine (round1_any bt bn T _ W h.1 h.2 b.1 b.2 t1 t2 hne).mono ?_
  rintro e W' ⟨rfl, rfl⟩
  rw [s.1]
  exact ⟨by rw [s.2], ⟨h.1.set _, h.2.other (fun e => hne e.symm) _⟩, Cl.set⟩
theorem JR.keep {bt bn T j : Nat} {W W' : World} (h : JR bt bn T j W) (h1 : W'.heap[bt]? = W.heap[bt]?) (h2 : W'.heap[bn]? = W.heap[bn]?) : JR bt bn T j W' := ⟨h1.trans h.1, h2.trans h.2⟩
/-- the number behind Mixed -/
def mx (x : Nat) : Nat := (x * 2862933555777941757 + 3037000493) % 18446744073709551616
def mxN (s : Nat) : Nat → Nat
  | 0 => s
  | j + 1 => mx (mxN s j)
theorem mxN_lt {s : Nat} (hs : s < 18446744073709551616) : ∀ j, mxN s j < 18446744073709551616
  | 0 => hs
  | j + 1 => Nat.mod_lt _ (by decide)
/-- a pick of Mixed -/
def mxP (T x : Nat) : Int := (((mx x / 8589934592) % T : Nat) : Int)
theorem mx_wrap (x : Nat) : IntKind.u64.wrap (IntKind.u64.wrap ((x : Int) * 2862933555777941757) + 3037000493) = ((mx x : Nat) : Int) := by
  have e : ∀ z : Int, IntKind.u64.wrap z = z % 18446744073709551616 := fun z => rfl
  rw [e, e, Int.emod_add_emod]
  unfold mx
  omega
theorem mixed1_any (bx bn T x : Nat) (W : World) (h1 : Boxed W bx 37 (.int .u64 x)) (h2 : Boxed W bn 3 (.int .i64 T)) (hx : x < 18446744073709551616) (t1 : 1 ≤ T) (t2 : T ≤ 64) (hne : bx ≠ bn) :
    Calls Try.prog 44 #[.pointer (some ⟨bx, 0, none⟩), .pointer (some ⟨bn, 0, none⟩)] W fun e W' => e = .returned (.int .i64 (mxP T x)) ∧ W' = W.setCell ⟨bx, 0, none⟩ (.int .u64 (mx x : Nat)) := by
  have c1 := h1.cell
  have f1 := h1.frozen
  have c2 := h2.cell
  have c3 : ∀ u, (W.setCell ⟨bx, 0, none⟩ u).cell? ⟨bn, 0, none⟩ = some (.int .i64 T) := fun u => (h2.other (fun e => hne e.symm) u).cell
  have z0 : ((T : Int) == 0) = false := by simp; omega
  have z1 : ¬ (T : Int) = 0 := by omega
  have z3 : (1 : Int) ≤ T := by omega
  have z4 : (T : Int) ≤ 64 := by omega
  clear h1 h2
  go_enter Try.func44, Try.ntmps44
  go_wp2
  go_ret
  have hm : mx x < 18446744073709551616 := Nat.mod_lt _ (by decide)
  rw [mx_wrap]
  refine ⟨?_, rfl⟩
  have hp : ((mx x : Nat) : Int) / 8589934592 = ((mx x / 8589934592 : Nat) : Int) := by omega
  have hq : ((mx x / 8589934592 : Nat) : Int).tmod (T : Int) = ((mx x / 8589934592 % T : Nat) : Int) := by rw [Int.tmod_eq_emod_of_nonneg (by omega)]; rfl
  have hl : mx x / 8589934592 % T < T := Nat.mod_lt _ (by omega)
  obtain ⟨y, hy⟩ : ∃ y, mx x / 8589934592 % T = y := ⟨_, rfl⟩
  have hv : mxP T x = (y : Int) := by unfold mxP; rw [hy]
  rw [hy] at hl hq
  have hw : wrap64 (y : Int) = y := by unfold wrap64; omega
  show Ending.returned (.int .i64 (wrap64 _)) = _
  rw [hp, hq, hv, hw]
def JM (bt bn T s : Nat) (j : Nat) (W : World) : Prop := Boxed W bt 37 (.int .u64 (mxN s j : Nat)) ∧ Boxed W bn 3 (.int .i64 T)
theorem stepM (bt bn T s : Nat) (hs : s < 18446744073709551616) (t1 : 1 ≤ T) (t2 : T ≤ 64) (hne : bt ≠ bn) (j : Nat) (W : World) (h : JM bt bn T s j W) : Calls Try.prog 44 #[.pointer (some ⟨bt, 0, none⟩), .pointer (some ⟨bn, 0, none⟩)] W fun e W' => e = .returned (.int .i64 (mxP T (mxN s j))) ∧ JM bt bn T s (j + 1) W' ∧ Cl 0 bt W W' := by
  refine (mixed1_any bt bn T _ W h.1 h.2 (mxN_lt hs j) t1 t2 hne).mono ?_
  rintro e W' ⟨rfl, rfl⟩
  exact ⟨rfl, ⟨h.1.set _, h.2.other (fun e => hne e.symm) _⟩, Cl.set⟩
theorem JM.keep {bt bn T s j : Nat} {W W' : World} (h : JM bt bn T s j W) (h1 : W'.heap[bt]? = W.heap[bt]?) (h2 : W'.heap[bn]? = W.heap[bn]?) : JM bt bn T s j W' := ⟨h1.trans h.1, h2.trans h.2⟩
set_option maxRecDepth 100000 in
set_option maxHeartbeats 1000000 in
theorem madeR_any (bt bn B : Nat) (f : Nat → Int) (J : Nat → World → Prop) (hJ : ∀ j W W', J j W → W'.heap[bt]? = W.heap[bt]? → W'.heap[bn]? = W.heap[bn]? → J j W') (hS : ∀ j W, J j W → Calls Try.prog 42 #[.pointer (some ⟨bt, 0, none⟩), .pointer (some ⟨bn, 0, none⟩)] W fun e W' => e = .returned (.int .i64 (f j)) ∧ J (j + 1) W' ∧ Cl 0 bt W W')
    (N : Nat) (hN : N ≤ 65536) (w : World) (hbt : bt < w.heap.size) (hbn : bn < w.heap.size) (hB : B ≤ bt) (h0 : J 0 w) :
    Calls Try.prog 41 #[.int .i64 N, .func (.func 42) #[] #[.pointer (some ⟨bt, 0, none⟩), .pointer (some ⟨bn, 0, none⟩)]] w fun e w' => ∃ v, e = .returned v ∧ w'.ownsRow w.heap.size 3 1 v N (flatI ((List.range N).map f)) ∧ Below B w w' := by
  obtain ⟨i0, hi, hz0, hz1, hz2⟩ := info_parts info
  have HJ := Lib.hid hJ; clear hJ
  have HS := Lib.hid hS; clear hS
  have H0 := Lib.hid h0; clear h0
  go_enter Try.func41, Try.ntmps41
  go_wp2_with (at_make; refine wpList_make_full _ rfl _ _ 22 rfl w.heap.size 3 i0 (.int .i64 0) 1 Try.underlying22 hi hz0 hz1 .i64 .i64 _ _ N rfl rfl rfl rfl (by rw [hz2]; omega) (by unfold maxLen; omega) (Nat.le_refl _) ?_; intro w1 hown hgrow)
  rw [made_flat] at hown
  have b1 : Below w.heap.size w w1 := (Below.refl _ w).grown hgrow (Nat.le_refl _) fun g h => by cases h
  have J1 := Lib.hid (HJ.out 0 w w1 H0.out (b1.block _ hbt) (b1.block _ hbn))
  have B1 := Lib.hid (show Below B w w1 from b1.mono (by omega))
  have OW1 := Lib.hid (show w1.ownsRow w.heap.size 3 1 (.slice (some ⟨w.heap.size, 0, none⟩) N N) N (flatI (mdL f N 0)) by rw [mdL_zero]; exact hown)
  clear hgrow hi hz0 hz1 hz2 hown b1
  go_loopw [11, 6] (fun i i2 wr => ∃ (j : Nat), j ≤ N ∧ i = .int .i64 j ∧ wr.ownsRow w.heap.size 3 1 (.slice (some ⟨w.heap.size, 0, none⟩) N N) N (flatI (mdL f N j)) ∧ J j wr ∧ Below B w wr) (fun i _ _ => (N - intOf i).toNat)
  case atStart => exact ⟨0, Nat.zero_le _, rfl, OW1.out, J1.out, B1.out⟩
  case round =>
    clear OW1 J1 B1
    obtain ⟨j, hj, rfl, ow, hj0, bel⟩ := hrel
    by_cases hlt : j < N
    · have OW := Lib.hid ow; clear ow
      have CS := Lib.hid (HS.out j wr hj0)
      have HM := Lib.hid (mdL_set f hlt)
      generalize f j = q at *
      clear hj0
      have t0 : decide ((j : Int) < N) = true := decide_eq_true (by omega)
      go_wp2_with fail
      refine CS.out.mono ?_
      rintro r w2 ⟨rfl, j2, cl⟩
      have ow2 := row_kept (w' := w2) OW.out (fun g hg => cl.blk g (by simp [Value.ownBlock] at hg; omega))
      have c0 := own_cell ow2 (by simp [mdL]) hlt
      have f0 := ow2.frozenAt j
      have OW2 := Lib.hid ow2
      have J2 := Lib.hid j2
      have B2 := Lib.hid (show Below B w w2 from bel.trans ((cl.bel (N := B) hB)))
      clear ow2 j2 cl CS OW bel
      go_wp2
      go_roundw
      case rel =>
        refine ⟨j + 1, by omega, by go_num, ?_, ?_, B2.out.setCell (p := ⟨w.heap.size, j, none⟩) (by show B ≤ w.heap.size; omega) _⟩
        · rw [← HM.out, ← flat_set]; exact (OW2.out.stored j _).1
        · exact HJ.out _ _ _ J2.out (Below.heap_setCell _ _ _ _ (by show bt ≠ w.heap.size; omega)) (Below.heap_setCell _ _ _ _ (by show bn ≠ w.heap.size; omega))
      case measure => simp [intOf]; omega
    · obtain rfl : j = N := by omega
      have OW := Lib.hid (show wr.ownsRow w.heap.size 3 1 (.slice (some ⟨w.heap.size, 0, none⟩) j j) j (flatI ((List.range j).map f)) by rw [← mdL_full]; exact ow)
      clear ow hj0
      have t0 : decide ((j : Int) < j) = false := decide_eq_false (by omega)
      go_wp2
      go_ret
      exact ⟨_, rfl, OW.out, bel⟩
set_option maxRecDepth 100000 in
set_option maxHeartbeats 1000000 in
theorem madeM_any (bt bn B : Nat) (f : Nat → Int) (J : Nat → World → Prop) (hJ : ∀ j W W', J j W → W'.heap[bt]? = W.heap[bt]? → W'.heap[bn]? = W.heap[bn]? → J j W') (hS : ∀ j W, J j W → Calls Try.prog 44 #[.pointer (some ⟨bt, 0, none⟩), .pointer (some ⟨bn, 0, none⟩)] W fun e W' => e = .returned (.int .i64 (f j)) ∧ J (j + 1) W' ∧ Cl 0 bt W W')
    (N : Nat) (hN : N ≤ 65536) (w : World) (hbt : bt < w.heap.size) (hbn : bn < w.heap.size) (hB : B ≤ bt) (h0 : J 0 w) :
    Calls Try.prog 41 #[.int .i64 N, .func (.func 44) #[] #[.pointer (some ⟨bt, 0, none⟩), .pointer (some ⟨bn, 0, none⟩)]] w fun e w' => ∃ v, e = .returned v ∧ w'.ownsRow w.heap.size 3 1 v N (flatI ((List.range N).map f)) ∧ Below B w w' := by
  obtain ⟨i0, hi, hz0, hz1, hz2⟩ := info_parts info
  have HJ := Lib.hid hJ; clear hJ
  have HS := Lib.hid hS; clear hS
  have H0 := Lib.hid h0; clear h0
  go_enter Try.func41, Try.ntmps41
  go_wp2_with (at_make; refine wpList_make_full _ rfl _ _ 22 rfl w.heap.size 3 i0 (.int .i64 0) 1 Try.underlying22 hi hz0 hz1 .i64 .i64 _ _ N rfl rfl rfl rfl (by rw [hz2]; omega) (by unfold maxLen; omega) (Nat.le_refl _) ?_; intro w1 hown hgrow)
  rw [made_flat] at hown
  have b1 : Below w.heap.size w w1 := (Below.refl _ w).grown hgrow (Nat.le_refl _) fun g h => by cases h
  have J1 := Lib.hid (HJ.out 0 w w1 H0.out (b1.block _ hbt) (b1.block _ hbn))
  have B1 := Lib.hid (show Below B w w1 from b1.mono (by omega))
  have OW1 := Lib.hid (show w1.ownsRow w.heap.size 3 1 (.slice (some ⟨w.heap.size, 0, none⟩) N N) N (flatI (mdL f N 0)) by rw [mdL_zero]; exact hown)
  clear hgrow hi hz0 hz1 hz2 hown b1
  go_loopw [11, 6] (fun i i2 wr => ∃ (j : Nat), j ≤ N ∧ i = .int .i64 j ∧ wr.ownsRow w.heap.size 3 1 (.slice (some ⟨w.heap.size, 0, none⟩) N N) N (flatI (mdL f N j)) ∧ J j wr ∧ Below B w wr) (fun i _ _ => (N - intOf i).toNat)
  case atStart => exact ⟨0, Nat.zero_le _, rfl, OW1.out, J1.out, B1.out⟩
  case round =>
    clear OW1 J1 B1
    obtain ⟨j, hj, rfl, ow, hj0, bel⟩ := hrel
    by_cases hlt : j < N
    · have OW := Lib.hid ow; clear ow
      have CS := Lib.hid (HS.out j wr hj0)
      have HM := Lib.hid (mdL_set f hlt)
      generalize f j = q at *
      clear hj0
      have t0 : decide ((j : Int) < N) = true := decide_eq_true (by omega)
      go_wp2_with fail
      refine CS.out.mono ?_
      rintro r w2 ⟨rfl, j2, cl⟩
      have ow2 := row_kept (w' := w2) OW.out (fun g hg => cl.blk g (by simp [Value.ownBlock] at hg; omega))
      have c0 := own_cell ow2 (by simp [mdL]) hlt
      have f0 := ow2.frozenAt j
      have OW2 := Lib.hid ow2
      have J2 := Lib.hid j2
      have B2 := Lib.hid (show Below B w w2 from bel.trans ((cl.bel (N := B) hB)))
      clear ow2 j2 cl CS OW bel
      go_wp2
      go_roundw
      case rel =>
        refine ⟨j + 1, by omega, by go_num, ?_, ?_, B2.out.setCell (p := ⟨w.heap.size, j, none⟩) (by show B ≤ w.heap.size; omega) _⟩
        · rw [← HM.out, ← flat_set]; exact (OW2.out.stored j _).1
        · exact HJ.out _ _ _ J2.out (Below.heap_setCell _ _ _ _ (by show bt ≠ w.heap.size; omega)) (Below.heap_setCell _ _ _ _ (by show bn ≠ w.heap.size; omega))
      case measure => simp [intOf]; omega
    · obtain rfl : j = N := by omega
      have OW := Lib.hid (show wr.ownsRow w.heap.size 3 1 (.slice (some ⟨w.heap.size, 0, none⟩) j j) j (flatI ((List.range j).map f)) by rw [← mdL_full]; exact ow)
      clear ow hj0
      have t0 : decide ((j : Int) < j) = false := decide_eq_false (by omega)
      go_wp2
      go_ret
      exact ⟨_, rfl, OW.out, bel⟩
/-- what Round returns -/
def rdL (t : Int) (n : Nat) : List Int := (List.range n).map fun j => ((j : Nat) : Int) % t
def mxL (s : Nat) (t : Int) (n : Nat) : List Int := (List.range n).map fun j => mxP t.toNat (mxN s j)
def MkPost (t n : Int) (L : List Int) (w : World) (e : Ending) (w' : World) : Prop :=
  (if fitE t n = 0 then ∃ v, e = .returned (.tuple #[v, .int .i64 0]) ∧ w'.ownsRow w.heap.size 3 1 v n.toNat (flatI L) else e = .returned (.tuple #[.slice none 0 0, .int .i64 (fitE t n)])) ∧ Below w.heap.size w w'
theorem round_any (t n : Int) (w : World) : Calls Try.prog 24 #[.int .i64 t, .int .i64 n] w (MkPost t n (rdL t n.toNat) w) := by
  have CF := fun (W : World) => Lib.hid (fits_any t n W)
  by_cases h0 : fitE t n = 0
  · obtain ⟨a1, a2, a3, a4⟩ := fitE_ok h0
    have HP := Lib.hid (show ∀ e w', MkPost t n (rdL t n.toNat) w e w' ↔ (∃ v, e = .returned (.tuple #[v, .int .i64 0]) ∧ w'.ownsRow w.heap.size 3 1 v n.toNat (flatI (rdL t n.toNat))) ∧ Below w.heap.size w w' from fun e w' => by unfold MkPost; rw [if_pos h0])
    rw [h0] at CF
    obtain ⟨T, rfl⟩ := Int.eq_ofNat_of_zero_le (show 0 ≤ t by omega)
    obtain ⟨N, rfl⟩ := Int.eq_ofNat_of_zero_le a3
    have CM := Lib.hid (madeR_any (w.heap.size + 1) w.heap.size w.heap.size (fun j => ((j : Nat) : Int) % (T : Int)) (JR (w.heap.size + 1) w.heap.size T) (fun j W W' h h1 h2 => h.keep h1 h2) (fun j W h => stepR _ _ T (by omega) (by omega) (by omega) j W h) N (by omega) ((w.alloc (.cells #[.int .i64 T] 3)).alloc (.cells #[.int .i64 (-1)] 3)) (by simp) (by simp; omega) (by omega)
      ⟨by have := Boxed.new (w.alloc (.cells #[.int .i64 T] 3)) 3 (.int .i64 (-1)); rwa [World.size_alloc] at this, (Boxed.new w 3 (.int .i64 T)).alloc _⟩)
    have hB0 : Below w.heap.size w ((w.alloc (.cells #[.int .i64 T] 3)).alloc (.cells #[.int .i64 (-1)] 3)) := bel_alloc (bel_alloc (Below.refl _ _) _) _
    clear h0
    go_enter Try.func24, Try.ntmps24
    go_wp2_with fail
    refine (CF _).out.mono ?_
    rintro r w2 ⟨rfl, rfl⟩
    go_wp2_with fail
    refine CM.out.mono ?_
    rintro r w2 ⟨v, rfl, ow, bb⟩
    go_wp2
    go_ret2
    refine (HP.out _ _).2 ⟨⟨v, rfl, ?_⟩, hB0.trans bb⟩
    exact own_base ow hB0.size
  · have HP := Lib.hid (show ∀ e w', MkPost t n (rdL t n.toNat) w e w' ↔ e = .returned (.tuple #[.slice none 0 0, .int .i64 (fitE t n)]) ∧ Below w.heap.size w w' from fun e w' => by unfold MkPost; rw [if_neg h0])
    obtain ⟨r, hr⟩ : ∃ r, fitE t n = r := ⟨_, rfl⟩
    rw [hr] at CF h0
    have HRR := Lib.hid hr
    have z0 : (r == 0) = false := by simp; exact h0
    have z1 : (r != 0) = true := by simp; exact h0
    have hBA : Below w.heap.size w (w.alloc (.cells #[.int .i64 t] 3)) := bel_alloc (Below.refl _ _) _
    clear hr h0
    go_enter Try.func24, Try.ntmps24
    go_wp2_with fail
    refine (CF _).out.mono ?_
    rintro r' w2 ⟨rfl, rfl⟩
    go_wp2
    go_ret2
    rw [HP.out, HRR.out]
    exact ⟨rfl, hBA⟩
theorem mixed_any (s : Nat) (hs : s < 18446744073709551616) (t n : Int) (w : World) : Calls Try.prog 26 #[.int .u64 s, .int .i64 t, .int .i64 n] w (MkPost t n (mxL s t n.toNat) w) := by
  have CF := fun (W : World) => Lib.hid (fits_any t n W)
  by_cases h0 : fitE t n = 0
  · obtain ⟨a1, a2, a3, a4⟩ := fitE_ok h0
    have HP := Lib.hid (show ∀ e w', MkPost t n (mxL s t n.toNat) w e w' ↔ (∃ v, e = .returned (.tuple #[v, .int .i64 0]) ∧ w'.ownsRow w.heap.size 3 1 v n.toNat (flatI (mxL s t n.toNat))) ∧ Below w.heap.size w w' from fun e w' => by unfold MkPost; rw [if_pos h0])
    rw [h0] at CF
    obtain ⟨T, rfl⟩ := Int.eq_ofNat_of_zero_le (show 0 ≤ t by omega)
    obtain ⟨N, rfl⟩ := Int.eq_ofNat_of_zero_le a3
    have CM := Lib.hid (madeM_any (w.heap.size + 1) w.heap.size w.heap.size (fun j => mxP T (mxN s j)) (JM (w.heap.size + 1) w.heap.size T s) (fun j W W' h h1 h2 => h.keep h1 h2) (fun j W h => stepM _ _ T s hs (by omega) (by omega) (by omega) j W h) N (by omega) ((w.alloc (.cells #[.int .i64 T] 3)).alloc (.cells #[.int .u64 s] 37)) (by simp) (by simp; omega) (by omega)
      ⟨by have := Boxed.new (w.alloc (.cells #[.int .i64 T] 3)) 37 (.int .u64 s); rwa [World.size_alloc] at this, (Boxed.new w 3 (.int .i64 T)).alloc _⟩)
    have hB0 : Below w.heap.size w ((w.alloc (.cells #[.int .i64 T] 3)).alloc (.cells #[.int .u64 s] 37)) := bel_alloc (bel_alloc (Below.refl _ _) _) _
    clear h0
    go_enter Try.func26, Try.ntmps26
    go_wp2_with fail
    refine (CF _).out.mono ?_
    rintro r w2 ⟨rfl, rfl⟩
    go_wp2_with fail
    refine CM.out.mono ?_
    rintro r w2 ⟨v, rfl, ow, bb⟩
    go_wp2
    go_ret2
    refine (HP.out _ _).2 ⟨⟨v, rfl, ?_⟩, hB0.trans bb⟩
    exact own_base ow hB0.size
  · have HP := Lib.hid (show ∀ e w', MkPost t n (mxL s t n.toNat) w e w' ↔ e = .returned (.tuple #[.slice none 0 0, .int .i64 (fitE t n)]) ∧ Below w.heap.size w w' from fun e w' => by unfold MkPost; rw [if_neg h0])
    obtain ⟨r, hr⟩ : ∃ r, fitE t n = r := ⟨_, rfl⟩
    rw [hr] at CF h0
    have HRR := Lib.hid hr
    have z0 : (r == 0) = false := by simp; exact h0
    have z1 : (r != 0) = true := by simp; exact h0
    have hBA : Below w.heap.size w (w.alloc (.cells #[.int .i64 t] 3)) := bel_alloc (Below.refl _ _) _
    clear hr h0
    go_enter Try.func26, Try.ntmps26
    go_wp2_with fail
    refine (CF _).out.mono ?_
    rintro r' w2 ⟨rfl, rfl⟩
    go_wp2
    go_ret2
    rw [HP.out, HRR.out]
    exact ⟨rfl, hBA⟩
end Pk
end Go.Proofs.Ytnoggggbghkgkaa
