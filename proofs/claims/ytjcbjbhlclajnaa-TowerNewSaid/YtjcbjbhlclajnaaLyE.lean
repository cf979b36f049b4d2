/- Package layout: the words of the engine, the library's slices.Clone at uint64, the copy of a configuration: contracts of the translated code. No conditions beside those of each lemma. -/
import Derived.Test.YtjcbjbhlclajnaaLyD
namespace Go.Proofs.Ytjcbjbhlclajnaa
open Go.RowKit Go.Sort
set_option linter.unusedVariables false
set_option linter.unusedSimpArgs false
set_option maxRecDepth 100000
namespace Ly
open Dm (RdK BdU dmB dmE dmN bel_alloc bel_trans cell_lt)
def flatU (l : List Int) : List Value := l.map (Value.int .u64)
theorem KU_flat : ∀ l : List Int, KU.flat l = flatU l
  | [] => rfl
  | x :: l => by
    have := KU_flat l
    simp only [Kd.flat, List.flatMap_cons, flatU, List.map_cons] at this ⊢
    rw [this]; rfl
theorem infoU : (Try.prog.info? 27).map (fun i => (i.zero, i.size, i.bytes)) = some (some (.int .u64 0), 1, 8) := by kernel_rfl
theorem info_parts3 {i? : Option TypeInfo} {z : Option Value} {s b : Nat} (h : i?.map (fun i => (i.zero, i.size, i.bytes)) = some (z, s, b)) : ∃ i0, i? = some i0 ∧ i0.zero = z ∧ i0.size = s ∧ i0.bytes = b := by
  cases i? with
  | none => cases h
  | some i => simp at h; exact ⟨i, rfl, h.1, h.2.1, h.2.2⟩
theorem cloneU (A : Option Addr) (n c : Nat) (l : List Int) (w : World) (hn : l.length = n) (hs : n ≤ 100000) (hr : RdK .u64 w A l) :
    Calls Try.prog 94 #[.slice A n c] w fun e w' => ∃ v, e = .returned v ∧ w'.ownsRow w.heap.size KU.E KU.sz v n (KU.flat l) ∧ Below w.heap.size w w' := by
  rw [KU_flat]
  show Calls Try.prog 94 #[.slice A n c] w fun e w' => ∃ v, e = .returned v ∧ w'.ownsRow w.heap.size 27 1 v n (flatU l) ∧ Below w.heap.size w w'
  obtain ⟨i0, hi, hz0, hz1, hz2⟩ := info_parts3 infoU
  have q : ∀ (w : World) (a : Option Addr) (n c n' c' : Nat), (binOp .eql 43 (.slice a n c) (.slice none n' c')).run Try.prog w = .ok (.bool a.isNone) w := fun w a n c n' c' => Lib.run_eql_slice_nil w _ _ a n c n' c' Try.underlying43
  cases A with
  | none =>
    have hl : l = [] := by
      cases l with
      | nil => rfl
      | cons x l => obtain ⟨b, o, e, _⟩ := hr 0 (by simp); cases e
    subst hl
    obtain rfl : n = 0 := by simpa using hn.symm
    clear hr hn
    go_enter Try.func94, Try.ntmps94
    go_wp2
    go_ret
    exact ⟨_, rfl, World.ownsRow_nil _ _ _ _, Below.refl _ _⟩
  | some a =>
    have hf : ∀ j u, (flatU l)[j]? = some u → w.cell? (a.add j) = some u := fun j u hj => by
      have hjl : j < l.length := by
        have := (List.getElem?_eq_some_iff.1 hj).1
        simpa [flatU] using this
      obtain ⟨b, o', e, g⟩ := hr j hjl
      cases e
      rw [addr_lit, g]
      simp only [flatU, List.getElem?_map, List.getElem?_eq_getElem hjl, List.getD_eq_getElem?_getD] at hj ⊢
      simpa using hj
    have HF := Lib.hid hf; clear hr hf
    have HN := Lib.hid hn; clear hn
    go_enter Try.func94, Try.ntmps94
    go_wp2_with (at_builtin; refine wpList_append_own _ rfl _ _ 43 rfl w.heap.size 27 i0 _ 1 8 Try.underlying43 hi hz0 hz1 hz2 rfl (by omega) _ _ _ rfl (World.ownsRow_made w #[] 0 (Nat.le_refl _) (Nat.zero_le _) (by simp)) a n c (flatU l) rfl ?qc1 ?qc2 ?qc3 ?qc4 ?qc5 ?qc6 ?_)
    case qc1 => rw [← HN.out]; simp [flatU]
    case qc2 =>
      intro j u hj
      have h := HF.out j u hj
      rw [World.cell?_alloc_lt w _ _ (World.block_lt_of_cell? w _ h)]
      exact h
    case qc3 => intro u hu; simp [flatU] at hu; obtain ⟨_, _, rfl⟩ := hu; rfl
    case qc4 => rw [Nat.zero_add]; unfold maxLen; omega
    case qc5 => rw [Nat.zero_add]; omega
    case qc6 => simp
    intro v' w1 hown hgrow hnil
    have HW := Lib.hid hown; clear hown hnil
    go_wp2
    go_ret
    refine ⟨v', rfl, by simpa using HW.out, ?_⟩
    exact ((Below.refl _ w).alloc (Nat.le_refl _) _).grown hgrow (by simp) (by intro k hk; simp [Value.ownBlock] at hk; omega)
/-- the words of the engine -/
def engW (f : Cf) : Int := if f.en = 1 then f.sl else if f.en = 2 then 2 * f.sl else 4 * f.bu
theorem engineWords_any (f : Cf) (w : World) (h1 : 0 ≤ f.sl ∧ f.sl ≤ 100000) (h2 : 0 ≤ f.bu ∧ f.bu ≤ 100000) : Calls Try.prog 96 #[.agg #[.int .i64 f.th, .int .i64 f.sl, .int .u8 f.en, .int .i64 f.bu, .int .u8 f.k, .int .i64 f.n, .slice f.A f.m f.c, .int .i64 (f.t 0), .int .i64 (f.t 1), .int .i64 (f.t 2), .int .i64 (f.t 3), .int .i64 (f.t 4), .int .i64 (f.t 5), .int .i64 f.lo, .int .i64 f.tr, .int .i64 f.ba]] w fun e w' => e = .returned (.int .i64 (engW f)) ∧ Below w.heap.size w w' := by
  unfold engW
  obtain ⟨l0, l1⟩ := h1
  obtain ⟨l2, l3⟩ := h2
  by_cases e1 : f.en = 1
  · rw [if_pos e1]
    rw [e1]
    go_enter Try.func96, Try.ntmps96
    go_wp2
    go_ret
    exact ⟨rfl, bel_alloc (Below.refl _ _) _⟩
  rw [if_neg e1]
  by_cases e2 : f.en = 2
  · rw [if_pos e2]
    rw [e2]
    go_enter Try.func96, Try.ntmps96
    go_wp2
    go_ret
    exact ⟨by simp, bel_alloc (Below.refl _ _) _⟩
  · rw [if_neg e2]
    have t1 : (f.en == 1) = false := beq_eq_false_iff_ne.2 e1
    have t2 : (f.en == 2) = false := beq_eq_false_iff_ne.2 e2
    clear e1 e2
    go_enter Try.func96, Try.ntmps96
    go_wp2
    go_ret
    exact ⟨by simp, bel_alloc (Below.refl _ _) _⟩
/-- the configuration with other memory for its cuts -/
def Cf.cut (f : Cf) (A : Option Addr) (c : Nat) : Cf := ⟨f.th, f.sl, f.en, f.bu, f.k, f.n, A, f.m, c, f.t, f.lo, f.tr, f.ba⟩
def CopyPost (f : Cf) (l : List Int) (w : World) (e : Ending) (w' : World) : Prop :=
  ∃ A c, e = .returned (.agg #[.int .i64 f.th, .int .i64 f.sl, .int .u8 f.en, .int .i64 f.bu, .int .u8 f.k, .int .i64 f.n, .slice A f.m c, .int .i64 (f.t 0), .int .i64 (f.t 1), .int .i64 (f.t 2), .int .i64 (f.t 3), .int .i64 (f.t 4), .int .i64 (f.t 5), .int .i64 f.lo, .int .i64 f.tr, .int .i64 f.ba]) ∧
    Below w.heap.size w w' ∧ RdK .u64 w' A l ∧ (A = none → c = 0) ∧ f.m ≤ c ∧ (∀ a, A = some a → w.heap.size ≤ a.block ∧ a.block < w'.heap.size)
theorem size_setCells (b : Nat) : ∀ (vs : List Value) (o : Nat) (w : World), (w.setCells b o vs).heap.size = w.heap.size
  | [], _, _ => rfl
  | v :: r, o, w => by rw [World.setCells, size_setCells b r]; simp
theorem block_setCells (b k : Nat) : ∀ (vs : List Value) (o : Nat) (w : World), k ≠ b → (w.setCells b o vs).heap[k]? = w.heap[k]?
  | [], _, _, _ => rfl
  | v :: r, o, w, h => by rw [World.setCells, block_setCells b k r _ _ h]; exact Below.heap_setCell _ _ _ k h
theorem below_setCells {B : Nat} {a : World} {b : Nat} : ∀ {w : World}, Below B a w → B ≤ b → ∀ (vs : List Value) (o : Nat), Below B a (w.setCells b o vs)
  | w, h, hb, [], _ => h
  | w, h, hb, v :: r, o => below_setCells (h.setCell (p := ⟨b, o, none⟩) hb v) hb r (o + 1)
theorem heap_new (w : World) (o : Obj) : (w.alloc o).heap[w.heap.size]? = some o := by unfold World.alloc; simp
theorem cell_of {w : World} {b j : Nat} {cs : Array Value} {t : TypeId} {fr : Nat × Nat} {v : Value} (h : w.heap[b]? = some (.cells cs t fr)) (hv : cs[j]? = some v) : w.cell? ⟨b, j, none⟩ = some v := by simp [World.cell?, h, hv]
theorem copied_any (f : Cf) (l : List Int) (w : World) (hn : l.length = f.m) (hs : f.m ≤ 100000) (hr : RdK .u64 w f.A l) : Calls Try.prog 66 #[.agg #[.int .i64 f.th, .int .i64 f.sl, .int .u8 f.en, .int .i64 f.bu, .int .u8 f.k, .int .i64 f.n, .slice f.A f.m f.c, .int .i64 (f.t 0), .int .i64 (f.t 1), .int .i64 (f.t 2), .int .i64 (f.t 3), .int .i64 (f.t 4), .int .i64 (f.t 5), .int .i64 f.lo, .int .i64 f.tr, .int .i64 f.ba]] w (CopyPost f l w) := by
  have HR := Lib.hid hr
  clear hr
  go_enter Try.func66, Try.ntmps66
  go_wp2_with fail
  have BB := bel_alloc (bel_alloc (Below.refl w.heap.size w) (.cells #[.int .i64 f.th, .int .i64 f.sl, .int .u8 f.en, .int .i64 f.bu, .int .u8 f.k, .int .i64 f.n, .slice f.A f.m f.c, .int .i64 (f.t 0), .int .i64 (f.t 1), .int .i64 (f.t 2), .int .i64 (f.t 3), .int .i64 (f.t 4), .int .i64 (f.t 5), .int .i64 f.lo, .int .i64 f.tr, .int .i64 f.ba] 87)) (.cells #[.int .i64 0, .int .i64 0, .int .u8 0, .int .i64 0, .int .u8 0, .int .i64 0, .slice none 0 0, .int .i64 0, .int .i64 0, .int .i64 0, .int .i64 0, .int .i64 0, .int .i64 0, .int .i64 0, .int .i64 0, .int .i64 0] 87)
  have hbox : ∃ W : World, W = (w.alloc (.cells #[.int .i64 f.th, .int .i64 f.sl, .int .u8 f.en, .int .i64 f.bu, .int .u8 f.k, .int .i64 f.n, .slice f.A f.m f.c, .int .i64 (f.t 0), .int .i64 (f.t 1), .int .i64 (f.t 2), .int .i64 (f.t 3), .int .i64 (f.t 4), .int .i64 (f.t 5), .int .i64 f.lo, .int .i64 f.tr, .int .i64 f.ba] 87)).alloc (.cells #[.int .i64 0, .int .i64 0, .int .u8 0, .int .i64 0, .int .u8 0, .int .i64 0, .slice none 0 0, .int .i64 0, .int .i64 0, .int .i64 0, .int .i64 0, .int .i64 0, .int .i64 0, .int .i64 0, .int .i64 0, .int .i64 0] 87) := ⟨_, rfl⟩
  obtain ⟨W, hW⟩ := hbox
  have g0 : W.heap[w.heap.size]? = some (.cells #[.int .i64 f.th, .int .i64 f.sl, .int .u8 f.en, .int .i64 f.bu, .int .u8 f.k, .int .i64 f.n, .slice f.A f.m f.c, .int .i64 (f.t 0), .int .i64 (f.t 1), .int .i64 (f.t 2), .int .i64 (f.t 3), .int .i64 (f.t 4), .int .i64 (f.t 5), .int .i64 f.lo, .int .i64 f.tr, .int .i64 f.ba] 87) := by subst hW; rw [Below.heap_alloc _ _ _ (by simp)]; exact heap_new _ _
  have g1 : W.heap[w.heap.size + 1]? = some (.cells #[.int .i64 0, .int .i64 0, .int .u8 0, .int .i64 0, .int .u8 0, .int .i64 0, .slice none 0 0, .int .i64 0, .int .i64 0, .int .i64 0, .int .i64 0, .int .i64 0, .int .i64 0, .int .i64 0, .int .i64 0, .int .i64 0] 87) := by subst hW; have := heap_new (w.alloc (.cells #[.int .i64 f.th, .int .i64 f.sl, .int .u8 f.en, .int .i64 f.bu, .int .u8 f.k, .int .i64 f.n, .slice f.A f.m f.c, .int .i64 (f.t 0), .int .i64 (f.t 1), .int .i64 (f.t 2), .int .i64 (f.t 3), .int .i64 (f.t 4), .int .i64 (f.t 5), .int .i64 f.lo, .int .i64 f.tr, .int .i64 f.ba] 87)); simp only [World.size_alloc] at this; exact this _
  have fz : ∀ j, W.frozen? ⟨w.heap.size, j, none⟩ = false ∧ W.frozen? ⟨w.heap.size + 1, j, none⟩ = false := fun j => by subst hW; exact ⟨by rw [World.frozen?_alloc_old _ _ _ (by simp), World.frozen?_alloc_new], by have := World.frozen?_alloc_new (w.alloc (.cells #[.int .i64 f.th, .int .i64 f.sl, .int .u8 f.en, .int .i64 f.bu, .int .u8 f.k, .int .i64 f.n, .slice f.A f.m f.c, .int .i64 (f.t 0), .int .i64 (f.t 1), .int .i64 (f.t 2), .int .i64 (f.t 3), .int .i64 (f.t 4), .int .i64 (f.t 5), .int .i64 f.lo, .int .i64 f.tr, .int .i64 f.ba] 87)); simp only [World.size_alloc] at this; exact this _ _ _⟩
  have hz : W.heap.size = w.heap.size + 2 := by subst hW; simp
  rw [← hW] at BB ⊢
  clear hW
  refine (cloneU f.A f.m f.c l W hn hs (HR.out.below BB)).mono ?_
  rintro r w3 ⟨v, rfl, row, b3⟩
  obtain ⟨hl, A, c, rfl, hnc, rd, hz2, hA⟩ := KU.row row
  have RDA := Lib.hid rd
  have HA := Lib.hid hA
  have HZ2 := Lib.hid hz2
  have B3 := Lib.hid b3
  have BW := Lib.hid BB
  have hblk : ∀ b, b < W.heap.size → (∀ j, w3.cell? ⟨b, j, none⟩ = W.cell? ⟨b, j, none⟩) ∧ (∀ j, w3.frozen? ⟨b, j, none⟩ = W.frozen? ⟨b, j, none⟩) := fun b hb => ⟨fun j => b3.cell (p := ⟨b, j, none⟩) hb, fun j => b3.frozen (p := ⟨b, j, none⟩) hb⟩
  obtain ⟨k0, f0⟩ := hblk w.heap.size (by omega)
  obtain ⟨k1, f1⟩ := hblk (w.heap.size + 1) (by omega)
  have x0 : w3.cell? ⟨w.heap.size, 0, none⟩ = some (.int .i64 f.th) := (k0 _).trans (cell_of g0 rfl)
  have x1 : w3.cell? ⟨w.heap.size, 1, none⟩ = some (.int .i64 f.sl) := (k0 _).trans (cell_of g0 rfl)
  have x2 : w3.cell? ⟨w.heap.size, 2, none⟩ = some (.int .u8 f.en) := (k0 _).trans (cell_of g0 rfl)
  have x3 : w3.cell? ⟨w.heap.size, 3, none⟩ = some (.int .i64 f.bu) := (k0 _).trans (cell_of g0 rfl)
  have x4 : w3.cell? ⟨w.heap.size, 4, none⟩ = some (.int .u8 f.k) := (k0 _).trans (cell_of g0 rfl)
  have x5 : w3.cell? ⟨w.heap.size, 5, none⟩ = some (.int .i64 f.n) := (k0 _).trans (cell_of g0 rfl)
  have x6 : w3.cell? ⟨w.heap.size, 6, none⟩ = some (.slice f.A f.m f.c) := (k0 _).trans (cell_of g0 rfl)
  have x7 : w3.cell? ⟨w.heap.size, 7, none⟩ = some (.int .i64 (f.t 0)) := (k0 _).trans (cell_of g0 rfl)
  have x8 : w3.cell? ⟨w.heap.size, 8, none⟩ = some (.int .i64 (f.t 1)) := (k0 _).trans (cell_of g0 rfl)
  have x9 : w3.cell? ⟨w.heap.size, 9, none⟩ = some (.int .i64 (f.t 2)) := (k0 _).trans (cell_of g0 rfl)
  have x10 : w3.cell? ⟨w.heap.size, 10, none⟩ = some (.int .i64 (f.t 3)) := (k0 _).trans (cell_of g0 rfl)
  have x11 : w3.cell? ⟨w.heap.size, 11, none⟩ = some (.int .i64 (f.t 4)) := (k0 _).trans (cell_of g0 rfl)
  have x12 : w3.cell? ⟨w.heap.size, 12, none⟩ = some (.int .i64 (f.t 5)) := (k0 _).trans (cell_of g0 rfl)
  have x13 : w3.cell? ⟨w.heap.size, 13, none⟩ = some (.int .i64 f.lo) := (k0 _).trans (cell_of g0 rfl)
  have x14 : w3.cell? ⟨w.heap.size, 14, none⟩ = some (.int .i64 f.tr) := (k0 _).trans (cell_of g0 rfl)
  have x15 : w3.cell? ⟨w.heap.size, 15, none⟩ = some (.int .i64 f.ba) := (k0 _).trans (cell_of g0 rfl)
  have y0 : w3.cell? ⟨w.heap.size + 1, 0, none⟩ = some (.int .i64 0) := (k1 _).trans (cell_of g1 rfl)
  have y1 : w3.cell? ⟨w.heap.size + 1, 1, none⟩ = some (.int .i64 0) := (k1 _).trans (cell_of g1 rfl)
  have y2 : w3.cell? ⟨w.heap.size + 1, 2, none⟩ = some (.int .u8 0) := (k1 _).trans (cell_of g1 rfl)
  have y3 : w3.cell? ⟨w.heap.size + 1, 3, none⟩ = some (.int .i64 0) := (k1 _).trans (cell_of g1 rfl)
  have y4 : w3.cell? ⟨w.heap.size + 1, 4, none⟩ = some (.int .u8 0) := (k1 _).trans (cell_of g1 rfl)
  have y5 : w3.cell? ⟨w.heap.size + 1, 5, none⟩ = some (.int .i64 0) := (k1 _).trans (cell_of g1 rfl)
  have y6 : w3.cell? ⟨w.heap.size + 1, 6, none⟩ = some (.slice none 0 0) := (k1 _).trans (cell_of g1 rfl)
  have y7 : w3.cell? ⟨w.heap.size + 1, 7, none⟩ = some (.int .i64 0) := (k1 _).trans (cell_of g1 rfl)
  have y8 : w3.cell? ⟨w.heap.size + 1, 8, none⟩ = some (.int .i64 0) := (k1 _).trans (cell_of g1 rfl)
  have y9 : w3.cell? ⟨w.heap.size + 1, 9, none⟩ = some (.int .i64 0) := (k1 _).trans (cell_of g1 rfl)
  have y10 : w3.cell? ⟨w.heap.size + 1, 10, none⟩ = some (.int .i64 0) := (k1 _).trans (cell_of g1 rfl)
  have y11 : w3.cell? ⟨w.heap.size + 1, 11, none⟩ = some (.int .i64 0) := (k1 _).trans (cell_of g1 rfl)
  have y12 : w3.cell? ⟨w.heap.size + 1, 12, none⟩ = some (.int .i64 0) := (k1 _).trans (cell_of g1 rfl)
  have y13 : w3.cell? ⟨w.heap.size + 1, 13, none⟩ = some (.int .i64 0) := (k1 _).trans (cell_of g1 rfl)
  have y14 : w3.cell? ⟨w.heap.size + 1, 14, none⟩ = some (.int .i64 0) := (k1 _).trans (cell_of g1 rfl)
  have y15 : w3.cell? ⟨w.heap.size + 1, 15, none⟩ = some (.int .i64 0) := (k1 _).trans (cell_of g1 rfl)
  have p0 : w3.frozen? ⟨w.heap.size + 1, 0, none⟩ = false := (f1 _).trans (fz _).2
  have p1 : w3.frozen? ⟨w.heap.size + 1, 1, none⟩ = false := (f1 _).trans (fz _).2
  have p2 : w3.frozen? ⟨w.heap.size + 1, 2, none⟩ = false := (f1 _).trans (fz _).2
  have p3 : w3.frozen? ⟨w.heap.size + 1, 3, none⟩ = false := (f1 _).trans (fz _).2
  have p4 : w3.frozen? ⟨w.heap.size + 1, 4, none⟩ = false := (f1 _).trans (fz _).2
  have p5 : w3.frozen? ⟨w.heap.size + 1, 5, none⟩ = false := (f1 _).trans (fz _).2
  have p6 : w3.frozen? ⟨w.heap.size + 1, 6, none⟩ = false := (f1 _).trans (fz _).2
  have p7 : w3.frozen? ⟨w.heap.size + 1, 7, none⟩ = false := (f1 _).trans (fz _).2
  have p8 : w3.frozen? ⟨w.heap.size + 1, 8, none⟩ = false := (f1 _).trans (fz _).2
  have p9 : w3.frozen? ⟨w.heap.size + 1, 9, none⟩ = false := (f1 _).trans (fz _).2
  have p10 : w3.frozen? ⟨w.heap.size + 1, 10, none⟩ = false := (f1 _).trans (fz _).2
  have p11 : w3.frozen? ⟨w.heap.size + 1, 11, none⟩ = false := (f1 _).trans (fz _).2
  have p12 : w3.frozen? ⟨w.heap.size + 1, 12, none⟩ = false := (f1 _).trans (fz _).2
  have p13 : w3.frozen? ⟨w.heap.size + 1, 13, none⟩ = false := (f1 _).trans (fz _).2
  have p14 : w3.frozen? ⟨w.heap.size + 1, 14, none⟩ = false := (f1 _).trans (fz _).2
  have p15 : w3.frozen? ⟨w.heap.size + 1, 15, none⟩ = false := (f1 _).trans (fz _).2
  have q6 : w3.frozen? ⟨w.heap.size, 6, none⟩ = false := (f0 _).trans (fz _).1
  clear k0 k1 f0 f1 hblk g0 g1 fz rd hA hz2 b3 BB row hl
  go_wp2_with fail
  have hin := World.cell?_setCells_in (w.heap.size + 1) [.int .i64 f.th, .int .i64 f.sl, .int .u8 f.en, .int .i64 f.bu, .int .u8 f.k, .int .i64 f.n, .slice A f.m c, .int .i64 (f.t 0), .int .i64 (f.t 1), .int .i64 (f.t 2), .int .i64 (f.t 3), .int .i64 (f.t 4), .int .i64 (f.t 5), .int .i64 f.lo, .int .i64 f.tr, .int .i64 f.ba] 0 (w3.setCell ⟨w.heap.size, 6, none⟩ (.slice A f.m c)) (fun j hj => by
    rw [Nat.zero_add, World.cell?_setCell_other _ _ _ _ (by simp)]
    have hj : j < 16 := hj
    rcases j with _ | _ | _ | _ | _ | _ | _ | _ | _ | _ | _ | _ | _ | _ | _ | _ | j
    all_goals first | omega | simp only [Nat.zero_add, Nat.reduceAdd, *, Option.isSome_some])
  have hB : Below w.heap.size w ((w3.setCell ⟨w.heap.size, 6, none⟩ (.slice A f.m c)).setCells (w.heap.size + 1) 0 [.int .i64 f.th, .int .i64 f.sl, .int .u8 f.en, .int .i64 f.bu, .int .u8 f.k, .int .i64 f.n, .slice A f.m c, .int .i64 (f.t 0), .int .i64 (f.t 1), .int .i64 (f.t 2), .int .i64 (f.t 3), .int .i64 (f.t 4), .int .i64 (f.t 5), .int .i64 f.lo, .int .i64 f.tr, .int .i64 f.ba]) :=
    below_setCells (((BW.out.trans (B3.out.mono BW.out.size))).setCell (p := ⟨w.heap.size, 6, none⟩) (Nat.le_refl _) _) (by omega) _ _
  have hsz : ((w3.setCell ⟨w.heap.size, 6, none⟩ (.slice A f.m c)).setCells (w.heap.size + 1) 0 [.int .i64 f.th, .int .i64 f.sl, .int .u8 f.en, .int .i64 f.bu, .int .u8 f.k, .int .i64 f.n, .slice A f.m c, .int .i64 (f.t 0), .int .i64 (f.t 1), .int .i64 (f.t 2), .int .i64 (f.t 3), .int .i64 (f.t 4), .int .i64 (f.t 5), .int .i64 f.lo, .int .i64 f.tr, .int .i64 f.ba]).heap.size = w3.heap.size := by rw [size_setCells]; simp
  have hrd : RdK .u64 ((w3.setCell ⟨w.heap.size, 6, none⟩ (.slice A f.m c)).setCells (w.heap.size + 1) 0 [.int .i64 f.th, .int .i64 f.sl, .int .u8 f.en, .int .i64 f.bu, .int .u8 f.k, .int .i64 f.n, .slice A f.m c, .int .i64 (f.t 0), .int .i64 (f.t 1), .int .i64 (f.t 2), .int .i64 (f.t 3), .int .i64 (f.t 4), .int .i64 (f.t 5), .int .i64 f.lo, .int .i64 f.tr, .int .i64 f.ba]) A l := KU_rdK (RDA.out.keep fun b hb ⟨a, ea, eb⟩ => by
    have h1 := (HA.out a ea).1
    rw [block_setCells _ _ _ _ _ (by omega)]
    exact Below.heap_setCell _ _ _ _ (by rw [← eb]; simp; omega))
  have hres : ∀ W : World, W = (w3.setCell ⟨w.heap.size, 6, none⟩ (.slice A f.m c)).setCells (w.heap.size + 1) 0 [.int .i64 f.th, .int .i64 f.sl, .int .u8 f.en, .int .i64 f.bu, .int .u8 f.k, .int .i64 f.n, .slice A f.m c, .int .i64 (f.t 0), .int .i64 (f.t 1), .int .i64 (f.t 2), .int .i64 (f.t 3), .int .i64 (f.t 4), .int .i64 (f.t 5), .int .i64 f.lo, .int .i64 f.tr, .int .i64 f.ba] → True := fun _ _ => trivial
  show bodyPost _ _ _ _ _ ((w3.setCell ⟨w.heap.size, 6, none⟩ (.slice A f.m c)).setCells (w.heap.size + 1) 0 [.int .i64 f.th, .int .i64 f.sl, .int .u8 f.en, .int .i64 f.bu, .int .u8 f.k, .int .i64 f.n, .slice A f.m c, .int .i64 (f.t 0), .int .i64 (f.t 1), .int .i64 (f.t 2), .int .i64 (f.t 3), .int .i64 (f.t 4), .int .i64 (f.t 5), .int .i64 f.lo, .int .i64 f.tr, .int .i64 f.ba])
  generalize (w3.setCell ⟨w.heap.size, 6, none⟩ (.slice A f.m c)).setCells (w.heap.size + 1) 0 [.int .i64 f.th, .int .i64 f.sl, .int .u8 f.en, .int .i64 f.bu, .int .u8 f.k, .int .i64 f.n, .slice A f.m c, .int .i64 (f.t 0), .int .i64 (f.t 1), .int .i64 (f.t 2), .int .i64 (f.t 3), .int .i64 (f.t 4), .int .i64 (f.t 5), .int .i64 f.lo, .int .i64 f.tr, .int .i64 f.ba] = W4 at *
  have z0 := hin 0 (by show 0 < 16; omega)
  have z1 := hin 1 (by show 1 < 16; omega)
  have z2 := hin 2 (by show 2 < 16; omega)
  have z3 := hin 3 (by show 3 < 16; omega)
  have z4 := hin 4 (by show 4 < 16; omega)
  have z5 := hin 5 (by show 5 < 16; omega)
  have z6 := hin 6 (by show 6 < 16; omega)
  have z7 := hin 7 (by show 7 < 16; omega)
  have z8 := hin 8 (by show 8 < 16; omega)
  have z9 := hin 9 (by show 9 < 16; omega)
  have z10 := hin 10 (by show 10 < 16; omega)
  have z11 := hin 11 (by show 11 < 16; omega)
  have z12 := hin 12 (by show 12 < 16; omega)
  have z13 := hin 13 (by show 13 < 16; omega)
  have z14 := hin 14 (by show 14 < 16; omega)
  have z15 := hin 15 (by show 15 < 16; omega)
  simp only [List.getElem_cons_zero, List.getElem_cons_succ, Nat.zero_add] at z0 z1 z2 z3 z4 z5 z6 z7 z8 z9 z10 z11 z12 z13 z14 z15
  refine bodyPost_ret (v := .agg #[.int .i64 f.th, .int .i64 f.sl, .int .u8 f.en, .int .i64 f.bu, .int .u8 f.k, .int .i64 f.n, .slice A f.m c, .int .i64 (f.t 0), .int .i64 (f.t 1), .int .i64 (f.t 2), .int .i64 (f.t 3), .int .i64 (f.t 4), .int .i64 (f.t 5), .int .i64 f.lo, .int .i64 f.tr, .int .i64 f.ba]) ?_ rfl ⟨A, c, rfl, hB, hrd, HZ2.out, hnc, fun a e => ⟨by have := (HA.out a e).1; omega, by rw [hsz]; exact (HA.out a e).2⟩⟩
  simp [results, Try.results66, go_sem, z0, z1, z2, z3, z4, z5, z6, z7, z8, z9, z10, z11, z12, z13, z14, z15]
end Ly
end Go.Proofs.Ytjcbjbhlclajnaa
