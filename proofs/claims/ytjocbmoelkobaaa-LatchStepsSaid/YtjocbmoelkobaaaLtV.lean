/- What the law LatchSteps keeps: both memories, operations on both, two rows of pointers. Conditions: those of each lemma. -/
import Derived.Test.YtjocbmoelkobaaaLtU
import Derived.Maps.AppendAt
namespace Go.Proofs.Ytjocbmoelkobaaa
open Go.RowKit Go.Sort
set_option linter.unusedVariables false
set_option linter.unusedSimpArgs false
namespace Lt
open Wd
open Dm (addr_lit info_parts spot_none RdK flatU infoU bel_alloc bel_trans own_keep below_drewN)
def ptr (x : Nat) : Value := .pointer (some ⟨x, 0, none⟩)
def ptrs (l : List Nat) : List Value := l.map ptr
/-- a row of pointers of the call's own, of the colour k -/
structure Rw (E : TypeId) (w : World) (c : Nat → Nat) (k : Nat) (v : Value) (l : List Nat) : Prop where
  own : w.ownsRow 0 E 1 v l.length (ptrs l)
  col : ∀ g, v.ownBlock = some g → c g = k
theorem Rw.keep {E : TypeId} {S : Nat → Prop} {w w1 : World} {c c1 : Nat → Nat} {k : Nat} {v : Value} {l : List Nat} (h : Rw E w c k v l) (hf : Fc S w c w1 c1) (hS : ¬ S k) : Rw E w1 c1 k v l :=
  ⟨own_keep h.own fun g hg => hf.keep (h.own.lt g hg).2 (by rw [h.col g hg]; exact hS), fun g hg => (hf.co g (h.own.lt g hg).2).trans (h.col g hg)⟩
theorem Rw.nil (E : TypeId) (w : World) (c : Nat → Nat) (k : Nat) : Rw E w c k (.slice none 0 0) [] := ⟨⟨rfl, .inl ⟨rfl, rfl⟩⟩, fun g hg => by cases hg⟩
/-- its form -/
theorem Rw.form {E : TypeId} {w : World} {c : Nat → Nat} {k : Nat} {v : Value} {l : List Nat} (h : Rw E w c k v l) (h0 : 0 < l.length) : ∃ g n, v = .slice (some ⟨g, 0, none⟩) l.length n ∧ ∀ i x, l[i]? = some x → w.cell? ⟨g, i, none⟩ = some (.pointer (some ⟨x, 0, none⟩)) := by
  rcases h.own.2 with ⟨_, e⟩ | ⟨g, cap, cur, rfl, _⟩
  · omega
  · refine ⟨g, cap, rfl, fun i x hi => ?_⟩
    have hl := (List.getElem?_eq_some_iff.1 hi).1
    rw [h.own.cellAt i (by omega)]
    simp [ptrs, ptr, hi]
theorem Rw.any {E : TypeId} {w : World} {c : Nat → Nat} {k : Nat} {v : Value} {l : List Nat} (h : Rw E w c k v l) : ∃ A n, v = .slice A l.length n := by
  rcases h.own.2 with ⟨rfl, e⟩ | ⟨g, cap, cur, rfl, _⟩
  · rw [e]; exact ⟨_, _, rfl⟩
  · exact ⟨_, _, rfl⟩
theorem infoL : (Try.prog.info? 35).map (fun i => (i.zero, i.size, i.bytes)) = some (some (.pointer none), 1, 8) := by kernel_rfl
theorem infoR : (Try.prog.info? 38).map (fun i => (i.zero, i.size, i.bytes)) = some (some (.pointer none), 1, 8) := by kernel_rfl
set_option maxRecDepth 100000 in
/-- 'append(a, p)' -/
theorem appP {ops : Array Oper} {rest : List Oper} {o : Oper} {a : Act} {Q : Exit → Act → World → Prop} {S E : TypeId} (hu : Try.prog.underlying S = some (.slice E)) (hinf : (Try.prog.info? E).map (fun i => (i.zero, i.size, i.bytes)) = some (some (.pointer none), 1, 8))
    (hgd : o.guard = none) (s x : Operand) (ho : o.op = .call { callee := .builtin .append, args := #[s, x], argTypes := #[S, S] }) (w : World) (c : Nat → Nat) (k g y : Nat) (v : Value) (l : List Nat)
    (hs : a.eval s = v) (hx : a.eval x = .slice (some ⟨g, 0, none⟩) 1 1) (hg : w.cell? ⟨g, 0, none⟩ = some (.pointer (some ⟨y, 0, none⟩))) (hr : Rw E w c k v l) (n : Nat) (hln : l.length = n) (hn : n ≤ 1000)
    (h : ∀ g' cap w', Rw E w' (up c w.heap.size k) k (.slice (some ⟨g', 0, none⟩) (n + 1) cap) (l ++ [y]) → Fc (fun i => i = k) w c w' (up c w.heap.size k) → wpList Try.prog ops Q rest (a.put o.dst (.slice (some ⟨g', 0, none⟩) (n + 1) cap)) w') :
    wpList Try.prog ops Q (o :: rest) a w := by
  subst hln
  obtain ⟨i0, hi, hz0, hz1, hz2⟩ := info_parts hinf
  refine wpList_append_own_at _ hgd s x S ho 0 E i0 _ 1 8 hu hi hz0 hz1 hz2 rfl (by omega) v l.length (ptrs l) hs hr.own ⟨g, 0, none⟩ 1 1 [ptr y] hx rfl ?_ ?_ (by unfold maxLen; omega) (by omega) (Nat.zero_le _) ?_
  · intro j u hj
    match j, hj with
    | 0, hj => simp at hj; subst hj; rw [addr_lit]; exact hg
    | j + 1, hj => simp at hj
  · intro u hu
    simp at hu
    subst hu; rfl
  · intro v' w' h1 h2 _ h4
    rw [show ptrs l ++ [ptr y] = ptrs (l ++ [y]) by simp [ptrs], show l.length + 1 = (l ++ [y]).length by simp] at h1
    have hrw : Rw E w' (up c w.heap.size k) k v' (l ++ [y]) := ⟨h1, fun q hq => by
      rcases h4 with e | e
      · have hq' := e.symm.trans hq
        rw [up_lt (hr.own.lt q hq').2]; exact hr.col q hq'
      · rw [e] at hq; injection hq with hq; exact up_ge (by omega)⟩
    have hfc : Fc (fun i => i = k) w c w' (up c w.heap.size k) := ⟨⟨h2.os, h2.tape, h2.output, h2.size, fun i hi hn => h2.block i hi fun e => hn (hr.col i e.symm)⟩, fun i hi => up_lt hi⟩
    obtain ⟨g', n, e, _⟩ := hrw.form (by simp)
    rw [List.length_append, List.length_singleton] at e
    subst e
    exact h g' n w' hrw hfc
/-- two operations of one state: of package latch at x, of the reference at y -/
structure Tp where
  x : Nat
  y : Nat
  L : Lk
structure Es (w0 w : World) (c : Nat → Nat) (b br : Nat) (M : Wm) (X Y : Nat → Option Lk) (N : Int) (P : List Tp) (vA vB : Value) : Prop where
  l : SL 1 w c b M X N
  r : SR 2 w c br M Y N
  ra : Rw 35 w c 5 vA (P.map Tp.x)
  rb : Rw 38 w c 6 vB (P.map Tp.y)
  x : ∀ (i : Nat) (p : Tp), P[i]? = some p → X p.x = some p.L ∧ Y p.y = some p.L
  d : ∀ (i j : Nat) (p q : Tp), P[i]? = some p → P[j]? = some q → i ≠ j → p.x ≠ q.x ∧ p.y ≠ q.y
  lo : ∀ i, i < w0.heap.size → c i = 0
  be : Below w0.heap.size w0 w
section
variable {w0 w : World} {c : Nat → Nat} {b br : Nat} {M : Wm} {X Y : Nat → Option Lk} {N : Int} {P : List Tp} {vA vB : Value}
theorem Es.keep {S : Nat → Prop} {w1 : World} {c1 : Nat → Nat} (h : Es w0 w c b br M X Y N P vA vB) (hf : Fc S w c w1 c1) (hS : ∀ i, i < 7 → ¬ S i) : Es w0 w1 c1 b br M X Y N P vA vB :=
  ⟨h.l.keep pkL hf (hS _ (by omega)) (hS _ (by omega)), h.r.keep pkR hf (hS _ (by omega)) (hS _ (by omega)), h.ra.keep hf (hS _ (by omega)), h.rb.keep hf (hS _ (by omega)), h.x, h.d, hf.low h.be.size h.lo, h.be.trans (hf.below h.be.size h.lo (hS _ (by omega)))⟩
theorem Es.below {w1 : World} (h : Es w0 w c b br M X Y N P vA vB) (hb : Below w.heap.size w w1) : Es w0 w1 c b br M X Y N P vA vB := h.keep (Fc.of_below (S := fun _ => False) hb) fun _ _ e => e
theorem Es.more (h : Es w0 w c b br M X Y N P vA vB) {N' : Int} (hN : N ≤ N') : Es w0 w c b br M X Y N' P vA vB := ⟨h.l.more hN, h.r.more hN, h.ra, h.rb, h.x, h.d, h.lo, h.be⟩
/-- both memories changed, and the operations at place i -/
theorem Es.step {w1 : World} {c1 : Nat → Nat} {M1 : Wm} {N1 : Int} {i : Nat} {p : Tp} (h : Es w0 w c b br M X Y N P vA vB) (hp : P[i]? = some p) (L : Lk) (hl : SL 1 w1 c1 b M1 (upd X p.x L) N1) (hr : SR 2 w1 c1 br M1 (upd Y p.y L) N1) (hf : Fc (fun i => i = 1 ∨ i = 2 ∨ i = 3 ∨ i = 4) w c w1 c1) :
    Es w0 w1 c1 b br M1 (upd X p.x L) (upd Y p.y L) N1 (P.set i ⟨p.x, p.y, L⟩) vA vB := by
  have hlt := (List.getElem?_eq_some_iff.1 hp).1
  have hpe := (List.getElem?_eq_some_iff.1 hp).2
  have ex : (P.set i ⟨p.x, p.y, L⟩).map Tp.x = P.map Tp.x := by
    rw [List.map_set]
    apply List.ext_getElem?
    intro j
    rw [List.getElem?_set]
    split
    · rename_i e; subst e; rw [List.getElem?_map, hp]; simp [hlt]
    · rfl
  have ey : (P.set i ⟨p.x, p.y, L⟩).map Tp.y = P.map Tp.y := by
    rw [List.map_set]
    apply List.ext_getElem?
    intro j
    rw [List.getElem?_set]
    split
    · rename_i e; subst e; rw [List.getElem?_map, hp]; simp [hlt]
    · rfl
  have get : ∀ j q, (P.set i ⟨p.x, p.y, L⟩)[j]? = some q → (j = i ∧ q = ⟨p.x, p.y, L⟩) ∨ (j ≠ i ∧ P[j]? = some q) := fun j q hq => by
    rw [List.getElem?_set] at hq
    split at hq
    · rename_i e; subst e; simp [hlt] at hq; exact .inl ⟨rfl, hq.symm⟩
    · rename_i e; exact .inr ⟨fun e2 => e e2.symm, hq⟩
  refine ⟨hl, hr, by rw [ex]; exact h.ra.keep hf (by omega), by rw [ey]; exact h.rb.keep hf (by omega), fun j q hq => ?_, fun j k q r hq hr hne => ?_, hf.low h.be.size h.lo, h.be.trans (hf.below h.be.size h.lo (by omega))⟩
  · rcases get j q hq with ⟨_, rfl⟩ | ⟨hj, hq⟩
    · exact ⟨upd_same .., upd_same ..⟩
    · have hd := h.d j i q p hq hp hj
      exact ⟨(upd_other hd.1).trans (h.x j q hq).1, (upd_other hd.2).trans (h.x j q hq).2⟩
  · rcases get j q hq with ⟨ej, rfl⟩ | ⟨hj, hq⟩
    · rcases get k r hr with ⟨ek, rfl⟩ | ⟨hk, hr⟩
      · exact absurd (ej.trans ek.symm) hne
      · exact h.d i k p r hp hr (fun e => hk e.symm)
    · rcases get k r hr with ⟨ek, rfl⟩ | ⟨hk, hr⟩
      · exact h.d j i q p hq hp hj
      · exact h.d j k q r hq hr hne
/-- both memories changed -/
theorem Es.mem {w1 : World} {c1 : Nat → Nat} {M1 : Wm} {N1 : Int} (h : Es w0 w c b br M X Y N P vA vB) (hl : SL 1 w1 c1 b M1 X N1) (hr : SR 2 w1 c1 br M1 Y N1) (hf : Fc (fun i => i = 1 ∨ i = 2 ∨ i = 3 ∨ i = 4) w c w1 c1) :
    Es w0 w1 c1 b br M1 X Y N1 P vA vB :=
  ⟨hl, hr, h.ra.keep hf (by omega), h.rb.keep hf (by omega), h.x, h.d, hf.low h.be.size h.lo, h.be.trans (hf.below h.be.size h.lo (by omega))⟩
/-- both have a new operation, at the end of the rows -/
theorem Es.push {w1 : World} {c1 : Nat → Nat} {x y : Nat} {vA' vB' : Value} (L : Lk) (h : Es w0 w c b br M X Y N P vA vB) (hx : X x = none) (hy : Y y = none) (hl : SL 1 w1 c1 b M (upd X x L) N) (hr : SR 2 w1 c1 br M (upd Y y L) N) (hA : Rw 35 w1 c1 5 vA' (P.map Tp.x ++ [x])) (hB : Rw 38 w1 c1 6 vB' (P.map Tp.y ++ [y])) (hlo : ∀ i, i < w0.heap.size → c1 i = 0) (hbe : Below w0.heap.size w0 w1) :
    Es w0 w1 c1 b br M (upd X x L) (upd Y y L) N (P ++ [⟨x, y, L⟩]) vA' vB' := by
  have get : ∀ (j : Nat) q, (P ++ [(⟨x, y, L⟩ : Tp)])[j]? = some q → (j < P.length ∧ P[j]? = some q) ∨ (j = P.length ∧ q = ⟨x, y, L⟩) := fun j q hq => by
    by_cases hj : j < P.length
    · rw [List.getElem?_append_left hj] at hq; exact .inl ⟨hj, hq⟩
    · have hl := (List.getElem?_eq_some_iff.1 hq).1
      simp at hl
      obtain rfl : j = P.length := by omega
      simp at hq
      exact .inr ⟨rfl, hq.symm⟩
  have nx : ∀ (j : Nat) (q : Tp), P[j]? = some q → q.x ≠ x ∧ q.y ≠ y := fun j q hq => ⟨fun e => (by have := (h.x j q hq).1; rw [e, hx] at this; cases this), fun e => (by have := (h.x j q hq).2; rw [e, hy] at this; cases this)⟩
  refine ⟨hl, hr, by simpa using hA, by simpa using hB, fun j q hq => ?_, fun j k q r hq hr hne => ?_, hlo, hbe⟩
  · rcases get j q hq with ⟨_, hq⟩ | ⟨_, rfl⟩
    · exact ⟨(upd_other (nx j q hq).1).trans (h.x j q hq).1, (upd_other (nx j q hq).2).trans (h.x j q hq).2⟩
    · exact ⟨upd_same .., upd_same ..⟩
  · rcases get j q hq with ⟨hj, hq⟩ | ⟨hj, rfl⟩
    · rcases get k r hr with ⟨_, hr⟩ | ⟨_, rfl⟩
      · exact h.d j k q r hq hr hne
      · exact nx j q hq
    · rcases get k r hr with ⟨_, hr⟩ | ⟨hk, rfl⟩
      · exact ⟨(nx k r hr).1.symm, (nx k r hr).2.symm⟩
      · exact absurd (hj.trans hk.symm) hne
theorem Es.any (h : Es w0 w c b br M X Y N P vA vB) {n : Nat} (hn : P.length = n) : ∃ A cA B cB, vA = .slice A n cA ∧ vB = .slice B n cB := by
  obtain ⟨A, cA, e1⟩ := h.ra.any
  obtain ⟨B, cB, e2⟩ := h.rb.any
  rw [List.length_map, hn] at e1 e2
  exact ⟨A, cA, B, cB, e1, e2⟩
theorem Es.some (h : Es w0 w c b br M X Y N P vA vB) {n : Nat} (hn : P.length = n) (h0 : 0 < n) : ∃ gA cA gB cB, vA = .slice (some ⟨gA, 0, none⟩) n cA ∧ vB = .slice (some ⟨gB, 0, none⟩) n cB := by
  obtain ⟨A, cA, e1, _⟩ := h.ra.form (by rw [List.length_map]; omega)
  obtain ⟨B, cB, e2, _⟩ := h.rb.form (by rw [List.length_map]; omega)
  rw [List.length_map, hn] at e1 e2
  exact ⟨A, cA, B, cB, e1, e2⟩
end
theorem Rw.at {E : TypeId} {w : World} {c : Nat → Nat} {k g n cap : Nat} {l : List Nat} (h : Rw E w c k (.slice (some ⟨g, 0, none⟩) n cap) l) {i x : Nat} (hi : l[i]? = some x) : w.cell? ⟨g, i, none⟩ = some (.pointer (some ⟨x, 0, none⟩)) := by
  have hl := (List.getElem?_eq_some_iff.1 hi).1
  obtain ⟨g', n', e, h2⟩ := h.form (by omega)
  cases e
  exact h2 i x hi
theorem map_at {P : List Tp} {i : Nat} {p : Tp} (h : P[i]? = some p) : (P.map Tp.x)[i]? = some p.x ∧ (P.map Tp.y)[i]? = some p.y := by
  rw [List.getElem?_map, List.getElem?_map, h]; exact ⟨rfl, rfl⟩
/-- the event in its box -/
structure Bx (w : World) (e : Nat) (x : Ev) : Prop where
  c0 : w.cell? ⟨e, 0, none⟩ = some (.int .u8 x.d)
  c1 : w.cell? ⟨e, 1, none⟩ = some (.int .i64 x.k)
  c2 : w.cell? ⟨e, 2, none⟩ = some (.int .i64 x.t)
  c3 : w.cell? ⟨e, 3, none⟩ = some (.int .i64 x.a)
  c4 : w.cell? ⟨e, 4, none⟩ = some (.int .i64 x.m)
theorem Bx.lt {w : World} {e : Nat} {x : Ev} (h : Bx w e x) : e < w.heap.size := World.block_lt_of_cell? w _ h.c0
theorem Bx.keep {w w' : World} {e : Nat} {x : Ev} (h : Bx w e x) (hb : w'.heap[e]? = w.heap[e]?) : Bx w' e x := by
  have k : ∀ j, w'.cell? ⟨e, j, none⟩ = w.cell? ⟨e, j, none⟩ := fun j => World.cell?_of_block (a := ⟨e, j, none⟩) hb
  exact ⟨(k _).trans h.c0, (k _).trans h.c1, (k _).trans h.c2, (k _).trans h.c3, (k _).trans h.c4⟩
theorem Bx.new (w : World) (x : Ev) (ty : TypeId) : Bx (w.alloc (.cells #[.int .u8 x.d, .int .i64 x.k, .int .i64 x.t, .int .i64 x.a, .int .i64 x.m] ty)) w.heap.size x := by
  constructor <;> simp
theorem ev_get {L : List Ev} {j : Nat} (h : j < L.length) : ∃ x, L[j]? = some x ∧ x ∈ L := ⟨_, List.getElem?_eq_getElem h, List.getElem_mem h⟩
end Lt
end Go.Proofs.Ytjocbmoelkobaaa
