/- Rows of one's own that are written over; what a call hands out: for the walks of the laws of layer 12. Conditions: those of each lemma. -/
import Derived.Test.YtgfhfcjjodcgdaaHiAw
namespace Go.Proofs.Ytgfhfcjjodcgdaa
open Go.RowKit Go.Shelf Go.Sort
set_option linter.unusedVariables false
set_option linter.unusedSimpArgs false
namespace Hi
variable {α : Type}
/-- a row of one's own, whatever it holds -/
def Zr (K : Kd α) (w : World) (base : Nat) (A : Option Addr) (n c : Nat) : Prop := ∃ xs : List Value, w.ownsRow base K.E K.sz (.slice A n c) n xs
theorem Zr.of {K : Kd α} {w : World} {base n c : Nat} {A : Option Addr} {xs : List Value} (h : w.ownsRow base K.E K.sz (.slice A n c) n xs) : Zr K w base A n c := ⟨xs, h⟩
theorem Zr.blk {K : Kd α} {w : World} {base n c : Nat} {A : Option Addr} (h : Zr K w base A n c) : ∀ g i, A = some ⟨g, i, none⟩ → base ≤ g ∧ g < w.heap.size := by
  rintro g i rfl
  obtain ⟨l, hr⟩ := h
  exact hr.lt g rfl
theorem Zr.keep {K : Kd α} {w w' : World} {base n c : Nat} {A : Option Addr} (h : Zr K w base A n c) (hb : ∀ g i, A = some ⟨g, i, none⟩ → w'.heap[g]? = w.heap[g]?) : Zr K w' base A n c := by
  obtain ⟨l, hr⟩ := h
  refine ⟨l, K.own_keep hr fun g hg => ?_⟩
  rcases hr.2 with ⟨e, _⟩ | ⟨g2, cap, cur, e, _⟩
  · injection e with e1 e2 e3
    subst e1
    cases hg
  · injection e with e1 e2 e3
    subst e1
    have : g2 = g := by simpa [Value.ownBlock] using hg
    subst this
    exact hb _ _ rfl
theorem Zr.below {K : Kd α} {w w' : World} {base n c : Nat} {A : Option Addr} (h : Zr K w base A n c) (hb : Below w.heap.size w w') : Zr K w' base A n c :=
  h.keep fun g i e => hb.block g (h.blk g i e).2
theorem Zr.base {K : Kd α} {w : World} {base base' n c : Nat} {A : Option Addr} (h : Zr K w base A n c) (hb : base' ≤ base) : Zr K w base' A n c := by
  obtain ⟨l, hr⟩ := h
  exact ⟨l, row_base hr hb⟩
theorem Zr.addr {K : Kd α} {w : World} {base n c : Nat} {A : Option Addr} (h : Zr K w base A n c) (hn : 0 < n) : ∃ g, A = some ⟨g, 0, none⟩ := by
  obtain ⟨l, hr⟩ := h
  rcases hr.2 with ⟨e, h0⟩ | ⟨g, cap, cur, e, _⟩
  · injection e with e1 e2 e3
    omega
  · injection e with e1 e2 e3
    exact ⟨g, e1⟩
theorem Zr.len {K : Kd α} {w : World} {base n c : Nat} {A : Option Addr} {xs : List Value} (h : w.ownsRow base K.E K.sz (.slice A n c) n xs) : xs.length = n * K.sz := h.1
theorem Zr.there {K : Kd α} {w : World} {base n c g : Nat} (h : Zr K w base (some ⟨g, 0, none⟩) n c) {j : Nat} (hj : j < n) : w.there g (j * K.sz) K.sz := fun k hk => by
  obtain ⟨l, hr⟩ := h
  have hlt : j * K.sz + k < n * K.sz := Nat.lt_of_lt_of_le (Nat.add_lt_add_left hk _) (by rw [← Nat.succ_mul]; exact Nat.mul_le_mul_right _ hj)
  refine ⟨?_, hr.frozenAt _⟩
  rw [hr.cellAt _ hlt, List.getElem?_eq_getElem (by rw [Zr.len hr]; exact hlt)]; rfl
theorem Zr.sets {K : Kd α} {base n c g : Nat} : ∀ (vs : List Value) {w : World} (h : Zr K w base (some ⟨g, 0, none⟩) n c) (o : Nat), Zr K (w.setCells g o vs) base (some ⟨g, 0, none⟩) n c
  | [], w, h, o => h
  | v :: r, w, h, o => Zr.sets r (w := w.setCell ⟨g, o, none⟩ v) (by obtain ⟨l, hr⟩ := h; exact ⟨_, (hr.stored o v).1⟩) (o + 1)
theorem sets_heap {g : Nat} : ∀ (vs : List Value) (w : World) (o k : Nat), k ≠ g → (w.setCells g o vs).heap[k]? = w.heap[k]?
  | [], w, o, k, h => rfl
  | v :: r, w, o, k, h => (sets_heap r _ (o + 1) k h).trans (Below.heap_setCell w ⟨g, o, none⟩ v k h)
theorem sets_bel {g N : Nat} {W : World} (hg : N ≤ g) : ∀ (vs : List Value) {w : World} (o : Nat), Below N W w → Below N W (w.setCells g o vs)
  | [], w, o, h => h
  | v :: r, w, o, h => sets_bel hg r (o + 1) (h.setCell (p := ⟨g, o, none⟩) hg v)
section
variable {ops : Array Oper} {rest : List Oper} {op : Oper} {a : Act} {W : World} {Q : Exit → Act → World → Prop}
/-- a call is stored over an element of a row of one's own -/
theorem stz (hgd : op.guard = none) (p y : Operand) (ho : op.op = .store 47 p y) (base n c g j : Nat) (hz : Zr KC W base (some ⟨g, 0, none⟩) n c) (hj : j < n) (hp : a.eval p = .pointer (some ⟨g, j * 18, none⟩)) (x : C) (hy : a.eval y = .agg #[.int .i64 x.t, .int .i64 x.i, .int .u8 x.k, .int .u64 x.p0, .int .u64 x.p1, .int .u64 x.p2, .int .u64 x.p3, .int .u64 x.p4, .int .u64 x.p5, .int .i64 x.v, .int .i64 x.u, .int .i64 x.a, .int .i64 x.s, .int .i64 x.re, .bool x.rf, .int .u64 x.rk, .int .u64 x.rv, .int .i64 x.rc])
    (h : ∀ W', Zr KC W' base (some ⟨g, 0, none⟩) n c → (∀ k, k ≠ g → W'.heap[k]? = W.heap[k]?) → (∀ N w, N ≤ g → Below N w W → Below N w W') → wpList Try.prog ops Q rest (a.put op.dst undef) W') : wpList Try.prog ops Q (op :: rest) a W := by
  refine wpList_store_mid hgd _ p y ho g (j * 18) #[.int .i64 x.t, .int .i64 x.i, .int .u8 x.k, .int .u64 x.p0, .int .u64 x.p1, .int .u64 x.p2, .int .u64 x.p3, .int .u64 x.p4, .int .u64 x.p5, .int .i64 x.v, .int .i64 x.u, .int .i64 x.a, .int .i64 x.s, .int .i64 x.re, .bool x.rf, .int .u64 x.rk, .int .u64 x.rv, .int .i64 x.rc] hp hy (hz.there hj) sz_call (oneCells x) ?_
  exact h _ (hz.sets _ _) (fun k hk => sets_heap _ _ _ _ hk) (fun N w hN hb => sets_bel hN _ _ hb)
end
/-- the block of one row is not that of a later one -/
theorem Zr.ne {β : Type} {K : Kd α} {K' : Kd β} {w1 w2 : World} {b1 b2 n1 n2 c1 c2 : Nat} {A1 A2 : Option Addr} (h1 : Zr K w1 b1 A1 n1 c1) (h2 : Zr K' w2 b2 A2 n2 c2) (hb : w1.heap.size ≤ b2) :
    ∀ g i g' i', A1 = some ⟨g, i, none⟩ → A2 = some ⟨g', i', none⟩ → g ≠ g' := by
  intro g i g' i' e1 e2
  have a := (h1.blk g i e1).2
  have b := (h2.blk g' i' e2).1
  omega
/-- what a call hands out as a row: the slice, what it reads as, and that it may be written over -/
theorem rw_use {K : Kd α} {er : Int} {xs : List α} {w : World} {e : Ending} {w' : World} (h : RwPost K er xs w e w') :
    ∃ A c, e = .returned (.tuple #[.slice A xs.length c, .int .i64 er]) ∧ K.Rd w' A xs ∧ Zr K w' w.heap.size A xs.length c ∧ Below w.heap.size w w' := by
  obtain ⟨v, h1, h2, h3⟩ := h
  obtain ⟨_, A, c, rfl, _, hr, _⟩ := K.row h2
  exact ⟨A, c, h1, hr, Zr.of h2, h3⟩
theorem ro_use {K : Kd α} {xs : List α} {w : World} {e : Ending} {w' : World} (h : RoPost K xs w e w') :
    ∃ A c, e = .returned (.slice A xs.length c) ∧ K.Rd w' A xs ∧ Zr K w' w.heap.size A xs.length c ∧ Below w.heap.size w w' := by
  obtain ⟨v, h1, h2, h3⟩ := h
  obtain ⟨_, A, c, rfl, _, hr, _⟩ := K.row h2
  exact ⟨A, c, h1, hr, Zr.of h2, h3⟩
theorem check_use {f : FuncId} {A : Option Addr} {n c : Nat} {l : List C} {w : World} (h : Calls Try.prog f #[.slice A n c] w fun e w' => e = .returned (chkV l) ∧ Below w.heap.size w w') :
    Calls Try.prog f #[.slice A n c] w fun e w' => e = .returned (.tuple #[.int .i64 (chkAt l : Nat), .int .i64 (erC l)]) ∧ Below w.heap.size w w' := by
  rw [chkV_eq] at h; exact h
theorem peL_len (l : List C) : (peL l).length ≤ l.length := idx_len _ l l.length
theorem efL_len (l : List C) : (efL l).length ≤ l.length := by
  unfold efL
  split
  · rw [List.length_map]; exact eff_len l
  · simp
theorem pfL_len (st : Int) (l : List C) : (pfL st l).length ≤ l.length := by
  unfold pfL
  split
  · exact pref_len st l
  · simp
theorem chkAt_le (l : List C) : chkAt l ≤ l.length := by
  unfold chkAt
  cases h : chk l with
  | none => simp
  | some i => have := chk_lt h; simp; omega
end Hi
end Go.Proofs.Ytgfhfcjjodcgdaa
