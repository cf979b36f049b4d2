/- What the walks over package plan share: the outcome of a call that hands out changes or pairs; append that says what it keeps; a change of the call's own in a block; the rest of a list; a list put behind a row. -/
import Derived.Test.YtbdllakbkienoaaPdA
import Derived.Maps.AppendAt
import Derived.Deep.LoopGhost
namespace Go.Proofs.Ytbdllakbkienoaa
open Go.RowKit Go.Sort Go.ChangeShapes
set_option linter.unusedVariables false
set_option linter.unusedSimpArgs false
namespace Pl
open Om (addr_lit bel_alloc bel_trans below_drewN ret_eq Asc asc_iff inL inB)
/-- changes and an error handed out -/
def APost (w : World) (E : Int) (L : List Rc) (e : Ending) (w' : World) : Prop :=
  ∃ v, e = .returned (.tuple #[v, .int .i64 E]) ∧ w'.ownsRow w.heap.size 45 5 v L.length (flat L) ∧ Below w.heap.size w w'
/-- pairs and an error handed out -/
def PPost (w : World) (E : Int) (L : List Om.Pr) (e : Ending) (w' : World) : Prop :=
  ∃ v, e = .returned (.tuple #[v, .int .i64 E]) ∧ w'.ownsRow w.heap.size 43 2 v L.length (Om.flat L) ∧ Below w.heap.size w w'
theorem APost.err {w w' : World} {E : Int} (b : Below w.heap.size w w') : APost w E [] (.returned (.tuple #[.slice none 0 0, .int .i64 E])) w' := ⟨_, rfl, World.ownsRow_nil _ _ _ _, b⟩
theorem PPost.err {w w' : World} {E : Int} (b : Below w.heap.size w w') : PPost w E [] (.returned (.tuple #[.slice none 0 0, .int .i64 E])) w' := ⟨_, rfl, World.ownsRow_nil _ _ _ _, b⟩
theorem APost.behind {w w1 w' : World} {E : Int} {L : List Rc} {e : Ending} (b : Below w.heap.size w w1) (h : APost w1 E L e w') : APost w E L e w' := by
  obtain ⟨v, e, o, b'⟩ := h
  exact ⟨v, e, row_base o b.size, bel_trans b b'⟩
/-- what an append onto the row v keeps -/
structure Kp3 (w : World) (v : Value) (w' : World) (v' : Value) : Prop where
  blk : ∀ k, k < w.heap.size → v.ownBlock ≠ some k → w'.heap[k]? = w.heap[k]?
  own : ∀ k, v'.ownBlock = some k → v.ownBlock = some k ∨ w.heap.size ≤ k
  size : w.heap.size ≤ w'.heap.size
theorem Kp3.ne {w w' : World} {v v' : Value} {k : Nat} (h : Kp3 w v w' v') (hk : k < w.heap.size) (hn : v.ownBlock ≠ some k) : v'.ownBlock ≠ some k := fun e => by
  rcases h.own k e with q | q
  · exact hn q
  · omega
/-- 'out = append(out, y)' onto a row of the call's own -/
theorem app3 {ops : Array Oper} {rest : List Oper} {o : Oper} {a : Act} {Q : Exit → Act → World → Prop} (hgd : o.guard = none) (s x : Operand)
    (ho : o.op = .call { callee := .builtin .append, args := #[s, x], argTypes := #[27, 27] }) (w : World) (base n : Nat) (v : Value) (ys : List Rc) (y : Rc)
    (hs : a.eval s = v) (hx : a.eval x = .slice (some ⟨w.heap.size, 0, none⟩) 1 1) (hown : w.ownsRow base 45 5 v n (flat ys)) (hn : (n + 1) * 40 ≤ 140737488355328) (hb : base ≤ w.heap.size)
    (h : ∀ v' w', w'.ownsRow base 45 5 v' (n + 1) (flat (ys ++ [y])) → Below base w w' → Kp3 w v w' v' → wpList Try.prog ops Q rest (a.put o.dst v') w') :
    wpList Try.prog ops Q (o :: rest) a (w.alloc (.cells #[.int .u64 y.k, .bool y.w, .int .u64 y.o, .bool y.i, .int .u64 y.n] 45)) := by
  obtain ⟨i0, hi, hz0, hz1, hz2⟩ := info_parts info
  refine wpList_append_own_at _ hgd s x 27 ho base 45 i0 _ 5 40 Try.underlying27 hi hz0 hz1 hz2 rfl (by omega) v n (flat ys) hs (hown.alloc _) ⟨w.heap.size, 0, none⟩ 1 1 (encV y) hx rfl ?_ ?_ (by unfold maxLen; omega) (by omega) (by simp; omega) ?_
  · intro j u hj
    rw [addr_lit, Nat.zero_add, World.cell?_alloc_new]
    simpa [encV] using hj
  · intro u hu
    exact flat_one_cell [y] u (by rw [flat_one]; exact hu)
  · intro v' w' h1 h2 _ hat
    rw [show flat ys ++ encV y = flat (ys ++ [y]) by rw [flat_append, flat_one]] at h1
    have hs2 := h2.size
    simp at hs2
    refine h v' w' h1 (((Below.refl _ _).alloc hb _).grown h2 (by simp; omega) fun k hk => (hown.lt k hk).1) ⟨fun k hk hne => ?_, fun k hk => ?_, by omega⟩
    · exact (h2.block k (by simp; omega) (fun e => hne e.symm)).trans (Below.heap_alloc w _ k hk)
    · rcases hat with e | e
      · exact .inl (e.symm.trans hk)
      · rw [hk] at e
        injection e with e
        simp at e
        exact .inr (by omega)
/-- 'append(out, xs...)': a list that is read put behind a row of the call's own -/
theorem appL3 {ops : Array Oper} {rest : List Oper} {o : Oper} {a : Act} {Q : Exit → Act → World → Prop} (hgd : o.guard = none) (s x : Operand)
    (ho : o.op = .call { callee := .builtin .append, args := #[s, x], argTypes := #[27, 27] }) (w : World) (base n : Nat) (v : Value) (ys : List Rc) (A : Option Addr) (m c : Nat) (l : List Rc)
    (hs : a.eval s = v) (hx : a.eval x = .slice A m c) (hown : w.ownsRow base 45 5 v n (flat ys)) (hl : l.length = m) (hr : Rd w A l) (hnil : A = none → c = 0) (hn : n + m ≤ 4000) (hb : base ≤ w.heap.size)
    (h : ∀ v' w', w'.ownsRow base 45 5 v' (n + m) (flat (ys ++ l)) → Below base w w' → wpList Try.prog ops Q rest (a.put o.dst v') w') :
    wpList Try.prog ops Q (o :: rest) a w := by
  obtain ⟨i0, hi, hz0, hz1, hz2⟩ := info_parts info
  cases A with
  | none =>
    have hl0 : l = [] := by
      cases l with
      | nil => rfl
      | cons x l => obtain ⟨b, o, e, _⟩ := hr 0 x rfl; cases e
    subst hl0
    obtain rfl : m = 0 := by simpa using hl.symm
    obtain rfl := hnil rfl
    rw [List.append_nil] at h
    exact wpList_append_own_none hgd s x 27 ho base 45 i0 5 Try.underlying27 hi _ n (flat ys) hs hown hx (h _ _ hown (Below.refl _ _))
  | some ad =>
    refine wpList_append_own _ hgd s x 27 ho base 45 i0 _ 5 40 Try.underlying27 hi hz0 hz1 hz2 rfl (by omega) v n (flat ys) hs hown ad m c (flat l) hx (by rw [flat_len, hl]) (fun j u hj => hr.flat_cells j u hj) (flat_one_cell l) (by unfold maxLen; omega) (by omega) hb ?_
    intro v' w' h1 h2 _
    rw [← flat_append] at h1
    exact h v' w' h1 ((Below.refl _ w).grown h2 hb fun k hk => (hown.lt k hk).1)
theorem B5.made (W : World) (x : Rc) : B5 (W.alloc (.cells #[.int .u64 x.k, .bool x.w, .int .u64 x.o, .bool x.i, .int .u64 x.n] 45)) W.heap.size x :=
  ⟨by simp, by simp, by simp, by simp, by simp, by simp, by simp, by simp, by simp⟩
theorem B5.keep {W W' : World} {p : Nat} {x : Rc} (h : B5 W p x) (b : W'.heap[p]? = W.heap[p]?) : B5 W' p x := by
  have k : ∀ j, W'.cell? ⟨p, j, none⟩ = W.cell? ⟨p, j, none⟩ := fun j => World.cell?_of_block (a := ⟨p, j, none⟩) b
  have f : ∀ j, W'.frozen? ⟨p, j, none⟩ = W.frozen? ⟨p, j, none⟩ := fun j => World.frozen?_of_block (a := ⟨p, j, none⟩) b
  exact ⟨(k _).trans h.c0, (k _).trans h.c1, (k _).trans h.c2, (k _).trans h.c3, (k _).trans h.c4, (f _).trans h.f1, (f _).trans h.f2, (f _).trans h.f3, (f _).trans h.f4⟩
/-- the slice that is left behind k elements -/
def rsV (B : Option Addr) (sz m d k : Nat) : Value := match B with
  | none => .slice none 0 d
  | some a => .slice (some (a.add (k * sz))) (m - k) (d - k)
def rsA (B : Option Addr) (sz k : Nat) : Option Addr := B.map fun a => a.add (k * sz)
theorem Rd.drop {w : World} {B : Option Addr} {l : List Rc} (h : Rd w B l) (k : Nat) : Rd w (rsA B 5 k) (l.drop k) := by
  intro j x hj
  rw [List.getElem?_drop] at hj
  obtain ⟨b, o, e, c⟩ := h (k + j) x hj
  subst e
  refine ⟨b, o + k * 5, by rw [rsA, Option.map_some, addr_lit], ?_⟩
  rw [show o + k * 5 + j * 5 = o + (k + j) * 5 by omega]
  exact c
theorem rd_drop2 {w : World} {B : Option Addr} {l : List Om.Pr} (h : Om.Rd w B l) (k : Nat) : Om.Rd w (rsA B 2 k) (l.drop k) := by
  intro j x hj
  rw [List.getElem?_drop] at hj
  obtain ⟨b, o, e, c⟩ := h (k + j) x hj
  subst e
  refine ⟨b, o + k * 2, by rw [rsA, Option.map_some, addr_lit], ?_⟩
  rw [show o + k * 2 + j * 2 = o + (k + j) * 2 by omega]
  exact c
theorem raw_at {L : List Cg} {i : Nat} {x : Cg} (h : L[i]? = some x) : (L.map rawC)[i]? = some (rawC x) := by rw [List.getElem?_map, h]; rfl
theorem cg_lt {L : List Cg} {k n : Nat} (hn : L.length = n) (h : k < n) : ∃ x, L[k]? = some x ∧ x ∈ L := ⟨L[k]'(by omega), List.getElem?_eq_getElem (by omega), List.getElem_mem _⟩
theorem drop_cg {L : List Cg} {i : Nat} {x : Cg} (h : L[i]? = some x) : L.drop i = x :: L.drop (i + 1) := by
  obtain ⟨hi, e⟩ := List.getElem?_eq_some_iff.1 h
  rw [List.drop_eq_getElem_cons hi, e]
theorem raw_ab {x y : Cg} : x.a = y.b ↔ (rawC x).i = (rawC y).w ∧ (rawC x).n = (rawC y).o := by
  obtain ⟨k, b, a⟩ := x
  obtain ⟨k', b', a'⟩ := y
  cases a <;> cases b' <;> simp [rawC]
theorem raw_ba {x y : Cg} : (x.b = none ∧ y.a = none) ↔ (rawC x).w = false ∧ (rawC y).i = false := by
  obtain ⟨k, b, a⟩ := x
  obtain ⟨k', b', a'⟩ := y
  cases b <;> cases a' <;> simp [rawC]
end Pl
end Go.Proofs.Ytbdllakbkienoaa
