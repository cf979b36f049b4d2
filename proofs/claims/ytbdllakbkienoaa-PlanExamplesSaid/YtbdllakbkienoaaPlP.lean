/- Lists of changes in memory: what is read, what is the call's own, append of one change and of a list, and arguments that are a list of changes. No conditions beside those of each lemma. -/
import Derived.Test.YtbdllakbkienoaaOmP
import Derived.Test.YtbdllakbkienoaaPlM
namespace Go.Proofs.Ytbdllakbkienoaa
open Go.RowKit Go.Sort Go.ChangeShapes Go.WideShapes Go.Deep
set_option linter.unusedVariables false
set_option linter.unusedSimpArgs false
namespace Pl
open Om (addr_lit bel_alloc bel_trans spot_none open_slice_fields)
/-- a change as it lies in memory: key, was, old, is, new -/
structure Rc where
  k : Int
  w : Bool
  o : Int
  i : Bool
  n : Int
deriving DecidableEq
/-- from the address A on lie the changes l -/
def Rd (w : World) (A : Option Addr) (l : List Rc) : Prop :=
  ∀ (j : Nat) (x : Rc), l[j]? = some x → ∃ b o, A = some ⟨b, o, none⟩ ∧ w.cell? ⟨b, o + j * 5, none⟩ = some (.int .u64 x.k) ∧ w.cell? ⟨b, o + j * 5 + 1, none⟩ = some (.bool x.w) ∧ w.cell? ⟨b, o + j * 5 + 2, none⟩ = some (.int .u64 x.o) ∧ w.cell? ⟨b, o + j * 5 + 3, none⟩ = some (.bool x.i) ∧ w.cell? ⟨b, o + j * 5 + 4, none⟩ = some (.int .u64 x.n)
structure Bd1 (x : Rc) : Prop where
  k0 : 0 ≤ x.k
  k1 : x.k ≤ 18446744073709551615
  o0 : 0 ≤ x.o
  o1 : x.o ≤ 18446744073709551615
  n0 : 0 ≤ x.n
  n1 : x.n ≤ 18446744073709551615
def Bd (l : List Rc) : Prop := ∀ x, x ∈ l → Bd1 x
theorem Rd.below {w w' : World} {A : Option Addr} {l : List Rc} (h : Rd w A l) (hb : Below w.heap.size w w') : Rd w' A l := by
  intro j x hj
  obtain ⟨b, o, e, c0, c1, c2, c3, c4⟩ := h j x hj
  have hlt : b < w.heap.size := World.block_lt_of_cell? w _ c0
  have keep : ∀ j, w'.cell? ⟨b, j, none⟩ = w.cell? ⟨b, j, none⟩ := fun j => hb.cell (p := ⟨b, j, none⟩) hlt
  exact ⟨b, o, e, (keep _).trans c0, (keep _).trans c1, (keep _).trans c2, (keep _).trans c3, (keep _).trans c4⟩
theorem Rd.drewN {w : World} {A : Option Addr} {l : List Rc} (h : Rd w A l) (n : Nat) : Rd (w.drewN n) A l := h
theorem getElem?_lt {l : List Rc} {k n : Nat} (hn : l.length = n) (h : k < n) : ∃ x, l[k]? = some x ∧ x ∈ l := ⟨l[k]'(by omega), List.getElem?_eq_getElem (by omega), List.getElem_mem _⟩
theorem take_succ' {l : List Rc} {k : Nat} {x : Rc} (h : l[k]? = some x) : l.take (k + 1) = l.take k ++ [x] := by
  rw [List.take_add_one, h]; rfl
def encV (x : Rc) : List Value := [.int .u64 x.k, .bool x.w, .int .u64 x.o, .bool x.i, .int .u64 x.n]
def flat (l : List Rc) : List Value := l.flatMap encV
theorem flat_len : ∀ l : List Rc, (flat l).length = l.length * 5
  | [] => rfl
  | x :: l => by
    have := flat_len l
    simp only [flat, List.flatMap_cons, List.length_append, encV, List.length_cons, List.length_nil] at this ⊢
    omega
theorem flat_append (l m : List Rc) : flat (l ++ m) = flat l ++ flat m := by simp [flat]
theorem flat_one (x : Rc) : flat [x] = encV x := by simp [flat]
theorem flat_get : ∀ (l : List Rc) (k : Nat) (x : Rc), l[k]? = some x → ∀ j, j < 5 → (flat l)[k * 5 + j]? = (encV x)[j]?
  | [], k, x, h, j, _ => by simp at h
  | y :: l, 0, x, h, j, hj => by
    simp at h; subst h
    show (encV y ++ flat l)[0 * 5 + j]? = _
    rw [List.getElem?_append_left (by simp [encV]; omega), Nat.zero_mul, Nat.zero_add]
  | y :: l, k + 1, x, h, j, hj => by
    have h' : l[k]? = some x := by simpa using h
    have r := flat_get l k x h' j hj
    show (encV y ++ flat l)[(k + 1) * 5 + j]? = _
    rw [List.getElem?_append_right (by simp [encV]; omega), show (k + 1) * 5 + j - (encV y).length = k * 5 + j by simp [encV]; omega]
    exact r
theorem flat_one_cell (l : List Rc) : ∀ u ∈ flat l, u.oneCell' = true := by
  intro u hu
  simp only [flat, List.mem_flatMap, encV] at hu
  obtain ⟨x, _, hx⟩ := hu
  simp only [List.mem_cons, List.not_mem_nil, or_false] at hx
  rcases hx with rfl | rfl | rfl | rfl | rfl <;> rfl
/-- at block b from cell o on lie the changes l, and may be written to -/
def Own (w : World) (b o : Nat) (l : List Rc) : Prop :=
  ∀ (k : Nat) (x : Rc), l[k]? = some x → ∀ j, j < 5 → w.cell? ⟨b, o + k * 5 + j, none⟩ = (encV x)[j]? ∧ w.frozen? ⟨b, o + k * 5 + j, none⟩ = false
theorem Own.rd {w : World} {b o : Nat} {l : List Rc} (h : Own w b o l) : Rd w (some ⟨b, o, none⟩) l := fun k x hk => by
  have h := h k x hk
  exact ⟨b, o, rfl, (h 0 (by omega)).1, (h 1 (by omega)).1, (h 2 (by omega)).1, (h 3 (by omega)).1, (h 4 (by omega)).1⟩
theorem own_of_row {w : World} {base g n cap : Nat} {t : TypeId} {l : List Rc} (h : w.ownsRow base t 5 (.slice (some ⟨g, 0, none⟩) n cap) n (flat l)) : Own w g 0 l := fun k x hk j hj => by
  have hl : l.length = n := by have := h.1; rw [flat_len] at this; omega
  have hkn : k < n := by have := (List.getElem?_eq_some_iff.1 hk).1; omega
  refine ⟨?_, h.frozenAt _⟩
  rw [Nat.zero_add, h.cellAt _ (by omega)]
  exact flat_get l k x hk j hj
/-- what a row of the call's own reads as -/
theorem row_form {w : World} {base n : Nat} {t : TypeId} {v : Value} {l : List Rc} (h : w.ownsRow base t 5 v n (flat l)) : l.length = n ∧ ∃ A c, v = .slice A n c ∧ n ≤ c ∧ Rd w A l ∧ (∀ a, A = some a → base ≤ a.block ∧ a.block < w.heap.size ∧ ∃ g, a = ⟨g, 0, none⟩ ∧ Own w g 0 l) := by
  have hl : l.length = n := by have := h.1; rw [flat_len] at this; omega
  refine ⟨hl, ?_⟩
  rcases h.2 with ⟨rfl, rfl⟩ | ⟨g, cap, cur, rfl, hbase, hh, hnc, _⟩
  · obtain rfl : l = [] := List.eq_nil_of_length_eq_zero hl
    exact ⟨none, 0, rfl, Nat.le_refl _, fun k x hk => by simp at hk, fun a ha => by cases ha⟩
  · have o := own_of_row h
    have hlt := (h.lt g rfl).2
    exact ⟨_, cap, rfl, hnc, o.rd, fun a ha => by cases ha; exact ⟨hbase, hlt, g, rfl, o⟩⟩
theorem info : (Try.prog.info? 45).map (fun i => (i.zero, i.size, i.bytes)) = some (some (.agg #[.int .u64 0, .bool false, .int .u64 0, .bool false, .int .u64 0]), 5, 40) := by kernel_rfl
/-- the cells of a list that is read, one behind the other -/
theorem Rd.flat_cells {w : World} {a : Addr} {l : List Rc} (h : Rd w (some a) l) : ∀ (j : Nat) (u : Value), (flat l)[j]? = some u → w.cell? (a.add j) = some u := by
  intro j u hj
  have hjl : j < l.length * 5 := by have := (List.getElem?_eq_some_iff.1 hj).1; rw [flat_len] at this; exact this
  have hk : j / 5 < l.length := by omega
  obtain ⟨b, o, e, c0, c1, c2, c3, c4⟩ := h (j / 5) _ (List.getElem?_eq_getElem hk)
  injection e with e
  subst e
  have g := flat_get l (j / 5) _ (List.getElem?_eq_getElem hk) (j % 5) (by omega)
  rw [show j / 5 * 5 + j % 5 = j by omega, hj] at g
  rw [addr_lit, g]
  have hm : j % 5 = 0 ∨ j % 5 = 1 ∨ j % 5 = 2 ∨ j % 5 = 3 ∨ j % 5 = 4 := by omega
  rcases hm with m | m | m | m | m <;> rw [m]
  · rw [show o + j = o + j / 5 * 5 by omega]; exact c0
  · rw [show o + j = o + j / 5 * 5 + 1 by omega]; exact c1
  · rw [show o + j = o + j / 5 * 5 + 2 by omega]; exact c2
  · rw [show o + j = o + j / 5 * 5 + 3 by omega]; exact c3
  · rw [show o + j = o + j / 5 * 5 + 4 by omega]; exact c4
/-- 'out = append(out, y)' onto a row of the call's own -/
theorem app1 {ops : Array Oper} {rest : List Oper} {o : Oper} {a : Act} {Q : Exit → Act → World → Prop} (hgd : o.guard = none) (s x : Operand)
    (ho : o.op = .call { callee := .builtin .append, args := #[s, x], argTypes := #[27, 27] }) (w : World) (base n : Nat) (v : Value) (ys : List Rc) (y : Rc)
    (hs : a.eval s = v) (hx : a.eval x = .slice (some ⟨w.heap.size, 0, none⟩) 1 1) (hown : w.ownsRow base 45 5 v n (flat ys)) (hn : (n + 1) * 40 ≤ 140737488355328) (hb : base ≤ w.heap.size)
    (h : ∀ v' w', w'.ownsRow base 45 5 v' (n + 1) (flat (ys ++ [y])) → Below base w w' → wpList Try.prog ops Q rest (a.put o.dst v') w') :
    wpList Try.prog ops Q (o :: rest) a (w.alloc (.cells #[.int .u64 y.k, .bool y.w, .int .u64 y.o, .bool y.i, .int .u64 y.n] 45)) := by
  obtain ⟨i0, hi, hz0, hz1, hz2⟩ := info_parts info
  refine wpList_append_own _ hgd s x 27 ho base 45 i0 _ 5 40 Try.underlying27 hi hz0 hz1 hz2 rfl (by omega) v n (flat ys) hs (hown.alloc _) ⟨w.heap.size, 0, none⟩ 1 1 (encV y) hx rfl ?_ ?_ (by unfold maxLen; omega) (by omega) (by simp; omega) ?_
  · intro j u hj
    rw [addr_lit, Nat.zero_add, World.cell?_alloc_new]
    simpa [encV] using hj
  · intro u hu
    exact flat_one_cell [y] u (by rw [flat_one]; exact hu)
  · intro v' w' h1 h2 _
    rw [show flat ys ++ encV y = flat (ys ++ [y]) by rw [flat_append, flat_one]] at h1
    refine h v' w' h1 (((Below.refl _ _).alloc hb _).grown h2 (by simp; omega) fun k hk => ?_)
    exact (hown.lt k hk).1
/-- 'append([]T{}, xs...)': a copy -/
theorem appAll {ops : Array Oper} {rest : List Oper} {o : Oper} {a : Act} {Q : Exit → Act → World → Prop} (hgd : o.guard = none) (s x : Operand)
    (ho : o.op = .call { callee := .builtin .append, args := #[s, x], argTypes := #[27, 27] }) (w : World) (N : Nat) (hN : w.heap.size = N) (A : Option Addr) (n c : Nat) (l : List Rc)
    (hs : a.eval s = .slice (some ⟨N, 0, none⟩) 0 0) (hx : a.eval x = .slice A n c) (hl : l.length = n) (hn : n ≤ 2000) (hr : Rd w A l) (hnil : A = none → c = 0)
    (h : ∀ v' w', w'.ownsRow w.heap.size 45 5 v' n (flat l) → Below w.heap.size w w' → wpList Try.prog ops Q rest (a.put o.dst v') w') :
    wpList Try.prog ops Q (o :: rest) a (w.alloc (.cells #[] 45)) := by
  subst hN
  obtain ⟨i0, hi, hz0, hz1, hz2⟩ := info_parts info
  have made : (w.alloc (.cells #[] 45)).ownsRow w.heap.size 45 5 (.slice (some ⟨w.heap.size, 0, none⟩) 0 0) 0 [] := World.ownsRow_made w #[] 0 (Nat.le_refl _) (Nat.zero_le _) (by simp)
  cases A with
  | none =>
    have hl0 : l = [] := by
      cases l with
      | nil => rfl
      | cons x l => obtain ⟨b, o, e, _⟩ := hr 0 x rfl; cases e
    subst hl0
    obtain rfl : n = 0 := by simpa using hl.symm
    obtain rfl := hnil rfl
    exact wpList_append_own_none hgd s x 27 ho w.heap.size 45 i0 5 Try.underlying27 hi _ 0 [] hs made hx (h _ _ made (bel_alloc (Below.refl _ _) _))
  | some ad =>
    refine wpList_append_own _ hgd s x 27 ho w.heap.size 45 i0 _ 5 40 Try.underlying27 hi hz0 hz1 hz2 rfl (by omega) _ 0 [] hs made ad n c (flat l) hx (by rw [flat_len, hl]) ?_ (flat_one_cell l) (by unfold maxLen; omega) (by omega) (by simp) ?_
    · intro j u hj
      have h := hr.flat_cells j u hj
      rw [World.cell?_alloc_lt w _ _ (World.block_lt_of_cell? w _ h)]
      exact h
    · intro v' w' h1 h2 _
      refine h v' w' (by simpa using h1) (((Below.refl _ w).alloc (Nat.le_refl _) _).grown h2 (by simp) fun k hk => ?_)
      simp [Value.ownBlock] at hk
      omega
theorem row_base {w : World} {B B' n : Nat} {t : TypeId} {v : Value} {xs : List Value} (h : w.ownsRow B t 5 v n xs) (hB : B' ≤ B) : w.ownsRow B' t 5 v n xs := by
  refine ⟨h.1, ?_⟩
  rcases h.2 with h' | ⟨g, cap, cur, e, hb, r⟩
  · exact .inl h'
  · exact .inr ⟨g, cap, cur, e, by omega, r⟩
theorem row_below {w w' : World} {B n : Nat} {t : TypeId} {v : Value} {xs : List Value} (h : w.ownsRow B t 5 v n xs) (hb : Below w.heap.size w w') : w'.ownsRow B t 5 v n xs := by
  refine ⟨h.1, ?_⟩
  rcases h.2 with h' | ⟨g, cap, cur, e, hbase, hh, r⟩
  · exact .inl h'
  · subst e
    exact .inr ⟨g, cap, cur, rfl, hbase, (hb.block g (h.lt g rfl).2).trans hh, r⟩
theorem cellsOf_change : Try.prog.cellsOf 45 = 5 := by kernel_rfl
section
variable {H : Type} {enc : TypeId × Value → H} {w : World} {base b0 : Nat} {spare : Nat → Bool} {held : Bool} {r : Reach}
set_option maxRecDepth 100000 in
theorem open_changes {v : Value} {d : DataW H} {p : List MemPlace} (hv : Value.okWide Try.prog w r b0 27 v) (h : DataW.Trod enc Try.prog w base spare held 27 v d p) :
    ∃ (A : Option Addr) (n c : Nat) (l : List Rc), v = .slice A n c ∧ l.length = n ∧ n ≤ maxLen ∧ Rd w A l ∧ Bd l ∧ (A = none → c = 0) ∧ (n = 0 ∨ ∃ elems spare, d = .slice elems spare ∧ elems.length = n) := by
  obtain ⟨A, n, c, rfl⟩ := okWide_slice Try.underlying27 hv
  obtain ⟨fuel, hf⟩ := h
  rcases open_slice_fields Try.underlying27 Try.underlying45 (by kernel_rfl) cellsOf_change hf with ⟨hcs, hx⟩ | ⟨a, len, cap, m, D, Pl, hcs, hb, hl, hm, hmm, hx, hi⟩
  · simp [Value.cells] at hcs
    obtain ⟨rfl, rfl, rfl⟩ := hcs
    exact ⟨none, 0, 0, [], rfl, rfl, Nat.zero_le _, fun k x hk => by simp at hk, fun x hx => (by cases hx), fun _ => rfl, .inl rfl⟩
  · simp [Value.cells] at hcs
    obtain ⟨rfl, rfl, rfl⟩ := hcs
    have hlm : n ≤ m := by rw [hmm]; split <;> omega
    have each : ∀ i, i < n → ∃ x : Rc, Bd1 x ∧ w.cell? (a.add (i * 5)) = some (.int .u64 x.k) ∧ w.cell? (a.add (i * 5 + 1)) = some (.bool x.w) ∧ w.cell? (a.add (i * 5 + 2)) = some (.int .u64 x.o) ∧ w.cell? (a.add (i * 5 + 3)) = some (.bool x.i) ∧ w.cell? (a.add (i * 5 + 4)) = some (.int .u64 x.n) := by
      intro i hin
      obtain ⟨ys, q, _, _, _, hfl⟩ := hi i (by omega)
      obtain ⟨v0, y0, c0, _, t0⟩ := hfl 0 _ rfl
      obtain ⟨v1, y1, c1, _, t1⟩ := hfl 1 _ rfl
      obtain ⟨v2, y2, c2, _, t2⟩ := hfl 2 _ rfl
      obtain ⟨v3, y3, c3, _, t3⟩ := hfl 3 _ rfl
      obtain ⟨v4, y4, c4, _, t4⟩ := hfl 4 _ rfl
      obtain ⟨x0, e0, _, w0⟩ := DataW.trod_int Try.underlying23 t0
      obtain ⟨x1, e1, _⟩ := DataW.trod_bool Try.underlying4 t1
      obtain ⟨x2, e2, _, w2⟩ := DataW.trod_int Try.underlying23 t2
      obtain ⟨x3, e3, _⟩ := DataW.trod_bool Try.underlying4 t3
      obtain ⟨x4, e4, _, w4⟩ := DataW.trod_int Try.underlying23 t4
      simp at e0 e1 e2 e3 e4
      subst e0 e1 e2 e3 e4
      exact ⟨⟨x0, x1, x2, x3, x4⟩, ⟨(bounds_u64 w0).1, (bounds_u64 w0).2, (bounds_u64 w2).1, (bounds_u64 w2).2, (bounds_u64 w4).1, (bounds_u64 w4).2⟩, c0, c1, c2, c3, c4⟩
    have each' : ∃ g : Nat → Rc, ∀ i, i < n → Bd1 (g i) ∧ w.cell? (a.add (i * 5)) = some (.int .u64 (g i).k) ∧ w.cell? (a.add (i * 5 + 1)) = some (.bool (g i).w) ∧ w.cell? (a.add (i * 5 + 2)) = some (.int .u64 (g i).o) ∧ w.cell? (a.add (i * 5 + 3)) = some (.bool (g i).i) ∧ w.cell? (a.add (i * 5 + 4)) = some (.int .u64 (g i).n) := by
      refine ⟨fun i => if hi : i < n then Classical.choose (each i hi) else ⟨0, false, 0, false, 0⟩, fun i hi => ?_⟩
      simp only [dif_pos hi]
      exact Classical.choose_spec (each i hi)
    obtain ⟨g, hg⟩ := each'
    refine ⟨some a, n, c, (List.range n).map g, rfl, by simp, by omega, ?_, ?_, fun h => (by cases h), .inr ⟨_, _, (Prod.mk.inj hx).1, by simp⟩⟩
    · intro k x hk
      have hkn : k < n := by have := (List.getElem?_eq_some_iff.1 hk).1; simpa using this
      rw [List.getElem?_map, List.getElem?_range hkn] at hk
      simp only [Option.map_some, Option.some.injEq] at hk
      subst hk
      obtain ⟨b, o, s⟩ := a
      obtain ⟨_, z0, _⟩ := hg 0 (by omega)
      have hs : s = none := spot_none (a := ⟨b, o, s⟩) (by simpa [Addr.add] using z0)
      subst hs
      obtain ⟨_, c0, c1, c2, c3, c4⟩ := hg k hkn
      rw [addr_lit] at c0 c1 c2 c3 c4
      exact ⟨b, o, rfl, c0, c1, c2, c3, c4⟩
    · intro x hx
      simp only [List.mem_map, List.mem_range] at hx
      obtain ⟨i, hin, rfl⟩ := hx
      exact (hg i hin).1
end
end Pl
end Go.Proofs.Ytbdllakbkienoaa
