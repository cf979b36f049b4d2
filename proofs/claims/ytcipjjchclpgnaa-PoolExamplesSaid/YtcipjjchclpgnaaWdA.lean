/- Accesses in memory: what is read, a row of the call's own, append of one, a copy, and arguments that are a list of accesses. No conditions beside those of each lemma. -/
import Derived.Test.YtcipjjchclpgnaaWdM
import Derived.Maps.AppendAt
namespace Go.Proofs.Ytcipjjchclpgnaa
open Go.RowKit Go.Sort Go.ChangeShapes Go.WideShapes Go.Deep
set_option linter.unusedVariables false
set_option linter.unusedSimpArgs false
set_option maxRecDepth 100000
namespace Wd
open Dm (addr_lit info_parts spot_none)
def encA (x : Ac) : List Value := [.int .i64 x.t, .int .i64 x.a, .int .u8 x.k, .int .u64 x.o, .int .u64 x.n, .bool x.s]
def agA (x : Ac) : Value := .agg #[.int .i64 x.t, .int .i64 x.a, .int .u8 x.k, .int .u64 x.o, .int .u64 x.n, .bool x.s]
def flatA (l : List Ac) : List Value := l.flatMap encA
theorem flatA_len : ∀ l : List Ac, (flatA l).length = l.length * 6
  | [] => rfl
  | x :: l => by
    have := flatA_len l
    simp only [flatA, List.flatMap_cons, List.length_append, encA, List.length_cons, List.length_nil] at this ⊢
    omega
theorem flatA_append (l m : List Ac) : flatA (l ++ m) = flatA l ++ flatA m := by simp [flatA]
theorem flatA_one (x : Ac) : flatA [x] = encA x := by simp [flatA]
theorem flatA_one_cell (l : List Ac) : ∀ u ∈ flatA l, u.oneCell' = true := fun u hu => by
  simp only [flatA, List.mem_flatMap] at hu
  obtain ⟨x, _, hu⟩ := hu
  simp only [encA, List.mem_cons, List.not_mem_nil, or_false] at hu
  rcases hu with rfl | rfl | rfl | rfl | rfl | rfl <;> rfl
theorem flatA_get : ∀ (l : List Ac) (k j : Nat), j < 6 → (flatA l)[k * 6 + j]? = (l[k]?).bind fun x => (encA x)[j]?
  | [], k, j, h => by simp [flatA]
  | x :: l, 0, j, h => by
    have : (flatA (x :: l))[j]? = (encA x)[j]? := by
      rw [show flatA (x :: l) = encA x ++ flatA l from rfl, List.getElem?_append_left (by simpa [encA] using h)]
    simpa using this
  | x :: l, k + 1, j, h => by
    have : (flatA (x :: l))[(k + 1) * 6 + j]? = (flatA l)[k * 6 + j]? := by
      rw [show flatA (x :: l) = encA x ++ flatA l from rfl, List.getElem?_append_right (by simp [encA]; omega)]
      congr 1
      simp [encA]; omega
    rw [this, flatA_get l k j h]
    rfl
/-- the cells of an access at ⟨b, o⟩ -/
structure A6 (w : World) (b o : Nat) (x : Ac) : Prop where
  c0 : w.cell? ⟨b, o, none⟩ = some (.int .i64 x.t)
  c1 : w.cell? ⟨b, o + 1, none⟩ = some (.int .i64 x.a)
  c2 : w.cell? ⟨b, o + 2, none⟩ = some (.int .u8 x.k)
  c3 : w.cell? ⟨b, o + 3, none⟩ = some (.int .u64 x.o)
  c4 : w.cell? ⟨b, o + 4, none⟩ = some (.int .u64 x.n)
  c5 : w.cell? ⟨b, o + 5, none⟩ = some (.bool x.s)
theorem A6.keep {w w' : World} {b o : Nat} {x : Ac} (h : A6 w b o x) (hb : w'.heap[b]? = w.heap[b]?) : A6 w' b o x := by
  have k : ∀ j, w'.cell? ⟨b, j, none⟩ = w.cell? ⟨b, j, none⟩ := fun j => World.cell?_of_block (a := ⟨b, j, none⟩) hb
  exact ⟨(k _).trans h.c0, (k _).trans h.c1, (k _).trans h.c2, (k _).trans h.c3, (k _).trans h.c4, (k _).trans h.c5⟩
/-- from the address A on lie the accesses l -/
def RdA (w : World) (A : Option Addr) (l : List Ac) : Prop := ∀ (i : Nat) (x : Ac), l[i]? = some x → ∃ b o, A = some ⟨b, o, none⟩ ∧ A6 w b (o + i * 6) x
theorem RdA.below {w w' : World} {A : Option Addr} {l : List Ac} (h : RdA w A l) (hb : Below w.heap.size w w') : RdA w' A l := by
  intro i x hi
  obtain ⟨b, o, e, c⟩ := h i x hi
  exact ⟨b, o, e, c.keep (hb.block b (World.block_lt_of_cell? w _ c.c0))⟩
theorem RdA.cells {w : World} {b o c' : Nat} {l : List Ac} (h : RdA w (some ⟨b, o, none⟩) l) : ∀ j u, (flatA l)[j]? = some u → w.cell? (Addr.add ⟨b, o, none⟩ j) = some u := fun j u hj => by
  have hlt := (List.getElem?_eq_some_iff.1 hj).1
  rw [flatA_len] at hlt
  have e : j = j / 6 * 6 + j % 6 := by omega
  rw [e, flatA_get l _ _ (Nat.mod_lt _ (by omega))] at hj
  have hk : j / 6 < l.length := by omega
  rw [List.getElem?_eq_getElem hk] at hj
  obtain ⟨b', o', e', c⟩ := h (j / 6) _ (List.getElem?_eq_getElem hk)
  cases e'
  rw [addr_lit]
  simp only [Option.bind_some] at hj
  have hm : j % 6 < 6 := Nat.mod_lt _ (by omega)
  rw [show o + j = o + j / 6 * 6 + j % 6 by omega]
  generalize j % 6 = m at *
  match m, hm with
  | 0, _ => exact c.c0.trans hj
  | 1, _ => exact c.c1.trans hj
  | 2, _ => exact c.c2.trans hj
  | 3, _ => exact c.c3.trans hj
  | 4, _ => exact c.c4.trans hj
  | 5, _ => exact c.c5.trans hj
theorem rowA_get {w : World} {base g n cap : Nat} {l : List Ac} (h : w.ownsRow base 151 6 (.slice (some ⟨g, 0, none⟩) n cap) n (flatA l)) : RdA w (some ⟨g, 0, none⟩) l := fun i x hi => by
  have hl : l.length = n := by have := h.1; rw [flatA_len] at this; omega
  have hin : i < n := by have := (List.getElem?_eq_some_iff.1 hi).1; omega
  have k : ∀ j, j < 6 → w.cell? ⟨g, 0 + i * 6 + j, none⟩ = (encA x)[j]? := fun j hj => by
    rw [Nat.zero_add, h.cellAt _ (by omega), flatA_get l i j hj, hi]; rfl
  exact ⟨g, 0, rfl, k 0 (by omega), k 1 (by omega), k 2 (by omega), k 3 (by omega), k 4 (by omega), k 5 (by omega)⟩
/-- what a row of the call's own reads as -/
theorem rowA {w : World} {base n : Nat} {v : Value} {l : List Ac} (h : w.ownsRow base 151 6 v n (flatA l)) : l.length = n ∧ ∃ A c, v = .slice A n c ∧ n ≤ c ∧ RdA w A l ∧ (A = none → c = 0) := by
  have hl : l.length = n := by have := h.1; rw [flatA_len] at this; omega
  refine ⟨hl, ?_⟩
  rcases h.2 with ⟨rfl, rfl⟩ | ⟨g, cap, cur, rfl, hbase, hh, hnc, _⟩
  · obtain rfl : l = [] := List.eq_nil_of_length_eq_zero hl
    exact ⟨none, 0, rfl, Nat.le_refl _, fun k x hk => by simp at hk, fun _ => rfl⟩
  · exact ⟨_, cap, rfl, hnc, rowA_get h, fun e => by cases e⟩
theorem infoA : (Try.prog.info? 151).map (fun i => (i.zero, i.size, i.bytes)) = some (some (.agg #[.int .i64 0, .int .i64 0, .int .u8 0, .int .u64 0, .int .u64 0, .bool false]), 6, 48) := by kernel_rfl
/-- 'append(l, a)': onto a row of one's own -/
theorem app1A {ops : Array Oper} {rest : List Oper} {o : Oper} {a : Act} {Q : Exit → Act → World → Prop} (hgd : o.guard = none) (s x : Operand)
    (ho : o.op = .call { callee := .builtin .append, args := #[s, x], argTypes := #[90, 90] }) (w : World) (base n : Nat) (v : Value) (ys : List Ac) (y : Ac)
    (hs : a.eval s = v) (g : Nat) (hx : a.eval x = .slice (some ⟨g, 0, none⟩) 1 1) (hg : A6 w g 0 y) (hown : w.ownsRow base 151 6 v n (flatA ys)) (hn : n ≤ 100000) (hb : base ≤ w.heap.size)
    (h : ∀ v' w', w'.ownsRow base 151 6 v' (n + 1) (flatA (ys ++ [y])) → w.grownBy w' v.ownBlock → (v'.ownBlock = v.ownBlock ∨ v'.ownBlock = some w.heap.size) → wpList Try.prog ops Q rest (a.put o.dst v') w') :
    wpList Try.prog ops Q (o :: rest) a w := by
  obtain ⟨i0, hi, hz0, hz1, hz2⟩ := info_parts infoA
  refine wpList_append_own_at _ hgd s x 90 ho base 151 i0 _ 6 48 Try.underlying90 hi hz0 hz1 hz2 rfl (by omega) v n (flatA ys) hs hown ⟨g, 0, none⟩ 1 1 (encA y) hx rfl ?_ ?_ (by unfold maxLen; omega) (by omega) hb ?_
  · intro j u hj
    rw [addr_lit, Nat.zero_add]
    have hlt : j < 6 := by have := (List.getElem?_eq_some_iff.1 hj).1; simpa [encA] using this
    have c := hg
    match j, hlt with
    | 0, _ => exact c.c0.trans hj
    | 1, _ => exact c.c1.trans hj
    | 2, _ => exact c.c2.trans hj
    | 3, _ => exact c.c3.trans hj
    | 4, _ => exact c.c4.trans hj
    | 5, _ => exact c.c5.trans hj
  · intro u hu
    exact flatA_one_cell [y] u (by rw [flatA_one]; exact hu)
  · intro v' w' h1 h2 _ h4
    rw [show flatA ys ++ encA y = flatA (ys ++ [y]) by rw [flatA_append, flatA_one]] at h1
    exact h v' w' h1 h2 h4
/-- 'append(l, xs...)': a list put behind a row of one's own -/
theorem appAllA {ops : Array Oper} {rest : List Oper} {o : Oper} {a : Act} {Q : Exit → Act → World → Prop} (hgd : o.guard = none) (s x : Operand)
    (ho : o.op = .call { callee := .builtin .append, args := #[s, x], argTypes := #[90, 90] }) (w : World) (base n : Nat) (v : Value) (ys : List Ac) (A : Option Addr) (m c : Nat) (l : List Ac)
    (hs : a.eval s = v) (hx : a.eval x = .slice A m c) (hown : w.ownsRow base 151 6 v n (flatA ys)) (hl : l.length = m) (hr : RdA w A l) (hnil : A = none → c = 0) (hn : n + m ≤ 100000) (hb : base ≤ w.heap.size)
    (h : ∀ v' w', w'.ownsRow base 151 6 v' (n + m) (flatA (ys ++ l)) → Below base w w' → wpList Try.prog ops Q rest (a.put o.dst v') w') :
    wpList Try.prog ops Q (o :: rest) a w := by
  obtain ⟨i0, hi, hz0, hz1, hz2⟩ := info_parts infoA
  cases A with
  | none =>
    have hl0 : l = [] := by
      cases l with
      | nil => rfl
      | cons x l => obtain ⟨b, o, e, _⟩ := hr 0 x rfl; cases e
    subst hl0
    obtain rfl : m = 0 := by simpa using hl.symm
    obtain rfl := hnil rfl
    rw [List.append_nil] at h
    exact wpList_append_own_none hgd s x 90 ho base 151 i0 6 Try.underlying90 hi _ n (flatA ys) hs hown hx (h _ _ hown (Below.refl _ _))
  | some ad =>
    by_cases h0 : l = []
    · subst h0
      obtain rfl : m = 0 := by simpa using hl.symm
      rw [List.append_nil] at h
      refine wpList_append_own _ hgd s x 90 ho base 151 i0 _ 6 48 Try.underlying90 hi hz0 hz1 hz2 rfl (by omega) v n (flatA ys) hs hown ad 0 c [] hx rfl (fun j u hj => by simp at hj) (fun u hu => by simp at hu) (by unfold maxLen; omega) (by omega) hb ?_
      intro v' w' h1 h2 _
      rw [List.append_nil] at h1
      exact h v' w' h1 ((Below.refl _ w).grown h2 hb fun k hk => (hown.lt k hk).1)
    · obtain ⟨x0, h1⟩ : ∃ x, l[0]? = some x := by cases l with
        | nil => exact absurd rfl h0
        | cons x l => exact ⟨x, rfl⟩
      obtain ⟨b, o', e, _⟩ := hr 0 x0 h1
      cases e
      refine wpList_append_own _ hgd s x 90 ho base 151 i0 _ 6 48 Try.underlying90 hi hz0 hz1 hz2 rfl (by omega) v n (flatA ys) hs hown _ m c (flatA l) hx (by rw [flatA_len, hl]) (RdA.cells (c' := 0) hr) (flatA_one_cell l) (by unfold maxLen; omega) (by omega) hb ?_
      intro v' w' h1 h2 _
      rw [← flatA_append] at h1
      exact h v' w' h1 ((Below.refl _ w).grown h2 hb fun k hk => (hown.lt k hk).1)
theorem RdA.drop {w : World} {A : Option Addr} {l : List Ac} (h : RdA w A l) (k : Nat) : RdA w (A.map fun a => a.add (k * 6)) (l.drop k) := fun i x hi => by
  rw [List.getElem?_drop] at hi
  obtain ⟨b, o, e, c⟩ := h (k + i) x hi
  subst e
  refine ⟨b, o + k * 6, by rw [Option.map_some, addr_lit], ?_⟩
  rw [show o + k * 6 + i * 6 = o + (k + i) * 6 by omega]
  exact c
end Wd
end Go.Proofs.Ytcipjjchclpgnaa
