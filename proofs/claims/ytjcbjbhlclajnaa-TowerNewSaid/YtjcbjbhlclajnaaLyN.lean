/- Rows of elements of one size, for any kind of element (ints, unsigned ints, places, groups): what is read, what the call has built, append. No conditions beside those of each lemma. -/
import Derived.Test.YtjcbjbhlclajnaaDomQ
import Derived.OwnWalk
import Derived.WalkSpells
import Derived.Laws.AppendOwnNone
import Derived.Maps.AppendAt
namespace Go.Proofs.Ytjcbjbhlclajnaa
open Go.RowKit Go.Sort
set_option linter.unusedVariables false
set_option linter.unusedSimpArgs false
set_option maxRecDepth 100000
namespace Ly
open Dm (bel_alloc bel_trans)
/-- a kind of element -/
structure Kd (α : Type) where
  E : TypeId
  S : TypeId
  sz : Nat
  bt : Nat
  enc : α → List Value
  len : ∀ x, (enc x).length = sz
  pos : 0 < sz
  bpos : bt ≤ 64
  one : ∀ x, ∀ u ∈ enc x, u.oneCell' = true
  und : Try.prog.underlying S = some (.slice E)
  info : ∃ i z, Try.prog.info? E = some i ∧ i.zero = some z ∧ z.cells.size = sz ∧ i.size = sz ∧ i.bytes = bt
variable {α : Type}
theorem addr_lit (b o k : Nat) : (⟨b, o, none⟩ : Addr).add k = ⟨b, o + k, none⟩ := by simp [Addr.add]
def Kd.flat (K : Kd α) (l : List α) : List Value := l.flatMap K.enc
theorem Kd.flat_len (K : Kd α) : ∀ l : List α, (K.flat l).length = l.length * K.sz
  | [] => by simp [Kd.flat]
  | x :: l => by
    have := K.flat_len l
    simp only [Kd.flat, List.flatMap_cons, List.length_append, K.len, List.length_cons] at this ⊢
    rw [this, Nat.succ_mul]; omega
theorem Kd.flat_append (K : Kd α) (l m : List α) : K.flat (l ++ m) = K.flat l ++ K.flat m := by simp [Kd.flat]
theorem Kd.flat_one (K : Kd α) (x : α) : K.flat [x] = K.enc x := by simp [Kd.flat]
theorem Kd.flat_cell (K : Kd α) (l : List α) : ∀ u ∈ K.flat l, u.oneCell' = true := fun u hu => by
  simp only [Kd.flat, List.mem_flatMap] at hu
  obtain ⟨x, _, hu⟩ := hu
  exact K.one x u hu
theorem Kd.flat_get (K : Kd α) : ∀ (l : List α) (k j : Nat), j < K.sz → (K.flat l)[k * K.sz + j]? = (l[k]?).bind fun x => (K.enc x)[j]?
  | [], k, j, h => by simp [Kd.flat]
  | x :: l, 0, j, h => by
    have : (K.flat (x :: l))[j]? = (K.enc x)[j]? := by
      rw [show K.flat (x :: l) = K.enc x ++ K.flat l from rfl, List.getElem?_append_left (by rw [K.len]; exact h)]
    simpa using this
  | x :: l, k + 1, j, h => by
    have : (K.flat (x :: l))[(k + 1) * K.sz + j]? = (K.flat l)[k * K.sz + j]? := by
      rw [show K.flat (x :: l) = K.enc x ++ K.flat l from rfl, List.getElem?_append_right (by rw [K.len, Nat.succ_mul]; omega)]
      congr 1
      rw [K.len, Nat.succ_mul]; omega
    rw [this, K.flat_get l k j h]
    rfl
/-- the cells of an element at ⟨b, o⟩ -/
def Kd.At (K : Kd α) (w : World) (b o : Nat) (x : α) : Prop := ∀ j u, (K.enc x)[j]? = some u → w.cell? ⟨b, o + j, none⟩ = some u
theorem Kd.At.keep {K : Kd α} {w w' : World} {b o : Nat} {x : α} (h : K.At w b o x) (hb : w'.heap[b]? = w.heap[b]?) : K.At w' b o x := fun j u hj =>
  (World.cell?_of_block (a := ⟨b, o + j, none⟩) hb).trans (h j u hj)
theorem Kd.At.lt {K : Kd α} {w : World} {b o : Nat} {x : α} (h : K.At w b o x) : b < w.heap.size := by
  have h0 : 0 < (K.enc x).length := by rw [K.len]; exact K.pos
  exact World.block_lt_of_cell? w _ (h 0 _ (List.getElem?_eq_getElem h0))
/-- from the address A on lie the elements l -/
def Kd.Rd (K : Kd α) (w : World) (A : Option Addr) (l : List α) : Prop := ∀ (i : Nat) (x : α), l[i]? = some x → ∃ b o, A = some ⟨b, o, none⟩ ∧ K.At w b (o + i * K.sz) x
theorem Kd.Rd.keep {K : Kd α} {w w' : World} {A : Option Addr} {l : List α} (h : K.Rd w A l) (hb : ∀ b, b < w.heap.size → (∃ a, A = some a ∧ a.block = b) → w'.heap[b]? = w.heap[b]?) : K.Rd w' A l := by
  intro i x hi
  obtain ⟨b, o, e, c⟩ := h i x hi
  exact ⟨b, o, e, c.keep (hb b c.lt ⟨_, e, rfl⟩)⟩
theorem Kd.Rd.below {K : Kd α} {w w' : World} {A : Option Addr} {l : List α} (h : K.Rd w A l) (hb : Below w.heap.size w w') : K.Rd w' A l :=
  h.keep fun b lt _ => hb.block b lt
theorem Kd.Rd.cells {K : Kd α} {w : World} {b o : Nat} {l : List α} (h : K.Rd w (some ⟨b, o, none⟩) l) : ∀ j u, (K.flat l)[j]? = some u → w.cell? (Addr.add ⟨b, o, none⟩ j) = some u := fun j u hj => by
  have hlt := (List.getElem?_eq_some_iff.1 hj).1
  rw [K.flat_len] at hlt
  have e : j = j / K.sz * K.sz + j % K.sz := by rw [Nat.mul_comm]; exact (Nat.div_add_mod j K.sz).symm
  have hm : j % K.sz < K.sz := Nat.mod_lt _ K.pos
  rw [e, K.flat_get l _ _ hm] at hj
  have hk : j / K.sz < l.length := Nat.div_lt_of_lt_mul (by rw [Nat.mul_comm]; exact hlt)
  rw [List.getElem?_eq_getElem hk] at hj
  obtain ⟨b', o', e', c⟩ := h (j / K.sz) _ (List.getElem?_eq_getElem hk)
  cases e'
  rw [addr_lit]
  have := c _ _ hj
  rw [Nat.add_assoc, ← e] at this
  exact this
/-- what a row of the call's own reads as -/
theorem Kd.row_get (K : Kd α) {w : World} {base g n cap : Nat} {l : List α} (h : w.ownsRow base K.E K.sz (.slice (some ⟨g, 0, none⟩) n cap) n (K.flat l)) : K.Rd w (some ⟨g, 0, none⟩) l := fun i x hi => by
  have hp := K.pos
  have hl : l.length = n := by have := h.1; rw [K.flat_len] at this; exact Nat.eq_of_mul_eq_mul_right hp this
  have hin : i < n := by have := (List.getElem?_eq_some_iff.1 hi).1; omega
  refine ⟨g, 0, rfl, fun j u hj => ?_⟩
  have hjs : j < K.sz := by have := (List.getElem?_eq_some_iff.1 hj).1; rw [K.len] at this; exact this
  have h1 : (i + 1) * K.sz ≤ n * K.sz := Nat.mul_le_mul_right _ hin
  rw [Nat.succ_mul] at h1
  rw [Nat.zero_add, h.cellAt _ (by omega), K.flat_get l i j hjs, hi]
  exact hj
theorem Kd.row (K : Kd α) {w : World} {base n : Nat} {v : Value} {l : List α} (h : w.ownsRow base K.E K.sz v n (K.flat l)) : l.length = n ∧ ∃ A c, v = .slice A n c ∧ n ≤ c ∧ K.Rd w A l ∧ (A = none → c = 0) ∧ (∀ a, A = some a → base ≤ a.block ∧ a.block < w.heap.size) := by
  have hl : l.length = n := by have := h.1; rw [K.flat_len] at this; exact Nat.eq_of_mul_eq_mul_right K.pos this
  refine ⟨hl, ?_⟩
  have h0 := h
  rcases h.2 with ⟨rfl, rfl⟩ | ⟨g, cap, cur, rfl, hbase, hh, hnc, _⟩
  · obtain rfl : l = [] := List.eq_nil_of_length_eq_zero hl
    exact ⟨none, 0, rfl, Nat.le_refl _, fun k x hk => (by simp at hk), fun _ => rfl, fun a e => (by cases e)⟩
  · exact ⟨_, cap, rfl, hnc, K.row_get h, fun e => (by cases e), fun a e => (by
      injection e with e; subst e
      exact ⟨hbase, (h0.lt g rfl).2⟩)⟩
theorem Kd.nil (K : Kd α) (w : World) (base : Nat) : w.ownsRow base K.E K.sz (.slice none 0 0) 0 (K.flat []) := World.ownsRow_nil _ _ _ _
/-- what an append onto the row v keeps -/
structure Kp (w : World) (v : Value) (w' : World) (v' : Value) : Prop where
  blk : ∀ k, k < w.heap.size → v.ownBlock ≠ some k → w'.heap[k]? = w.heap[k]?
  own : ∀ k, v'.ownBlock = some k → v.ownBlock = some k ∨ w.heap.size ≤ k
  size : w.heap.size ≤ w'.heap.size
  os : w'.os = w.os
  tape : w'.tape = w.tape
  output : w'.output = w.output
theorem Kp.bel {w w' : World} {v v' : Value} (h : Kp w v w' v') {B : Nat} (hB : B ≤ w.heap.size) (hv : ∀ k, v.ownBlock = some k → B ≤ k) : Below B w w' :=
  ⟨h.os, h.tape, h.output, h.size, fun k hk => h.blk k (by omega) fun e => by have := hv k e; omega⟩
/-- 'append(l, a)': onto a row of one's own -/
theorem Kd.app1 (K : Kd α) {ops : Array Oper} {rest : List Oper} {o : Oper} {a : Act} {Q : Exit → Act → World → Prop} (hgd : o.guard = none) (s x : Operand)
    (ho : o.op = .call { callee := .builtin .append, args := #[s, x], argTypes := #[K.S, K.S] }) (w : World) (base n : Nat) (v : Value) (ys : List α) (y : α)
    (hs : a.eval s = v) (g : Nat) (hx : a.eval x = .slice (some ⟨g, 0, none⟩) 1 1) (hg : K.At w g 0 y) (hown : w.ownsRow base K.E K.sz v n (K.flat ys)) (hn : n ≤ 100000) (hb : base ≤ w.heap.size)
    (h : ∀ v' w', w'.ownsRow base K.E K.sz v' (n + 1) (K.flat (ys ++ [y])) → Kp w v w' v' → wpList Try.prog ops Q rest (a.put o.dst v') w') :
    wpList Try.prog ops Q (o :: rest) a w := by
  obtain ⟨i0, z, hi, hz0, hzs, hz1, hz2⟩ := K.info
  have hbt := K.bpos
  have hp := K.pos
  have hbytes : (n + 1) * K.bt ≤ 140737488355328 := by
    have : (n + 1) * K.bt ≤ 100001 * 64 := Nat.mul_le_mul (by omega) hbt
    omega
  refine wpList_append_own_at _ hgd s x K.S ho base K.E i0 z K.sz K.bt K.und hi hz0 hz1 hz2 hzs hp v n (K.flat ys) hs hown ⟨g, 0, none⟩ 1 1 (K.enc y) hx (by rw [K.len, Nat.one_mul]) ?_ ?_ (by unfold maxLen; omega) hbytes hb ?_
  · intro j u hj
    rw [addr_lit]
    exact hg j u hj
  · exact K.one y
  · intro v' w' h1 h2 _ h4
    rw [show K.flat ys ++ K.enc y = K.flat (ys ++ [y]) by rw [K.flat_append, K.flat_one]] at h1
    refine h v' w' h1 ⟨fun k hk hne => h2.block k hk (fun e => hne e.symm), fun k hk => ?_, h2.size, h2.os, h2.tape, h2.output⟩
    rcases h4 with e | e
    · exact .inl (e.symm.trans hk)
    · rw [hk] at e; injection e with e; exact .inr (by omega)
/-- 'append(l, xs...)': a list put behind a row of one's own -/
theorem Kd.appAll (K : Kd α) {ops : Array Oper} {rest : List Oper} {o : Oper} {a : Act} {Q : Exit → Act → World → Prop} (hgd : o.guard = none) (s x : Operand)
    (ho : o.op = .call { callee := .builtin .append, args := #[s, x], argTypes := #[K.S, K.S] }) (w : World) (base n : Nat) (v : Value) (ys : List α) (A : Option Addr) (m c : Nat) (l : List α)
    (hs : a.eval s = v) (hx : a.eval x = .slice A m c) (hown : w.ownsRow base K.E K.sz v n (K.flat ys)) (hl : l.length = m) (hr : K.Rd w A l) (hnil : A = none → c = 0) (hn : n + m ≤ 100000) (hb : base ≤ w.heap.size)
    (h : ∀ v' w', w'.ownsRow base K.E K.sz v' (n + m) (K.flat (ys ++ l)) → Below base w w' → wpList Try.prog ops Q rest (a.put o.dst v') w') :
    wpList Try.prog ops Q (o :: rest) a w := by
  obtain ⟨i0, z, hi, hz0, hzs, hz1, hz2⟩ := K.info
  have hbt := K.bpos
  have hp := K.pos
  have hbytes : (n + m) * K.bt ≤ 140737488355328 := by
    have : (n + m) * K.bt ≤ 100000 * 64 := Nat.mul_le_mul hn hbt
    omega
  cases A with
  | none =>
    have hl0 : l = [] := by
      cases l with
      | nil => rfl
      | cons x l => obtain ⟨b, o, e, _⟩ := hr 0 x rfl; cases e
    subst hl0
    obtain rfl : m = 0 := by simpa using hl.symm
    obtain rfl := hnil rfl
    rw [List.append_nil] at h
    exact wpList_append_own_none hgd s x K.S ho base K.E i0 K.sz K.und hi v n (K.flat ys) hs hown hx (h _ _ hown (Below.refl _ _))
  | some ad =>
    by_cases h0 : l = []
    · subst h0
      obtain rfl : m = 0 := by simpa using hl.symm
      rw [List.append_nil] at h
      refine wpList_append_own _ hgd s x K.S ho base K.E i0 z K.sz K.bt K.und hi hz0 hz1 hz2 hzs hp v n (K.flat ys) hs hown ad 0 c [] hx (by simp) (fun j u hj => by simp at hj) (fun u hu => by simp at hu) (by unfold maxLen; omega) hbytes hb ?_
      intro v' w' h1 h2 _
      rw [List.append_nil] at h1
      exact h v' w' h1 ((Below.refl _ w).grown h2 hb fun k hk => (hown.lt k hk).1)
    · obtain ⟨x0, h1⟩ : ∃ x, l[0]? = some x := by cases l with
        | nil => exact absurd rfl h0
        | cons x l => exact ⟨x, rfl⟩
      obtain ⟨b, o', e, _⟩ := hr 0 x0 h1
      cases e
      refine wpList_append_own _ hgd s x K.S ho base K.E i0 z K.sz K.bt K.und hi hz0 hz1 hz2 hzs hp v n (K.flat ys) hs hown _ m c (K.flat l) hx (by rw [K.flat_len, hl]) hr.cells (K.flat_cell l) (by unfold maxLen; omega) hbytes hb ?_
      intro v' w' h1 h2 _
      rw [← K.flat_append] at h1
      exact h v' w' h1 ((Below.refl _ w).grown h2 hb fun k hk => (hown.lt k hk).1)
/-- a row is as it was where its block is -/
theorem Kd.own_keep (K : Kd α) {w w' : World} {base : Nat} {v : Value} {n : Nat} {xs : List Value} (h : w.ownsRow base K.E K.sz v n xs) (hb : ∀ g, v.ownBlock = some g → w'.heap[g]? = w.heap[g]?) : w'.ownsRow base K.E K.sz v n xs := by
  rcases h.2 with ⟨rfl, rfl⟩ | ⟨g, cap, cur, rfl, h1, h2, h3, h4, h5, h6⟩
  · exact ⟨h.1, .inl ⟨rfl, rfl⟩⟩
  · exact ⟨h.1, .inr ⟨g, cap, cur, rfl, h1, (hb g rfl).trans h2, h3, h4, h5, h6⟩⟩
theorem row_base {w : World} {E : TypeId} {sz b b' n : Nat} {v : Value} {xs : List Value} (h : w.ownsRow b E sz v n xs) (hb : b' ≤ b) : w.ownsRow b' E sz v n xs := by
  rcases h.2 with ⟨rfl, rfl⟩ | ⟨g, cap, cur, rfl, h1, h2, h3, h4, h5, h6⟩
  · exact ⟨h.1, .inl ⟨rfl, rfl⟩⟩
  · exact ⟨h.1, .inr ⟨g, cap, cur, rfl, by omega, h2, h3, h4, h5, h6⟩⟩
end Ly
end Go.Proofs.Ytjcbjbhlclajnaa
