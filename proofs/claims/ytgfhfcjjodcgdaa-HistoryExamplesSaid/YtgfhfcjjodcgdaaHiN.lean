/- Rows of elements of one size (calls, ints, bools) in memory: what is read, what the call has built, append; arguments that are a list of calls or of ints. No conditions beside those of each lemma. -/
import Derived.Test.YtgfhfcjjodcgdaaHiO
import Derived.Test.YtgfhfcjjodcgdaaRows
import Derived.WalkKit
import Derived.ProofKit
import Derived.OpenShut
import Derived.Outline
import Derived.WalkLawsBesides
import Derived.Deep.QuietTactic
import Derived.BigQuiet
import Derived.Lib.QuietBelow
import Derived.Lib.Hide
import Derived.Deep.Slices
import Derived.Deep.Fields
import Derived.ChangeSame
import Derived.Lib.SmallJoins
import Derived.OwnWalk
import Derived.WalkSpells
import Derived.Laws.AppendOwnNone
import Derived.Maps.AppendAt
namespace Go.Proofs.Ytgfhfcjjodcgdaa
open Go.RowKit Go.Sort Go.ChangeShapes Go.WideShapes Go.Deep Go.Joins
set_option linter.unusedVariables false
set_option linter.unusedSimpArgs false
namespace Hi
theorem bel_alloc {W w : World} (h : Below W.heap.size W w) (o : Obj) : Below W.heap.size W (w.alloc o) := h.alloc h.size o
theorem bel_trans {W w w1 : World} (h : Below W.heap.size W w) (h1 : Below w.heap.size w w1) : Below W.heap.size W w1 := h.trans (h1.mono h.size)
theorem bel_draw {B : Nat} {a w : World} (h : Below B a w) : Below B a w.drew := ⟨h.os, h.tape, h.output, h.size, h.block⟩
theorem bel_drawN {B : Nat} {a w : World} (h : Below B a w) (n : Nat) : Below B a (w.drewN n) := ⟨h.os, h.tape, h.output, h.size, h.block⟩
theorem ret_eq {a b : Value} (h : a = b) : Ending.returned a = Ending.returned b := by rw [h]
theorem cell_lt {w : World} {b o : Nat} {v : Value} (h : w.cell? ⟨b, o, none⟩ = some v) : b < w.heap.size := World.block_lt_of_cell? w _ h
theorem spot_none {w : World} {a : Addr} {v : Value} (h : w.cell? a = some v) : a.spot = none := by
  unfold World.cell? at h
  split at h
  · split at h
    · cases h
    · rename_i hs; simpa using hs
  · cases h
theorem info_parts {i? : Option TypeInfo} {z : Value} {s b : Nat} (h : i?.map (fun i => (i.zero, i.size, i.bytes)) = some (some z, s, b)) (hz : z.cells.size = s) : ∃ i0 z, i? = some i0 ∧ i0.zero = some z ∧ z.cells.size = s ∧ i0.size = s ∧ i0.bytes = b := by
  cases i? with
  | none => cases h
  | some i => simp at h; exact ⟨i, z, rfl, h.1, hz, h.2.1, h.2.2⟩
/-- a kind of element -/
structure Kd (α : Type) where
  E : TypeId
  S : TypeId
  sz : Nat
  bt : Nat
  enc : α → List Value
  len : ∀ x, (enc x).length = sz
  pos : 0 < sz
  bpos : bt ≤ 256
  one : ∀ x, ∀ u ∈ enc x, u.oneCell' = true
  und : Try.prog.underlying S = some (.slice E)
  info : ∃ i z, Try.prog.info? E = some i ∧ i.zero = some z ∧ z.cells.size = sz ∧ i.size = sz ∧ i.bytes = bt
variable {α : Type}
theorem addr_lit (b o k : Nat) : (⟨b, o, none⟩ : Addr).add k = ⟨b, o + k, none⟩ := by simp [Addr.add]
def Kd.flat (K : Kd α) (l : List α) : List Value := l.flatMap K.enc
theorem Kd.flat_len (K : Kd α) : ∀ l : List α, (K.flat l).length = l.length * K.sz
  | [] => by simp [Kd.flat]
  | x :: l => by
    have := K.flat_len l
    simp only [Kd.flat, List.flatMap_cons, List.length_append, K.len, List.length_cons] at this ⊢
    rw [this, Nat.succ_mul]; omega
theorem Kd.flat_append (K : Kd α) (l m : List α) : K.flat (l ++ m) = K.flat l ++ K.flat m := by simp [Kd.flat]
theorem Kd.flat_one (K : Kd α) (x : α) : K.flat [x] = K.enc x := by simp [Kd.flat]
theorem Kd.flat_cell (K : Kd α) (l : List α) : ∀ u ∈ K.flat l, u.oneCell' = true := fun u hu => by
  simp only [Kd.flat, List.mem_flatMap] at hu
  obtain ⟨x, _, hu⟩ := hu
  exact K.one x u hu
theorem Kd.flat_get (K : Kd α) : ∀ (l : List α) (k j : Nat), j < K.sz → (K.flat l)[k * K.sz + j]? = (l[k]?).bind fun x => (K.enc x)[j]?
  | [], k, j, h => by simp [Kd.flat]
  | x :: l, 0, j, h => by
    have : (K.flat (x :: l))[j]? = (K.enc x)[j]? := by
      rw [show K.flat (x :: l) = K.enc x ++ K.flat l from rfl, List.getElem?_append_left (by rw [K.len]; exact h)]
    simpa using this
  | x :: l, k + 1, j, h => by
    have : (K.flat (x :: l))[(k + 1) * K.sz + j]? = (K.flat l)[k * K.sz + j]? := by
      rw [show K.flat (x :: l) = K.enc x ++ K.flat l from rfl, List.getElem?_append_right (by rw [K.len, Nat.succ_mul]; omega)]
      congr 1
      rw [K.len, Nat.succ_mul]; omega
    rw [this, K.flat_get l k j h]
    rfl
/-- the cells of an element at ⟨b, o⟩ -/
def Kd.At (K : Kd α) (w : World) (b o : Nat) (x : α) : Prop := ∀ j u, (K.enc x)[j]? = some u → w.cell? ⟨b, o + j, none⟩ = some u
theorem Kd.At.keep {K : Kd α} {w w' : World} {b o : Nat} {x : α} (h : K.At w b o x) (hb : w'.heap[b]? = w.heap[b]?) : K.At w' b o x := fun j u hj =>
  (World.cell?_of_block (a := ⟨b, o + j, none⟩) hb).trans (h j u hj)
theorem Kd.At.lt {K : Kd α} {w : World} {b o : Nat} {x : α} (h : K.At w b o x) : b < w.heap.size := by
  have h0 : 0 < (K.enc x).length := by rw [K.len]; exact K.pos
  exact World.block_lt_of_cell? w _ (h 0 _ (List.getElem?_eq_getElem h0))
/-- from the address A on lie the elements l -/
def Kd.Rd (K : Kd α) (w : World) (A : Option Addr) (l : List α) : Prop := ∀ (i : Nat) (x : α), l[i]? = some x → ∃ b o, A = some ⟨b, o, none⟩ ∧ K.At w b (o + i * K.sz) x
theorem Kd.Rd.keep {K : Kd α} {w w' : World} {A : Option Addr} {l : List α} (h : K.Rd w A l) (hb : ∀ b, b < w.heap.size → (∃ a, A = some a ∧ a.block = b) → w'.heap[b]? = w.heap[b]?) : K.Rd w' A l := by
  intro i x hi
  obtain ⟨b, o, e, c⟩ := h i x hi
  exact ⟨b, o, e, c.keep (hb b c.lt ⟨_, e, rfl⟩)⟩
theorem Kd.Rd.below {K : Kd α} {w w' : World} {A : Option Addr} {l : List α} (h : K.Rd w A l) (hb : Below w.heap.size w w') : K.Rd w' A l :=
  h.keep fun b lt _ => hb.block b lt
theorem Kd.Rd.cells {K : Kd α} {w : World} {b o : Nat} {l : List α} (h : K.Rd w (some ⟨b, o, none⟩) l) : ∀ j u, (K.flat l)[j]? = some u → w.cell? (Addr.add ⟨b, o, none⟩ j) = some u := fun j u hj => by
  have hlt := (List.getElem?_eq_some_iff.1 hj).1
  rw [K.flat_len] at hlt
  have e : j = j / K.sz * K.sz + j % K.sz := by rw [Nat.mul_comm]; exact (Nat.div_add_mod j K.sz).symm
  have hm : j % K.sz < K.sz := Nat.mod_lt _ K.pos
  rw [e, K.flat_get l _ _ hm] at hj
  have hk : j / K.sz < l.length := Nat.div_lt_of_lt_mul (by rw [Nat.mul_comm]; exact hlt)
  rw [List.getElem?_eq_getElem hk] at hj
  obtain ⟨b', o', e', c⟩ := h (j / K.sz) _ (List.getElem?_eq_getElem hk)
  cases e'
  rw [addr_lit]
  have := c _ _ hj
  rw [Nat.add_assoc, ← e] at this
  exact this
/-- what a row of the call's own reads as -/
theorem Kd.row_get (K : Kd α) {w : World} {base g n cap : Nat} {l : List α} (h : w.ownsRow base K.E K.sz (.slice (some ⟨g, 0, none⟩) n cap) n (K.flat l)) : K.Rd w (some ⟨g, 0, none⟩) l := fun i x hi => by
  have hp := K.pos
  have hl : l.length = n := by have := h.1; rw [K.flat_len] at this; exact Nat.eq_of_mul_eq_mul_right hp this
  have hin : i < n := by have := (List.getElem?_eq_some_iff.1 hi).1; omega
  refine ⟨g, 0, rfl, fun j u hj => ?_⟩
  have hjs : j < K.sz := by have := (List.getElem?_eq_some_iff.1 hj).1; rw [K.len] at this; exact this
  have h1 : (i + 1) * K.sz ≤ n * K.sz := Nat.mul_le_mul_right _ hin
  rw [Nat.succ_mul] at h1
  rw [Nat.zero_add, h.cellAt _ (by omega), K.flat_get l i j hjs, hi]
  exact hj
theorem Kd.row (K : Kd α) {w : World} {base n : Nat} {v : Value} {l : List α} (h : w.ownsRow base K.E K.sz v n (K.flat l)) : l.length = n ∧ ∃ A c, v = .slice A n c ∧ n ≤ c ∧ K.Rd w A l ∧ (A = none → c = 0) ∧ (∀ a, A = some a → base ≤ a.block ∧ a.block < w.heap.size) := by
  have hl : l.length = n := by have := h.1; rw [K.flat_len] at this; exact Nat.eq_of_mul_eq_mul_right K.pos this
  refine ⟨hl, ?_⟩
  have h0 := h
  rcases h.2 with ⟨rfl, rfl⟩ | ⟨g, cap, cur, rfl, hbase, hh, hnc, _⟩
  · obtain rfl : l = [] := List.eq_nil_of_length_eq_zero hl
    exact ⟨none, 0, rfl, Nat.le_refl _, fun k x hk => (by simp at hk), fun _ => rfl, fun a e => (by cases e)⟩
  · exact ⟨_, cap, rfl, hnc, K.row_get h, fun e => (by cases e), fun a e => (by
      injection e with e; subst e
      exact ⟨hbase, (h0.lt g rfl).2⟩)⟩
theorem Kd.nil (K : Kd α) (w : World) (base : Nat) : w.ownsRow base K.E K.sz (.slice none 0 0) 0 (K.flat []) := World.ownsRow_nil _ _ _ _
/-- what an append onto the row v keeps -/
structure Kp (w : World) (v : Value) (w' : World) (v' : Value) : Prop where
  blk : ∀ k, k < w.heap.size → v.ownBlock ≠ some k → w'.heap[k]? = w.heap[k]?
  own : ∀ k, v'.ownBlock = some k → v.ownBlock = some k ∨ w.heap.size ≤ k
  size : w.heap.size ≤ w'.heap.size
  os : w'.os = w.os
  tape : w'.tape = w.tape
  output : w'.output = w.output
theorem Kp.bel {w w' : World} {v v' : Value} (h : Kp w v w' v') {B : Nat} (hB : B ≤ w.heap.size) (hv : ∀ k, v.ownBlock = some k → B ≤ k) : Below B w w' :=
  ⟨h.os, h.tape, h.output, h.size, fun k hk => h.blk k (by omega) fun e => by have := hv k e; omega⟩
/-- 'append(l, a)': onto a row of one's own -/
theorem Kd.app1 (K : Kd α) {ops : Array Oper} {rest : List Oper} {o : Oper} {a : Act} {Q : Exit → Act → World → Prop} (hgd : o.guard = none) (s x : Operand)
    (ho : o.op = .call { callee := .builtin .append, args := #[s, x], argTypes := #[K.S, K.S] }) (w : World) (base n : Nat) (v : Value) (ys : List α) (y : α)
    (hs : a.eval s = v) (g : Nat) (hx : a.eval x = .slice (some ⟨g, 0, none⟩) 1 1) (hg : K.At w g 0 y) (hown : w.ownsRow base K.E K.sz v n (K.flat ys)) (hn : n ≤ 100000) (hb : base ≤ w.heap.size)
    (h : ∀ v' w', w'.ownsRow base K.E K.sz v' (n + 1) (K.flat (ys ++ [y])) → Kp w v w' v' → wpList Try.prog ops Q rest (a.put o.dst v') w') :
    wpList Try.prog ops Q (o :: rest) a w := by
  obtain ⟨i0, z, hi, hz0, hzs, hz1, hz2⟩ := K.info
  have hbt := K.bpos
  have hp := K.pos
  have hbytes : (n + 1) * K.bt ≤ 140737488355328 := by
    have : (n + 1) * K.bt ≤ 100001 * 256 := Nat.mul_le_mul (by omega) hbt
    omega
  refine wpList_append_own_at _ hgd s x K.S ho base K.E i0 z K.sz K.bt K.und hi hz0 hz1 hz2 hzs hp v n (K.flat ys) hs hown ⟨g, 0, none⟩ 1 1 (K.enc y) hx (by rw [K.len, Nat.one_mul]) ?_ ?_ (by unfold maxLen; omega) hbytes hb ?_
  · intro j u hj
    rw [addr_lit]
    exact hg j u hj
  · exact K.one y
  · intro v' w' h1 h2 _ h4
    rw [show K.flat ys ++ K.enc y = K.flat (ys ++ [y]) by rw [K.flat_append, K.flat_one]] at h1
    refine h v' w' h1 ⟨fun k hk hne => h2.block k hk (fun e => hne e.symm), fun k hk => ?_, h2.size, h2.os, h2.tape, h2.output⟩
    rcases h4 with e | e
    · exact .inl (e.symm.trans hk)
    · rw [hk] at e; injection e with e; exact .inr (by omega)
/-- 'append(l, xs...)': a list put behind a row of one's own -/
theorem Kd.appAll (K : Kd α) {ops : Array Oper} {rest : List Oper} {o : Oper} {a : Act} {Q : Exit → Act → World → Prop} (hgd : o.guard = none) (s x : Operand)
    (ho : o.op = .call { callee := .builtin .append, args := #[s, x], argTypes := #[K.S, K.S] }) (w : World) (base n : Nat) (v : Value) (ys : List α) (A : Option Addr) (m c : Nat) (l : List α)
    (hs : a.eval s = v) (hx : a.eval x = .slice A m c) (hown : w.ownsRow base K.E K.sz v n (K.flat ys)) (hl : l.length = m) (hr : K.Rd w A l) (hnil : A = none → c = 0) (hn : n + m ≤ 100000) (hb : base ≤ w.heap.size)
    (h : ∀ v' w', w'.ownsRow base K.E K.sz v' (n + m) (K.flat (ys ++ l)) → Below base w w' → wpList Try.prog ops Q rest (a.put o.dst v') w') :
    wpList Try.prog ops Q (o :: rest) a w := by
  obtain ⟨i0, z, hi, hz0, hzs, hz1, hz2⟩ := K.info
  have hbt := K.bpos
  have hp := K.pos
  have hbytes : (n + m) * K.bt ≤ 140737488355328 := by
    have : (n + m) * K.bt ≤ 100000 * 256 := Nat.mul_le_mul hn hbt
    omega
  cases A with
  | none =>
    have hl0 : l = [] := by
      cases l with
      | nil => rfl
      | cons x l => obtain ⟨b, o, e, _⟩ := hr 0 x rfl; cases e
    subst hl0
    obtain rfl : m = 0 := by simpa using hl.symm
    obtain rfl := hnil rfl
    rw [List.append_nil] at h
    exact wpList_append_own_none hgd s x K.S ho base K.E i0 K.sz K.und hi v n (K.flat ys) hs hown hx (h _ _ hown (Below.refl _ _))
  | some ad =>
    by_cases h0 : l = []
    · subst h0
      obtain rfl : m = 0 := by simpa using hl.symm
      rw [List.append_nil] at h
      refine wpList_append_own _ hgd s x K.S ho base K.E i0 z K.sz K.bt K.und hi hz0 hz1 hz2 hzs hp v n (K.flat ys) hs hown ad 0 c [] hx (by simp) (fun j u hj => by simp at hj) (fun u hu => by simp at hu) (by unfold maxLen; omega) hbytes hb ?_
      intro v' w' h1 h2 _
      rw [List.append_nil] at h1
      exact h v' w' h1 ((Below.refl _ w).grown h2 hb fun k hk => (hown.lt k hk).1)
    · obtain ⟨x0, h1⟩ : ∃ x, l[0]? = some x := by cases l with
        | nil => exact absurd rfl h0
        | cons x l => exact ⟨x, rfl⟩
      obtain ⟨b, o', e, _⟩ := hr 0 x0 h1
      cases e
      refine wpList_append_own _ hgd s x K.S ho base K.E i0 z K.sz K.bt K.und hi hz0 hz1 hz2 hzs hp v n (K.flat ys) hs hown _ m c (K.flat l) hx (by rw [K.flat_len, hl]) hr.cells (K.flat_cell l) (by unfold maxLen; omega) hbytes hb ?_
      intro v' w' h1 h2 _
      rw [← K.flat_append] at h1
      exact h v' w' h1 ((Below.refl _ w).grown h2 hb fun k hk => (hown.lt k hk).1)
/-- a row is as it was where its block is -/
theorem Kd.own_keep (K : Kd α) {w w' : World} {base : Nat} {v : Value} {n : Nat} {xs : List Value} (h : w.ownsRow base K.E K.sz v n xs) (hb : ∀ g, v.ownBlock = some g → w'.heap[g]? = w.heap[g]?) : w'.ownsRow base K.E K.sz v n xs := by
  rcases h.2 with ⟨rfl, rfl⟩ | ⟨g, cap, cur, rfl, h1, h2, h3, h4, h5, h6⟩
  · exact ⟨h.1, .inl ⟨rfl, rfl⟩⟩
  · exact ⟨h.1, .inr ⟨g, cap, cur, rfl, h1, (hb g rfl).trans h2, h3, h4, h5, h6⟩⟩
theorem row_base {w : World} {E : TypeId} {sz b b' n : Nat} {v : Value} {xs : List Value} (h : w.ownsRow b E sz v n xs) (hb : b' ≤ b) : w.ownsRow b' E sz v n xs := by
  rcases h.2 with ⟨rfl, rfl⟩ | ⟨g, cap, cur, rfl, h1, h2, h3, h4, h5, h6⟩
  · exact ⟨h.1, .inl ⟨rfl, rfl⟩⟩
  · exact ⟨h.1, .inr ⟨g, cap, cur, rfl, by omega, h2, h3, h4, h5, h6⟩⟩

def KC : Kd C where
  E := 47
  S := 22
  sz := 18
  bt := 144
  enc := fun x => [.int .i64 x.t, .int .i64 x.i, .int .u8 x.k, .int .u64 x.p0, .int .u64 x.p1, .int .u64 x.p2, .int .u64 x.p3, .int .u64 x.p4, .int .u64 x.p5, .int .i64 x.v, .int .i64 x.u, .int .i64 x.a, .int .i64 x.s, .int .i64 x.re, .bool x.rf, .int .u64 x.rk, .int .u64 x.rv, .int .i64 x.rc]
  len := fun _ => rfl
  pos := by decide
  bpos := by decide
  one := fun x u hu => by simp at hu; rcases hu with rfl | rfl | rfl | rfl | rfl | rfl | rfl | rfl | rfl | rfl | rfl | rfl | rfl | rfl | rfl | rfl | rfl | rfl <;> rfl
  und := Try.underlying22
  info := info_parts (z := .agg #[.int .i64 0, .int .i64 0, .int .u8 0, .int .u64 0, .int .u64 0, .int .u64 0, .int .u64 0, .int .u64 0, .int .u64 0, .int .i64 0, .int .i64 0, .int .i64 0, .int .i64 0, .int .i64 0, .bool false, .int .u64 0, .int .u64 0, .int .i64 0]) (by kernel_rfl) rfl
def KI : Kd Int where
  E := 3
  S := 30
  sz := 1
  bt := 8
  enc := fun x => [.int .i64 x]
  len := fun _ => rfl
  pos := by decide
  bpos := by decide
  one := fun x u hu => by simp at hu; rcases hu with rfl; rfl
  und := Try.underlying30
  info := info_parts (z := .int .i64 0) (by kernel_rfl) rfl
def KB : Kd Bool where
  E := 4
  S := 57
  sz := 1
  bt := 1
  enc := fun x => [.bool x]
  len := fun _ => rfl
  pos := by decide
  bpos := by decide
  one := fun x u hu => by simp at hu; rcases hu with rfl; rfl
  und := Try.underlying57
  info := info_parts (z := .bool false) (by kernel_rfl) rfl
/-- the cells of a call at ⟨b, o⟩ -/
theorem KC.cells {w : World} {b o : Nat} {x : C} (h : KC.At w b o x) : w.cell? ⟨b, o, none⟩ = some (.int .i64 x.t) ∧ w.cell? ⟨b, o + 1, none⟩ = some (.int .i64 x.i) ∧ w.cell? ⟨b, o + 2, none⟩ = some (.int .u8 x.k) ∧ w.cell? ⟨b, o + 3, none⟩ = some (.int .u64 x.p0) ∧ w.cell? ⟨b, o + 4, none⟩ = some (.int .u64 x.p1) ∧ w.cell? ⟨b, o + 5, none⟩ = some (.int .u64 x.p2) ∧ w.cell? ⟨b, o + 6, none⟩ = some (.int .u64 x.p3) ∧ w.cell? ⟨b, o + 7, none⟩ = some (.int .u64 x.p4) ∧ w.cell? ⟨b, o + 8, none⟩ = some (.int .u64 x.p5) ∧ w.cell? ⟨b, o + 9, none⟩ = some (.int .i64 x.v) ∧ w.cell? ⟨b, o + 10, none⟩ = some (.int .i64 x.u) ∧ w.cell? ⟨b, o + 11, none⟩ = some (.int .i64 x.a) ∧ w.cell? ⟨b, o + 12, none⟩ = some (.int .i64 x.s) ∧ w.cell? ⟨b, o + 13, none⟩ = some (.int .i64 x.re) ∧ w.cell? ⟨b, o + 14, none⟩ = some (.bool x.rf) ∧ w.cell? ⟨b, o + 15, none⟩ = some (.int .u64 x.rk) ∧ w.cell? ⟨b, o + 16, none⟩ = some (.int .u64 x.rv) ∧ w.cell? ⟨b, o + 17, none⟩ = some (.int .i64 x.rc) :=
  ⟨h 0 _ rfl, h 1 _ rfl, h 2 _ rfl, h 3 _ rfl, h 4 _ rfl, h 5 _ rfl, h 6 _ rfl, h 7 _ rfl, h 8 _ rfl, h 9 _ rfl, h 10 _ rfl, h 11 _ rfl, h 12 _ rfl, h 13 _ rfl, h 14 _ rfl, h 15 _ rfl, h 16 _ rfl, h 17 _ rfl⟩
theorem KC.at_ {w : World} {A : Option Addr} {l : List C} (h : KC.Rd w A l) {i : Nat} (hi : i < l.length) : ∃ b o, A = some ⟨b, o, none⟩ ∧ KC.At w b (o + i * 18) (l.getD i c0) := by
  rw [getD_get hi]
  exact h i _ (List.getElem?_eq_getElem hi)
theorem KI.at_ {w : World} {A : Option Addr} {l : List Int} (h : KI.Rd w A l) {i : Nat} (hi : i < l.length) : ∃ b o, A = some ⟨b, o, none⟩ ∧ w.cell? ⟨b, o + i, none⟩ = some (.int .i64 (l.getD i 0)) := by
  rw [List.getD_eq_getElem?_getD, List.getElem?_eq_getElem hi]
  obtain ⟨b, o, e, c⟩ := h i _ (List.getElem?_eq_getElem hi)
  exact ⟨b, o, e, by have := c 0 _ rfl; simpa [KI] using this⟩
theorem KB.at_ {w : World} {A : Option Addr} {l : List Bool} (h : KB.Rd w A l) {i : Nat} (hi : i < l.length) : ∃ b o, A = some ⟨b, o, none⟩ ∧ w.cell? ⟨b, o + i, none⟩ = some (.bool (l.getD i false)) := by
  rw [List.getD_eq_getElem?_getD, List.getElem?_eq_getElem hi]
  obtain ⟨b, o, e, c⟩ := h i _ (List.getElem?_eq_getElem hi)
  exact ⟨b, o, e, by have := c 0 _ rfl; simpa [KB] using this⟩
def I64 (x : Int) : Prop := -9223372036854775808 ≤ x ∧ x ≤ 9223372036854775807
def U64 (x : Int) : Prop := 0 ≤ x ∧ x ≤ 18446744073709551615
def U8 (x : Int) : Prop := 0 ≤ x ∧ x ≤ 255
/-- bounds of a call's numbers -/
structure Bd1 (x : C) : Prop where
  t : I64 x.t
  i : I64 x.i
  k : U8 x.k
  p0 : U64 x.p0
  p1 : U64 x.p1
  p2 : U64 x.p2
  p3 : U64 x.p3
  p4 : U64 x.p4
  p5 : U64 x.p5
  v : I64 x.v
  u : I64 x.u
  a : I64 x.a
  s : I64 x.s
  re : I64 x.re
  rk : U64 x.rk
  rv : U64 x.rv
  rc : I64 x.rc
def Bd (l : List C) : Prop := ∀ x ∈ l, Bd1 x
theorem Bd.get {l : List C} (h : Bd l) {i : Nat} (hi : i < l.length) : Bd1 (l.getD i c0) := h _ (mem_get hi)
theorem Bd.take {l : List C} (h : Bd l) (n : Nat) : Bd (l.take n) := fun x hx => h x (List.mem_of_mem_take hx)
theorem cellsOf_call : Try.prog.cellsOf 47 = 18 := by kernel_rfl
theorem cells_int : Try.prog.cellsOf 3 = 1 := by kernel_rfl
theorem cells_u8 : Try.prog.cellsOf 5 = 1 := by kernel_rfl
theorem cells_u64 : Try.prog.cellsOf 41 = 1 := by kernel_rfl
theorem cells_bool : Try.prog.cellsOf 4 = 1 := by kernel_rfl
theorem cells_err : Try.prog.cellsOf 24 = 1 := by kernel_rfl
theorem cells_op : Try.prog.cellsOf 43 = 7 := by kernel_rfl
theorem cells_res : Try.prog.cellsOf 45 = 5 := by kernel_rfl
section
variable {H : Type} {enc : TypeId × Value → H} {w : World} {base fuel : Nat} {spare : Nat → Bool} {held : Bool}
theorem one_int {κ : IntKind} {u : TypeId} {v : Value} {cs : List Value} {o : Nat} {y : Option (DataW H × List MemPlace)} (hu : Try.prog.underlying u = some (.int κ)) (hc : Try.prog.cellsOf u = 1) {s' : List Value} (hd : cs.drop o = v :: s') (hy : y ≠ none)
    (h : DataW.trod enc Try.prog w base spare held fuel u ((cs.drop o).take (Try.prog.cellsOf u)) = y) : ∃ x : Int, v = .int κ x ∧ (Lit.int κ x).wf = true := by
  cases y with
  | none => exact absurd rfl hy
  | some y =>
    rw [hc, hd] at h
    obtain ⟨x, e, _, wf⟩ := DataW.trod_int hu (cs := [v]) (by simpa using h)
    simp at e
    exact ⟨x, e, wf⟩
theorem one_bool {u : TypeId} {v : Value} {cs : List Value} {o : Nat} {y : Option (DataW H × List MemPlace)} (hu : Try.prog.underlying u = some .bool) (hc : Try.prog.cellsOf u = 1) {s' : List Value} (hd : cs.drop o = v :: s') (hy : y ≠ none)
    (h : DataW.trod enc Try.prog w base spare held fuel u ((cs.drop o).take (Try.prog.cellsOf u)) = y) : ∃ x : Bool, v = .bool x := by
  cases y with
  | none => exact absurd rfl hy
  | some y =>
    rw [hc, hd] at h
    obtain ⟨x, e, _⟩ := DataW.trod_bool hu (cs := [v]) (by simpa using h)
    simp at e
    exact ⟨x, e⟩
theorem at_take {u : TypeId} {cs : List Value} {o c : Nat} {y : Option (DataW H × List MemPlace)} (hc : Try.prog.cellsOf u = c)
    (h : DataW.trod enc Try.prog w base spare held fuel u ((cs.drop o).take (Try.prog.cellsOf u)) = y) : DataW.trod enc Try.prog w base spare held fuel u ((cs.drop o).take c) = y := by rw [hc] at h; exact h
theorem get_some' {α : Type} {xs : List α} {n i : Nat} (h : xs.length = n) (hi : i < n) : xs[i]? ≠ none := by
  rw [List.getElem?_eq_getElem (by omega)]; simp
theorem list18 {cs : List Value} (h : cs.length = 18) : ∃ v0 v1 v2 v3 v4 v5 v6 v7 v8 v9 v10 v11 v12 v13 v14 v15 v16 v17, cs = [v0, v1, v2, v3, v4, v5, v6, v7, v8, v9, v10, v11, v12, v13, v14, v15, v16, v17] := by
  match cs, h with
  | [v0, v1, v2, v3, v4, v5, v6, v7, v8, v9, v10, v11, v12, v13, v14, v15, v16, v17], _ => exact ⟨v0, v1, v2, v3, v4, v5, v6, v7, v8, v9, v10, v11, v12, v13, v14, v15, v16, v17, rfl⟩
/-- eighteen cells that read as a call -/
theorem one_call {cs : List Value} {x : DataW H × List MemPlace} (hl : cs.length = 18) (h : DataW.trod enc Try.prog w base spare held fuel 47 cs = some x) : ∃ c : C, cs = [.int .i64 c.t, .int .i64 c.i, .int .u8 c.k, .int .u64 c.p0, .int .u64 c.p1, .int .u64 c.p2, .int .u64 c.p3, .int .u64 c.p4, .int .u64 c.p5, .int .i64 c.v, .int .i64 c.u, .int .i64 c.a, .int .i64 c.s, .int .i64 c.re, .bool c.rf, .int .u64 c.rk, .int .u64 c.rv, .int .i64 c.rc] ∧ Bd1 c := by
  obtain ⟨v0, v1, v2, v3, v4, v5, v6, v7, v8, v9, v10, v11, v12, v13, v14, v15, v16, v17, rfl⟩ := list18 hl
  obtain ⟨xs, n, _, _, _, hlen, hat⟩ := DataW.trod_struct Try.underlying47 h
  have hlen : xs.length = 8 := hlen
  have h2 := at_take cells_op (hat 2 _ rfl)
  have h7 := at_take cells_res (hat 7 _ rfl)
  obtain ⟨z2, e2⟩ : ∃ z, xs[2]? = some z := ⟨_, List.getElem?_eq_getElem (by omega)⟩
  obtain ⟨z7, e7⟩ : ∃ z, xs[7]? = some z := ⟨_, List.getElem?_eq_getElem (by omega)⟩
  rw [e2] at h2
  rw [e7] at h7
  obtain ⟨ys, n1, _, _, _, hl1, hat1⟩ := DataW.trod_struct Try.underlying43 h2
  have hl1 : ys.length = 7 := hl1
  obtain ⟨zs, n2, _, _, _, hl2, hat2⟩ := DataW.trod_struct Try.underlying45 h7
  have hl2 : zs.length = 5 := hl2
  obtain ⟨x0, rfl, w0⟩ := one_int (v := v0) Try.underlying3 cells_int rfl (get_some' hlen (by decide)) (hat 0 _ rfl)
  obtain ⟨x1, rfl, w1⟩ := one_int (v := v1) Try.underlying3 cells_int rfl (get_some' hlen (by decide)) (hat 1 _ rfl)
  obtain ⟨x2, rfl, w2⟩ := one_int (v := v2) Try.underlying5 cells_u8 rfl (get_some' hl1 (by decide)) (hat1 0 _ rfl)
  obtain ⟨x3, rfl, w3⟩ := one_int (v := v3) Try.underlying41 cells_u64 rfl (get_some' hl1 (by decide)) (hat1 1 _ rfl)
  obtain ⟨x4, rfl, w4⟩ := one_int (v := v4) Try.underlying41 cells_u64 rfl (get_some' hl1 (by decide)) (hat1 2 _ rfl)
  obtain ⟨x5, rfl, w5⟩ := one_int (v := v5) Try.underlying41 cells_u64 rfl (get_some' hl1 (by decide)) (hat1 3 _ rfl)
  obtain ⟨x6, rfl, w6⟩ := one_int (v := v6) Try.underlying41 cells_u64 rfl (get_some' hl1 (by decide)) (hat1 4 _ rfl)
  obtain ⟨x7, rfl, w7⟩ := one_int (v := v7) Try.underlying41 cells_u64 rfl (get_some' hl1 (by decide)) (hat1 5 _ rfl)
  obtain ⟨x8, rfl, w8⟩ := one_int (v := v8) Try.underlying41 cells_u64 rfl (get_some' hl1 (by decide)) (hat1 6 _ rfl)
  obtain ⟨x9, rfl, w9⟩ := one_int (v := v9) Try.underlying3 cells_int rfl (get_some' hlen (by decide)) (hat 3 _ rfl)
  obtain ⟨x10, rfl, w10⟩ := one_int (v := v10) Try.underlying3 cells_int rfl (get_some' hlen (by decide)) (hat 4 _ rfl)
  obtain ⟨x11, rfl, w11⟩ := one_int (v := v11) Try.underlying3 cells_int rfl (get_some' hlen (by decide)) (hat 5 _ rfl)
  obtain ⟨x12, rfl, w12⟩ := one_int (v := v12) Try.underlying3 cells_int rfl (get_some' hlen (by decide)) (hat 6 _ rfl)
  obtain ⟨x13, rfl, w13⟩ := one_int (v := v13) Try.underlying24 cells_err rfl (get_some' hl2 (by decide)) (hat2 0 _ rfl)
  obtain ⟨x14, rfl⟩ := one_bool (v := v14) Try.underlying4 cells_bool rfl (get_some' hl2 (by decide)) (hat2 1 _ rfl)
  obtain ⟨x15, rfl, w15⟩ := one_int (v := v15) Try.underlying41 cells_u64 rfl (get_some' hl2 (by decide)) (hat2 2 _ rfl)
  obtain ⟨x16, rfl, w16⟩ := one_int (v := v16) Try.underlying41 cells_u64 rfl (get_some' hl2 (by decide)) (hat2 3 _ rfl)
  obtain ⟨x17, rfl, w17⟩ := one_int (v := v17) Try.underlying3 cells_int rfl (get_some' hl2 (by decide)) (hat2 4 _ rfl)
  exact ⟨⟨x0, x1, x2, x3, x4, x5, x6, x7, x8, x9, x10, x11, x12, x13, x14, x15, x16, x17⟩, rfl, ⟨bounds_i64 w0, bounds_i64 w1, bounds_u8 w2, bounds_u64 w3, bounds_u64 w4, bounds_u64 w5, bounds_u64 w6, bounds_u64 w7, bounds_u64 w8, bounds_i64 w9, bounds_i64 w10, bounds_i64 w11, bounds_i64 w12, bounds_i64 w13, bounds_u64 w15, bounds_u64 w16, bounds_i64 w17⟩⟩
end
section
variable {H : Type} {enc : TypeId × Value → H} {w : World} {base b0 : Nat} {spare : Nat → Bool} {held : Bool} {r : Reach}
set_option maxRecDepth 100000 in
theorem open_calls {v : Value} {d : DataW H} {p : List MemPlace} (hv : Value.okWide Try.prog w r b0 22 v) (h : DataW.Trod enc Try.prog w base spare held 22 v d p) :
    ∃ (A : Option Addr) (n c : Nat) (l : List C), v = .slice A n c ∧ l.length = n ∧ n ≤ maxLen ∧ KC.Rd w A l ∧ Bd l ∧ (A = none → c = 0) := by
  obtain ⟨A, n, c, rfl⟩ := okWide_slice Try.underlying22 hv
  obtain ⟨fuel, hf⟩ := h
  rcases open_slice Try.underlying22 hf with ⟨hcs, hx⟩ | ⟨a, len, cap, m, q, D, Pl, hcs, hb, hl, hm, hmm, hx, hi⟩
  · simp [Value.cells] at hcs
    obtain ⟨rfl, rfl, rfl⟩ := hcs
    exact ⟨none, 0, 0, [], rfl, rfl, Nat.zero_le _, fun k x hk => (by simp at hk), fun x hx => (by cases hx), fun _ => rfl⟩
  · simp [Value.cells] at hcs
    obtain ⟨rfl, rfl, rfl⟩ := hcs
    have hlm : n ≤ m := by rw [hmm]; split <;> omega
    have each : ∀ i, i < n → ∃ x : C, Bd1 x ∧ ∀ j u, (KC.enc x)[j]? = some u → w.cell? (a.add (i * 18 + j)) = some u := by
      intro i hin
      obtain ⟨cs', hcs, ht⟩ := hi i (by omega)
      rw [cellsOf_call] at hcs
      obtain ⟨_, hcl, hat⟩ := World.cells?_some hcs
      obtain ⟨x, rfl, hb1⟩ := one_call hcl ht
      refine ⟨x, hb1, fun j u hj => ?_⟩
      have hj18 : j < 18 := by have := (List.getElem?_eq_some_iff.1 hj).1; simpa [KC] using this
      have := hat j hj18
      rw [Go.Deep.add_add] at this
      rw [this]
      exact hj
    have each' : ∃ g : Nat → C, ∀ i, i < n → Bd1 (g i) ∧ ∀ j u, (KC.enc (g i))[j]? = some u → w.cell? (a.add (i * 18 + j)) = some u := by
      refine ⟨fun i => if hi : i < n then Classical.choose (each i hi) else c0, fun i hi => ?_⟩
      simp only [dif_pos hi]
      exact Classical.choose_spec (each i hi)
    obtain ⟨g, hg⟩ := each'
    refine ⟨some a, n, c, (List.range n).map g, rfl, by simp, by omega, ?_, ?_, fun h => (by cases h)⟩
    · intro k x hk
      have hkn : k < n := by have := (List.getElem?_eq_some_iff.1 hk).1; simpa using this
      rw [List.getElem?_map, List.getElem?_range hkn] at hk
      simp only [Option.map_some, Option.some.injEq] at hk
      subst hk
      obtain ⟨b, o, s⟩ := a
      have z0 := (hg 0 (by omega)).2 0 _ rfl
      have hs : s = none := spot_none (a := ⟨b, o, s⟩) (by simpa [Addr.add] using z0)
      subst hs
      refine ⟨b, o, rfl, fun j u hj => ?_⟩
      have := (hg k hkn).2 j u hj
      rw [addr_lit, ← Nat.add_assoc] at this
      exact this
    · intro x hx
      simp only [List.mem_map, List.mem_range] at hx
      obtain ⟨i, hin, rfl⟩ := hx
      exact (hg i hin).1
theorem cap_calls {A : Option Addr} {n c : Nat} {d : DataW H} {p : List MemPlace} (h : DataW.Trod enc Try.prog w base spare held 22 (.slice A n c) d p) : n ≤ c ∧ c ≤ maxLen := by
  obtain ⟨fuel, hf⟩ := h
  rcases open_slice Try.underlying22 hf with ⟨hcs, hx⟩ | ⟨a, len, cap, m, q, D, Pl, hcs, hb, hl, hm, hmm, hx, hi⟩
  · simp [Value.cells] at hcs
    obtain ⟨rfl, rfl, rfl⟩ := hcs
    exact ⟨Nat.le_refl _, Nat.zero_le _⟩
  · simp [Value.cells] at hcs
    obtain ⟨rfl, rfl, rfl⟩ := hcs
    exact ⟨hl, hm⟩
def BdI (l : List Int) : Prop := ∀ x ∈ l, I64 x
set_option maxRecDepth 100000 in
theorem open_ints {v : Value} {d : DataW H} {p : List MemPlace} (hv : Value.okWide Try.prog w r b0 30 v) (h : DataW.Trod enc Try.prog w base spare held 30 v d p) :
    ∃ (A : Option Addr) (n c : Nat) (l : List Int), v = .slice A n c ∧ l.length = n ∧ n ≤ maxLen ∧ KI.Rd w A l ∧ BdI l ∧ (A = none → c = 0) := by
  obtain ⟨A, n, c, rfl⟩ := okWide_slice Try.underlying30 hv
  obtain ⟨fuel, hf⟩ := h
  rcases open_slice1 Try.underlying30 (by kernel_rfl) (by simpa [Value.cells] using hf) with ⟨h0, _⟩ | ⟨a, n', c', m, q, V, D, Pl, h0, hb, hl, hm, hmm, _, hi⟩
  · simp at h0
    obtain ⟨rfl, rfl, rfl⟩ := h0
    exact ⟨none, 0, 0, [], rfl, rfl, Nat.zero_le _, fun k x hk => (by simp at hk), fun x hx => (by cases hx), fun _ => rfl⟩
  · simp at h0
    obtain ⟨rfl, rfl, rfl⟩ := h0
    have hnm : n ≤ m := by rw [hmm]; split <;> omega
    have each : ∀ i, i < n → ∃ x : Int, I64 x ∧ w.cell? (a.add i) = some (.int .i64 x) := by
      intro i hin
      obtain ⟨g, t0⟩ := hi i (by omega)
      obtain ⟨x, e0, _, w0⟩ := DataW.trod_int Try.underlying3 t0
      simp at e0
      rw [e0] at g
      exact ⟨x, bounds_i64 w0, g⟩
    have each' : ∃ g : Nat → Int, ∀ i, i < n → I64 (g i) ∧ w.cell? (a.add i) = some (.int .i64 (g i)) := by
      refine ⟨fun i => if hi : i < n then Classical.choose (each i hi) else 0, fun i hi => ?_⟩
      simp only [dif_pos hi]
      exact Classical.choose_spec (each i hi)
    obtain ⟨g, hg⟩ := each'
    refine ⟨some a, n, c, (List.range n).map g, rfl, by simp, by omega, ?_, ?_, fun h => (by cases h)⟩
    · intro k x hk
      have hkn : k < n := by have := (List.getElem?_eq_some_iff.1 hk).1; simpa using this
      rw [List.getElem?_map, List.getElem?_range hkn] at hk
      simp only [Option.map_some, Option.some.injEq] at hk
      subst hk
      obtain ⟨b, o, s⟩ := a
      have z0 := (hg 0 (by omega)).2
      have hs : s = none := spot_none (a := ⟨b, o, s⟩) (by simpa [Addr.add] using z0)
      subst hs
      refine ⟨b, o, rfl, fun j u hj => ?_⟩
      have hj1 : j < 1 := by have := (List.getElem?_eq_some_iff.1 hj).1; simpa [KI] using this
      obtain rfl : j = 0 := by omega
      have := (hg k hkn).2
      rw [addr_lit] at this
      simp only [KI, List.getElem?_cons_zero, Option.some.injEq] at hj
      subst hj
      simpa [KI] using this
    · intro x hx
      simp only [List.mem_map, List.mem_range] at hx
      obtain ⟨i, hin, rfl⟩ := hx
      exact (hg i hin).1
theorem cap_ints {A : Option Addr} {n c : Nat} {d : DataW H} {p : List MemPlace} (h : DataW.Trod enc Try.prog w base spare held 30 (.slice A n c) d p) : n ≤ c ∧ c ≤ maxLen := by
  obtain ⟨fuel, hf⟩ := h
  rcases open_slice1 Try.underlying30 (by kernel_rfl) (by simpa [Value.cells] using hf) with ⟨hcs, hx⟩ | ⟨a, len, cap, m, q, V, D, Pl, hcs, hb, hl, hm, hmm, hx, hi⟩
  · simp at hcs
    obtain ⟨rfl, rfl, rfl⟩ := hcs
    exact ⟨Nat.le_refl _, Nat.zero_le _⟩
  · simp at hcs
    obtain ⟨rfl, rfl, rfl⟩ := hcs
    exact ⟨hl, hm⟩
end
end Hi
end Go.Proofs.Ytgfhfcjjodcgdaa
