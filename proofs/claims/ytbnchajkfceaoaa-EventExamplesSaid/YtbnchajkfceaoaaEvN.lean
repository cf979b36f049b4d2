/- Rows of elements of one size (events, sections, waits) in memory: what is read, what the call has built, append; arguments that are a list of events. No conditions beside those of each lemma. -/
import Derived.Test.YtbnchajkfceaoaaEvT
import Derived.Test.YtbnchajkfceaoaaRows
import Derived.WalkKit
import Derived.ProofKit
import Derived.OpenShut
import Derived.Outline
import Derived.WalkLawsBesides
import Derived.Deep.QuietTactic
import Derived.BigQuiet
import Derived.Lib.QuietBelow
import Derived.Lib.Hide
import Derived.Deep.Slices
import Derived.Deep.Fields
import Derived.ChangeSame
import Derived.Lib.SmallJoins
import Derived.OwnWalk
import Derived.WalkSpells
import Derived.Laws.AppendOwnNone
import Derived.Maps.AppendAt
namespace Go.Proofs.Ytbnchajkfceaoaa
open Go.RowKit Go.Sort Go.ChangeShapes Go.WideShapes Go.Deep Go.Joins
set_option linter.unusedVariables false
set_option linter.unusedSimpArgs false
namespace Ev
theorem bel_alloc {W w : World} (h : Below W.heap.size W w) (o : Obj) : Below W.heap.size W (w.alloc o) := h.alloc h.size o
theorem bel_trans {W w w1 : World} (h : Below W.heap.size W w) (h1 : Below w.heap.size w w1) : Below W.heap.size W w1 := h.trans (h1.mono h.size)
theorem bel_draw {B : Nat} {a w : World} (h : Below B a w) : Below B a w.drew := ⟨h.os, h.tape, h.output, h.size, h.block⟩
theorem bel_drawN {B : Nat} {a w : World} (h : Below B a w) (n : Nat) : Below B a (w.drewN n) := ⟨h.os, h.tape, h.output, h.size, h.block⟩
theorem ret_eq {a b : Value} (h : a = b) : Ending.returned a = Ending.returned b := by rw [h]
theorem cell_lt {w : World} {b o : Nat} {v : Value} (h : w.cell? ⟨b, o, none⟩ = some v) : b < w.heap.size := World.block_lt_of_cell? w _ h
theorem spot_none {w : World} {a : Addr} {v : Value} (h : w.cell? a = some v) : a.spot = none := by
  unfold World.cell? at h
  split at h
  · split at h
    · cases h
    · rename_i hs; simpa using hs
  · cases h
theorem info_parts {i? : Option TypeInfo} {z : Value} {s b : Nat} (h : i?.map (fun i => (i.zero, i.size, i.bytes)) = some (some z, s, b)) (hz : z.cells.size = s) : ∃ i0 z, i? = some i0 ∧ i0.zero = some z ∧ z.cells.size = s ∧ i0.size = s ∧ i0.bytes = b := by
  cases i? with
  | none => cases h
  | some i => simp at h; exact ⟨i, z, rfl, h.1, hz, h.2.1, h.2.2⟩
/-- a kind of element -/
structure Kd (α : Type) where
  E : TypeId
  S : TypeId
  sz : Nat
  bt : Nat
  enc : α → List Value
  len : ∀ x, (enc x).length = sz
  pos : 0 < sz
  bpos : bt ≤ 64
  one : ∀ x, ∀ u ∈ enc x, u.oneCell' = true
  und : Try.prog.underlying S = some (.slice E)
  info : ∃ i z, Try.prog.info? E = some i ∧ i.zero = some z ∧ z.cells.size = sz ∧ i.size = sz ∧ i.bytes = bt
variable {α : Type}
theorem addr_lit (b o k : Nat) : (⟨b, o, none⟩ : Addr).add k = ⟨b, o + k, none⟩ := by simp [Addr.add]
def Kd.flat (K : Kd α) (l : List α) : List Value := l.flatMap K.enc
theorem Kd.flat_len (K : Kd α) : ∀ l : List α, (K.flat l).length = l.length * K.sz
  | [] => by simp [Kd.flat]
  | x :: l => by
    have := K.flat_len l
    simp only [Kd.flat, List.flatMap_cons, List.length_append, K.len, List.length_cons] at this ⊢
    rw [this, Nat.succ_mul]; omega
theorem Kd.flat_append (K : Kd α) (l m : List α) : K.flat (l ++ m) = K.flat l ++ K.flat m := by simp [Kd.flat]
theorem Kd.flat_one (K : Kd α) (x : α) : K.flat [x] = K.enc x := by simp [Kd.flat]
theorem Kd.flat_cell (K : Kd α) (l : List α) : ∀ u ∈ K.flat l, u.oneCell' = true := fun u hu => by
  simp only [Kd.flat, List.mem_flatMap] at hu
  obtain ⟨x, _, hu⟩ := hu
  exact K.one x u hu
theorem Kd.flat_get (K : Kd α) : ∀ (l : List α) (k j : Nat), j < K.sz → (K.flat l)[k * K.sz + j]? = (l[k]?).bind fun x => (K.enc x)[j]?
  | [], k, j, h => by simp [Kd.flat]
  | x :: l, 0, j, h => by
    have : (K.flat (x :: l))[j]? = (K.enc x)[j]? := by
      rw [show K.flat (x :: l) = K.enc x ++ K.flat l from rfl, List.getElem?_append_left (by rw [K.len]; exact h)]
    simpa using this
  | x :: l, k + 1, j, h => by
    have : (K.flat (x :: l))[(k + 1) * K.sz + j]? = (K.flat l)[k * K.sz + j]? := by
      rw [show K.flat (x :: l) = K.enc x ++ K.flat l from rfl, List.getElem?_append_right (by rw [K.len, Nat.succ_mul]; omega)]
      congr 1
      rw [K.len, Nat.succ_mul]; omega
    rw [this, K.flat_get l k j h]
    rfl
/-- the cells of an element at ⟨b, o⟩ -/
def Kd.At (K : Kd α) (w : World) (b o : Nat) (x : α) : Prop := ∀ j u, (K.enc x)[j]? = some u → w.cell? ⟨b, o + j, none⟩ = some u
theorem Kd.At.keep {K : Kd α} {w w' : World} {b o : Nat} {x : α} (h : K.At w b o x) (hb : w'.heap[b]? = w.heap[b]?) : K.At w' b o x := fun j u hj =>
  (World.cell?_of_block (a := ⟨b, o + j, none⟩) hb).trans (h j u hj)
theorem Kd.At.lt {K : Kd α} {w : World} {b o : Nat} {x : α} (h : K.At w b o x) : b < w.heap.size := by
  have h0 : 0 < (K.enc x).length := by rw [K.len]; exact K.pos
  exact World.block_lt_of_cell? w _ (h 0 _ (List.getElem?_eq_getElem h0))
/-- from the address A on lie the elements l -/
def Kd.Rd (K : Kd α) (w : World) (A : Option Addr) (l : List α) : Prop := ∀ (i : Nat) (x : α), l[i]? = some x → ∃ b o, A = some ⟨b, o, none⟩ ∧ K.At w b (o + i * K.sz) x
theorem Kd.Rd.keep {K : Kd α} {w w' : World} {A : Option Addr} {l : List α} (h : K.Rd w A l) (hb : ∀ b, b < w.heap.size → (∃ a, A = some a ∧ a.block = b) → w'.heap[b]? = w.heap[b]?) : K.Rd w' A l := by
  intro i x hi
  obtain ⟨b, o, e, c⟩ := h i x hi
  exact ⟨b, o, e, c.keep (hb b c.lt ⟨_, e, rfl⟩)⟩
theorem Kd.Rd.below {K : Kd α} {w w' : World} {A : Option Addr} {l : List α} (h : K.Rd w A l) (hb : Below w.heap.size w w') : K.Rd w' A l :=
  h.keep fun b lt _ => hb.block b lt
theorem Kd.Rd.cells {K : Kd α} {w : World} {b o : Nat} {l : List α} (h : K.Rd w (some ⟨b, o, none⟩) l) : ∀ j u, (K.flat l)[j]? = some u → w.cell? (Addr.add ⟨b, o, none⟩ j) = some u := fun j u hj => by
  have hlt := (List.getElem?_eq_some_iff.1 hj).1
  rw [K.flat_len] at hlt
  have e : j = j / K.sz * K.sz + j % K.sz := by rw [Nat.mul_comm]; exact (Nat.div_add_mod j K.sz).symm
  have hm : j % K.sz < K.sz := Nat.mod_lt _ K.pos
  rw [e, K.flat_get l _ _ hm] at hj
  have hk : j / K.sz < l.length := Nat.div_lt_of_lt_mul (by rw [Nat.mul_comm]; exact hlt)
  rw [List.getElem?_eq_getElem hk] at hj
  obtain ⟨b', o', e', c⟩ := h (j / K.sz) _ (List.getElem?_eq_getElem hk)
  cases e'
  rw [addr_lit]
  have := c _ _ hj
  rw [Nat.add_assoc, ← e] at this
  exact this
/-- what a row of the call's own reads as -/
theorem Kd.row_get (K : Kd α) {w : World} {base g n cap : Nat} {l : List α} (h : w.ownsRow base K.E K.sz (.slice (some ⟨g, 0, none⟩) n cap) n (K.flat l)) : K.Rd w (some ⟨g, 0, none⟩) l := fun i x hi => by
  have hp := K.pos
  have hl : l.length = n := by have := h.1; rw [K.flat_len] at this; exact Nat.eq_of_mul_eq_mul_right hp this
  have hin : i < n := by have := (List.getElem?_eq_some_iff.1 hi).1; omega
  refine ⟨g, 0, rfl, fun j u hj => ?_⟩
  have hjs : j < K.sz := by have := (List.getElem?_eq_some_iff.1 hj).1; rw [K.len] at this; exact this
  have h1 : (i + 1) * K.sz ≤ n * K.sz := Nat.mul_le_mul_right _ hin
  rw [Nat.succ_mul] at h1
  rw [Nat.zero_add, h.cellAt _ (by omega), K.flat_get l i j hjs, hi]
  exact hj
theorem Kd.row (K : Kd α) {w : World} {base n : Nat} {v : Value} {l : List α} (h : w.ownsRow base K.E K.sz v n (K.flat l)) : l.length = n ∧ ∃ A c, v = .slice A n c ∧ n ≤ c ∧ K.Rd w A l ∧ (A = none → c = 0) ∧ (∀ a, A = some a → base ≤ a.block ∧ a.block < w.heap.size) := by
  have hl : l.length = n := by have := h.1; rw [K.flat_len] at this; exact Nat.eq_of_mul_eq_mul_right K.pos this
  refine ⟨hl, ?_⟩
  have h0 := h
  rcases h.2 with ⟨rfl, rfl⟩ | ⟨g, cap, cur, rfl, hbase, hh, hnc, _⟩
  · obtain rfl : l = [] := List.eq_nil_of_length_eq_zero hl
    exact ⟨none, 0, rfl, Nat.le_refl _, fun k x hk => (by simp at hk), fun _ => rfl, fun a e => (by cases e)⟩
  · exact ⟨_, cap, rfl, hnc, K.row_get h, fun e => (by cases e), fun a e => (by
      injection e with e; subst e
      exact ⟨hbase, (h0.lt g rfl).2⟩)⟩
theorem Kd.nil (K : Kd α) (w : World) (base : Nat) : w.ownsRow base K.E K.sz (.slice none 0 0) 0 (K.flat []) := World.ownsRow_nil _ _ _ _
/-- what an append onto the row v keeps -/
structure Kp (w : World) (v : Value) (w' : World) (v' : Value) : Prop where
  blk : ∀ k, k < w.heap.size → v.ownBlock ≠ some k → w'.heap[k]? = w.heap[k]?
  own : ∀ k, v'.ownBlock = some k → v.ownBlock = some k ∨ w.heap.size ≤ k
  size : w.heap.size ≤ w'.heap.size
  os : w'.os = w.os
  tape : w'.tape = w.tape
  output : w'.output = w.output
theorem Kp.bel {w w' : World} {v v' : Value} (h : Kp w v w' v') {B : Nat} (hB : B ≤ w.heap.size) (hv : ∀ k, v.ownBlock = some k → B ≤ k) : Below B w w' :=
  ⟨h.os, h.tape, h.output, h.size, fun k hk => h.blk k (by omega) fun e => by have := hv k e; omega⟩
/-- 'append(l, a)': onto a row of one's own -/
theorem Kd.app1 (K : Kd α) {ops : Array Oper} {rest : List Oper} {o : Oper} {a : Act} {Q : Exit → Act → World → Prop} (hgd : o.guard = none) (s x : Operand)
    (ho : o.op = .call { callee := .builtin .append, args := #[s, x], argTypes := #[K.S, K.S] }) (w : World) (base n : Nat) (v : Value) (ys : List α) (y : α)
    (hs : a.eval s = v) (g : Nat) (hx : a.eval x = .slice (some ⟨g, 0, none⟩) 1 1) (hg : K.At w g 0 y) (hown : w.ownsRow base K.E K.sz v n (K.flat ys)) (hn : n ≤ 100000) (hb : base ≤ w.heap.size)
    (h : ∀ v' w', w'.ownsRow base K.E K.sz v' (n + 1) (K.flat (ys ++ [y])) → Kp w v w' v' → wpList Try.prog ops Q rest (a.put o.dst v') w') :
    wpList Try.prog ops Q (o :: rest) a w := by
  obtain ⟨i0, z, hi, hz0, hzs, hz1, hz2⟩ := K.info
  have hbt := K.bpos
  have hp := K.pos
  have hbytes : (n + 1) * K.bt ≤ 140737488355328 := by
    have : (n + 1) * K.bt ≤ 100001 * 64 := Nat.mul_le_mul (by omega) hbt
    omega
  refine wpList_append_own_at _ hgd s x K.S ho base K.E i0 z K.sz K.bt K.und hi hz0 hz1 hz2 hzs hp v n (K.flat ys) hs hown ⟨g, 0, none⟩ 1 1 (K.enc y) hx (by rw [K.len, Nat.one_mul]) ?_ ?_ (by unfold maxLen; omega) hbytes hb ?_
  · intro j u hj
    rw [addr_lit]
    exact hg j u hj
  · exact K.one y
  · intro v' w' h1 h2 _ h4
    rw [show K.flat ys ++ K.enc y = K.flat (ys ++ [y]) by rw [K.flat_append, K.flat_one]] at h1
    refine h v' w' h1 ⟨fun k hk hne => h2.block k hk (fun e => hne e.symm), fun k hk => ?_, h2.size, h2.os, h2.tape, h2.output⟩
    rcases h4 with e | e
    · exact .inl (e.symm.trans hk)
    · rw [hk] at e; injection e with e; exact .inr (by omega)
/-- 'append(l, xs...)': a list put behind a row of one's own -/
theorem Kd.appAll (K : Kd α) {ops : Array Oper} {rest : List Oper} {o : Oper} {a : Act} {Q : Exit → Act → World → Prop} (hgd : o.guard = none) (s x : Operand)
    (ho : o.op = .call { callee := .builtin .append, args := #[s, x], argTypes := #[K.S, K.S] }) (w : World) (base n : Nat) (v : Value) (ys : List α) (A : Option Addr) (m c : Nat) (l : List α)
    (hs : a.eval s = v) (hx : a.eval x = .slice A m c) (hown : w.ownsRow base K.E K.sz v n (K.flat ys)) (hl : l.length = m) (hr : K.Rd w A l) (hnil : A = none → c = 0) (hn : n + m ≤ 100000) (hb : base ≤ w.heap.size)
    (h : ∀ v' w', w'.ownsRow base K.E K.sz v' (n + m) (K.flat (ys ++ l)) → Below base w w' → wpList Try.prog ops Q rest (a.put o.dst v') w') :
    wpList Try.prog ops Q (o :: rest) a w := by
  obtain ⟨i0, z, hi, hz0, hzs, hz1, hz2⟩ := K.info
  have hbt := K.bpos
  have hp := K.pos
  have hbytes : (n + m) * K.bt ≤ 140737488355328 := by
    have : (n + m) * K.bt ≤ 100000 * 64 := Nat.mul_le_mul hn hbt
    omega
  cases A with
  | none =>
    have hl0 : l = [] := by
      cases l with
      | nil => rfl
      | cons x l => obtain ⟨b, o, e, _⟩ := hr 0 x rfl; cases e
    subst hl0
    obtain rfl : m = 0 := by simpa using hl.symm
    obtain rfl := hnil rfl
    rw [List.append_nil] at h
    exact wpList_append_own_none hgd s x K.S ho base K.E i0 K.sz K.und hi v n (K.flat ys) hs hown hx (h _ _ hown (Below.refl _ _))
  | some ad =>
    by_cases h0 : l = []
    · subst h0
      obtain rfl : m = 0 := by simpa using hl.symm
      rw [List.append_nil] at h
      refine wpList_append_own _ hgd s x K.S ho base K.E i0 z K.sz K.bt K.und hi hz0 hz1 hz2 hzs hp v n (K.flat ys) hs hown ad 0 c [] hx (by simp) (fun j u hj => by simp at hj) (fun u hu => by simp at hu) (by unfold maxLen; omega) hbytes hb ?_
      intro v' w' h1 h2 _
      rw [List.append_nil] at h1
      exact h v' w' h1 ((Below.refl _ w).grown h2 hb fun k hk => (hown.lt k hk).1)
    · obtain ⟨x0, h1⟩ : ∃ x, l[0]? = some x := by cases l with
        | nil => exact absurd rfl h0
        | cons x l => exact ⟨x, rfl⟩
      obtain ⟨b, o', e, _⟩ := hr 0 x0 h1
      cases e
      refine wpList_append_own _ hgd s x K.S ho base K.E i0 z K.sz K.bt K.und hi hz0 hz1 hz2 hzs hp v n (K.flat ys) hs hown _ m c (K.flat l) hx (by rw [K.flat_len, hl]) hr.cells (K.flat_cell l) (by unfold maxLen; omega) hbytes hb ?_
      intro v' w' h1 h2 _
      rw [← K.flat_append] at h1
      exact h v' w' h1 ((Below.refl _ w).grown h2 hb fun k hk => (hown.lt k hk).1)
/-- a row is as it was where its block is -/
theorem Kd.own_keep (K : Kd α) {w w' : World} {base : Nat} {v : Value} {n : Nat} {xs : List Value} (h : w.ownsRow base K.E K.sz v n xs) (hb : ∀ g, v.ownBlock = some g → w'.heap[g]? = w.heap[g]?) : w'.ownsRow base K.E K.sz v n xs := by
  rcases h.2 with ⟨rfl, rfl⟩ | ⟨g, cap, cur, rfl, h1, h2, h3, h4, h5, h6⟩
  · exact ⟨h.1, .inl ⟨rfl, rfl⟩⟩
  · exact ⟨h.1, .inr ⟨g, cap, cur, rfl, h1, (hb g rfl).trans h2, h3, h4, h5, h6⟩⟩
theorem row_base {w : World} {E : TypeId} {sz b b' n : Nat} {v : Value} {xs : List Value} (h : w.ownsRow b E sz v n xs) (hb : b' ≤ b) : w.ownsRow b' E sz v n xs := by
  rcases h.2 with ⟨rfl, rfl⟩ | ⟨g, cap, cur, rfl, h1, h2, h3, h4, h5, h6⟩
  · exact ⟨h.1, .inl ⟨rfl, rfl⟩⟩
  · exact ⟨h.1, .inr ⟨g, cap, cur, rfl, by omega, h2, h3, h4, h5, h6⟩⟩

def KE : Kd E where
  E := 57
  S := 22
  sz := 4
  bt := 32
  enc := fun x => [.int .i64 x.s, .int .i64 x.t, .int .u8 x.k, .int .u64 x.v]
  len := fun _ => rfl
  pos := by decide
  bpos := by decide
  one := fun x u hu => by simp at hu; rcases hu with rfl | rfl | rfl | rfl <;> rfl
  und := Try.underlying22
  info := info_parts (z := .agg #[.int .i64 0, .int .i64 0, .int .u8 0, .int .u64 0]) (by kernel_rfl) rfl
def KS : Kd I where
  E := 41
  S := 28
  sz := 4
  bt := 32
  enc := fun x => [.int .i64 x.t, .int .u64 x.v, .int .i64 x.a, .int .i64 x.b]
  len := fun _ => rfl
  pos := by decide
  bpos := by decide
  one := fun x u hu => by simp at hu; rcases hu with rfl | rfl | rfl | rfl <;> rfl
  und := Try.underlying28
  info := info_parts (z := .agg #[.int .i64 0, .int .u64 0, .int .i64 0, .int .i64 0]) (by kernel_rfl) rfl
def KW : Kd I where
  E := 43
  S := 32
  sz := 4
  bt := 32
  enc := fun x => [.int .i64 x.t, .int .u64 x.v, .int .i64 x.a, .int .i64 x.b]
  len := fun _ => rfl
  pos := by decide
  bpos := by decide
  one := fun x u hu => by simp at hu; rcases hu with rfl | rfl | rfl | rfl <;> rfl
  und := Try.underlying32
  info := info_parts (z := .agg #[.int .i64 0, .int .u64 0, .int .i64 0, .int .i64 0]) (by kernel_rfl) rfl
/-- the four cells of an element at ⟨b, o⟩ -/
theorem KE.cells {w : World} {b o : Nat} {x : E} (h : KE.At w b o x) : w.cell? ⟨b, o, none⟩ = some (.int .i64 x.s) ∧ w.cell? ⟨b, o + 1, none⟩ = some (.int .i64 x.t) ∧ w.cell? ⟨b, o + 2, none⟩ = some (.int .u8 x.k) ∧ w.cell? ⟨b, o + 3, none⟩ = some (.int .u64 x.v) :=
  ⟨h 0 _ rfl, h 1 _ rfl, h 2 _ rfl, h 3 _ rfl⟩
theorem KS.cells {w : World} {b o : Nat} {x : I} (h : KS.At w b o x) : w.cell? ⟨b, o, none⟩ = some (.int .i64 x.t) ∧ w.cell? ⟨b, o + 1, none⟩ = some (.int .u64 x.v) ∧ w.cell? ⟨b, o + 2, none⟩ = some (.int .i64 x.a) ∧ w.cell? ⟨b, o + 3, none⟩ = some (.int .i64 x.b) :=
  ⟨h 0 _ rfl, h 1 _ rfl, h 2 _ rfl, h 3 _ rfl⟩
theorem KW.cells {w : World} {b o : Nat} {x : I} (h : KW.At w b o x) : w.cell? ⟨b, o, none⟩ = some (.int .i64 x.t) ∧ w.cell? ⟨b, o + 1, none⟩ = some (.int .u64 x.v) ∧ w.cell? ⟨b, o + 2, none⟩ = some (.int .i64 x.a) ∧ w.cell? ⟨b, o + 3, none⟩ = some (.int .i64 x.b) :=
  ⟨h 0 _ rfl, h 1 _ rfl, h 2 _ rfl, h 3 _ rfl⟩
/-- an element of a list of events in memory -/
theorem KE.at_ {w : World} {A : Option Addr} {l : List E} (h : KE.Rd w A l) {i : Nat} (hi : i < l.length) : ∃ b o, A = some ⟨b, o, none⟩ ∧ w.cell? ⟨b, o + i * 4, none⟩ = some (.int .i64 (l.getD i e0).s) ∧ w.cell? ⟨b, o + i * 4 + 1, none⟩ = some (.int .i64 (l.getD i e0).t) ∧ w.cell? ⟨b, o + i * 4 + 2, none⟩ = some (.int .u8 (l.getD i e0).k) ∧ w.cell? ⟨b, o + i * 4 + 3, none⟩ = some (.int .u64 (l.getD i e0).v) := by
  rw [getD_get hi]
  obtain ⟨b, o, e, c⟩ := h i _ (List.getElem?_eq_getElem hi)
  exact ⟨b, o, e, KE.cells c⟩
/-- bounds of an event's numbers -/
structure Bd1 (x : E) : Prop where
  s0 : -9223372036854775808 ≤ x.s
  s1 : x.s ≤ 9223372036854775807
  t0 : -9223372036854775808 ≤ x.t
  t1 : x.t ≤ 9223372036854775807
  k0 : 0 ≤ x.k
  k1 : x.k ≤ 255
  v0 : 0 ≤ x.v
  v1 : x.v ≤ 18446744073709551615
def Bd (l : List E) : Prop := ∀ x ∈ l, Bd1 x
theorem Bd.get {l : List E} (h : Bd l) {i : Nat} (hi : i < l.length) : Bd1 (l.getD i e0) := by
  rw [getD_get hi]; exact h _ (List.getElem_mem hi)
theorem cellsOf_ev : Try.prog.cellsOf 57 = 4 := by kernel_rfl
section
variable {H : Type} {enc : TypeId × Value → H} {P : Program} {w : World} {base : Nat} {spare : Nat → Bool} {held : Bool}
theorem open_slice_fields {t e : TypeId} {fs : Array Field} {fuel : Nat} {cs : List Value} {x : DataW H × List MemPlace} (ht : P.underlying t = some (.slice e)) (he : P.underlying e = some (.struct fs))
    (hone : oneCellFields P fs = true) (hC : P.cellsOf e = fs.size) (h : DataW.trod enc P w base spare held fuel t cs = some x) :
    (cs = [.slice none 0 0] ∧ x = (.nil, [])) ∨
    ∃ (a : Addr) (len cap m : Nat) (D : Nat → DataW H) (Pl : Nat → List MemPlace), cs = [.slice (some a) len cap] ∧ base ≤ a.block ∧ len ≤ cap ∧ cap ≤ maxLen ∧ m = (if spare a.block then cap else len) ∧
      x = (.slice ((List.range len).map D) ((List.range (m - len)).map fun j => D (len + j)), MemPlace.row a (m * fs.size) ++ (List.range m).flatMap Pl) ∧
      ∀ i, i < m → ∃ (ys : List (DataW H × List MemPlace)) (n : Nat), D i = .agg (ys.map (·.1)) ∧ Pl i = ys.flatMap (·.2) ∧ ys.length = fs.size ∧
        ∀ (j : Nat) (f : Field), fs[j]? = some f → ∃ (v : Value) (y : DataW H × List MemPlace), w.cell? (a.add (i * fs.size + j)) = some v ∧ ys[j]? = some y ∧ DataW.trod enc P w base spare held n f.type [v] = some y := by
  rcases open_slice ht h with h0 | ⟨a, len, cap, m, n, D, Pl, hcs, hb, hl, hm, hmm, hx, hi⟩
  · exact .inl h0
  · refine .inr ⟨a, len, cap, m, D, Pl, hcs, hb, hl, hm, hmm, by rw [hC] at hx; exact hx, fun i him => ?_⟩
    obtain ⟨cs', hc, ht'⟩ := hi i him
    rw [hC] at hc
    obtain ⟨ys, n', hn', hy, hlen, hyl, hf⟩ := DataW.trod_struct he ht'
    obtain ⟨_, hcl, hat⟩ := World.cells?_some hc
    simp only [Prod.mk.injEq] at hy
    refine ⟨ys, n', hy.1, hy.2, hyl, fun j f hj => ?_⟩
    obtain ⟨ho, hk⟩ := hone_of hone j f hj
    have hjl : j < fs.size := (Array.getElem?_eq_some_iff.1 hj).1
    have hcell := hat j hjl
    have hv : cs'[j]? = some (cs'[j]'(by omega)) := List.getElem?_eq_getElem (by omega)
    have h1 := hf j f hj
    rw [ho, hk] at h1
    have hone' : (cs'.drop j).take 1 = [cs'[j]'(by omega)] := by
      rw [List.drop_eq_getElem_cons (by omega)]
      rfl
    rw [hone'] at h1
    have hys : ys[j]? = some (ys[j]'(by omega)) := List.getElem?_eq_getElem (by omega)
    refine ⟨_, _, ?_, hys, h1.trans hys⟩
    rw [← Go.Deep.add_add, hcell, hv]
end
section
variable {H : Type} {enc : TypeId × Value → H} {w : World} {base b0 : Nat} {spare : Nat → Bool} {held : Bool} {r : Reach}
set_option maxRecDepth 100000 in
theorem open_events {v : Value} {d : DataW H} {p : List MemPlace} (hv : Value.okWide Try.prog w r b0 22 v) (h : DataW.Trod enc Try.prog w base spare held 22 v d p) :
    ∃ (A : Option Addr) (n c : Nat) (l : List E), v = .slice A n c ∧ l.length = n ∧ n ≤ maxLen ∧ KE.Rd w A l ∧ Bd l ∧ (A = none → c = 0) := by
  obtain ⟨A, n, c, rfl⟩ := okWide_slice Try.underlying22 hv
  obtain ⟨fuel, hf⟩ := h
  rcases open_slice_fields Try.underlying22 Try.underlying57 (by kernel_rfl) cellsOf_ev hf with ⟨hcs, hx⟩ | ⟨a, len, cap, m, D, Pl, hcs, hb, hl, hm, hmm, hx, hi⟩
  · simp [Value.cells] at hcs
    obtain ⟨rfl, rfl, rfl⟩ := hcs
    exact ⟨none, 0, 0, [], rfl, rfl, Nat.zero_le _, fun k x hk => (by simp at hk), fun x hx => (by cases hx), fun _ => rfl⟩
  · simp [Value.cells] at hcs
    obtain ⟨rfl, rfl, rfl⟩ := hcs
    have hlm : n ≤ m := by rw [hmm]; split <;> omega
    have each : ∀ i, i < n → ∃ x : E, Bd1 x ∧ w.cell? (a.add (i * 4)) = some (.int .i64 x.s) ∧ w.cell? (a.add (i * 4 + 1)) = some (.int .i64 x.t) ∧ w.cell? (a.add (i * 4 + 2)) = some (.int .u8 x.k) ∧ w.cell? (a.add (i * 4 + 3)) = some (.int .u64 x.v) := by
      intro i hin
      obtain ⟨ys, q, _, _, _, hfl⟩ := hi i (by omega)
      obtain ⟨v0, y0, c0, _, t0⟩ := hfl 0 _ rfl
      obtain ⟨v1, y1, c1, _, t1⟩ := hfl 1 _ rfl
      obtain ⟨v2, y2, c2, _, t2⟩ := hfl 2 _ rfl
      obtain ⟨v3, y3, c3, _, t3⟩ := hfl 3 _ rfl
      obtain ⟨x0, e0, _, w0⟩ := DataW.trod_int Try.underlying3 t0
      obtain ⟨x1, e1, _, w1⟩ := DataW.trod_int Try.underlying3 t1
      obtain ⟨x2, e2, _, w2⟩ := DataW.trod_int Try.underlying5 t2
      obtain ⟨x3, e3, _, w3⟩ := DataW.trod_int Try.underlying39 t3
      simp at e0 e1 e2 e3
      subst e0 e1 e2 e3
      exact ⟨⟨x0, x1, x2, x3⟩, ⟨(bounds_i64 w0).1, (bounds_i64 w0).2, (bounds_i64 w1).1, (bounds_i64 w1).2, (bounds_u8 w2).1, (bounds_u8 w2).2, (bounds_u64 w3).1, (bounds_u64 w3).2⟩, c0, c1, c2, c3⟩
    have each' : ∃ g : Nat → E, ∀ i, i < n → Bd1 (g i) ∧ w.cell? (a.add (i * 4)) = some (.int .i64 (g i).s) ∧ w.cell? (a.add (i * 4 + 1)) = some (.int .i64 (g i).t) ∧ w.cell? (a.add (i * 4 + 2)) = some (.int .u8 (g i).k) ∧ w.cell? (a.add (i * 4 + 3)) = some (.int .u64 (g i).v) := by
      refine ⟨fun i => if hi : i < n then Classical.choose (each i hi) else e0, fun i hi => ?_⟩
      simp only [dif_pos hi]
      exact Classical.choose_spec (each i hi)
    obtain ⟨g, hg⟩ := each'
    refine ⟨some a, n, c, (List.range n).map g, rfl, by simp, by omega, ?_, ?_, fun h => (by cases h)⟩
    · intro k x hk
      have hkn : k < n := by have := (List.getElem?_eq_some_iff.1 hk).1; simpa using this
      rw [List.getElem?_map, List.getElem?_range hkn] at hk
      simp only [Option.map_some, Option.some.injEq] at hk
      subst hk
      obtain ⟨b, o, s⟩ := a
      obtain ⟨_, z0, _⟩ := hg 0 (by omega)
      have hs : s = none := spot_none (a := ⟨b, o, s⟩) (by simpa [Addr.add] using z0)
      subst hs
      obtain ⟨_, c0, c1, c2, c3⟩ := hg k hkn
      rw [addr_lit] at c0 c1 c2 c3
      refine ⟨b, o, rfl, fun j u hj => ?_⟩
      have hj4 : j < 4 := by have := (List.getElem?_eq_some_iff.1 hj).1; simpa [KE] using this
      match j, hj4 with
      | 0, _ => exact c0.trans hj
      | 1, _ => exact c1.trans hj
      | 2, _ => exact c2.trans hj
      | 3, _ => exact c3.trans hj
    · intro x hx
      simp only [List.mem_map, List.mem_range] at hx
      obtain ⟨i, hin, rfl⟩ := hx
      exact (hg i hin).1
end
end Ev
end Go.Proofs.Ytbnchajkfceaoaa
