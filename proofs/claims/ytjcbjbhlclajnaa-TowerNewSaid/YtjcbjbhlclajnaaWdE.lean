/- Accesses in memory: what is read, a row of the call's own, append of one, a copy, and arguments that are a list of accesses. No conditions beside those of each lemma. · The atomic numbers' methods, below, fits, Thread, and the library's slices.Clone at uint64 and at accesses: contracts of the translated code. No conditions beside those of each lemma. · A memory of package words (or of the reference) in memory; word, note, Load, Store, Add, CompareAndSwap of package words: contracts of the translated code. Conditions: the bounds of each number's kind; a log of at most 50,000 accesses. · word, Load, Store, Add, CompareAndSwap, Peek, Len, Words and Log of package words: contracts of the translated code. Conditions: those of XWdC. · Words and New of package words: contracts of the translated code. Conditions: those of XWdC. -/
import Derived.Test.YtjcbjbhlclajnaaWdM
import Derived.Maps.AppendAt
import Derived.Laws.LoneSync
import Derived.Deep.RegionLaw
import Derived.Deep.AppendLies
import Derived.StillTailTactics
namespace Go.Proofs.Ytjcbjbhlclajnaa
open Go.RowKit Go.Sort Go.ChangeShapes Go.WideShapes Go.Deep
set_option linter.unusedVariables false
set_option linter.unusedSimpArgs false
set_option maxRecDepth 100000
namespace Wd
open Dm (addr_lit info_parts spot_none)
def encA (x : Ac) : List Value := [.int .i64 x.t, .int .i64 x.a, .int .u8 x.k, .int .u64 x.o, .int .u64 x.n, .bool x.s]
def agA (x : Ac) : Value := .agg #[.int .i64 x.t, .int .i64 x.a, .int .u8 x.k, .int .u64 x.o, .int .u64 x.n, .bool x.s]
def flatA (l : List Ac) : List Value := l.flatMap encA
theorem flatA_len : ∀ l : List Ac, (flatA l).length = l.length * 6
  | [] => rfl
  | x :: l => by
    have := flatA_len l
    simp only [flatA, List.flatMap_cons, List.length_append, encA, List.length_cons, List.length_nil] at this ⊢
    omega
theorem flatA_append (l m : List Ac) : flatA (l ++ m) = flatA l ++ flatA m := by simp [flatA]
theorem flatA_one (x : Ac) : flatA [x] = encA x := by simp [flatA]
theorem flatA_one_cell (l : List Ac) : ∀ u ∈ flatA l, u.oneCell' = true := fun u hu => by
  simp only [flatA, List.mem_flatMap] at hu
  obtain ⟨x, _, hu⟩ := hu
  simp only [encA, List.mem_cons, List.not_mem_nil, or_false] at hu
  rcases hu with rfl | rfl | rfl | rfl | rfl | rfl <;> rfl
theorem flatA_get : ∀ (l : List Ac) (k j : Nat), j < 6 → (flatA l)[k * 6 + j]? = (l[k]?).bind fun x => (encA x)[j]?
  | [], k, j, h => by simp [flatA]
  | x :: l, 0, j, h => by
    have : (flatA (x :: l))[j]? = (encA x)[j]? := by
      rw [show flatA (x :: l) = encA x ++ flatA l from rfl, List.getElem?_append_left (by simpa [encA] using h)]
    simpa using this
  | x :: l, k + 1, j, h => by
    have : (flatA (x :: l))[(k + 1) * 6 + j]? = (flatA l)[k * 6 + j]? := by
      rw [show flatA (x :: l) = encA x ++ flatA l from rfl, List.getElem?_append_right (by simp [encA]; omega)]
      congr 1
      simp [encA]; omega
    rw [this, flatA_get l k j h]
    rfl
/-- the cells of an access at ⟨b, o⟩ -/
structure A6 (w : World) (b o : Nat) (x : Ac) : Prop where
  c0 : w.cell? ⟨b, o, none⟩ = some (.int .i64 x.t)
  c1 : w.cell? ⟨b, o + 1, none⟩ = some (.int .i64 x.a)
  c2 : w.cell? ⟨b, o + 2, none⟩ = some (.int .u8 x.k)
  c3 : w.cell? ⟨b, o + 3, none⟩ = some (.int .u64 x.o)
  c4 : w.cell? ⟨b, o + 4, none⟩ = some (.int .u64 x.n)
  c5 : w.cell? ⟨b, o + 5, none⟩ = some (.bool x.s)
theorem A6.keep {w w' : World} {b o : Nat} {x : Ac} (h : A6 w b o x) (hb : w'.heap[b]? = w.heap[b]?) : A6 w' b o x := by
  have k : ∀ j, w'.cell? ⟨b, j, none⟩ = w.cell? ⟨b, j, none⟩ := fun j => World.cell?_of_block (a := ⟨b, j, none⟩) hb
  exact ⟨(k _).trans h.c0, (k _).trans h.c1, (k _).trans h.c2, (k _).trans h.c3, (k _).trans h.c4, (k _).trans h.c5⟩
/-- from the address A on lie the accesses l -/
def RdA (w : World) (A : Option Addr) (l : List Ac) : Prop := ∀ (i : Nat) (x : Ac), l[i]? = some x → ∃ b o, A = some ⟨b, o, none⟩ ∧ A6 w b (o + i * 6) x
theorem RdA.below {w w' : World} {A : Option Addr} {l : List Ac} (h : RdA w A l) (hb : Below w.heap.size w w') : RdA w' A l := by
  intro i x hi
  obtain ⟨b, o, e, c⟩ := h i x hi
  exact ⟨b, o, e, c.keep (hb.block b (World.block_lt_of_cell? w _ c.c0))⟩
theorem RdA.cells {w : World} {b o c' : Nat} {l : List Ac} (h : RdA w (some ⟨b, o, none⟩) l) : ∀ j u, (flatA l)[j]? = some u → w.cell? (Addr.add ⟨b, o, none⟩ j) = some u := fun j u hj => by
  have hlt := (List.getElem?_eq_some_iff.1 hj).1
  rw [flatA_len] at hlt
  have e : j = j / 6 * 6 + j % 6 := by omega
  rw [e, flatA_get l _ _ (Nat.mod_lt _ (by omega))] at hj
  have hk : j / 6 < l.length := by omega
  rw [List.getElem?_eq_getElem hk] at hj
  obtain ⟨b', o', e', c⟩ := h (j / 6) _ (List.getElem?_eq_getElem hk)
  cases e'
  rw [addr_lit]
  simp only [Option.bind_some] at hj
  have hm : j % 6 < 6 := Nat.mod_lt _ (by omega)
  rw [show o + j = o + j / 6 * 6 + j % 6 by omega]
  generalize j % 6 = m at *
  match m, hm with
  | 0, _ => exact c.c0.trans hj
  | 1, _ => exact c.c1.trans hj
  | 2, _ => exact c.c2.trans hj
  | 3, _ => exact c.c3.trans hj
  | 4, _ => exact c.c4.trans hj
  | 5, _ => exact c.c5.trans hj
theorem rowA_get {w : World} {base g n cap : Nat} {l : List Ac} (h : w.ownsRow base 135 6 (.slice (some ⟨g, 0, none⟩) n cap) n (flatA l)) : RdA w (some ⟨g, 0, none⟩) l := fun i x hi => by
  have hl : l.length = n := by have := h.1; rw [flatA_len] at this; omega
  have hin : i < n := by have := (List.getElem?_eq_some_iff.1 hi).1; omega
  have k : ∀ j, j < 6 → w.cell? ⟨g, 0 + i * 6 + j, none⟩ = (encA x)[j]? := fun j hj => by
    rw [Nat.zero_add, h.cellAt _ (by omega), flatA_get l i j hj, hi]; rfl
  exact ⟨g, 0, rfl, k 0 (by omega), k 1 (by omega), k 2 (by omega), k 3 (by omega), k 4 (by omega), k 5 (by omega)⟩
/-- what a row of the call's own reads as -/
theorem rowA {w : World} {base n : Nat} {v : Value} {l : List Ac} (h : w.ownsRow base 135 6 v n (flatA l)) : l.length = n ∧ ∃ A c, v = .slice A n c ∧ n ≤ c ∧ RdA w A l ∧ (A = none → c = 0) := by
  have hl : l.length = n := by have := h.1; rw [flatA_len] at this; omega
  refine ⟨hl, ?_⟩
  rcases h.2 with ⟨rfl, rfl⟩ | ⟨g, cap, cur, rfl, hbase, hh, hnc, _⟩
  · obtain rfl : l = [] := List.eq_nil_of_length_eq_zero hl
    exact ⟨none, 0, rfl, Nat.le_refl _, fun k x hk => by simp at hk, fun _ => rfl⟩
  · exact ⟨_, cap, rfl, hnc, rowA_get h, fun e => by cases e⟩
theorem infoA : (Try.prog.info? 135).map (fun i => (i.zero, i.size, i.bytes)) = some (some (.agg #[.int .i64 0, .int .i64 0, .int .u8 0, .int .u64 0, .int .u64 0, .bool false]), 6, 48) := by kernel_rfl
/-- 'append(l, a)': onto a row of one's own -/
theorem app1A {ops : Array Oper} {rest : List Oper} {o : Oper} {a : Act} {Q : Exit → Act → World → Prop} (hgd : o.guard = none) (s x : Operand)
    (ho : o.op = .call { callee := .builtin .append, args := #[s, x], argTypes := #[148, 148] }) (w : World) (base n : Nat) (v : Value) (ys : List Ac) (y : Ac)
    (hs : a.eval s = v) (g : Nat) (hx : a.eval x = .slice (some ⟨g, 0, none⟩) 1 1) (hg : A6 w g 0 y) (hown : w.ownsRow base 135 6 v n (flatA ys)) (hn : n ≤ 100000) (hb : base ≤ w.heap.size)
    (h : ∀ v' w', w'.ownsRow base 135 6 v' (n + 1) (flatA (ys ++ [y])) → w.grownBy w' v.ownBlock → (v'.ownBlock = v.ownBlock ∨ v'.ownBlock = some w.heap.size) → wpList Try.prog ops Q rest (a.put o.dst v') w') :
    wpList Try.prog ops Q (o :: rest) a w := by
  obtain ⟨i0, hi, hz0, hz1, hz2⟩ := info_parts infoA
  refine wpList_append_own_at _ hgd s x 148 ho base 135 i0 _ 6 48 Try.underlying148 hi hz0 hz1 hz2 rfl (by omega) v n (flatA ys) hs hown ⟨g, 0, none⟩ 1 1 (encA y) hx rfl ?_ ?_ (by unfold maxLen; omega) (by omega) hb ?_
  · intro j u hj
    rw [addr_lit, Nat.zero_add]
    have hlt : j < 6 := by have := (List.getElem?_eq_some_iff.1 hj).1; simpa [encA] using this
    have c := hg
    match j, hlt with
    | 0, _ => exact c.c0.trans hj
    | 1, _ => exact c.c1.trans hj
    | 2, _ => exact c.c2.trans hj
    | 3, _ => exact c.c3.trans hj
    | 4, _ => exact c.c4.trans hj
    | 5, _ => exact c.c5.trans hj
  · intro u hu
    exact flatA_one_cell [y] u (by rw [flatA_one]; exact hu)
  · intro v' w' h1 h2 _ h4
    rw [show flatA ys ++ encA y = flatA (ys ++ [y]) by rw [flatA_append, flatA_one]] at h1
    exact h v' w' h1 h2 h4
/-- 'append(l, xs...)': a list put behind a row of one's own -/
theorem appAllA {ops : Array Oper} {rest : List Oper} {o : Oper} {a : Act} {Q : Exit → Act → World → Prop} (hgd : o.guard = none) (s x : Operand)
    (ho : o.op = .call { callee := .builtin .append, args := #[s, x], argTypes := #[148, 148] }) (w : World) (base n : Nat) (v : Value) (ys : List Ac) (A : Option Addr) (m c : Nat) (l : List Ac)
    (hs : a.eval s = v) (hx : a.eval x = .slice A m c) (hown : w.ownsRow base 135 6 v n (flatA ys)) (hl : l.length = m) (hr : RdA w A l) (hnil : A = none → c = 0) (hn : n + m ≤ 100000) (hb : base ≤ w.heap.size)
    (h : ∀ v' w', w'.ownsRow base 135 6 v' (n + m) (flatA (ys ++ l)) → Below base w w' → wpList Try.prog ops Q rest (a.put o.dst v') w') :
    wpList Try.prog ops Q (o :: rest) a w := by
  obtain ⟨i0, hi, hz0, hz1, hz2⟩ := info_parts infoA
  cases A with
  | none =>
    have hl0 : l = [] := by
      cases l with
      | nil => rfl
      | cons x l => obtain ⟨b, o, e, _⟩ := hr 0 x rfl; cases e
    subst hl0
    obtain rfl : m = 0 := by simpa using hl.symm
    obtain rfl := hnil rfl
    rw [List.append_nil] at h
    exact wpList_append_own_none hgd s x 148 ho base 135 i0 6 Try.underlying148 hi _ n (flatA ys) hs hown hx (h _ _ hown (Below.refl _ _))
  | some ad =>
    by_cases h0 : l = []
    · subst h0
      obtain rfl : m = 0 := by simpa using hl.symm
      rw [List.append_nil] at h
      refine wpList_append_own _ hgd s x 148 ho base 135 i0 _ 6 48 Try.underlying148 hi hz0 hz1 hz2 rfl (by omega) v n (flatA ys) hs hown ad 0 c [] hx rfl (fun j u hj => by simp at hj) (fun u hu => by simp at hu) (by unfold maxLen; omega) (by omega) hb ?_
      intro v' w' h1 h2 _
      rw [List.append_nil] at h1
      exact h v' w' h1 ((Below.refl _ w).grown h2 hb fun k hk => (hown.lt k hk).1)
    · obtain ⟨x0, h1⟩ : ∃ x, l[0]? = some x := by cases l with
        | nil => exact absurd rfl h0
        | cons x l => exact ⟨x, rfl⟩
      obtain ⟨b, o', e, _⟩ := hr 0 x0 h1
      cases e
      refine wpList_append_own _ hgd s x 148 ho base 135 i0 _ 6 48 Try.underlying148 hi hz0 hz1 hz2 rfl (by omega) v n (flatA ys) hs hown _ m c (flatA l) hx (by rw [flatA_len, hl]) (RdA.cells (c' := 0) hr) (flatA_one_cell l) (by unfold maxLen; omega) (by omega) hb ?_
      intro v' w' h1 h2 _
      rw [← flatA_append] at h1
      exact h v' w' h1 ((Below.refl _ w).grown h2 hb fun k hk => (hown.lt k hk).1)
theorem RdA.drop {w : World} {A : Option Addr} {l : List Ac} (h : RdA w A l) (k : Nat) : RdA w (A.map fun a => a.add (k * 6)) (l.drop k) := fun i x hi => by
  rw [List.getElem?_drop] at hi
  obtain ⟨b, o, e, c⟩ := h (k + i) x hi
  subst e
  refine ⟨b, o + k * 6, by rw [Option.map_some, addr_lit], ?_⟩
  rw [show o + k * 6 + i * 6 = o + (k + i) * 6 by omega]
  exact c
end Wd
end Go.Proofs.Ytjcbjbhlclajnaa
namespace Go.Proofs.Ytjcbjbhlclajnaa
open Go.RowKit Go.Sort
set_option linter.unusedVariables false
set_option linter.unusedSimpArgs false
set_option maxRecDepth 100000
namespace Wd
open Dm (addr_lit info_parts spot_none RdK flatU infoU bel_alloc bel_trans)
/-- sync/atomic.SwapUint64: the number is stored, the old one handed back -/
theorem run_swap {P : Program} {f : FuncId} {fn : Func} (hf : P.funcs[f]? = some fn) (hname : (fn.name == "runtime.NumGoroutine") = false) (hb : fn.body.isNone = true) (hn : Extern.findNext fn = none) (k : IntKind)
    (he : Extern.find fn = some (Extern.Atomic.swapT (.int k))) {a : Addr} {x y : Int} {w : World} (hc : w.cell? a = some (.int k x)) (hz : w.frozen? a = false) :
    (callFunc f #[.pointer (some a), .int k y]).run P w = .ok (.value (.int k x)) (w.setCell a (.int k y)) := by
  rw [run_callFunc_extern hf hname hb hn he]
  change (Sem.run P (do
    let a' ← asAddr (.pointer (some a))
    let old ← Extern.Atomic.read (.int k) a'
    store a' (.int k y) .atomic
    pure old) w).andThen _ = _
  simp [Extern.Atomic.read, asAddr, hc, hz, run_store P w a (.int k y) .atomic rfl, Result.andThen]
theorem aload (b o : Nat) (x : Int) (w : World) (hc : w.cell? ⟨b, o, none⟩ = some (.int .u64 x)) :
    Calls Try.prog 56 #[.pointer (some ⟨b, o, none⟩)] w fun e w' => e = .returned (.int .u64 x) ∧ w' = w := by
  have hd := run_call_load (P := Try.prog) Try.func86 (by kernel_rfl) (by kernel_rfl) (by kernel_rfl) .u64 (by kernel_rfl) hc
  go_enter Try.func56, Try.ntmps56
  go_wp2
  go_ret
  exact ⟨rfl, rfl⟩
theorem astore (b o : Nat) (x y : Int) (w : World) (hc : w.cell? ⟨b, o, none⟩ = some (.int .u64 x)) (hz : w.frozen? ⟨b, o, none⟩ = false) :
    Calls Try.prog 69 #[.pointer (some ⟨b, o, none⟩), .int .u64 y] w fun e w' => e = .returned (.tuple #[]) ∧ w' = w.setCell ⟨b, o, none⟩ (.int .u64 y) := by
  have hd := run_call_store (P := Try.prog) Try.func97 (by kernel_rfl) (by kernel_rfl) (by kernel_rfl) (k := .u64) (y := y) (by kernel_rfl) hc hz
  go_enter Try.func69, Try.ntmps69
  go_wp2
  go_end0
  exact ⟨rfl, rfl⟩
theorem aswap (b o : Nat) (x y : Int) (w : World) (hc : w.cell? ⟨b, o, none⟩ = some (.int .u64 x)) (hz : w.frozen? ⟨b, o, none⟩ = false) :
    Calls Try.prog 52 #[.pointer (some ⟨b, o, none⟩), .int .u64 y] w fun e w' => e = .returned (.int .u64 x) ∧ w' = w.setCell ⟨b, o, none⟩ (.int .u64 y) := by
  have hd := run_swap (P := Try.prog) Try.func85 (by kernel_rfl) (by kernel_rfl) (by kernel_rfl) .u64 (y := y) (by kernel_rfl) hc hz
  go_enter Try.func52, Try.ntmps52
  go_wp2
  go_ret
  exact ⟨rfl, rfl⟩
theorem below_any (x n : Int) (w : World) : Calls Try.prog 84 #[.int .i64 x, .int .i64 n] w fun e w' => e = .returned (.bool (decide (0 ≤ x ∧ x < n))) ∧ w' = w := by
  by_cases h0 : 0 ≤ x <;> by_cases h1 : x < n
  all_goals
    have t : decide (0 ≤ x ∧ x < n) = (decide (0 ≤ x) && decide (x < n)) := by simp
    rw [t]
    go_enter Try.func84, Try.ntmps84
    go_wp2
    go_ret
    simp [h0, h1]
theorem thread_any (x : Int) (w : World) : Calls Try.prog 104 #[.int .i64 x] w fun e w' => e = .returned (.bool (decide (0 ≤ x ∧ x < 64))) ∧ w' = w := by
  by_cases h0 : 0 ≤ x <;> by_cases h1 : x < 64
  all_goals
    have t : decide (0 ≤ x ∧ x < 64) = (decide (0 ≤ x) && decide (x < 64)) := by simp
    rw [t]
    go_enter Try.func104, Try.ntmps104
    go_wp2
    go_ret
    simp [h0, h1]
/-- the error of New -/
def newE (n : Nat) : Int := if n = 0 then 2 else if 65536 < n then 5 else 0
theorem fits_any (A : Option Addr) (n c : Nat) (w : World) (hn : n ≤ maxLen) : Calls Try.prog 68 #[.slice A n c] w fun e w' => e = .returned (.int .i64 (newE n)) ∧ w' = w := by
  unfold newE
  rcases Nat.eq_zero_or_pos n with h | h
  · subst h
    go_enter Try.func68, Try.ntmps68
    go_wp2
    go_ret
    exact ⟨rfl, rfl⟩
  · have t0 : ((n : Int) == 0) = false := beq_eq_false_iff_ne.2 (by omega)
    rw [if_neg (by omega)]
    by_cases h1 : 65536 < n
    · rw [if_pos h1]
      have t1 : decide ((65536 : Int) < n) = true := decide_eq_true (by omega)
      go_enter Try.func68, Try.ntmps68
      go_wp2
      go_ret
      exact ⟨rfl, rfl⟩
    · rw [if_neg h1]
      have t1 : decide ((65536 : Int) < n) = false := decide_eq_false (by omega)
      go_enter Try.func68, Try.ntmps68
      go_wp2
      go_ret
      exact ⟨rfl, rfl⟩
def RwU (w : World) (l : List Int) (e : Ending) (w' : World) : Prop := (∃ v, e = .returned v ∧ w'.ownsRow w.heap.size 27 1 v l.length (flatU l)) ∧ Below w.heap.size w w'
def RwA (w : World) (l : List Ac) (e : Ending) (w' : World) : Prop := (∃ v, e = .returned v ∧ w'.ownsRow w.heap.size 135 6 v l.length (flatA l)) ∧ Below w.heap.size w w'
theorem cloneU (A : Option Addr) (n c : Nat) (l : List Int) (w : World) (hn : l.length = n) (hs : n ≤ 100000) (hr : RdK .u64 w A l) :
    Calls Try.prog 94 #[.slice A n c] w (RwU w l) := by
  obtain ⟨i0, hi, hz0, hz1, hz2⟩ := info_parts infoU
  have q : ∀ (w : World) (a : Option Addr) (n c n' c' : Nat), (binOp .eql 43 (.slice a n c) (.slice none n' c')).run Try.prog w = .ok (.bool a.isNone) w := fun w a n c n' c' => Lib.run_eql_slice_nil w _ _ a n c n' c' Try.underlying43
  cases A with
  | none =>
    have hl : l = [] := by
      cases l with
      | nil => rfl
      | cons x l => obtain ⟨b, o, e, _⟩ := hr 0 (by simp); cases e
    subst hl
    obtain rfl : n = 0 := by simpa using hn.symm
    clear hr hn
    go_enter Try.func94, Try.ntmps94
    go_wp2
    go_ret
    exact ⟨⟨_, rfl, World.ownsRow_nil _ _ _ _⟩, Below.refl _ _⟩
  | some a =>
    have hf : ∀ j u, (flatU l)[j]? = some u → w.cell? (a.add j) = some u := fun j u hj => by
      have hjl : j < l.length := by
        have := (List.getElem?_eq_some_iff.1 hj).1
        simpa [flatU] using this
      obtain ⟨b, o', e, g⟩ := hr j hjl
      cases e
      rw [addr_lit, g]
      simp only [flatU, List.getElem?_map, List.getElem?_eq_getElem hjl, List.getD_eq_getElem?_getD] at hj ⊢
      simpa using hj
    have HF := Lib.hid hf; clear hr hf
    have HN := Lib.hid hn; clear hn
    go_enter Try.func94, Try.ntmps94
    go_wp2_with (at_builtin; refine wpList_append_own _ rfl _ _ 43 rfl w.heap.size 27 i0 _ 1 8 Try.underlying43 hi hz0 hz1 hz2 rfl (by omega) _ _ _ rfl (World.ownsRow_made w #[] 0 (Nat.le_refl _) (Nat.zero_le _) (by simp)) a n c (flatU l) rfl ?qc1 ?qc2 ?qc3 ?qc4 ?qc5 ?qc6 ?_)
    case qc1 => rw [← HN.out]; simp [flatU]
    case qc2 =>
      intro j u hj
      have h := HF.out j u hj
      rw [World.cell?_alloc_lt w _ _ (World.block_lt_of_cell? w _ h)]
      exact h
    case qc3 => intro u hu; simp [flatU] at hu; obtain ⟨_, _, rfl⟩ := hu; rfl
    case qc4 => rw [Nat.zero_add]; unfold maxLen; omega
    case qc5 => rw [Nat.zero_add]; omega
    case qc6 => simp
    intro v' w1 hown hgrow hnil
    have HW := Lib.hid hown; clear hown hnil
    go_wp2
    go_ret
    refine ⟨⟨v', rfl, by rw [HN.out]; simpa using HW.out⟩, ?_⟩
    exact ((Below.refl _ w).alloc (Nat.le_refl _) _).grown hgrow (by simp) (by intro k hk; simp [Value.ownBlock] at hk; omega)
end Wd
end Go.Proofs.Ytjcbjbhlclajnaa
namespace Go.Proofs.Ytjcbjbhlclajnaa
open Go.RowKit Go.Sort
set_option linter.unusedVariables false
set_option linter.unusedSimpArgs false
set_option maxRecDepth 100000
namespace Wd
open Dm (addr_lit info_parts spot_none RdK flatU infoU bel_alloc bel_trans own_keep below_drewN)
/-- nothing changed but the blocks S -/
structure Fr (S : Nat → Prop) (w w' : World) : Prop where
  os : w'.os = w.os
  tape : w'.tape = w.tape
  output : w'.output = w.output
  size : w.heap.size ≤ w'.heap.size
  block : ∀ i, i < w.heap.size → ¬ S i → w'.heap[i]? = w.heap[i]?
theorem Fr.of_below {S : Nat → Prop} {w w' : World} (h : Below w.heap.size w w') : Fr S w w' := ⟨h.os, h.tape, h.output, h.size, fun i hi _ => h.block i hi⟩
theorem Fr.trans {S T : Nat → Prop} {w w1 w2 : World} (h : Fr S w w1) (h2 : Fr T w1 w2) (hs : ∀ i, i < w.heap.size → T i → S i) : Fr S w w2 :=
  ⟨h2.os.trans h.os, h2.tape.trans h.tape, h2.output.trans h.output, Nat.le_trans h.size h2.size, fun i hi hn => (h2.block i (Nat.lt_of_lt_of_le hi h.size) fun e => hn (hs i hi e)).trans (h.block i hi hn)⟩
theorem Fr.set {S : Nat → Prop} {w w1 : World} (h : Fr S w w1) (a : Addr) (v : Value) (ha : S a.block) : Fr S w (w1.setCell a v) :=
  ⟨h.os, h.tape, h.output, by simpa using h.size, fun i hi hn => (Below.heap_setCell w1 a v i (fun e => hn (e ▸ ha))).trans (h.block i hi hn)⟩
theorem Fr.grown {S : Nat → Prop} {w w1 w2 : World} {r : Option Nat} (h : Fr S w w1) (hg : w1.grownBy w2 r) (hr : ∀ i, r = some i → S i ∨ w.heap.size ≤ i) : Fr S w w2 :=
  ⟨hg.os.trans h.os, hg.tape.trans h.tape, hg.output.trans h.output, Nat.le_trans h.size hg.size, fun i hi hn => (hg.block i (Nat.lt_of_lt_of_le hi h.size) fun e => by
    rcases hr i e.symm with h1 | h1
    · exact hn h1
    · omega).trans (h.block i hi hn)⟩
theorem Fr.below {S : Nat → Prop} {w w' : World} {B : Nat} (h : Fr S w w') (hB : B ≤ w.heap.size) (hS : ∀ i, i < B → ¬ S i) : Below B w w' := ⟨h.os, h.tape, h.output, h.size, fun i hi => h.block i (by omega) (hS i hi)⟩
/-- at b lies the memory M: its words from ⟨p, 0⟩ on, of type ty; its log is the slice v -/
structure At0 (ty : TypeId) (w : World) (b p c : Nat) (v : Value) (M : Wm) : Prop where
  c0 : w.cell? ⟨b, 0, none⟩ = some (.slice (some ⟨p, 0, none⟩) M.W.length c)
  c1 : w.cell? ⟨b, 1, none⟩ = some v
  f1 : w.frozen? ⟨b, 1, none⟩ = false
  row : w.ownsRow 0 ty 1 (.slice (some ⟨p, 0, none⟩) M.W.length c) M.W.length (flatU M.W)
  log : w.ownsRow 0 135 6 v M.L.length (flatA M.L)
  pb : p ≠ b
  qb : v.ownBlock ≠ some b
  qp : v.ownBlock ≠ some p
  bd : BdW M.W
  n0 : 0 < M.W.length
  n1 : M.W.length ≤ 65536
variable {ty : TypeId}
theorem At0.lt {w : World} {b p c : Nat} {v : Value} {M : Wm} (h : At0 ty w b p c v M) : b < w.heap.size := World.block_lt_of_cell? w ⟨b, 0, none⟩ h.c0
theorem At0.plt {w : World} {b p c : Nat} {v : Value} {M : Wm} (h : At0 ty w b p c v M) : p < w.heap.size := (h.row.lt p rfl).2
theorem At0.keep {w w' : World} {b p c : Nat} {v : Value} {M : Wm} (h : At0 ty w b p c v M) (h1 : w'.heap[b]? = w.heap[b]?) (h2 : w'.heap[p]? = w.heap[p]?) (h3 : ∀ q, v.ownBlock = some q → w'.heap[q]? = w.heap[q]?) : At0 ty w' b p c v M :=
  ⟨(World.cell?_of_block (a := ⟨b, 0, none⟩) h1).trans h.c0, (World.cell?_of_block (a := ⟨b, 1, none⟩) h1).trans h.c1, (World.frozen?_of_block (a := ⟨b, 1, none⟩) h1).trans h.f1,
   own_keep h.row (fun g hg => by cases hg; exact h2), own_keep h.log h3, h.pb, h.qb, h.qp, h.bd, h.n0, h.n1⟩
theorem At0.below {w w' : World} {b p c : Nat} {v : Value} {M : Wm} (h : At0 ty w b p c v M) (hb : Below w.heap.size w w') : At0 ty w' b p c v M :=
  h.keep (hb.block b h.lt) (hb.block p h.plt) fun q hq => hb.block q (h.log.lt q hq).2
/-- the word at i -/
theorem At0.word {w : World} {b p c : Nat} {v : Value} {M : Wm} (h : At0 ty w b p c v M) {i : Nat} (hi : i < M.W.length) : w.cell? ⟨p, i, none⟩ = some (.int .u64 (M.get (i : Nat))) ∧ w.frozen? ⟨p, i, none⟩ = false := by
  refine ⟨?_, h.row.frozenAt i⟩
  rw [h.row.cellAt i (by omega), flatU, List.getElem?_map, M.get_in hi]; rfl
/-- a word is written -/
theorem At0.setW {w : World} {b p c : Nat} {v : Value} {M : Wm} (h : At0 ty w b p c v M) {i : Nat} {x : Int} (hi : i < M.W.length) (x0 : 0 ≤ x) (x1 : x ≤ 18446744073709551615) :
    At0 ty (w.setCell ⟨p, i, none⟩ (.int .u64 x)) b p c v ⟨M.W.set i x, M.L⟩ := by
  have hl : (M.W.set i x).length = M.W.length := by simp
  have hr := (h.row.stored i (.int .u64 x)).1
  rw [show (flatU M.W).set i (Value.int .u64 x) = flatU (M.W.set i x) by simp [flatU, List.map_set]] at hr
  have hb : (w.setCell ⟨p, i, none⟩ (.int .u64 x)).heap[b]? = w.heap[b]? := Below.heap_setCell w ⟨p, i, none⟩ _ b (fun e => h.pb e.symm)
  refine ⟨?_, (World.cell?_of_block (a := ⟨b, 1, none⟩) hb).trans h.c1, (World.frozen?_of_block (a := ⟨b, 1, none⟩) hb).trans h.f1, ?_, own_keep h.log fun q hq => Below.heap_setCell w ⟨p, i, none⟩ _ q (fun e => h.qp (hq.trans (congrArg some e))), h.pb, h.qb, h.qp, Wm.bd_set h.bd i x0 x1, ?_, ?_⟩
  · rw [hl]; exact (World.cell?_of_block (a := ⟨b, 0, none⟩) hb).trans h.c0
  · rw [hl]; exact hr
  · rw [hl]; exact h.n0
  · rw [hl]; exact h.n1
/-- an access is put behind the log -/
theorem At0.logged {w w' : World} {b p c : Nat} {v v' : Value} {M : Wm} {x : Ac} (h : At0 ty w b p c v M) (ho : w'.ownsRow 0 135 6 v' (M.L.length + 1) (flatA (M.L ++ [x]))) (hg : w.grownBy w' v.ownBlock) (hv : v'.ownBlock = v.ownBlock ∨ v'.ownBlock = some w.heap.size) :
    At0 ty (w'.setCell ⟨b, 1, none⟩ v') b p c v' ⟨M.W, M.L ++ [x]⟩ := by
  have hb : w'.heap[b]? = w.heap[b]? := hg.block b h.lt fun e => h.qb e.symm
  have hp : w'.heap[p]? = w.heap[p]? := hg.block p h.plt fun e => h.qp e.symm
  have qb : v'.ownBlock ≠ some b := fun e => by
    rcases hv with h1 | h1
    · exact h.qb (h1.symm.trans e)
    · rw [h1] at e; injection e with e; have := h.lt; omega
  have qp : v'.ownBlock ≠ some p := fun e => by
    rcases hv with h1 | h1
    · exact h.qp (h1.symm.trans e)
    · rw [h1] at e; injection e with e; have := h.plt; omega
  refine ⟨?_, World.cell?_setCell_same _ _ _ ((World.cell?_of_block (a := ⟨b, 1, none⟩) hb).trans h.c1), ?_, ?_, ?_, h.pb, qb, qp, h.bd, h.n0, h.n1⟩
  · rw [World.cell?_setCell_other _ _ _ _ (by simp)]
    exact (World.cell?_of_block (a := ⟨b, 0, none⟩) hb).trans h.c0
  · rw [World.frozen?_setCell]
    exact (World.frozen?_of_block (a := ⟨b, 1, none⟩) hb).trans h.f1
  · exact own_keep h.row fun g hg' => by
      cases hg'
      exact (Below.heap_setCell w' ⟨b, 1, none⟩ _ p h.pb).trans hp
  · rw [show (M.L ++ [x]).length = M.L.length + 1 by simp]
    exact own_keep ho fun q hq => Below.heap_setCell w' ⟨b, 1, none⟩ _ q (fun e => qb (hq.trans (congrArg some e)))
/-- a memory at b, with its words at p and its log in the block q -/
def At (ty : TypeId) (w : World) (b p : Nat) (q : Option Nat) (M : Wm) : Prop := ∃ c v, v.ownBlock = q ∧ At0 ty w b p c v M
theorem At.below {w w' : World} {b p : Nat} {q : Option Nat} {M : Wm} (h : At ty w b p q M) (hb : Below w.heap.size w w') : At ty w' b p q M := by
  obtain ⟨c, v, h1, h2⟩ := h
  exact ⟨c, v, h1, h2.below hb⟩
/-- the blocks of a memory -/
def Of (b p : Nat) (q : Option Nat) : Nat → Prop := fun k => k = b ∨ k = p ∨ q = some k
theorem At.keep {w w' : World} {b p : Nat} {q : Option Nat} {M : Wm} (h : At ty w b p q M) (hb : ∀ i, i < w.heap.size → Of b p q i → w'.heap[i]? = w.heap[i]?) : At ty w' b p q M := by
  obtain ⟨c, v, rfl, h2⟩ := h
  exact ⟨c, v, rfl, h2.keep (hb b h2.lt (.inl rfl)) (hb p h2.plt (.inr (.inl rfl))) fun q hq => hb q (h2.log.lt q hq).2 (.inr (.inr hq))⟩
theorem At.lt {w : World} {b p : Nat} {q : Option Nat} {M : Wm} (h : At ty w b p q M) : ∀ i, Of b p q i → i < w.heap.size := by
  obtain ⟨c, v, rfl, h2⟩ := h
  intro i hi
  rcases hi with rfl | rfl | hi
  · exact h2.lt
  · exact h2.plt
  · exact (h2.log.lt i hi).2
/-- what a call leaves: the memory M, its blocks old or new, nothing else changed -/
def After (ty : TypeId) (b p : Nat) (q : Option Nat) (M : Wm) (w w' : World) : Prop := ∃ q', At ty w' b p q' M ∧ (∀ g, q' = some g → q = some g ∨ w.heap.size ≤ g) ∧ Fr (Of b p q) w w'
theorem After.same {w w' : World} {b p : Nat} {q : Option Nat} {M : Wm} (h : At ty w b p q M) (hb : Below w.heap.size w w') : After ty b p q M w w' := ⟨q, h.below hb, fun g hg => .inl hg, Fr.of_below hb⟩
/-- behind changes of the memory's own blocks -/
theorem After.behind {w w1 w' : World} {b p : Nat} {q : Option Nat} {M : Wm} (h : After ty b p q M w1 w') (hf : Fr (Of b p q) w w1) : After ty b p q M w w' := by
  obtain ⟨q', h1, h2, h3⟩ := h
  exact ⟨q', h1, fun g hg => (h2 g hg).imp id fun h => Nat.le_trans hf.size h, hf.trans h3 fun _ _ h => h⟩
theorem After.then {w w1 w' : World} {b p : Nat} {q : Option Nat} {M : Wm} (h : After ty b p q M w w1) (hb : Below w1.heap.size w1 w') : After ty b p q M w w' := by
  obtain ⟨q', h1, h2, h3⟩ := h
  exact ⟨q', h1.below hb, h2, h3.trans (Fr.of_below (S := Of b p q) hb) fun _ _ h => h⟩
/-- 'append(l, a)' onto a row of one's own, in a region that draws -/
theorem stepA {ops : Array Oper} {o : Oper} {a : Act} {K : Act → World → Prop} {Q : Exit → Act → World → Prop} {E : Prop} (hgd : o.guard = none) (s x : Operand)
    (ho : o.op = .call { callee := .builtin .append, args := #[s, x], argTypes := #[148, 148] }) (W : World) (H : Nat) (v : Value) (ys : List Ac) (y : Ac)
    (hs : a.eval s = v) (hx : a.eval x = .slice (some ⟨H, 0, none⟩) 1 1) (hb : W.heap[H]? = some (.cells #[.int .i64 y.t, .int .i64 y.a, .int .u8 y.k, .int .u64 y.o, .int .u64 y.n, .bool y.s] 135 (0, 0))) (hown : W.ownsRow 0 135 6 v ys.length (flatA ys)) (hn : ys.length ≤ 50000)
    (h : ∀ g cap w', w'.ownsRow 0 135 6 (.slice (some ⟨g, 0, none⟩) (ys.length + 1) cap) (ys.length + 1) (flatA (ys ++ [y])) → W.grownBy w' v.ownBlock → (v.ownBlock = some g ∨ g = W.heap.size) → K (a.put o.dst (.slice (some ⟨g, 0, none⟩) (ys.length + 1) cap)) w') :
    if Region.wanted o (yielded ops a.tmps) = true then Oper.wp Try.prog o a W K Q else E := by
  obtain ⟨i0, hi, hz0, hz1, hz2⟩ := info_parts infoA
  refine step_append_lies _ hgd s x 148 ho 0 135 i0 _ 6 48 Try.underlying148 hi hz0 hz1 hz2 rfl (by omega) v ys.length (flatA ys) hs hown ⟨H, 0, none⟩ 1 1 (encA y) hx rfl
    (World.news_of_block hb) ?_ (by omega) (by unfold maxLen; omega) (by omega) (by omega) _ rfl ?_
  · intro u hu
    exact flatA_one_cell [y] u (by rw [flatA_one]; exact hu)
  · intro g cap w' h1 h2 h3 _
    rw [show flatA ys ++ encA y = flatA (ys ++ [y]) by rw [flatA_append, flatA_one]] at h1
    exact h g cap w' h1 h2 h3
theorem logged_end {w W w1 : World} {b p c g cap : Nat} {v : Value} {M : Wm} {x : Ac} (HB : Below w.heap.size w W) (HR : At0 ty W b p c v M) (hv : ∀ q, v.ownBlock = some q → q < w.heap.size)
    (own1 : w1.ownsRow 0 135 6 (.slice (some ⟨g, 0, none⟩) (M.L.length + 1) cap) (M.L.length + 1) (flatA (M.L ++ [x]))) (grow1 : W.grownBy w1 v.ownBlock) (at1 : v.ownBlock = some g ∨ g = W.heap.size) :
    After ty b p v.ownBlock ⟨M.W, M.L ++ [x]⟩ w (w1.setCell ⟨b, 1, none⟩ (.slice (some ⟨g, 0, none⟩) (M.L.length + 1) cap)) := by
  have hat := HR.logged own1 grow1 (at1.imp (fun h => h.symm) (fun h => by rw [h]; rfl))
  refine ⟨some g, ⟨c, _, rfl, hat⟩, fun g' hg => ?_, ((Fr.of_below HB).grown grow1 fun i hi => .inl (.inr (.inr hi))).set _ _ (.inl rfl)⟩
  cases hg
  exact at1.imp id fun h => by have := HB.size; omega
set_option maxRecDepth 100000 in
set_option maxHeartbeats 1000000 in
theorem note_any (b p c : Nat) (v : Value) (M : Wm) (x : Ac) (w : World) (h : At0 155 w b p c v M) (hL : M.L.length ≤ 50000) :
    Calls Try.prog 53 #[.pointer (some ⟨b, 0, none⟩), agA x] w fun e w' => e = .returned (.tuple #[]) ∧ After 155 b p v.ownBlock ⟨M.W, M.L ++ [x]⟩ w w' := by
  have c1 := h.c1
  have f1 := h.f1
  have hlt := h.lt
  have hv : ∀ q, v.ownBlock = some q → q < w.heap.size := fun q hq => (h.log.lt q hq).2
  obtain ⟨o, ho⟩ : ∃ o : Obj, o = .cells #[.int .i64 x.t, .int .i64 x.a, .int .u8 x.k, .int .u64 x.o, .int .u64 x.n, .bool x.s] 135 := ⟨_, rfl⟩
  have BB : Below w.heap.size w ((w.alloc o).alloc o).drew := below_drewN (bel_alloc (bel_alloc (Below.refl _ _) _) _) 1
  have HW := h.below BB
  have NB : ((w.alloc o).alloc o).drew.heap[w.heap.size + 1]? = some o := by
    have := heap_alloc_new (w.alloc o) o
    rw [World.size_alloc] at this; exact this
  rw [ho] at BB HW NB
  have HB := Lib.hid BB
  have HR := Lib.hid HW
  have HN := Lib.hid NB
  have HV := Lib.hid hv
  clear BB HW NB ho h hv
  unfold agA
  go_enter Try.func53, Try.ntmps53
  go_wp2
  go_region_law ((refine stepA (by rfl) (.tmp 8) (.tmp 10) (by rfl) _ _ v M.L x (by rfl) (by rfl) HN.out HR.out.log (by omega) ?_; intro g cap w1 own1 grow1 at1; have kb := grow1.block b HR.out.lt (fun e => HR.out.qb e.symm); have k1 := (World.cell?_of_block (a := ⟨b, 1, none⟩) kb).trans HR.out.c1; have k2 := (World.frozen?_of_block (a := ⟨b, 1, none⟩) kb).trans HR.out.f1))
  all_goals
    go_wp2
    go_end0
    exact ⟨rfl, logged_end HB.out HR.out HV.out own1 grow1 at1⟩
end Wd
end Go.Proofs.Ytjcbjbhlclajnaa
namespace Go.Proofs.Ytjcbjbhlclajnaa
open Go.RowKit Go.Sort
set_option linter.unusedVariables false
set_option linter.unusedSimpArgs false
set_option maxRecDepth 100000
namespace Wd
open Dm (addr_lit info_parts spot_none RdK flatU infoU bel_alloc bel_trans own_keep below_drewN)
theorem word_nil (t a : Int) (w : World) :
    Calls Try.prog 51 #[.pointer none, .int .i64 t, .int .i64 a] w fun e w' => e = .returned (.tuple #[.pointer none, .int .i64 1]) ∧ w' = w := by
  go_enter Try.func51, Try.ntmps51
  go_wp2
  go_ret2
  exact ⟨rfl, rfl⟩
theorem word_bad (b p c : Nat) (v : Value) (M : Wm) (t a : Int) (w : World) (h : At0 155 w b p c v M) (he : M.err t a ≠ 0) :
    Calls Try.prog 51 #[.pointer (some ⟨b, 0, none⟩), .int .i64 t, .int .i64 a] w fun e w' => e = .returned (.tuple #[.pointer none, .int .i64 (M.err t a)]) ∧ w' = w := by
  have c0 := h.c0
  have C1 := Lib.hid (below_any t 64 w)
  have C2 := Lib.hid (below_any a M.W.length w)
  rcases M.err_cases t a with ⟨h1, e⟩ | ⟨h1, h2, e⟩ | ⟨i, _, _, _, e⟩
  · rw [e]
    rw [decide_eq_false h1] at C1
    clear h he
    go_enter Try.func51, Try.ntmps51
    go_wp2_with fail
    refine C1.out.mono ?_
    rintro r w1 ⟨rfl, rfl⟩
    go_wp2
    go_ret2
    exact ⟨rfl, rfl⟩
  · rw [e]
    rw [decide_eq_true h1] at C1
    rw [decide_eq_false h2] at C2
    clear h he
    go_enter Try.func51, Try.ntmps51
    go_wp2_with fail
    refine C1.out.mono ?_
    rintro r w1 ⟨rfl, rfl⟩
    go_wp2_with fail
    refine C2.out.mono ?_
    rintro r w1 ⟨rfl, rfl⟩
    go_wp2
    go_ret2
    exact ⟨rfl, rfl⟩
  · exact absurd e he
theorem word_ok (b p c : Nat) (v : Value) (M : Wm) (t : Int) (i : Nat) (w : World) (h : At0 155 w b p c v M) (h1 : 0 ≤ t ∧ t < 64) (h2 : i < M.W.length) :
    Calls Try.prog 51 #[.pointer (some ⟨b, 0, none⟩), .int .i64 t, .int .i64 (i : Nat)] w fun e w' => e = .returned (.tuple #[.pointer (some ⟨p, i, none⟩), .int .i64 0]) ∧ w' = w := by
  have c0 := h.c0
  have C1 := Lib.hid (below_any t 64 w)
  have C2 := Lib.hid (below_any (i : Nat) M.W.length w)
  rw [decide_eq_true h1] at C1
  rw [decide_eq_true (show 0 ≤ (i : Int) ∧ (i : Int) < M.W.length by omega)] at C2
  have hW := (h.word h2).1
  have n1 := h.n1
  clear h h1
  go_enter Try.func51, Try.ntmps51
  go_wp2_with fail
  refine C1.out.mono ?_
  rintro r w1 ⟨rfl, rfl⟩
  go_wp2_with fail
  refine C2.out.mono ?_
  rintro r w1 ⟨rfl, rfl⟩
  go_wp2
  go_ret2
  exact ⟨rfl, rfl⟩
/-! ### Load -/
def wrdT (M : Wm) (t a x : Int) : Value := .tuple #[.int .u64 (if M.err t a = 0 then x else 0), .int .i64 (M.err t a)]
def LoP (ty : TypeId) (b p : Nat) (q : Option Nat) (M : Wm) (t a : Int) (w : World) (e : Ending) (w' : World) : Prop := e = .returned (wrdT M t a (M.get a)) ∧ After ty b p q (M.after (M.err t a) (M.load t a)) w w'
/-! ### Store -/
def StP (ty : TypeId) (b p : Nat) (q : Option Nat) (M : Wm) (t a x : Int) (w : World) (e : Ending) (w' : World) : Prop := e = .returned (.int .i64 (M.err t a)) ∧ After ty b p q (M.after (M.err t a) (M.stor t a x)) w w'
set_option maxRecDepth 100000 in
set_option maxHeartbeats 1000000 in
theorem store_any (b p : Nat) (q : Option Nat) (M : Wm) (t a x : Int) (w : World) (h : At 155 w b p q M) (hL : M.L.length ≤ 50000) (x0 : 0 ≤ x) (x1 : x ≤ 18446744073709551615) :
    Calls Try.prog 23 #[.pointer (some ⟨b, 0, none⟩), .int .i64 t, .int .i64 a, .int .u64 x] w (StP 155 b p q M t a x w) := by
  obtain ⟨c, v, rfl, h⟩ := h
  unfold StP
  by_cases he : M.err t a = 0
  · obtain ⟨t0, t1, a0, a1⟩ := Wm.err_zero he
    obtain ⟨i, rfl⟩ := Int.eq_ofNat_of_zero_le a0
    have hi : i < M.W.length := by omega
    have C := Lib.hid (word_ok b p c v M t i w h ⟨t0, t1⟩ hi)
    have CL := Lib.hid (aswap p i _ x w (h.word hi).1 (h.word hi).2)
    have CN := Lib.hid (note_any b p c v ⟨M.W.set i x, M.L⟩ ⟨t, i, 2, M.get (i : Nat), x, false⟩ _ (h.setW hi x0 x1) hL)
    have HF : Fr (Of b p v.ownBlock) w (w.setCell ⟨p, i, none⟩ (.int .u64 x)) := (Fr.of_below (Below.refl _ w)).set _ _ (.inr (.inl rfl))
    have HF := Lib.hid HF
    have HE := Lib.hid (show M.after (M.err t (i : Nat)) (M.stor t (i : Nat) x) = ⟨M.W.set i x, M.L ++ [⟨t, (i : Nat), 2, M.get (i : Nat), x, false⟩]⟩ by rw [he, Wm.after_zero, Wm.stor, Wm.put, Int.toNat_natCast])
    rw [HE.out, he]
    clear h he
    unfold agA at CN
    go_enter Try.func23, Try.ntmps23
    go_wp2_with fail
    refine C.out.mono ?_
    rintro r w1 ⟨rfl, rfl⟩
    go_wp2_with fail
    refine CL.out.mono ?_
    rintro r w1 ⟨rfl, rfl⟩
    go_wp2_with fail
    refine CN.out.mono ?_
    rintro r w2 ⟨rfl, hA⟩
    have HA := Lib.hid hA
    clear hA
    go_wp2
    go_ret
    exact ⟨rfl, HA.out.behind HF.out⟩
  · have C := word_bad b p c v M t a w h he
    have t0 : decide (M.err t a = 0) = false := decide_eq_false he
    have t1 : (M.err t a == 0) = false := beq_eq_false_iff_ne.2 he
    have t2 : (M.err t a != 0) = true := by simp [bne, t1]
    have HE := Lib.hid (show M.after (M.err t a) (M.stor t a x) = M from Wm.after_ne he)
    rw [HE.out]
    have HA := Lib.hid (After.same (ty := 155) ⟨c, v, rfl, h⟩ (Below.refl _ w))
    clear h he HE
    generalize M.err t a = y at *
    have C := Lib.hid C
    go_enter Try.func23, Try.ntmps23
    go_wp2_with fail
    refine C.out.mono ?_
    rintro r w1 ⟨rfl, rfl⟩
    go_wp2
    go_ret
    exact ⟨rfl, HA.out⟩
/-! ### Add -/
def AdP (ty : TypeId) (b p : Nat) (q : Option Nat) (M : Wm) (t a x : Int) (w : World) (e : Ending) (w' : World) : Prop := e = .returned (wrdT M t a (M.sum a x)) ∧ After ty b p q (M.after (M.err t a) (M.addw t a x)) w w'
/-! ### CompareAndSwap -/
def casT (M : Wm) (t a o : Int) : Value := .tuple #[.bool (decide (M.err t a = 0 ∧ M.get a = o)), .int .i64 (M.err t a)]
def CaP (ty : TypeId) (b p : Nat) (q : Option Nat) (M : Wm) (t a o x : Int) (w : World) (e : Ending) (w' : World) : Prop := e = .returned (casT M t a o) ∧ After ty b p q (M.after (M.err t a) (M.cas t a o x)) w w'
/-! ### nil -/
theorem store_nil (t a x : Int) (w : World) : Calls Try.prog 23 #[.pointer none, .int .i64 t, .int .i64 a, .int .u64 x] w fun e w' => e = .returned (.int .i64 1) ∧ w' = w := by
  have C := Lib.hid (word_nil t a w)
  go_enter Try.func23, Try.ntmps23
  go_wp2_with fail
  refine C.out.mono ?_
  rintro r w1 ⟨rfl, rfl⟩
  go_wp2
  go_ret
  exact ⟨rfl, rfl⟩
theorem peek_nil (a : Int) (w : World) : Calls Try.prog 74 #[.pointer none, .int .i64 a] w fun e w' => e = .returned (.tuple #[.int .u64 0, .bool false]) ∧ w' = w := by
  go_enter Try.func74, Try.ntmps74
  go_wp2
  go_ret2
  exact ⟨rfl, rfl⟩
theorem words_nil (w : World) : Calls Try.prog 26 #[.pointer none] w fun e w' => e = .returned (.slice none 0 0) ∧ w' = w := by
  go_enter Try.func26, Try.ntmps26
  go_wp2
  go_ret
  exact ⟨rfl, rfl⟩
/-! ### looking -/
def peekT (M : Wm) (a : Int) : Value := .tuple #[.int .u64 (if 0 ≤ a ∧ a < M.W.length then M.get a else 0), .bool (decide (0 ≤ a ∧ a < M.W.length))]
theorem peek_any (b p : Nat) (q : Option Nat) (M : Wm) (a : Int) (w : World) (h : At 155 w b p q M) : Calls Try.prog 74 #[.pointer (some ⟨b, 0, none⟩), .int .i64 a] w fun e w' => e = .returned (peekT M a) ∧ w' = w := by
  obtain ⟨c, v, rfl, h⟩ := h
  have c0 := h.c0
  have n1 := h.n1
  have C := below_any a M.W.length w
  unfold peekT
  by_cases hi : 0 ≤ a ∧ a < M.W.length
  · rw [if_pos hi, decide_eq_true hi]
    rw [decide_eq_true hi] at C
    obtain ⟨i, rfl⟩ := Int.eq_ofNat_of_zero_le hi.1
    have hi2 : i < M.W.length := by omega
    have CL := Lib.hid (aload p i _ w (h.word hi2).1)
    have hW := (h.word hi2).1
    have C := Lib.hid C
    clear h hi
    go_enter Try.func74, Try.ntmps74
    go_wp2_with fail
    refine C.out.mono ?_
    rintro r w1 ⟨rfl, rfl⟩
    go_wp2_with fail
    refine CL.out.mono ?_
    rintro r w1 ⟨rfl, rfl⟩
    go_wp2
    go_ret2
    exact ⟨rfl, rfl⟩
  · rw [if_neg hi, decide_eq_false hi]
    rw [decide_eq_false hi] at C
    have C := Lib.hid C
    clear h hi
    go_enter Try.func74, Try.ntmps74
    go_wp2_with fail
    refine C.out.mono ?_
    rintro r w1 ⟨rfl, rfl⟩
    go_wp2
    go_ret2
    exact ⟨rfl, rfl⟩
/-- the log from an index on -/
def from_ (L : List Ac) (i : Int) : List Ac := if 0 ≤ i ∧ i < L.length then L.drop i.toNat else []
end Wd
end Go.Proofs.Ytjcbjbhlclajnaa
namespace Go.Proofs.Ytjcbjbhlclajnaa
open Go.RowKit Go.Sort
set_option linter.unusedVariables false
set_option linter.unusedSimpArgs false
set_option maxRecDepth 100000
namespace Wd
open Dm (addr_lit info_parts spot_none RdK flatU infoU bel_alloc bel_trans own_keep below_drewN)
theorem made_flat (n : Nat) : (madeCells (Value.int .u64 0).cells (n * 1)).toList = flatU (List.replicate n 0) := by
  refine List.ext_getElem (by simp [madeCells, flatU]) fun t h1 h2 => ?_
  simp [madeCells, flatU, Value.cells, Nat.mod_one]
theorem made_flatA (n : Nat) : (madeCells (Value.agg #[.int .u64 0]).cells (n * 1)).toList = flatU (List.replicate n 0) := by
  refine List.ext_getElem (by simp [madeCells, flatU]) fun t h1 h2 => ?_
  simp [madeCells, flatU, Value.cells, Nat.mod_one]
theorem flat_set (l : List Int) (j : Nat) (x : Int) : (flatU l).set j (.int .u64 x) = flatU (l.set j x) := by simp [flatU, List.map_set]
theorem own_cell {w : World} {base g n c : Nat} {e : TypeId} {l : List Int} (h : w.ownsRow base e 1 (.slice (some ⟨g, 0, none⟩) n c) n (flatU l)) {j : Nat} (hl : l.length = n) (hj : j < n) : w.cell? ⟨g, j, none⟩ = some (.int .u64 (l.getD j 0)) := by
  rw [h.cellAt j (by omega)]
  simp only [flatU, List.getElem?_map, List.getElem?_eq_getElem (show j < l.length by omega), List.getD_eq_getElem?_getD]
  rfl
theorem ext_getD {l m : List Int} {n : Nat} (hl : l.length = n) (hm : m.length = n) (h : ∀ t, t < n → l.getD t 0 = m.getD t 0) : l = m := by
  apply List.ext_getElem (by omega)
  intro i h1 h2
  have := h i (by omega)
  simpa [List.getD_eq_getElem?_getD, List.getElem?_eq_getElem h1, List.getElem?_eq_getElem h2] using this
theorem getD_set_self {l : List Int} {j : Nat} (x : Int) (h : j < l.length) : (l.set j x).getD j 0 = x := by simp [List.getD_eq_getElem?_getD, List.getElem?_set, h]
theorem getD_set_other {l : List Int} {j t : Nat} (x : Int) (h : j ≠ t) : (l.set j x).getD t 0 = l.getD t 0 := by simp [List.getD_eq_getElem?_getD, List.getElem?_set, h]
theorem get_D (M : Wm) (j : Nat) : M.get (j : Nat) = M.W.getD j 0 := by rw [Wm.get, Int.toNat_natCast]
set_option maxRecDepth 100000 in
set_option maxHeartbeats 1000000 in
theorem words_any (b p : Nat) (q : Option Nat) (M : Wm) (w : World) (h : At 155 w b p q M) : Calls Try.prog 26 #[.pointer (some ⟨b, 0, none⟩)] w (RwU w M.W) := by
  obtain ⟨c, v, rfl, h⟩ := h
  have c0 := h.c0
  have n1 := h.n1
  have H := Lib.hid h
  clear h
  obtain ⟨i0, hi, hz0, hz1, hz2⟩ := info_parts infoU
  go_enter Try.func26, Try.ntmps26
  go_wp2_with (at_make; refine wpList_make_full _ rfl _ _ 43 rfl w.heap.size 27 i0 (.int .u64 0) 1 Try.underlying43 hi hz0 hz1 .i64 .i64 _ _ M.W.length rfl rfl rfl rfl (by rw [hz2]; omega) (by unfold maxLen; omega) (Nat.le_refl _) ?_; intro w1 hown hgrow)
  rw [made_flat] at hown
  have b1 : Below w.heap.size w w1 := (Below.refl _ w).grown hgrow (Nat.le_refl _) fun g h => by cases h
  clear hgrow hi hz0 hz1 hz2
  go_loopw [15] (fun i wr => ∃ (j : Nat) (l : List Int), j ≤ M.W.length ∧ i = .int .i64 j ∧ wr.ownsRow w.heap.size 27 1 (.slice (some ⟨w.heap.size, 0, none⟩) M.W.length M.W.length) M.W.length (flatU l) ∧ l.length = M.W.length ∧ (∀ t, t < j → l.getD t 0 = M.W.getD t 0) ∧ Below w.heap.size w wr) (fun i _ => (M.W.length - intOf i).toNat)
  case atStart => exact ⟨0, _, Nat.zero_le _, rfl, hown, List.length_replicate, fun t h => absurd h (Nat.not_lt_zero _), b1⟩
  case round =>
    clear hown b1
    obtain ⟨j, l, hj, rfl, ow, hl, hE, bel⟩ := hrel
    have c0' := (bel.cell (p := ⟨b, 0, none⟩) H.out.lt).trans c0
    by_cases hlt : j < M.W.length
    · have cj := own_cell ow hl hlt
      have fj := ow.frozenAt j
      have hW := ((H.out.below bel).word hlt).1
      have CL := Lib.hid (aload p j _ wr hW)
      have OW := Lib.hid ow; clear ow
      have HE := Lib.hid hE; clear hE
      have HL := Lib.hid hl; clear hl
      have t0 : decide ((j : Int) < M.W.length) = true := decide_eq_true (by omega)
      go_wp2_with fail
      refine CL.out.mono ?_
      rintro r w2 ⟨rfl, rfl⟩
      go_wp2
      go_roundw
      case rel =>
        refine ⟨j + 1, l.set j (M.get (j : Nat)), by omega, by go_num, ?_, by rw [List.length_set, HL.out], fun t ht => ?_, bel.setCell (p := ⟨w.heap.size, j, none⟩) (Nat.le_refl _) _⟩
        · rw [← flat_set]; exact (OW.out.stored j _).1
        · by_cases e : t = j
          · subst e
            rw [getD_set_self _ (by have := HL.out; omega), get_D]
          · rw [getD_set_other _ (fun h => e h.symm)]
            exact HE.out t (by omega)
      case measure => simp [intOf]; omega
    · obtain rfl : l = M.W := ext_getD hl rfl fun t ht => hE t (by omega)
      have OW := Lib.hid ow
      clear ow hE hl
      have t0 : decide ((j : Int) < M.W.length) = false := decide_eq_false (by omega)
      go_wp2
      go_ret
      exact ⟨⟨_, rfl, OW.out⟩, bel⟩
/-- what New leaves -/
def NwP (ty : TypeId) (l : List Int) (w : World) (e : Ending) (w' : World) : Prop :=
  (newE l.length ≠ 0 ∧ e = .returned (.tuple #[.pointer none, .int .i64 (newE l.length)]) ∧ w' = w) ∨
  (newE l.length = 0 ∧ ∃ b p, e = .returned (.tuple #[.pointer (some ⟨b, 0, none⟩), .int .i64 0]) ∧ At ty w' b p none ⟨l, []⟩ ∧ w.heap.size ≤ b ∧ w.heap.size ≤ p ∧ Below w.heap.size w w')
theorem newE_zero {n : Nat} (h : newE n = 0) : 0 < n ∧ n ≤ 65536 := by
  unfold newE at h
  split at h
  · cases h
  · split at h
    · cases h
    · omega
theorem bdU_bdW {l : List Int} (h : Dm.BdU l) : BdW l := fun x hx => by
  obtain ⟨i, hi, e⟩ := List.mem_iff_getElem.1 hx
  have := h i hi
  rw [List.getD_eq_getElem?_getD, List.getElem?_eq_getElem hi] at this
  simpa [e] using this
theorem bdW_bdU {l : List Int} (h : BdW l) : Dm.BdU l := fun k hk => by
  rw [List.getD_eq_getElem?_getD, List.getElem?_eq_getElem hk]
  exact h _ (List.getElem_mem hk)
set_option maxRecDepth 100000 in
set_option maxHeartbeats 1000000 in
theorem new_any (A : Option Addr) (n c : Nat) (l : List Int) (w : World) (hl : l.length = n) (hn : n ≤ maxLen) (hr : RdK .u64 w A l) (hd : BdW l) : Calls Try.prog 34 #[.slice A n c] w (NwP 155 l w) := by
  have CF := Lib.hid (fits_any A n c w hn)
  subst hl
  by_cases he : newE l.length = 0
  · obtain ⟨h0, h1⟩ := newE_zero he
    have HP := Lib.hid (show ∀ e w', (∃ b p, e = .returned (.tuple #[.pointer (some ⟨b, 0, none⟩), .int .i64 0]) ∧ At 155 w' b p none ⟨l, []⟩ ∧ w.heap.size ≤ b ∧ w.heap.size ≤ p ∧ Below w.heap.size w w') → NwP 155 l w e w' from fun e w' h => .inr ⟨he, h⟩)
    rw [he] at CF
    have HR := Lib.hid hr
    have HD := Lib.hid hd
    clear hr hd he
    obtain ⟨i0, hi, hz0, hz1, hz2⟩ := info_parts (show (Try.prog.info? 155).map (fun i => (i.zero, i.size, i.bytes)) = some (some (.agg #[.int .u64 0]), 1, 8) by kernel_rfl)
    go_enter Try.func34, Try.ntmps34
    go_wp2_with fail
    refine CF.out.mono ?_
    rintro r w1 ⟨rfl, rfl⟩
    go_wp2_with (at_make; refine wpList_make_full _ rfl _ _ 147 rfl w1.heap.size 155 i0 (.agg #[.int .u64 0]) 1 Try.underlying147 hi hz0 hz1 .i64 .i64 _ _ l.length rfl rfl rfl rfl (by rw [hz2]; omega) (by unfold maxLen; omega) (Nat.le_refl _) ?_; intro w2 hown hgrow)
    rw [made_flatA] at hown
    have b2 : Below w1.heap.size w1 w2 := (Below.refl _ w1).grown hgrow (Nat.le_refl _) fun g h => by cases h
    clear hgrow hi hz0 hz1 hz2
    have hp : w1.heap.size < w2.heap.size := (hown.lt w1.heap.size rfl).2
    have hat : At0 155 (w2.alloc (.cells #[.slice (some ⟨w1.heap.size, 0, none⟩) l.length l.length, .slice none 0 0] 150)) w2.heap.size w1.heap.size l.length (.slice none 0 0) ⟨List.replicate l.length 0, []⟩ :=
      ⟨by simp, by simp, by simp, by simpa using (Joins.ownsRow_le hown (Nat.zero_le _)).alloc _, World.ownsRow_nil _ _ _ _, by omega, (fun e => by cases e), (fun e => by cases e), (fun x hx => by have := (List.mem_replicate.1 hx).2; omega), by simpa using h0, by simpa using h1⟩
    have b3 : Below w1.heap.size w1 (w2.alloc (.cells #[.slice (some ⟨w1.heap.size, 0, none⟩) l.length l.length, .slice none 0 0] 150)) := bel_alloc b2 _
    generalize w2.alloc (.cells #[.slice (some ⟨w1.heap.size, 0, none⟩) l.length l.length, .slice none 0 0] 150) = w3 at *
    obtain ⟨b, hb⟩ : ∃ b, b = w2.heap.size := ⟨_, rfl⟩
    rw [← hb] at hat hp ⊢
    clear hown b2 hb
    go_loopw [20] (fun i wr => ∃ (j : Nat) (l' : List Int), j ≤ l.length ∧ i = .int .i64 j ∧ At0 155 wr b w1.heap.size l.length (.slice none 0 0) ⟨l', []⟩ ∧ l'.length = l.length ∧ (∀ t, t < j → l'.getD t 0 = l.getD t 0) ∧ Below w1.heap.size w1 wr) (fun i _ => (l.length - intOf i).toNat)
    case atStart => exact ⟨0, _, Nat.zero_le _, rfl, hat, List.length_replicate, fun t h => absurd h (Nat.not_lt_zero _), b3⟩
    case round =>
      clear hat b3
      obtain ⟨j, l', hj, rfl, hat, hl, hE, bel⟩ := hrel
      have c0 := hat.c0
      simp only [hl] at c0
      by_cases hlt : j < l.length
      · obtain ⟨ab, ao, ea, ca⟩ := HR.out j hlt
        subst ea
        have ca := (bel.cell (p := ⟨ab, ao + j, none⟩) (Dm.cell_lt ca)).trans ca
        obtain ⟨x0, x1⟩ := bdW_bdU HD.out j hlt
        obtain ⟨x, hx⟩ : ∃ x, l.getD j 0 = x := ⟨_, rfl⟩
        rw [hx] at ca x0 x1
        have HX := Lib.hid hx; clear hx
        obtain ⟨hW, hF⟩ := hat.word (show j < (Wm.mk l' []).W.length by show j < l'.length; omega)
        have CS := Lib.hid (astore w1.heap.size j _ x wr hW hF)
        have HS := Lib.hid (hat.setW (i := j) (x := x) (by show j < l'.length; omega) x0 x1)
        have HE := Lib.hid hE; clear hE
        have HL := Lib.hid hl; clear hl hat
        have t0 : decide ((j : Int) < l.length) = true := decide_eq_true (by omega)
        go_wp2_with fail
        refine CS.out.mono ?_
        rintro r w4 ⟨rfl, rfl⟩
        go_wp2
        go_roundw
        case rel =>
          refine ⟨j + 1, l'.set j x, by omega, by go_num, HS.out, by rw [List.length_set, HL.out], fun t ht => ?_, bel.setCell (p := ⟨w1.heap.size, j, none⟩) (Nat.le_refl _) _⟩
          by_cases e : t = j
          · subst e
            rw [getD_set_self _ (by have := HL.out; omega), HX.out]
          · rw [getD_set_other _ (fun h => e h.symm)]
            exact HE.out t (by omega)
        case measure => simp [intOf]; omega
      · obtain rfl : l' = l := ext_getD hl rfl fun t ht => hE t (by omega)
        have HA := Lib.hid hat
        clear hE hl hat c0
        have t0 : decide ((j : Int) < l'.length) = false := decide_eq_false (by omega)
        go_wp2
        go_ret2
        exact HP.out _ _ ⟨b, w1.heap.size, rfl, ⟨_, _, rfl, HA.out⟩, by omega, Nat.le_refl _, bel⟩
  · have HP := Lib.hid (show NwP 155 l w (.returned (.tuple #[.pointer none, .int .i64 (newE l.length)])) w from .inl ⟨he, rfl, rfl⟩)
    have t0 : decide (newE l.length = 0) = false := decide_eq_false he
    have t1 : (newE l.length == 0) = false := beq_eq_false_iff_ne.2 he
    have t2 : (newE l.length != 0) = true := by simp [bne, t1]
    clear hr hd he
    generalize newE l.length = y at *
    go_enter Try.func34, Try.ntmps34
    go_wp2_with fail
    refine CF.out.mono ?_
    rintro r w1 ⟨rfl, rfl⟩
    go_wp2
    go_ret2
    exact HP.out
end Wd
end Go.Proofs.Ytjcbjbhlclajnaa
