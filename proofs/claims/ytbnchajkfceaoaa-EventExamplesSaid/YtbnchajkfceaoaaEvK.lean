/- Package event: the map of conditions, and the states of threads as an array: contracts and facts of the translated code. No conditions beside those of each lemma. -/
import Derived.Test.YtbnchajkfceaoaaEvC
import Derived.WideMake
namespace Go.Proofs.Ytbnchajkfceaoaa
open Go.RowKit Go.Sort
set_option linter.unusedVariables false
set_option linter.unusedSimpArgs false
namespace Ev
def fnV (f : FuncId) : Value := .func (.func f) #[] #[]
def mE (n : Int) (f : FuncId) (b : Nat) : MapEntry := ⟨.int .u8 n, fnV f, b⟩
def mEs : Array MapEntry := #[mE 1 44 0, mE 2 45 1, mE 3 46 2, mE 4 47 3]
theorem key_u8 (n : Int) : MapKept.IsKey (.int .u8) (.int .u8 n) := by simp [MapKept.IsKey]
theorem set_push {α : Type} (a : Array α) (x y : α) : (a.push x).setIfInBounds a.size y = a.push y := by
  apply Array.ext
  · simp
  · intro i h1 h2
    have hi : i < a.size + 1 := by simpa using h2
    rw [Array.getElem_setIfInBounds (by simpa using hi)]
    by_cases e : a.size = i
    · rw [if_pos e]; subst e; simp
    · rw [if_neg e, Array.getElem_push_lt (by omega), Array.getElem_push_lt (by omega)]
theorem mu_run (w : World) (es : Array MapEntry) (cl : Nat) (n : Int) (val : Value) (hf : Instr.findNow (.int .u8) (.int .u8 n) es.toList 0 = some none) :
    (Instr.mapUpdate 63 (.map (some w.heap.size)) (.int .u8 n) val).run Try.prog (w.alloc (.map es cl)) = .ok () (w.alloc (.map (es.push ⟨.int .u8 n, val, cl⟩) (cl + 1))) := by
  have hb : (w.alloc (.map es cl)).heap[w.heap.size]? = some (.map es cl) := (MapKept.heap_alloc w _).1
  have hc : (Instr.checkKey false 10000 5 (.int .u8 n)).run Try.prog (w.alloc (.map es cl)) = .ok () (w.alloc (.map es cl)) := MapKept.run_checkKey (k := .int .u8 n) Try.underlying5 (key_u8 n) false 9999
  have hh : ({ w.alloc (.map es cl) with heap := (w.alloc (.map es cl)).heap.setIfInBounds w.heap.size (.map (es.push ⟨.int .u8 n, val, cl⟩) (cl + 1)) } : World) = w.alloc (.map (es.push ⟨.int .u8 n, val, cl⟩) (cl + 1)) := by
    unfold World.alloc
    simp only [set_push]
  simp [Instr.mapUpdate, run_underlying Try.underlying63, MapKept.run_getObj_map hb, hc, MapKept.run_findKey Try.underlying5 hf, MapKept.run_setObj_map _ hb, Result.andThen]
  simpa using hh
theorem look_run {W : World} {r : Nat} {n : Int} (hb : W.heap[r]? = some (.map mEs 4)) (hn : 1 ≤ n ∧ n ≤ 4) : (Instr.lookup 63 (.map (some r)) (.int .u8 n) false).run Try.prog W = .ok (.func (.func (sF n)) #[] #[]) W := by
  have hc : ∀ b, (Instr.checkKey b 10000 5 (.int .u8 n)).run Try.prog W = .ok () W := fun b => MapKept.run_checkKey (k := .int .u8 n) Try.underlying5 (key_u8 n) b 9999
  have hf : Instr.findNow (.int .u8) (.int .u8 n) mEs.toList 0 = some (some ((n - 1).toNat, fnV (sF n))) := by
    obtain rfl | rfl | rfl | rfl : n = 1 ∨ n = 2 ∨ n = 3 ∨ n = 4 := by omega
    all_goals rfl
  simp [Instr.lookup, run_underlying Try.underlying63, MapKept.run_getObj_map hb, hc, MapKept.run_findKey Try.underlying5 hf, Result.andThen]
  rfl
theorem callF_run {n : Int} (hn : 1 ≤ n ∧ n ≤ 4) (args : Array Value) (W : World) : (callFunc (sF n) args).run Try.prog W = .ok (.enter (sF n) args) W := by
  obtain rfl | rfl | rfl | rfl : n = 1 ∨ n = 2 ∨ n = 3 ∨ n = 4 := by omega
  all_goals rfl
theorem conditions_any (w : World) : Calls Try.prog 30 #[] w fun e w' => e = .returned (.map (some w.heap.size)) ∧ w' = w.alloc (.map mEs 4) := by
  have hmm := @run_makeMap Try.prog
  have m1 := fun val (w : World) => mu_run w #[] 0 1 val rfl
  have m2 := fun val (w : World) => mu_run w #[mE 1 44 0] 1 2 val rfl
  have m3 := fun val (w : World) => mu_run w #[mE 1 44 0, mE 2 45 1] 2 3 val rfl
  have m4 := fun val (w : World) => mu_run w #[mE 1 44 0, mE 2 45 1, mE 3 46 2] 3 4 val rfl
  simp only [mE, fnV, Nat.reduceSub, List.push_toArray, List.nil_append, List.cons_append, Nat.reduceAdd, Nat.zero_add] at m1 m2 m3 m4
  go_enter Try.func30, Try.ntmps30
  go_wp2
  go_ret
  exact ⟨rfl, rfl⟩
/-- the states of 64 threads -/
def aS (f : Nat → Int × Int) : Array Value := ((List.range 64).flatMap fun k => [Value.int .u8 (f k).1, Value.int .u64 (f k).2]).toArray
def ArS (W : World) (B : Nat) (f : Nat → Int × Int) : Prop := W.heap[B]? = some (.cells (aS f) 67 (0, 0))
theorem ArS.lt {W : World} {B : Nat} {f : Nat → Int × Int} (h : ArS W B f) : B < W.heap.size := (Array.getElem?_eq_some_iff.1 h).1
theorem aS_len (f : Nat → Int × Int) : ∀ n, ((List.range n).flatMap fun k => [Value.int .u8 (f k).1, Value.int .u64 (f k).2]).length = 2 * n
  | 0 => rfl
  | n + 1 => by
    rw [List.range_succ, List.flatMap_append, List.length_append, aS_len f n]; simp; omega
theorem aS_at (f : Nat → Int × Int) : ∀ n k, k < n → ((List.range n).flatMap fun k => [Value.int .u8 (f k).1, Value.int .u64 (f k).2])[2 * k]? = some (.int .u8 (f k).1) ∧ ((List.range n).flatMap fun k => [Value.int .u8 (f k).1, Value.int .u64 (f k).2])[2 * k + 1]? = some (.int .u64 (f k).2)
  | 0, k, h => by omega
  | n + 1, k, h => by
    have hl := aS_len f n
    rw [List.range_succ, List.flatMap_append]
    by_cases hk : k < n
    · rw [List.getElem?_append_left (by omega), List.getElem?_append_left (by omega)]
      exact aS_at f n k hk
    · obtain rfl : k = n := by omega
      rw [List.getElem?_append_right (by omega), List.getElem?_append_right (by omega), hl]
      simp
theorem aS_get (f : Nat → Int × Int) {k : Nat} (h : k < 64) : (aS f)[2 * k]? = some (.int .u8 (f k).1) ∧ (aS f)[2 * k + 1]? = some (.int .u64 (f k).2) := by
  have := aS_at f 64 k h
  unfold aS
  rw [List.getElem?_toArray, List.getElem?_toArray]
  exact this
theorem aS_size (f : Nat → Int × Int) : (aS f).size = 128 := by unfold aS; rw [List.size_toArray, aS_len]
theorem ArS.cell {W : World} {B : Nat} {f : Nat → Int × Int} (h : ArS W B f) {k : Nat} (hk : k < 64) : W.cell? ⟨B, k * 2, none⟩ = some (.int .u8 (f k).1) ∧ W.cell? ⟨B, k * 2 + 1, none⟩ = some (.int .u64 (f k).2) := by
  have := aS_get f hk
  rw [Nat.mul_comm k 2]
  constructor
  · simp only [World.cell?, show W.heap[B]? = _ from h]; exact this.1
  · simp only [World.cell?, show W.heap[B]? = _ from h]; exact this.2
theorem ArS.frozen {W : World} {B : Nat} {f : Nat → Int × Int} (h : ArS W B f) (k : Nat) : W.frozen? ⟨B, k, none⟩ = false := by simp [World.frozen?, show W.heap[B]? = _ from h]
theorem ArS.keep {W W' : World} {B : Nat} {f : Nat → Int × Int} (h : ArS W B f) (hb : W'.heap[B]? = W.heap[B]?) : ArS W' B f := hb.trans h
theorem ArS.below {W W' : World} {B : Nat} {f : Nat → Int × Int} (h : ArS W B f) {n : Nat} (hn : B < n) (hb : Below n W W') : ArS W' B f := h.keep (hb.block B hn)
theorem set_block {W : World} {B : Nat} {c : Array Value} {T : TypeId} {fz : Nat × Nat} (h : W.heap[B]? = some (.cells c T fz)) (o : Nat) (v : Value) : (W.setCell ⟨B, o, none⟩ v).heap[B]? = some (.cells (c.setIfInBounds o v) T fz) := by
  obtain ⟨hlt, hk⟩ := Array.getElem?_eq_some_iff.1 h
  show (W.heap.modify B _)[B]? = _
  rw [Array.getElem?_eq_getElem (by rw [Array.size_modify]; exact hlt), Array.getElem_modify_self, hk]
  rfl
theorem ArS.set {W : World} {B : Nat} {f : Nat → Int × Int} (h : ArS W B f) {r : Nat} (hr : r < 64) (x y : Int) : ArS ((W.setCell ⟨B, r * 2, none⟩ (.int .u8 x)).setCell ⟨B, r * 2 + 1, none⟩ (.int .u64 y)) B (fun k => if k = r then (x, y) else f k) := by
  rw [Nat.mul_comm r 2]
  unfold ArS
  rw [set_block (set_block h (2 * r) (.int .u8 x)) (2 * r + 1) (.int .u64 y)]
  show some (Obj.cells (((aS f).setIfInBounds (2 * r) (.int .u8 x)).setIfInBounds (2 * r + 1) (.int .u64 y)) 67 (0, 0)) = _
  congr 2
  apply Array.ext
  · simp [aS_size]
  · intro i h1 h2
    rw [aS_size] at h2
    have e : ∀ {a b : Array Value} {i : Nat} (ha : i < a.size) (hb : i < b.size), a[i]? = b[i]? → a[i] = b[i] := fun ha hb h => by
      rw [Array.getElem?_eq_getElem ha, Array.getElem?_eq_getElem hb] at h; exact Option.some.inj h
    refine e _ _ ?_
    obtain ⟨k, hk⟩ : ∃ k, k = i / 2 := ⟨_, rfl⟩
    have hk64 : k < 64 := by omega
    have g1 := aS_get f hk64
    have g2 := aS_get (fun k => if k = r then (x, y) else f k) hk64
    have hs := aS_size f
    rcases Nat.mod_two_eq_zero_or_one i with hm | hm
    · obtain rfl : i = 2 * k := by omega
      rw [g2.1, Array.getElem?_setIfInBounds_ne (by omega)]
      by_cases hkr : k = r
      · subst hkr
        rw [Array.getElem?_setIfInBounds_self_of_lt (by omega), if_pos rfl]
      · rw [Array.getElem?_setIfInBounds_ne (by omega), g1.1, if_neg hkr]
    · obtain rfl : i = 2 * k + 1 := by omega
      rw [g2.2]
      by_cases hkr : k = r
      · subst hkr
        rw [Array.getElem?_setIfInBounds_self_of_lt (by simp; omega), if_pos rfl]
      · rw [Array.getElem?_setIfInBounds_ne (by omega), Array.getElem?_setIfInBounds_ne (by omega), g1.2, if_neg hkr]
set_option maxRecDepth 100000 in
theorem aS_zero : aS (fun _ => (0, 0)) = #[.int .u8 0, .int .u64 0, .int .u8 0, .int .u64 0, .int .u8 0, .int .u64 0, .int .u8 0, .int .u64 0, .int .u8 0, .int .u64 0, .int .u8 0, .int .u64 0, .int .u8 0, .int .u64 0, .int .u8 0, .int .u64 0, .int .u8 0, .int .u64 0, .int .u8 0, .int .u64 0, .int .u8 0, .int .u64 0, .int .u8 0, .int .u64 0, .int .u8 0, .int .u64 0, .int .u8 0, .int .u64 0, .int .u8 0, .int .u64 0, .int .u8 0, .int .u64 0, .int .u8 0, .int .u64 0, .int .u8 0, .int .u64 0, .int .u8 0, .int .u64 0, .int .u8 0, .int .u64 0, .int .u8 0, .int .u64 0, .int .u8 0, .int .u64 0, .int .u8 0, .int .u64 0, .int .u8 0, .int .u64 0, .int .u8 0, .int .u64 0, .int .u8 0, .int .u64 0, .int .u8 0, .int .u64 0, .int .u8 0, .int .u64 0, .int .u8 0, .int .u64 0, .int .u8 0, .int .u64 0, .int .u8 0, .int .u64 0, .int .u8 0, .int .u64 0, .int .u8 0, .int .u64 0, .int .u8 0, .int .u64 0, .int .u8 0, .int .u64 0, .int .u8 0, .int .u64 0, .int .u8 0, .int .u64 0, .int .u8 0, .int .u64 0, .int .u8 0, .int .u64 0, .int .u8 0, .int .u64 0, .int .u8 0, .int .u64 0, .int .u8 0, .int .u64 0, .int .u8 0, .int .u64 0, .int .u8 0, .int .u64 0, .int .u8 0, .int .u64 0, .int .u8 0, .int .u64 0, .int .u8 0, .int .u64 0, .int .u8 0, .int .u64 0, .int .u8 0, .int .u64 0, .int .u8 0, .int .u64 0, .int .u8 0, .int .u64 0, .int .u8 0, .int .u64 0, .int .u8 0, .int .u64 0, .int .u8 0, .int .u64 0, .int .u8 0, .int .u64 0, .int .u8 0, .int .u64 0, .int .u8 0, .int .u64 0, .int .u8 0, .int .u64 0, .int .u8 0, .int .u64 0, .int .u8 0, .int .u64 0, .int .u8 0, .int .u64 0, .int .u8 0, .int .u64 0, .int .u8 0, .int .u64 0, .int .u8 0, .int .u64 0] := rfl
theorem ArS.new (W : World) : ArS (W.alloc (.cells #[.int .u8 0, .int .u64 0, .int .u8 0, .int .u64 0, .int .u8 0, .int .u64 0, .int .u8 0, .int .u64 0, .int .u8 0, .int .u64 0, .int .u8 0, .int .u64 0, .int .u8 0, .int .u64 0, .int .u8 0, .int .u64 0, .int .u8 0, .int .u64 0, .int .u8 0, .int .u64 0, .int .u8 0, .int .u64 0, .int .u8 0, .int .u64 0, .int .u8 0, .int .u64 0, .int .u8 0, .int .u64 0, .int .u8 0, .int .u64 0, .int .u8 0, .int .u64 0, .int .u8 0, .int .u64 0, .int .u8 0, .int .u64 0, .int .u8 0, .int .u64 0, .int .u8 0, .int .u64 0, .int .u8 0, .int .u64 0, .int .u8 0, .int .u64 0, .int .u8 0, .int .u64 0, .int .u8 0, .int .u64 0, .int .u8 0, .int .u64 0, .int .u8 0, .int .u64 0, .int .u8 0, .int .u64 0, .int .u8 0, .int .u64 0, .int .u8 0, .int .u64 0, .int .u8 0, .int .u64 0, .int .u8 0, .int .u64 0, .int .u8 0, .int .u64 0, .int .u8 0, .int .u64 0, .int .u8 0, .int .u64 0, .int .u8 0, .int .u64 0, .int .u8 0, .int .u64 0, .int .u8 0, .int .u64 0, .int .u8 0, .int .u64 0, .int .u8 0, .int .u64 0, .int .u8 0, .int .u64 0, .int .u8 0, .int .u64 0, .int .u8 0, .int .u64 0, .int .u8 0, .int .u64 0, .int .u8 0, .int .u64 0, .int .u8 0, .int .u64 0, .int .u8 0, .int .u64 0, .int .u8 0, .int .u64 0, .int .u8 0, .int .u64 0, .int .u8 0, .int .u64 0, .int .u8 0, .int .u64 0, .int .u8 0, .int .u64 0, .int .u8 0, .int .u64 0, .int .u8 0, .int .u64 0, .int .u8 0, .int .u64 0, .int .u8 0, .int .u64 0, .int .u8 0, .int .u64 0, .int .u8 0, .int .u64 0, .int .u8 0, .int .u64 0, .int .u8 0, .int .u64 0, .int .u8 0, .int .u64 0, .int .u8 0, .int .u64 0, .int .u8 0, .int .u64 0, .int .u8 0, .int .u64 0, .int .u8 0, .int .u64 0] 67)) W.heap.size (fun _ => (0, 0)) := by
  unfold ArS; rw [aS_zero]; exact (MapKept.heap_alloc W _).1
/-- an event in a block of its own -/
def Bk (W : World) (b : Nat) (x : E) : Prop := W.heap[b]? = some (.cells #[.int .i64 x.s, .int .i64 x.t, .int .u8 x.k, .int .u64 x.v] 57 (0, 0))
theorem Bk.lt {W : World} {b : Nat} {x : E} (h : Bk W b x) : b < W.heap.size := (Array.getElem?_eq_some_iff.1 h).1
theorem Bk.new (W : World) (x : E) : Bk (W.alloc (.cells #[.int .i64 x.s, .int .i64 x.t, .int .u8 x.k, .int .u64 x.v] 57)) W.heap.size x := (MapKept.heap_alloc W _).1
theorem Bk.same {W W' : World} {b : Nat} {x : E} (h : Bk W b x) (hb : W'.heap[b]? = W.heap[b]?) : Bk W' b x := hb.trans h
theorem Bk.below {W W' : World} {b n : Nat} {x : E} (h : Bk W b x) (bel : Below n W W') (hn : b < n) : Bk W' b x := h.same (bel.block b hn)
theorem Bk.alloc {W : World} {b : Nat} {x : E} (h : Bk W b x) (o : Obj) : Bk (W.alloc o) b x := h.same ((MapKept.heap_alloc W o).2 b h.lt)
theorem Bk.drew {W : World} {b : Nat} {x : E} (h : Bk W b x) : Bk W.drew b x := h
theorem Bk.c {W : World} {b : Nat} {x : E} (h : Bk W b x) : W.cell? ⟨b, 0, none⟩ = some (.int .i64 x.s) ∧ W.cell? ⟨b, 1, none⟩ = some (.int .i64 x.t) ∧ W.cell? ⟨b, 2, none⟩ = some (.int .u8 x.k) ∧ W.cell? ⟨b, 3, none⟩ = some (.int .u64 x.v) := by
  refine ⟨?_, ?_, ?_, ?_⟩ <;> simp [World.cell?, show W.heap[b]? = _ from h]
theorem Bk.frozen {W : World} {b : Nat} {x : E} (h : Bk W b x) (k : Nat) : W.frozen? ⟨b, k, none⟩ = false := by simp [World.frozen?, show W.heap[b]? = _ from h]
theorem Bk.set {W : World} {b : Nat} {x : E} (h : Bk W b x) (y : E) : Bk ((((W.setCell ⟨b, 0, none⟩ (.int .i64 y.s)).setCell ⟨b, 1, none⟩ (.int .i64 y.t)).setCell ⟨b, 2, none⟩ (.int .u8 y.k)).setCell ⟨b, 3, none⟩ (.int .u64 y.v)) b y := by
  unfold Bk
  rw [set_block (set_block (set_block (set_block h 0 _) 1 _) 2 _) 3 _]
  rfl
theorem other {W : World} {b c o : Nat} {v : Value} (h : c ≠ b) : (W.setCell ⟨b, o, none⟩ v).heap[c]? = W.heap[c]? := Below.heap_setCell W ⟨b, o, none⟩ v c h
/-- the event before, as the code keeps it -/
def bef (l : List E) : E := l.getLast?.getD ⟨-1, 0, 0, 0⟩
theorem bef_snoc (l : List E) (e : E) : bef (l ++ [e]) = e := by simp [bef]
theorem prev_bef {l : List E} {e : E} (h : rangeB e = true) : prevB l e = stepB (bef l) e := by
  unfold prevB bef
  cases l.getLast? with
  | some p => rfl
  | none =>
    simp [rangeB] at h
    simp [stepB]; omega
theorem allow_sB {i : Int × Int} {e : E} (hk : 1 ≤ e.k ∧ e.k ≤ 4) : allowB i e = sB e.k (stE i).1 (stE i).2 e := by
  have hy : i.1 = 1 ∨ i.1 = 3 → stE i = i := fun hp => by unfold stE; rw [if_pos hp]
  have hn : ¬ (i.1 = 1 ∨ i.1 = 3) → stE i = (0, 0) := fun hp => by unfold stE; rw [if_neg hp]
  unfold allowB sB
  by_cases h : i.1 = 1 ∨ i.1 = 3
  · rw [hy h]
    by_cases h1 : i.1 = 1
    · simp [h1]
    · have h3 : i.1 = 3 := by omega
      simp [h3]
  · rw [hn h]
    have h1 : ¬ i.1 = 1 := fun e => h (.inl e)
    have h3 : ¬ i.1 = 3 := fun e => h (.inr e)
    simp [h1, h3]
end Ev
end Go.Proofs.Ytbnchajkfceaoaa
