/- Calls as whole rows of eighteen cells: loads and stores at an operation, in plain regions, in regions that draw, in fences. No conditions beside those of each lemma. -/
import Derived.Test.YtgfhfcjjodcgdaaHiN
import Derived.Deep.MidRow
import Derived.Deep.RegionHeld3
import Derived.Deep.CutRange
import Derived.TacticsIn
import Derived.OwnWalkIn
namespace Go.Proofs.Ytgfhfcjjodcgdaa
open Go.RowKit Go.Sort
set_option linter.unusedVariables false
set_option linter.unusedSimpArgs false
namespace Hi
theorem sz_call : (Try.prog.info? 47).map (·.size) = some 18 := by kernel_rfl
theorem Kd.At.alloc {α : Type} {K : Kd α} {W : World} {b o : Nat} {x : α} (h : K.At W b o x) (ob : Obj) : K.At (W.alloc ob) b o x := fun j u hj => by
  have := h j u hj
  rw [World.cell?_alloc_lt _ _ _ (cell_lt this)]; exact this
theorem KC.at_new (w : World) (x : C) : KC.At (w.alloc (.cells #[.int .i64 x.t, .int .i64 x.i, .int .u8 x.k, .int .u64 x.p0, .int .u64 x.p1, .int .u64 x.p2, .int .u64 x.p3, .int .u64 x.p4, .int .u64 x.p5, .int .i64 x.v, .int .i64 x.u, .int .i64 x.a, .int .i64 x.s, .int .i64 x.re, .bool x.rf, .int .u64 x.rk, .int .u64 x.rv, .int .i64 x.rc] 47)) w.heap.size 0 x := fun j u hj => by
  rw [Nat.zero_add, World.cell?_alloc_new]
  simpa [KC] using hj
theorem Kd.At.bel {α : Type} {K : Kd α} {W w : World} {b o n : Nat} {x : α} (h : K.At W b o x) (hb : Below n W w) (hn : b < n) : K.At w b o x := h.keep (hb.block b hn)
theorem Kd.At.drewN {α : Type} {K : Kd α} {W : World} {b o : Nat} {x : α} (h : K.At W b o x) (n : Nat) : K.At (W.drewN n) b o x := h
/-- a new block of eighteen cells is written over whole -/
theorem put_new (w : World) (z : Array Value) (hz : z.size = 18) (x : C) : (w.alloc (.cells z 47)).setCells w.heap.size 0 [.int .i64 x.t, .int .i64 x.i, .int .u8 x.k, .int .u64 x.p0, .int .u64 x.p1, .int .u64 x.p2, .int .u64 x.p3, .int .u64 x.p4, .int .u64 x.p5, .int .i64 x.v, .int .i64 x.u, .int .i64 x.a, .int .i64 x.s, .int .i64 x.re, .bool x.rf, .int .u64 x.rk, .int .u64 x.rv, .int .i64 x.rc] = w.alloc (.cells #[.int .i64 x.t, .int .i64 x.i, .int .u8 x.k, .int .u64 x.p0, .int .u64 x.p1, .int .u64 x.p2, .int .u64 x.p3, .int .u64 x.p4, .int .u64 x.p5, .int .i64 x.v, .int .i64 x.u, .int .i64 x.a, .int .i64 x.s, .int .i64 x.re, .bool x.rf, .int .u64 x.rk, .int .u64 x.rv, .int .i64 x.rc] 47) := by
  have hl : (KC.enc x).length = 18 := rfl
  show (w.alloc (.cells z 47)).setCells w.heap.size 0 (KC.enc x) = w.alloc (.cells (KC.enc x).toArray 47)
  generalize KC.enc x = vs at hl
  have key : ∀ (vs : List Value) (o : Nat) (c : Array Value), o + vs.length ≤ c.size → (w.alloc (.cells c 47)).setCells w.heap.size o vs = w.alloc (.cells (c.toList.take o ++ vs ++ c.toList.drop (o + vs.length)).toArray 47) := by
    intro vs
    induction vs with
    | nil => intro o c _; simp [World.setCells]
    | cons v r ih =>
      intro o c h
      simp only [List.length_cons] at h
      rw [World.setCells, World.setCell_alloc_at _ _ _ _ _ rfl]
      rw [ih (o + 1) _ (by simp; omega)]
      congr 2
      congr 1
      simp only [List.length_cons]
      rw [Array.toList_setIfInBounds]
      have hlt : o < c.toList.length := by simp; omega
      rw [List.take_succ_eq_append_getElem (by simpa using hlt)]
      rw [List.take_set_of_le (Nat.le_refl _), List.drop_set_of_lt (by omega)]
      simp
      congr 1
      omega
  rw [key vs 0 z (by omega)]
  have h18 : z.toList.drop (0 + vs.length) = [] := by
    rw [List.drop_eq_nil_iff]; simp; omega
  rw [h18]
  simp
section
variable {ops : Array Oper} {rest : List Oper} {op : Oper} {a : Act} {w : World} {Q : Exit → Act → World → Prop}
theorem ld (hgd : op.guard = none) (p : Operand) (ho : op.op = .load 47 p) (b o : Nat) (hp : a.eval p = .pointer (some ⟨b, o, none⟩)) (x : C) (hx : KC.At w b o x)
    (h : wpList Try.prog ops Q rest (a.put op.dst (.agg #[.int .i64 x.t, .int .i64 x.i, .int .u8 x.k, .int .u64 x.p0, .int .u64 x.p1, .int .u64 x.p2, .int .u64 x.p3, .int .u64 x.p4, .int .u64 x.p5, .int .i64 x.v, .int .i64 x.u, .int .i64 x.a, .int .i64 x.s, .int .i64 x.re, .bool x.rf, .int .u64 x.rk, .int .u64 x.rv, .int .i64 x.rc])) w) : wpList Try.prog ops Q (op :: rest) a w :=
  wpList_load_mid hgd _ p ho b o hp [.int .i64 x.t, .int .i64 x.i, .int .u8 x.k, .int .u64 x.p0, .int .u64 x.p1, .int .u64 x.p2, .int .u64 x.p3, .int .u64 x.p4, .int .u64 x.p5, .int .i64 x.v, .int .i64 x.u, .int .i64 x.a, .int .i64 x.s, .int .i64 x.re, .bool x.rf, .int .u64 x.rk, .int .u64 x.rv, .int .i64 x.rc] _ hx Try.underlying47 rfl sz_call h
theorem oneCells (x : C) : (#[.int .i64 x.t, .int .i64 x.i, .int .u8 x.k, .int .u64 x.p0, .int .u64 x.p1, .int .u64 x.p2, .int .u64 x.p3, .int .u64 x.p4, .int .u64 x.p5, .int .i64 x.v, .int .i64 x.u, .int .i64 x.a, .int .i64 x.s, .int .i64 x.re, .bool x.rf, .int .u64 x.rk, .int .u64 x.rv, .int .i64 x.rc] : Array Value).all (·.oneCell') = true := all_oneCell_toArray (KC.one x)
theorem there_new (w : World) (z : Array Value) (T : TypeId) (n : Nat) (hz : z.size = n) : (w.alloc (.cells z T)).there w.heap.size 0 n := fun j hj => by
  rw [Nat.zero_add, World.cell?_alloc_new]
  refine ⟨by rw [Array.getElem?_eq_getElem (by omega)]; rfl, ?_⟩
  unfold World.frozen?
  simp only [(MapKept.heap_alloc w (.cells z T)).1]
  simp
theorem st_new (hgd : op.guard = none) (p y : Operand) (ho : op.op = .store 47 p y) (W : World) (z : Array Value) (hz : z.size = 18) (hW : w = W.alloc (.cells z 47)) (hp : a.eval p = .pointer (some ⟨W.heap.size, 0, none⟩)) (x : C) (hy : a.eval y = .agg #[.int .i64 x.t, .int .i64 x.i, .int .u8 x.k, .int .u64 x.p0, .int .u64 x.p1, .int .u64 x.p2, .int .u64 x.p3, .int .u64 x.p4, .int .u64 x.p5, .int .i64 x.v, .int .i64 x.u, .int .i64 x.a, .int .i64 x.s, .int .i64 x.re, .bool x.rf, .int .u64 x.rk, .int .u64 x.rv, .int .i64 x.rc])
    (h : wpList Try.prog ops Q rest (a.put op.dst undef) (W.alloc (.cells #[.int .i64 x.t, .int .i64 x.i, .int .u8 x.k, .int .u64 x.p0, .int .u64 x.p1, .int .u64 x.p2, .int .u64 x.p3, .int .u64 x.p4, .int .u64 x.p5, .int .i64 x.v, .int .i64 x.u, .int .i64 x.a, .int .i64 x.s, .int .i64 x.re, .bool x.rf, .int .u64 x.rk, .int .u64 x.rv, .int .i64 x.rc] 47))) : wpList Try.prog ops Q (op :: rest) a w := by
  subst hW
  refine wpList_store_mid hgd _ p y ho W.heap.size 0 #[.int .i64 x.t, .int .i64 x.i, .int .u8 x.k, .int .u64 x.p0, .int .u64 x.p1, .int .u64 x.p2, .int .u64 x.p3, .int .u64 x.p4, .int .u64 x.p5, .int .i64 x.v, .int .i64 x.u, .int .i64 x.a, .int .i64 x.s, .int .i64 x.re, .bool x.rf, .int .u64 x.rk, .int .u64 x.rv, .int .i64 x.rc] hp hy (there_new W z _ 18 hz) sz_call (oneCells x) ?_
  show wpList Try.prog ops Q rest (a.put op.dst undef) ((W.alloc (.cells z 47)).setCells W.heap.size 0 [.int .i64 x.t, .int .i64 x.i, .int .u8 x.k, .int .u64 x.p0, .int .u64 x.p1, .int .u64 x.p2, .int .u64 x.p3, .int .u64 x.p4, .int .u64 x.p5, .int .i64 x.v, .int .i64 x.u, .int .i64 x.a, .int .i64 x.s, .int .i64 x.re, .bool x.rf, .int .u64 x.rk, .int .u64 x.rv, .int .i64 x.rc])
  rw [put_new W z hz x]
  exact h
theorem ldQ {Cl : World → Prop} {K : Act → Prop} (p : Operand) (ho : op.op = .load 47 p) (b o : Nat) (hp : a.eval p = .pointer (some ⟨b, o, none⟩)) (x : C) (hx : ∀ w, Cl w → KC.At w b o x)
    (h : K (a.put op.dst (.agg #[.int .i64 x.t, .int .i64 x.i, .int .u8 x.k, .int .u64 x.p0, .int .u64 x.p1, .int .u64 x.p2, .int .u64 x.p3, .int .u64 x.p4, .int .u64 x.p5, .int .i64 x.v, .int .i64 x.u, .int .i64 x.a, .int .i64 x.s, .int .i64 x.re, .bool x.rf, .int .u64 x.rk, .int .u64 x.rv, .int .i64 x.rc]))) : op.quiet Try.prog a Cl K :=
  ⟨_, fun w hw => by
    unfold Oper.quietAt execOp
    simp only [ho, hp, Instr.loadAt, Instr.sureAddr, Sem.run_bind, Sem.run_pure, Result.andThen_ok, run_loadVar_mid w b o 47 [.int .i64 x.t, .int .i64 x.i, .int .u8 x.k, .int .u64 x.p0, .int .u64 x.p1, .int .u64 x.p2, .int .u64 x.p3, .int .u64 x.p4, .int .u64 x.p5, .int .i64 x.v, .int .i64 x.u, .int .i64 x.a, .int .i64 x.s, .int .i64 x.re, .bool x.rf, .int .u64 x.rk, .int .u64 x.rv, .int .i64 x.rc] _ (hx w hw) Try.underlying47 rfl sz_call]
    exact ⟨rfl, rfl⟩, h⟩
variable {F : Fence} {nF : Nat}
theorem ldIn (hgd : op.guard = none) (p : Operand) (ho : op.op = .load 47 p) (b o : Nat) (hp : a.eval p = .pointer (some ⟨b, o, none⟩)) (x : C) (hx : KC.At w b o x)
    (h : wpListIn F nF Try.prog ops Q rest (a.put op.dst (.agg #[.int .i64 x.t, .int .i64 x.i, .int .u8 x.k, .int .u64 x.p0, .int .u64 x.p1, .int .u64 x.p2, .int .u64 x.p3, .int .u64 x.p4, .int .u64 x.p5, .int .i64 x.v, .int .i64 x.u, .int .i64 x.a, .int .i64 x.s, .int .i64 x.re, .bool x.rf, .int .u64 x.rk, .int .u64 x.rv, .int .i64 x.rc])) w) : wpListIn F nF Try.prog ops Q (op :: rest) a w := by
  refine wpListIn_plain hgd fun K hK => ?_
  unfold Oper.wpIn
  refine ⟨by simp [Oper.about, ho], ?_⟩
  rw [Oper.semAt_plain F _ _ (by rw [ho]; intro c hc'; cases hc')]
  simp only [execOp, ho, hp, Instr.loadAt, Instr.sureAddr, Sem.run_bind, Sem.run_pure, Result.andThen_ok, run_loadVar_mid w b o 47 [.int .i64 x.t, .int .i64 x.i, .int .u8 x.k, .int .u64 x.p0, .int .u64 x.p1, .int .u64 x.p2, .int .u64 x.p3, .int .u64 x.p4, .int .u64 x.p5, .int .i64 x.v, .int .i64 x.u, .int .i64 x.a, .int .i64 x.s, .int .i64 x.re, .bool x.rf, .int .u64 x.rk, .int .u64 x.rv, .int .i64 x.rc] _ hx Try.underlying47 rfl sz_call]
  exact hK _ _ h
theorem ldInG (hw : Region.wanted op (yielded ops a.tmps) = true) (p : Operand) (ho : op.op = .load 47 p) (b o : Nat) (hp : a.eval p = .pointer (some ⟨b, o, none⟩)) (x : C) (hx : KC.At w b o x)
    (h : wpListIn F nF Try.prog ops Q rest (a.put op.dst (.agg #[.int .i64 x.t, .int .i64 x.i, .int .u8 x.k, .int .u64 x.p0, .int .u64 x.p1, .int .u64 x.p2, .int .u64 x.p3, .int .u64 x.p4, .int .u64 x.p5, .int .i64 x.v, .int .i64 x.u, .int .i64 x.a, .int .i64 x.s, .int .i64 x.re, .bool x.rf, .int .u64 x.rk, .int .u64 x.rv, .int .i64 x.rc])) w) : wpListIn F nF Try.prog ops Q (op :: rest) a w := by
  refine wpListIn_step fun K hK => ?_
  rw [if_pos hw]
  unfold Oper.wpIn
  refine ⟨by simp [Oper.about, ho], ?_⟩
  rw [Oper.semAt_plain F _ _ (by rw [ho]; intro c hc'; cases hc')]
  simp only [execOp, ho, hp, Instr.loadAt, Instr.sureAddr, Sem.run_bind, Sem.run_pure, Result.andThen_ok, run_loadVar_mid w b o 47 [.int .i64 x.t, .int .i64 x.i, .int .u8 x.k, .int .u64 x.p0, .int .u64 x.p1, .int .u64 x.p2, .int .u64 x.p3, .int .u64 x.p4, .int .u64 x.p5, .int .i64 x.v, .int .i64 x.u, .int .i64 x.a, .int .i64 x.s, .int .i64 x.re, .bool x.rf, .int .u64 x.rk, .int .u64 x.rv, .int .i64 x.rc] _ hx Try.underlying47 rfl sz_call]
  exact hK _ _ h
theorem stIn_new (hgd : op.guard = none) (p y : Operand) (ho : op.op = .store 47 p y) (W : World) (z : Array Value) (hz : z.size = 18) (hW : w = W.alloc (.cells z 47)) (hp : a.eval p = .pointer (some ⟨W.heap.size, 0, none⟩)) (x : C) (hy : a.eval y = .agg #[.int .i64 x.t, .int .i64 x.i, .int .u8 x.k, .int .u64 x.p0, .int .u64 x.p1, .int .u64 x.p2, .int .u64 x.p3, .int .u64 x.p4, .int .u64 x.p5, .int .i64 x.v, .int .i64 x.u, .int .i64 x.a, .int .i64 x.s, .int .i64 x.re, .bool x.rf, .int .u64 x.rk, .int .u64 x.rv, .int .i64 x.rc])
    (h : wpListIn F nF Try.prog ops Q rest (a.put op.dst undef) (W.alloc (.cells #[.int .i64 x.t, .int .i64 x.i, .int .u8 x.k, .int .u64 x.p0, .int .u64 x.p1, .int .u64 x.p2, .int .u64 x.p3, .int .u64 x.p4, .int .u64 x.p5, .int .i64 x.v, .int .i64 x.u, .int .i64 x.a, .int .i64 x.s, .int .i64 x.re, .bool x.rf, .int .u64 x.rk, .int .u64 x.rv, .int .i64 x.rc] 47))) : wpListIn F nF Try.prog ops Q (op :: rest) a w := by
  subst hW
  refine wpListIn_plain hgd fun K hK => ?_
  unfold Oper.wpIn
  refine ⟨by simp [Oper.about, ho], ?_⟩
  rw [Oper.semAt_plain F _ _ (by rw [ho]; intro c hc'; cases hc')]
  simp only [execOp, ho, hp, hy, Instr.storeAt, Instr.sureAddr, Sem.run_bind, Sem.run_pure, Result.andThen_ok, run_storeVar_mid (W.alloc (.cells z 47)) W.heap.size 0 47 #[.int .i64 x.t, .int .i64 x.i, .int .u8 x.k, .int .u64 x.p0, .int .u64 x.p1, .int .u64 x.p2, .int .u64 x.p3, .int .u64 x.p4, .int .u64 x.p5, .int .i64 x.v, .int .i64 x.u, .int .i64 x.a, .int .i64 x.s, .int .i64 x.re, .bool x.rf, .int .u64 x.rk, .int .u64 x.rv, .int .i64 x.rc] (there_new W z _ 18 hz) sz_call (oneCells x)]
  have e : (W.alloc (.cells z 47)).setCells W.heap.size 0 (#[.int .i64 x.t, .int .i64 x.i, .int .u8 x.k, .int .u64 x.p0, .int .u64 x.p1, .int .u64 x.p2, .int .u64 x.p3, .int .u64 x.p4, .int .u64 x.p5, .int .i64 x.v, .int .i64 x.u, .int .i64 x.a, .int .i64 x.s, .int .i64 x.re, .bool x.rf, .int .u64 x.rk, .int .u64 x.rv, .int .i64 x.rc] : Array Value).toList = W.alloc (.cells #[.int .i64 x.t, .int .i64 x.i, .int .u8 x.k, .int .u64 x.p0, .int .u64 x.p1, .int .u64 x.p2, .int .u64 x.p3, .int .u64 x.p4, .int .u64 x.p5, .int .i64 x.v, .int .i64 x.u, .int .i64 x.a, .int .i64 x.s, .int .i64 x.re, .bool x.rf, .int .u64 x.rk, .int .u64 x.rv, .int .i64 x.rc] 47) := put_new W z hz x
  rw [e]
  exact hK _ _ h
end
end Hi
end Go.Proofs.Ytgfhfcjjodcgdaa
