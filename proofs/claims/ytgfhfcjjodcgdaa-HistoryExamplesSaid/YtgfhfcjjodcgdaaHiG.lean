/- Package history: cut, chosen, Pending, Prefix: contracts of the translated code. Conditions: numbers of their types, at most 1,000 calls. -/
import Derived.Test.YtgfhfcjjodcgdaaHiH
namespace Go.Proofs.Ytgfhfcjjodcgdaa
open Go.RowKit Go.Shelf Go.Sort
set_option linter.unusedVariables false
set_option linter.unusedSimpArgs false
namespace Hi
section
variable {ops : Array Oper} {rest : List Oper} {op : Oper} {a : Act} {w : World} {Q : Exit → Act → World → Prop}
theorem st_newN (hgd : op.guard = none) (p y : Operand) (ho : op.op = .store 47 p y) (W : World) (N : Nat) (hN : W.heap.size = N) (z : Array Value) (hz : z.size = 18) (hW : w = W.alloc (.cells z 47)) (hp : a.eval p = .pointer (some ⟨N, 0, none⟩)) (x : C) (hy : a.eval y = .agg #[.int .i64 x.t, .int .i64 x.i, .int .u8 x.k, .int .u64 x.p0, .int .u64 x.p1, .int .u64 x.p2, .int .u64 x.p3, .int .u64 x.p4, .int .u64 x.p5, .int .i64 x.v, .int .i64 x.u, .int .i64 x.a, .int .i64 x.s, .int .i64 x.re, .bool x.rf, .int .u64 x.rk, .int .u64 x.rv, .int .i64 x.rc])
    (h : wpList Try.prog ops Q rest (a.put op.dst undef) (W.alloc (.cells #[.int .i64 x.t, .int .i64 x.i, .int .u8 x.k, .int .u64 x.p0, .int .u64 x.p1, .int .u64 x.p2, .int .u64 x.p3, .int .u64 x.p4, .int .u64 x.p5, .int .i64 x.v, .int .i64 x.u, .int .i64 x.a, .int .i64 x.s, .int .i64 x.re, .bool x.rf, .int .u64 x.rk, .int .u64 x.rv, .int .i64 x.rc] 47))) : wpList Try.prog ops Q (op :: rest) a w := by
  subst hN
  exact st_new hgd p y ho W z hz hW hp x hy h
end
theorem load_call {W : World} {b o : Nat} {x : C} (h : KC.At W b o x) : (loadVar 47 ⟨b, o, none⟩).run Try.prog W = .ok (.agg #[.int .i64 x.t, .int .i64 x.i, .int .u8 x.k, .int .u64 x.p0, .int .u64 x.p1, .int .u64 x.p2, .int .u64 x.p3, .int .u64 x.p4, .int .u64 x.p5, .int .i64 x.v, .int .i64 x.u, .int .i64 x.a, .int .i64 x.s, .int .i64 x.re, .bool x.rf, .int .u64 x.rk, .int .u64 x.rv, .int .i64 x.rc]) W :=
  run_loadVar_mid W b o 47 [.int .i64 x.t, .int .i64 x.i, .int .u8 x.k, .int .u64 x.p0, .int .u64 x.p1, .int .u64 x.p2, .int .u64 x.p3, .int .u64 x.p4, .int .u64 x.p5, .int .i64 x.v, .int .i64 x.u, .int .i64 x.a, .int .i64 x.s, .int .i64 x.re, .bool x.rf, .int .u64 x.rk, .int .u64 x.rv, .int .i64 x.rc] _ h Try.underlying47 rfl sz_call
set_option maxHeartbeats 1000000 in
theorem cut_any (st : Int) (x : C) (w : World) : Calls Try.prog 44 #[.int .i64 st, .agg #[.int .i64 x.t, .int .i64 x.i, .int .u8 x.k, .int .u64 x.p0, .int .u64 x.p1, .int .u64 x.p2, .int .u64 x.p3, .int .u64 x.p4, .int .u64 x.p5, .int .i64 x.v, .int .i64 x.u, .int .i64 x.a, .int .i64 x.s, .int .i64 x.re, .bool x.rf, .int .u64 x.rk, .int .u64 x.rv, .int .i64 x.rc]] w fun e w' => e = .returned (.agg #[.int .i64 (cutC st x).t, .int .i64 (cutC st x).i, .int .u8 (cutC st x).k, .int .u64 (cutC st x).p0, .int .u64 (cutC st x).p1, .int .u64 (cutC st x).p2, .int .u64 (cutC st x).p3, .int .u64 (cutC st x).p4, .int .u64 (cutC st x).p5, .int .i64 (cutC st x).v, .int .i64 (cutC st x).u, .int .i64 (cutC st x).a, .int .i64 (cutC st x).s, .int .i64 (cutC st x).re, .bool (cutC st x).rf, .int .u64 (cutC st x).rk, .int .u64 (cutC st x).rv, .int .i64 (cutC st x).rc]) ∧ Below w.heap.size w w' := by
  by_cases hu : st < x.u
  · have d0 := decide_eq_true hu
    by_cases ha : st < x.a
    · have d1 := decide_eq_true ha
      have HY := Lib.hid (show cutC st x = ({ x with u := -1, a := -1, s := 0, re := 0, rf := false, rk := 0, rv := 0, rc := 0 } : C) from by unfold cutC; simp [hu, ha])
      rw [HY.out]
      clear HY
      have AN := Lib.hid (KC.at_new w ({ x with u := -1, a := -1, s := 0, re := 0, rf := false, rk := 0, rv := 0, rc := 0 } : C))
      have AN1 := Lib.hid (AN.out.alloc (.cells #[.int .i64 0, .int .i64 0, .int .u8 0, .int .u64 0, .int .u64 0, .int .u64 0, .int .u64 0, .int .u64 0, .int .u64 0, .int .i64 0, .int .i64 0, .int .i64 0, .int .i64 0, .int .i64 0, .bool false, .int .u64 0, .int .u64 0, .int .i64 0] 47))
      have AN2 := Lib.hid (KC.at_new (w.alloc (.cells #[.int .i64 x.t, .int .i64 x.i, .int .u8 x.k, .int .u64 x.p0, .int .u64 x.p1, .int .u64 x.p2, .int .u64 x.p3, .int .u64 x.p4, .int .u64 x.p5, .int .i64 x.v, .int .i64 (-1), .int .i64 (-1), .int .i64 0, .int .i64 0, .bool false, .int .u64 0, .int .u64 0, .int .i64 0] 47)) ({ x with u := -1, a := -1, s := 0, re := 0, rf := false, rk := 0, rv := 0, rc := 0 } : C))
      go_enter Try.func44, Try.ntmps44
      go_wp2_with (first | (refine ld rfl (.tmp 3) rfl _ _ rfl ({ x with u := -1, a := -1, s := 0, re := 0, rf := false, rk := 0, rv := 0, rc := 0 } : C) AN1.out ?_) | (refine st_newN rfl (.tmp 4) (.tmp 18) rfl (w.alloc (.cells #[.int .i64 x.t, .int .i64 x.i, .int .u8 x.k, .int .u64 x.p0, .int .u64 x.p1, .int .u64 x.p2, .int .u64 x.p3, .int .u64 x.p4, .int .u64 x.p5, .int .i64 x.v, .int .i64 (-1), .int .i64 (-1), .int .i64 0, .int .i64 0, .bool false, .int .u64 0, .int .u64 0, .int .i64 0] 47)) (w.heap.size + 1) (by simp) _ rfl rfl rfl ({ x with u := -1, a := -1, s := 0, re := 0, rf := false, rk := 0, rv := 0, rc := 0 } : C) rfl ?_))
      refine bodyPost_ret (v := .agg #[.int .i64 x.t, .int .i64 x.i, .int .u8 x.k, .int .u64 x.p0, .int .u64 x.p1, .int .u64 x.p2, .int .u64 x.p3, .int .u64 x.p4, .int .u64 x.p5, .int .i64 x.v, .int .i64 (-1), .int .i64 (-1), .int .i64 0, .int .i64 0, .bool false, .int .u64 0, .int .u64 0, .int .i64 0]) (res_one rfl rfl (load_call (by have h := AN2.out; rw [World.size_alloc] at h; exact h))) rfl ⟨rfl, bel_alloc (bel_alloc (Below.refl _ _) _) _⟩
    · have d1 := decide_eq_false ha
      have HY := Lib.hid (show cutC st x = ({ x with u := -1 } : C) from by unfold cutC; simp [hu, ha])
      rw [HY.out]
      clear HY
      have AN := Lib.hid (KC.at_new w ({ x with u := -1 } : C))
      have AN1 := Lib.hid (AN.out.alloc (.cells #[.int .i64 0, .int .i64 0, .int .u8 0, .int .u64 0, .int .u64 0, .int .u64 0, .int .u64 0, .int .u64 0, .int .u64 0, .int .i64 0, .int .i64 0, .int .i64 0, .int .i64 0, .int .i64 0, .bool false, .int .u64 0, .int .u64 0, .int .i64 0] 47))
      have AN2 := Lib.hid (KC.at_new (w.alloc (.cells #[.int .i64 x.t, .int .i64 x.i, .int .u8 x.k, .int .u64 x.p0, .int .u64 x.p1, .int .u64 x.p2, .int .u64 x.p3, .int .u64 x.p4, .int .u64 x.p5, .int .i64 x.v, .int .i64 (-1), .int .i64 x.a, .int .i64 x.s, .int .i64 x.re, .bool x.rf, .int .u64 x.rk, .int .u64 x.rv, .int .i64 x.rc] 47)) ({ x with u := -1 } : C))
      go_enter Try.func44, Try.ntmps44
      go_wp2_with (first | (refine ld rfl (.tmp 3) rfl _ _ rfl ({ x with u := -1 } : C) AN1.out ?_) | (refine st_newN rfl (.tmp 4) (.tmp 18) rfl (w.alloc (.cells #[.int .i64 x.t, .int .i64 x.i, .int .u8 x.k, .int .u64 x.p0, .int .u64 x.p1, .int .u64 x.p2, .int .u64 x.p3, .int .u64 x.p4, .int .u64 x.p5, .int .i64 x.v, .int .i64 (-1), .int .i64 x.a, .int .i64 x.s, .int .i64 x.re, .bool x.rf, .int .u64 x.rk, .int .u64 x.rv, .int .i64 x.rc] 47)) (w.heap.size + 1) (by simp) _ rfl rfl rfl ({ x with u := -1 } : C) rfl ?_))
      refine bodyPost_ret (v := .agg #[.int .i64 x.t, .int .i64 x.i, .int .u8 x.k, .int .u64 x.p0, .int .u64 x.p1, .int .u64 x.p2, .int .u64 x.p3, .int .u64 x.p4, .int .u64 x.p5, .int .i64 x.v, .int .i64 (-1), .int .i64 x.a, .int .i64 x.s, .int .i64 x.re, .bool x.rf, .int .u64 x.rk, .int .u64 x.rv, .int .i64 x.rc]) (res_one rfl rfl (load_call (by have h := AN2.out; rw [World.size_alloc] at h; exact h))) rfl ⟨rfl, bel_alloc (bel_alloc (Below.refl _ _) _) _⟩
  · have d0 := decide_eq_false hu
    by_cases ha : st < x.a
    · have d1 := decide_eq_true ha
      have HY := Lib.hid (show cutC st x = ({ x with a := -1, s := 0, re := 0, rf := false, rk := 0, rv := 0, rc := 0 } : C) from by unfold cutC; simp [hu, ha])
      rw [HY.out]
      clear HY
      have AN := Lib.hid (KC.at_new w ({ x with a := -1, s := 0, re := 0, rf := false, rk := 0, rv := 0, rc := 0 } : C))
      have AN1 := Lib.hid (AN.out.alloc (.cells #[.int .i64 0, .int .i64 0, .int .u8 0, .int .u64 0, .int .u64 0, .int .u64 0, .int .u64 0, .int .u64 0, .int .u64 0, .int .i64 0, .int .i64 0, .int .i64 0, .int .i64 0, .int .i64 0, .bool false, .int .u64 0, .int .u64 0, .int .i64 0] 47))
      have AN2 := Lib.hid (KC.at_new (w.alloc (.cells #[.int .i64 x.t, .int .i64 x.i, .int .u8 x.k, .int .u64 x.p0, .int .u64 x.p1, .int .u64 x.p2, .int .u64 x.p3, .int .u64 x.p4, .int .u64 x.p5, .int .i64 x.v, .int .i64 x.u, .int .i64 (-1), .int .i64 0, .int .i64 0, .bool false, .int .u64 0, .int .u64 0, .int .i64 0] 47)) ({ x with a := -1, s := 0, re := 0, rf := false, rk := 0, rv := 0, rc := 0 } : C))
      go_enter Try.func44, Try.ntmps44
      go_wp2_with (first | (refine ld rfl (.tmp 3) rfl _ _ rfl ({ x with a := -1, s := 0, re := 0, rf := false, rk := 0, rv := 0, rc := 0 } : C) AN1.out ?_) | (refine st_newN rfl (.tmp 4) (.tmp 18) rfl (w.alloc (.cells #[.int .i64 x.t, .int .i64 x.i, .int .u8 x.k, .int .u64 x.p0, .int .u64 x.p1, .int .u64 x.p2, .int .u64 x.p3, .int .u64 x.p4, .int .u64 x.p5, .int .i64 x.v, .int .i64 x.u, .int .i64 (-1), .int .i64 0, .int .i64 0, .bool false, .int .u64 0, .int .u64 0, .int .i64 0] 47)) (w.heap.size + 1) (by simp) _ rfl rfl rfl ({ x with a := -1, s := 0, re := 0, rf := false, rk := 0, rv := 0, rc := 0 } : C) rfl ?_))
      refine bodyPost_ret (v := .agg #[.int .i64 x.t, .int .i64 x.i, .int .u8 x.k, .int .u64 x.p0, .int .u64 x.p1, .int .u64 x.p2, .int .u64 x.p3, .int .u64 x.p4, .int .u64 x.p5, .int .i64 x.v, .int .i64 x.u, .int .i64 (-1), .int .i64 0, .int .i64 0, .bool false, .int .u64 0, .int .u64 0, .int .i64 0]) (res_one rfl rfl (load_call (by have h := AN2.out; rw [World.size_alloc] at h; exact h))) rfl ⟨rfl, bel_alloc (bel_alloc (Below.refl _ _) _) _⟩
    · have d1 := decide_eq_false ha
      have HY := Lib.hid (show cutC st x = x from by unfold cutC; simp [hu, ha])
      rw [HY.out]
      clear HY
      have AN := Lib.hid (KC.at_new w x)
      have AN1 := Lib.hid (AN.out.alloc (.cells #[.int .i64 0, .int .i64 0, .int .u8 0, .int .u64 0, .int .u64 0, .int .u64 0, .int .u64 0, .int .u64 0, .int .u64 0, .int .i64 0, .int .i64 0, .int .i64 0, .int .i64 0, .int .i64 0, .bool false, .int .u64 0, .int .u64 0, .int .i64 0] 47))
      have AN2 := Lib.hid (KC.at_new (w.alloc (.cells #[.int .i64 x.t, .int .i64 x.i, .int .u8 x.k, .int .u64 x.p0, .int .u64 x.p1, .int .u64 x.p2, .int .u64 x.p3, .int .u64 x.p4, .int .u64 x.p5, .int .i64 x.v, .int .i64 x.u, .int .i64 x.a, .int .i64 x.s, .int .i64 x.re, .bool x.rf, .int .u64 x.rk, .int .u64 x.rv, .int .i64 x.rc] 47)) x)
      go_enter Try.func44, Try.ntmps44
      go_wp2_with (first | (refine ld rfl (.tmp 3) rfl _ _ rfl x AN1.out ?_) | (refine st_newN rfl (.tmp 4) (.tmp 18) rfl (w.alloc (.cells #[.int .i64 x.t, .int .i64 x.i, .int .u8 x.k, .int .u64 x.p0, .int .u64 x.p1, .int .u64 x.p2, .int .u64 x.p3, .int .u64 x.p4, .int .u64 x.p5, .int .i64 x.v, .int .i64 x.u, .int .i64 x.a, .int .i64 x.s, .int .i64 x.re, .bool x.rf, .int .u64 x.rk, .int .u64 x.rv, .int .i64 x.rc] 47)) (w.heap.size + 1) (by simp) _ rfl rfl rfl x rfl ?_))
      refine bodyPost_ret (v := .agg #[.int .i64 x.t, .int .i64 x.i, .int .u8 x.k, .int .u64 x.p0, .int .u64 x.p1, .int .u64 x.p2, .int .u64 x.p3, .int .u64 x.p4, .int .u64 x.p5, .int .i64 x.v, .int .i64 x.u, .int .i64 x.a, .int .i64 x.s, .int .i64 x.re, .bool x.rf, .int .u64 x.rk, .int .u64 x.rv, .int .i64 x.rc]) (res_one rfl rfl (load_call (by have h := AN2.out; rw [World.size_alloc] at h; exact h))) rfl ⟨rfl, bel_alloc (bel_alloc (Below.refl _ _) _) _⟩
variable {α : Type}
theorem Kd.own_below (K : Kd α) {w w' : World} {base : Nat} {v : Value} {n : Nat} {xs : List Value} (h : w.ownsRow base K.E K.sz v n xs) (hb : Below w.heap.size w w') : w'.ownsRow base K.E K.sz v n xs :=
  K.own_keep h fun g hg => hb.block g (h.lt g hg).2
theorem Kd.at_new (K : Kd α) (W : World) (y : α) (cs : Array Value) (hcs : cs.toList = K.enc y) : K.At (W.alloc (.cells cs K.E)) W.heap.size 0 y := fun j u hj => by
  rw [← hcs] at hj
  rw [Nat.zero_add]
  have h : (W.alloc (.cells cs K.E)).heap[W.heap.size]? = some (.cells cs K.E) := (MapKept.heap_alloc W _).1
  simp only [World.cell?, h]
  rw [Array.getElem?_toList] at hj
  exact hj
/-- 'append(l, a)' of an element that was just laid -/
theorem Kd.app (K : Kd α) {ops : Array Oper} {rest : List Oper} {o : Oper} {a : Act} {Q : Exit → Act → World → Prop} (hgd : o.guard = none) (s x : Operand)
    (ho : o.op = .call { callee := .builtin .append, args := #[s, x], argTypes := #[K.S, K.S] }) (W : World) (base : Nat) (v : Value) (ys : List α) (y : α) (cs : Array Value) (hcs : cs.toList = K.enc y)
    (hs : a.eval s = v) (hx : a.eval x = .slice (some ⟨W.heap.size, 0, none⟩) 1 1) (hown : W.ownsRow base K.E K.sz v ys.length (K.flat ys)) (hn : ys.length ≤ 100000) (hb : base ≤ W.heap.size)
    (h : ∀ v' w', w'.ownsRow base K.E K.sz v' (ys ++ [y]).length (K.flat (ys ++ [y])) → Below base W w' → (∀ k, k < W.heap.size → v.ownBlock ≠ some k → w'.heap[k]? = W.heap[k]?) → wpList Try.prog ops Q rest (a.put o.dst v') w') :
    wpList Try.prog ops Q (o :: rest) a (W.alloc (.cells cs K.E)) := by
  refine K.app1 hgd s x ho (W.alloc (.cells cs K.E)) base ys.length v ys y hs W.heap.size hx (K.at_new W y cs hcs) (K.own_below hown (bel_alloc (Below.refl _ _) _)) hn (by rw [World.size_alloc]; omega) ?_
  intro v' w' h1 h2
  refine h v' w' (by rw [List.length_append]; exact h1) (((Below.refl _ W).alloc hb _).trans (h2.bel (by rw [World.size_alloc]; omega) fun k hk => (hown.lt k hk).1)) fun k hk hne => ?_
  rw [h2.blk k (by rw [World.size_alloc]; omega) hne]
  exact (MapKept.heap_alloc W _).2 k hk
/-- a list in memory as the only result -/
def RoPost (K : Kd α) (xs : List α) (w : World) (e : Ending) (w' : World) : Prop :=
  ∃ v, e = .returned v ∧ w'.ownsRow w.heap.size K.E K.sz v xs.length (K.flat xs) ∧ Below w.heap.size w w'
/-- a list in memory and an error -/
def RwPost (K : Kd α) (er : Int) (xs : List α) (w : World) (e : Ending) (w' : World) : Prop :=
  ∃ v, e = .returned (.tuple #[v, .int .i64 er]) ∧ w'.ownsRow w.heap.size K.E K.sz v xs.length (K.flat xs) ∧ Below w.heap.size w w'
def erC (l : List C) : Int := if chk l = none then 0 else 15
def chkAt (l : List C) : Nat := (chk l).getD 0
theorem chkV_eq (l : List C) : chkV l = .tuple #[.int .i64 (chkAt l : Nat), .int .i64 (erC l)] := by
  unfold chkV chkAt erC
  cases h : chk l with
  | none => rfl
  | some i => rfl
theorem erC_ok {l : List C} (h : WF l) : erC l = 0 := by unfold erC; rw [if_pos (chk_none.2 h)]
theorem erC_no {l : List C} (h : ¬ WF l) : erC l = 15 := by unfold erC; rw [if_neg (fun e => h (chk_none.1 e))]
/-- the indices of the calls that p accepts, among the first j -/
def idx (p : C → Bool) (l : List C) (j : Nat) : List Int := ((List.range j).filter fun i => p (l.getD i c0)).map fun i : Nat => (i : Int)
theorem idx_succ (p : C → Bool) (l : List C) (j : Nat) : idx p l (j + 1) = if p (l.getD j c0) = true then idx p l j ++ [(j : Int)] else idx p l j := by
  unfold idx
  rw [List.range_succ, List.filter_append]
  by_cases h : p (l.getD j c0) = true
  · rw [if_pos h, List.filter_cons_of_pos (p := fun i => p (l.getD i c0)) h]; simp
  · rw [if_neg h, List.filter_cons_of_neg (p := fun i => p (l.getD i c0)) h]; simp
theorem idx_len (p : C → Bool) (l : List C) (j : Nat) : (idx p l j).length ≤ j := by
  unfold idx
  rw [List.length_map]
  have := List.length_filter_le (fun i => p (l.getD i c0)) (List.range j)
  simpa using this
set_option maxRecDepth 100000 in
set_option maxHeartbeats 1000000 in
theorem chosen_any (f : FuncId) (p : C → Bool) (hf : ∀ x w, Calls Try.prog f #[.agg #[.int .i64 x.t, .int .i64 x.i, .int .u8 x.k, .int .u64 x.p0, .int .u64 x.p1, .int .u64 x.p2, .int .u64 x.p3, .int .u64 x.p4, .int .u64 x.p5, .int .i64 x.v, .int .i64 x.u, .int .i64 x.a, .int .i64 x.s, .int .i64 x.re, .bool x.rf, .int .u64 x.rk, .int .u64 x.rv, .int .i64 x.rc]] w fun e w' => e = .returned (.bool (p x)) ∧ Below w.heap.size w w') (hrun : ∀ args W, (callFunc f args).run Try.prog W = .ok (.enter f args) W)
    (A : Option Addr) (n c : Nat) (l : List C) (w : World) (hl : l.length = n) (hx : n ≤ 1000) (hr : KC.Rd w A l) :
    Calls Try.prog 37 #[.slice A n c, .func (.func f) #[] #[]] w (RoPost KI (idx p l n) w) := by
  have HL := Lib.hid hl
  have HR := Lib.hid hr
  have HF := Lib.hid hf
  clear hl hr hf
  go_enter Try.func37, Try.ntmps37
  go_wp2
  go_loopw [5, 10] (fun q i wr => ∃ (k : Nat), k ≤ n ∧ i = .int .i64 k ∧ wr.ownsRow w.heap.size KI.E KI.sz q (idx p l k).length (KI.flat (idx p l k)) ∧ Below w.heap.size w wr) (fun q i _ => n - (intOf i).toNat)
  case atStart => exact ⟨0, Nat.zero_le _, rfl, KI.nil _ _, Below.refl _ _⟩
  case round =>
    obtain ⟨j, hj, rfl, ow, bel⟩ := hrel
    obtain ⟨wq, rfl⟩ : ∃ wq : World, wq = wr := ⟨_, rfl⟩
    by_cases hlt : j < n
    · have hjl : j < l.length := by have := HL.out; omega
      have d0 : decide ((j : Int) < n) = true := decide_eq_true (by omega)
      have j1 : (j : Int) < n := by omega
      obtain ⟨b, o, rfl, at0⟩ := KC.at_ (HR.out.below bel) hjl
      have HN := Lib.hid (idx_succ p l j)
      have hlen := idx_len p l j
      obtain ⟨x, hx0⟩ : ∃ x, l.getD j c0 = x := ⟨_, rfl⟩
      rw [hx0] at at0 HN
      obtain ⟨L, hL⟩ : ∃ L, idx p l j = L := ⟨_, rfl⟩
      rw [hL] at ow HN hlen
      have OW := Lib.hid ow
      have AT := Lib.hid at0
      have AN := Lib.hid (KC.at_new wq x)
      have B0 := Lib.hid (bel_alloc (Below.refl wq.heap.size wq) (.cells #[.int .i64 x.t, .int .i64 x.i, .int .u8 x.k, .int .u64 x.p0, .int .u64 x.p1, .int .u64 x.p2, .int .u64 x.p3, .int .u64 x.p4, .int .u64 x.p5, .int .i64 x.v, .int .i64 x.u, .int .i64 x.a, .int .i64 x.s, .int .i64 x.re, .bool x.rf, .int .u64 x.rk, .int .u64 x.rv, .int .i64 x.rc] 47))
      have CP := fun (W : World) => Lib.hid (HF.out x W)
      clear hL ow at0 hx0
      obtain ⟨r, hr⟩ : ∃ r, p x = r := ⟨_, rfl⟩
      rw [hr] at HN CP
      clear hr HF
      cases r with
      | true =>
        rw [if_pos rfl] at HN
        go_wp2_with (first | (refine ld rfl (.tmp 13) rfl b (o + j * 18) rfl x AT.out ?_) | (refine st_new rfl (.tmp 7) (.tmp 14) rfl wq _ rfl rfl rfl x rfl ?_) | (refine ld rfl (.tmp 7) rfl _ _ rfl x AN.out ?_))
        refine (CP _).out.mono ?_
        rintro e w3 ⟨rfl, b3⟩
        have B13 := Lib.hid (bel_bel B0.out b3)
        clear b3
        go_wp2_with (at_builtin; refine KI.app rfl (.tmp 18) (.tmp 20) rfl w3 w.heap.size _ L (j : Int) #[.int .i64 (j : Int)] rfl rfl rfl (KI.own_below OW.out B13.out) (by omega) (Nat.le_trans bel.size B13.out.size) ?_; intro v1 w1 h1 b1 _)
        go_roundw
        case rel => exact ⟨j + 1, by omega, by go_num, by rw [HN.out]; exact h1, (bel_trans bel B13.out).trans b1⟩
        case measure => simp [intOf]; omega
      | false =>
        rw [if_neg (by decide)] at HN
        go_wp2_with (first | (refine ld rfl (.tmp 13) rfl b (o + j * 18) rfl x AT.out ?_) | (refine st_new rfl (.tmp 7) (.tmp 14) rfl wq _ rfl rfl rfl x rfl ?_) | (refine ld rfl (.tmp 7) rfl _ _ rfl x AN.out ?_))
        refine (CP _).out.mono ?_
        rintro e w3 ⟨rfl, b3⟩
        have B13 := Lib.hid (bel_bel B0.out b3)
        clear b3
        go_wp2
        go_roundw
        case rel => exact ⟨j + 1, by omega, by go_num, by rw [HN.out]; exact KI.own_below OW.out B13.out, bel_trans bel B13.out⟩
        case measure => simp [intOf]; omega
    · obtain rfl : j = n := by omega
      have d0 : decide ((j : Int) < j) = false := by simp
      have OW := Lib.hid ow
      clear ow
      go_wp2
      go_ret
      exact ⟨_, rfl, OW.out, bel⟩
def peL (l : List C) : List Int := idx (fun c => !ansB c) l l.length
theorem pending_any (A : Option Addr) (n c : Nat) (l : List C) (w : World) (hl : l.length = n) (hx : n ≤ 1000) (hr : KC.Rd w A l) :
    Calls Try.prog 15 #[.slice A n c] w (RoPost KI (peL l) w) := by
  subst hl
  have CC := Lib.hid (chosen_any 38 (fun c => !ansB c) (fun x W => pend_any x W) (enters_of Try.func38 (by kernel_rfl) rfl) A _ c l w rfl hx hr)
  generalize hn : l.length = n at *
  have HN := Lib.hid hn
  clear hn hr hx
  go_enter Try.func15, Try.ntmps15
  go_wp2_with fail
  refine CC.out.mono ?_
  rintro e w1 ⟨v, rfl, ow, b1⟩
  go_wp2
  go_ret
  exact ⟨v, rfl, by unfold peL; rw [HN.out]; exact ow, b1⟩
/-- the error and the list of Prefix -/
def erS (st : Int) (l : List C) : Int := if chk l = none then (if st < -1 then 3 else 0) else 15
def pfL (st : Int) (l : List C) : List C := if erS st l = 0 then pref st l else []
theorem erS_ok {st : Int} {l : List C} (h : WF l) (h1 : -1 ≤ st) : erS st l = 0 := by unfold erS; rw [if_pos (chk_none.2 h), if_neg (by omega)]
theorem erS_low {st : Int} {l : List C} (h : WF l) (h1 : st < -1) : erS st l = 3 := by unfold erS; rw [if_pos (chk_none.2 h), if_pos h1]
theorem erS_no {st : Int} {l : List C} (h : ¬ WF l) : erS st l = 15 := by unfold erS; rw [if_neg (fun e => h (chk_none.1 e))]
theorem pref_snoc (st : Int) (l : List C) (x : C) : pref st (l ++ [x]) = if x.v ≤ st then pref st l ++ [cutC st x] else pref st l := by
  unfold pref
  rw [List.filter_append]
  by_cases h : x.v ≤ st
  · rw [if_pos h, List.filter_cons_of_pos (by simpa using h)]; simp
  · rw [if_neg h, List.filter_cons_of_neg (by simpa using h)]; simp
set_option maxRecDepth 100000 in
set_option maxHeartbeats 1000000 in
theorem prefix_any (st : Int) (A : Option Addr) (n c : Nat) (l : List C) (w : World) (hl : l.length = n) (hx : n ≤ 1000) (hr : KC.Rd w A l) (hb : Bd l) :
    Calls Try.prog 19 #[.int .i64 st, .slice A n c] w (RwPost KC (erS st l) (pfL st l) w) := by
  have CC := Lib.hid (check_any A n c l w hl hx hr hb)
  rw [chkV_eq] at CC
  have HL := Lib.hid hl
  have HR := Lib.hid hr
  clear hl hr hb
  generalize chkAt l = at_ at *
  by_cases hwf : WF l
  · rw [erC_ok hwf] at CC
    by_cases hst : st < -1
    · have d1 := decide_eq_true hst
      have HP := Lib.hid (show ∀ w', Below w.heap.size w w' → RwPost KC (erS st l) (pfL st l) w (.returned (.tuple #[.slice none 0 0, .int .i64 3])) w' from fun w' h => by
        have e1 := erS_low hwf hst
        have e2 : pfL st l = [] := by unfold pfL; rw [if_neg (by rw [e1]; decide)]
        rw [e1, e2]
        exact ⟨_, rfl, KC.nil _ _, h⟩)
      clear hwf hst
      go_enter Try.func19, Try.ntmps19
      go_wp2_with fail
      refine CC.out.mono ?_
      rintro e w1 ⟨rfl, b1⟩
      go_wp2
      go_ret2
      exact HP.out _ b1
    · have d1 := decide_eq_false hst
      have HP := Lib.hid (show ∀ v w', w'.ownsRow w.heap.size KC.E KC.sz v (pref st l).length (KC.flat (pref st l)) → Below w.heap.size w w' → RwPost KC (erS st l) (pfL st l) w (.returned (.tuple #[v, .int .i64 0])) w' from fun v w' h1 h2 => by
        have e1 := erS_ok hwf (show -1 ≤ st by omega)
        have e2 : pfL st l = pref st l := by unfold pfL; rw [if_pos e1]
        rw [e1, e2]
        exact ⟨_, rfl, h1, h2⟩)
      clear hwf hst
      go_enter Try.func19, Try.ntmps19
      go_wp2_with fail
      refine CC.out.mono ?_
      rintro e w1 ⟨rfl, b1⟩
      have B1 := Lib.hid b1
      have HR1 := Lib.hid (HR.out.below b1)
      have hs1 := b1.size
      clear b1 CC HR
      go_wp2_with fail
      go_loopw [8, 23] (fun q i wr => ∃ (k : Nat), k ≤ n ∧ i = .int .i64 k ∧ wr.ownsRow w1.heap.size KC.E KC.sz q (pref st (l.take k)).length (KC.flat (pref st (l.take k))) ∧ Below w1.heap.size w1 wr) (fun q i _ => n - (intOf i).toNat)
      case atStart => exact ⟨0, Nat.zero_le _, rfl, KC.nil _ _, Below.refl _ _⟩
      case round =>
        obtain ⟨j, hj, rfl, ow, bel⟩ := hrel
        obtain ⟨wq, rfl⟩ : ∃ wq : World, wq = wr := ⟨_, rfl⟩
        by_cases hlt : j < n
        · have hjl : j < l.length := by have := HL.out; omega
          have d0 : decide ((j : Int) < n) = true := decide_eq_true (by omega)
          have j1 : (j : Int) < n := by omega
          obtain ⟨b, o, rfl, at0⟩ := KC.at_ (HR1.out.below bel) hjl
          have HN := Lib.hid (show pref st (l.take (j + 1)) = _ by rw [take_get (d := c0) hjl, pref_snoc])
          have hlen := pref_len st (l.take j)
          rw [List.length_take] at hlen
          obtain ⟨x, hx0⟩ : ∃ x, l.getD j c0 = x := ⟨_, rfl⟩
          rw [hx0] at at0 HN
          obtain ⟨L, hL⟩ : ∃ L, pref st (l.take j) = L := ⟨_, rfl⟩
          rw [hL] at ow HN hlen
          have OW := Lib.hid ow
          have AT := Lib.hid at0
          have AN := Lib.hid (KC.at_new wq x)
          have B0 := Lib.hid (bel_alloc (Below.refl wq.heap.size wq) (.cells #[.int .i64 x.t, .int .i64 x.i, .int .u8 x.k, .int .u64 x.p0, .int .u64 x.p1, .int .u64 x.p2, .int .u64 x.p3, .int .u64 x.p4, .int .u64 x.p5, .int .i64 x.v, .int .i64 x.u, .int .i64 x.a, .int .i64 x.s, .int .i64 x.re, .bool x.rf, .int .u64 x.rk, .int .u64 x.rv, .int .i64 x.rc] 47))
          have CP := fun (W : World) => Lib.hid (cut_any st x W)
          clear hL ow at0 hx0
          by_cases hv : x.v ≤ st
          · have d2 := decide_eq_true hv
            rw [if_pos hv] at HN
            obtain ⟨y, hy⟩ : ∃ y, cutC st x = y := ⟨_, rfl⟩
            rw [hy] at HN CP
            clear hy hv
            go_wp2_with (first | (refine ld rfl (.tmp 25) rfl b (o + j * 18) rfl x AT.out ?_) | (refine st_new rfl (.tmp 10) (.tmp 26) rfl wq _ rfl rfl rfl x rfl ?_) | (refine ld rfl (.tmp 10) rfl _ _ rfl x AN.out ?_))
            refine (CP _).out.mono ?_
            rintro e w3 ⟨rfl, b3⟩
            have B13 := Lib.hid (bel_bel B0.out b3)
            clear b3
            have hb0 := Nat.le_trans bel.size B13.out.size
            go_wp2_with (at_builtin; refine KC.app rfl (.tmp 31) (.tmp 35) rfl w3 w1.heap.size _ L y #[.int .i64 y.t, .int .i64 y.i, .int .u8 y.k, .int .u64 y.p0, .int .u64 y.p1, .int .u64 y.p2, .int .u64 y.p3, .int .u64 y.p4, .int .u64 y.p5, .int .i64 y.v, .int .i64 y.u, .int .i64 y.a, .int .i64 y.s, .int .i64 y.re, .bool y.rf, .int .u64 y.rk, .int .u64 y.rv, .int .i64 y.rc] rfl rfl rfl (KC.own_below OW.out B13.out) (by omega) hb0 ?_; intro v4 w4 h1 b4 _)
            go_roundw
            case rel => exact ⟨j + 1, by omega, by go_num, by rw [HN.out]; exact h1, (bel_trans bel B13.out).trans b4⟩
            case measure => simp [intOf]; omega
          · have d2 := decide_eq_false hv
            rw [if_neg hv] at HN
            clear hv CP
            go_wp2_with (first | (refine ld rfl (.tmp 25) rfl b (o + j * 18) rfl x AT.out ?_) | (refine st_new rfl (.tmp 10) (.tmp 26) rfl wq _ rfl rfl rfl x rfl ?_))
            go_roundw
            case rel => exact ⟨j + 1, by omega, by go_num, by rw [HN.out]; exact KC.own_below OW.out B0.out, bel_trans bel B0.out⟩
            case measure => simp [intOf]; omega
        · obtain rfl : j = n := by omega
          have d0 : decide ((j : Int) < j) = false := by simp
          have HT := Lib.hid (show l.take j = l from List.take_of_length_le (by rw [HL.out]; omega))
          have OW := Lib.hid ow
          clear ow
          go_wp2
          go_ret2
          exact HP.out _ _ (row_base (by have := OW.out; rw [HT.out] at this; exact this) hs1) (bel_bel B1.out bel)
  · rw [erC_no hwf] at CC
    have HP := Lib.hid (show ∀ w', Below w.heap.size w w' → RwPost KC (erS st l) (pfL st l) w (.returned (.tuple #[.slice none 0 0, .int .i64 15])) w' from fun w' h => by
      have e1 := erS_no (st := st) hwf
      have e2 : pfL st l = [] := by unfold pfL; rw [if_neg (by rw [e1]; decide)]
      rw [e1, e2]
      exact ⟨_, rfl, KC.nil _ _, h⟩)
    clear hwf
    go_enter Try.func19, Try.ntmps19
    go_wp2_with fail
    refine CC.out.mono ?_
    rintro e w1 ⟨rfl, b1⟩
    go_wp2
    go_ret2
    exact HP.out _ b1
end Hi
end Go.Proofs.Ytgfhfcjjodcgdaa
