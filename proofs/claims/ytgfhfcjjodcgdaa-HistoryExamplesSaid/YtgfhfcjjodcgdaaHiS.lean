/- Package history: the map from steps to threads, and the iterator over the steps of a call: contracts of the translated code. No conditions beside those of each lemma. -/
import Derived.Test.YtgfhfcjjodcgdaaHiC
import Derived.Maps.OwnIn
import Derived.RangeFuncNested
import Derived.RangeFuncBound
import Derived.RangeFuncCalls
import Derived.RangeFuncLeaves
import Derived.RangeFuncBox
import Derived.Shelf.Abstract
import Derived.Shelf.RegionOpen
import Derived.OwnWalkIn
import Derived.TacticsInMore
import Derived.LoopNIn
import Derived.LoopIn
namespace Go.Proofs.Ytgfhfcjjodcgdaa
open Go.RowKit Go.Shelf Go.Sort
set_option linter.unusedVariables false
set_option linter.unusedSimpArgs false
attribute [local go_sem] Oper.semAt_some
namespace Hi
theorem wf64 {x : Int} (h : I64 x) : (Lit.int .i64 x).wf = true := by
  have h1 : IntKind.i64.min = -9223372036854775808 := by decide
  have h2 : IntKind.i64.max = 9223372036854775807 := by decide
  unfold I64 at h
  simp [Lit.wf, h1, h2, h]
theorem ow_keyed : Maps.Keyed Try.prog 3 := Maps.int_keyed Try.underlying3
theorem ow_zero (w : World) : (zeroValue 3).run Try.prog w = .ok (.int .i64 0) w := by kernel_rfl
/-- the block M is a map of at most k entries that has f -/
def Ow (w : World) (M k : Nat) (f : Int → Option Int) : Prop := ∃ D : DataW Unit, w.ownsMap Try.prog 3 (plainElem Try.prog 3) M k D ∧ Maps.IsMap D ∧ ∀ s, match f s with
  | some t => Maps.has D (.int .i64 s) = true ∧ D.atKey (.int .i64 s) (.lit (.int .i64 0)) = .lit (.int .i64 t)
  | none => Maps.has D (.int .i64 s) = false
theorem Ow.lt {w : World} {M k : Nat} {f : Int → Option Int} (h : Ow w M k f) : M < w.heap.size := by
  obtain ⟨D, h, _⟩ := h; exact h.lt
theorem Ow.same {w w' : World} {M k : Nat} {f : Int → Option Int} (h : Ow w M k f) (hb : w'.heap[M]? = w.heap[M]?) : Ow w' M k f := by
  obtain ⟨D, ⟨es, cl, h1, h2⟩, h3⟩ := h
  exact ⟨D, ⟨es, cl, hb.trans h1, h2⟩, h3⟩
theorem Ow.bel {w w' : World} {M k n : Nat} {f : Int → Option Int} (h : Ow w M k f) (hb : Below n w w') (hn : M < n) : Ow w' M k f := h.same (hb.block M hn)
theorem Ow.mono {w : World} {M k k' : Nat} {f : Int → Option Int} (h : Ow w M k f) (hk : k ≤ k') : Ow w M k' f := by
  obtain ⟨D, h1, h2⟩ := h
  exact ⟨D, h1.mono hk, h2⟩
theorem Ow.made (w : World) : Ow (w.alloc (.map #[] 0)) w.heap.size 0 (fun _ => none) :=
  ⟨.map [], World.ownsMap_made w Try.prog _ _, Maps.isMap_empty, fun s => rfl⟩
theorem Ow.look {w : World} {M k : Nat} {f : Int → Option Int} (h : Ow w M k f) {s : Int} (hs : I64 s) :
    ∃ c b, (Instr.lookup 83 (.map (some M)) (.int .i64 s) true).run Try.prog w = .ok (.tuple #[.int .i64 c, .bool b]) w ∧ ((f s = some c ∧ b = true) ∨ (f s = none ∧ b = false)) := by
  obtain ⟨D, o, hm, hf⟩ := h
  obtain ⟨v, ps, hrun, hv⟩ := o.look_ok ow_keyed Try.underlying83 (ow_zero w) (plainElem_int Try.underlying3 (wf64 (by unfold I64; omega))) (Maps.keyOf_int_mk Try.underlying3 (wf64 hs))
  obtain ⟨c, rfl, hc, _⟩ := plainElem_int_inv Try.underlying3 hv
  have := hf s
  cases hfs : f s with
  | none =>
    rw [hfs] at this
    simp only at this
    exact ⟨c, false, by rw [hrun, this], .inr ⟨rfl, rfl⟩⟩
  | some t =>
    rw [hfs] at this
    simp only at this
    rw [this.2] at hc
    simp only [Prod.mk.injEq, DataW.lit.injEq, Lit.int.injEq, true_and] at hc
    exact ⟨c, true, by rw [hrun, this.1], .inl ⟨by rw [hc.1], rfl⟩⟩
theorem Ow.put {w : World} {M k : Nat} {f : Int → Option Int} (h : Ow w M k f) (hk : k < maxLen) {s t : Int} (hs : I64 s) (ht : I64 t) :
    ∃ w', (Instr.mapUpdate 83 (.map (some M)) (.int .i64 s) (.int .i64 t)).run Try.prog w = .ok () w' ∧ Ow w' M (k + 1) (fun z => if z = s then some t else f z) ∧ w.grownBy w' (some M) := by
  obtain ⟨D, o, hm, hf⟩ := h
  obtain ⟨w', hrun, o', hg⟩ := o.update ow_keyed Try.underlying83 hk (Maps.keyOf_int_mk Try.underlying3 (wf64 hs)) (plainElem_int Try.underlying3 (wf64 ht))
  refine ⟨w', hrun, ⟨_, o', hm.put _ _, fun z => ?_⟩, hg⟩
  by_cases e : z = s
  · subst e
    simp only [if_true]
    exact ⟨Maps.has_put_same hm (show WideAt.IsKeyLit (.int .i64 z) from trivial) _, Maps.atKey_put_same hm (show WideAt.IsKeyLit (.int .i64 z) from trivial) _ _⟩
  · have hne : (Lit.int .i64 z) ≠ Lit.int .i64 s := fun h => e (by cases h; rfl)
    simp only [if_neg e]
    have := hf z
    cases hfz : f z with
    | none => rw [hfz] at this; simp only at this ⊢; rw [Maps.has_put_other hne]; exact this
    | some u => rw [hfz] at this; simp only at this ⊢; rw [Maps.has_put_other hne, Maps.atKey_put_other hne]; exact this
/-- the blocks X are as they were -/
def KX (X : Nat → Prop) (W W' : World) : Prop := ∀ b, X b → W'.heap[b]? = W.heap[b]?
theorem KX.refl (X : Nat → Prop) (W : World) : KX X W W := fun _ _ => rfl
theorem KX.trans {X : Nat → Prop} {A B C : World} (h : KX X A B) (k : KX X B C) : KX X A C := fun b hb => (k b hb).trans (h b hb)
theorem KX.put {X : Nat → Prop} {w : World} (hX : ∀ b, X b → b < w.heap.size) (W : World) (l : Nat) (o o' : Obj) (hl : w.heap.size ≤ l) (h : W.heap[l]? = some o) (h1 : o.isCells = false) (h2 : o.isWalk = false) : KX X W (W.putObj l o') := fun b hb =>
  (belowK_b (w := w) (Nat.le_refl _) W l o o' hl h h1 h2).block b (hX b hb)
theorem KX.below {X : Nat → Prop} {n : Nat} (hX : ∀ b, X b → b < n) {W W' : World} (h : Below n W W') : KX X W W' := fun b hb => h.block b (hX b hb)
theorem KX.set {X : Nat → Prop} {W : World} {b o : Nat} {v : Value} (h : ¬ X b) : KX X W (W.setCell ⟨b, o, none⟩ v) := fun b' hb => Below.heap_setCell _ _ _ _ (fun e => h (by cases e; exact hb))
theorem KX.cell {X : Nat → Prop} {W W' : World} (h : KX X W W') {b : Nat} (hb : X b) (o : Nat) : W'.cell? ⟨b, o, none⟩ = W.cell? ⟨b, o, none⟩ := World.cell?_of_block (a := ⟨b, o, none⟩) (h b hb)
theorem KX.grown {X : Nat → Prop} {n : Nat} (hX : ∀ b, X b → b < n) {W W' : World} {M : Nat} (hn : n ≤ W.heap.size) (h : W.grownBy W' (some M)) (hM : ¬ X M) : KX X W W' := fun b hb => h.block b (Nat.lt_of_lt_of_le (hX b hb) hn) (fun e => hM (by injection e with e; subst e; exact hb))
theorem KX.rd {α : Type} {K : Kd α} {X : Nat → Prop} {W W' : World} (h : KX X W W') {A : Option Addr} {l : List α} (hA : ∀ a, A = some a → X a.block) (r : K.Rd W A l) : K.Rd W' A l := fun i x hi => by
  obtain ⟨b, o, e, c⟩ := r i x hi
  exact ⟨b, o, e, c.keep (h b (hA _ e))⟩
/-- the three numbers that may be steps -/
def sel (x : C) (k : Fin 3) : Int := if k.val = 0 then x.v else if k.val = 1 then x.u else x.a
def spK (x : C) (n : Nat) : List (Fin 3) := ((List.finRange 3).take n).filter fun k => decide (0 ≤ sel x k)
def spL (x : C) : List (Fin 3) := spK x 3
theorem stp_spL (x : C) : stp x = (spL x).map (sel x) := by
  unfold stp spL spK
  rw [show (List.finRange 3).take 3 = [0, 1, 2] from rfl]
  by_cases h0 : 0 ≤ x.v <;> by_cases h1 : 0 ≤ x.u <;> by_cases h2 : 0 ≤ x.a <;> simp [List.filter_cons, sel, h0, h1, h2]
theorem spK_yes {x : C} {k : Fin 3} (h : 0 ≤ sel x k) : spK x (k.val + 1) = spK x k.val ++ [k] := by
  have key : (List.finRange 3).take (k.val + 1) = (List.finRange 3).take k.val ++ [k] := by
    rw [List.take_succ_eq_append_getElem (by simp)]; simp
  unfold spK
  rw [key, List.filter_append, List.filter_cons_of_pos (by simpa using h)]; rfl
theorem spK_no {x : C} {k : Fin 3} (h : ¬ 0 ≤ sel x k) : spK x (k.val + 1) = spK x k.val := by
  have key : (List.finRange 3).take (k.val + 1) = (List.finRange 3).take k.val ++ [k] := by
    rw [List.take_succ_eq_append_getElem (by simp)]; simp
  unfold spK
  rw [key, List.filter_append, List.filter_cons_of_neg (by simpa using h)]; simp
theorem spK_pre (x : C) {n : Nat} (h : n ≤ 3) : spK x n <+: spL x := by
  unfold spL spK
  refine List.IsPrefix.filter _ ?_
  rw [show (List.finRange 3).take 3 = List.finRange 3 from rfl]
  exact List.take_prefix _ _
theorem spK_len (x : C) (n : Nat) : (spK x n).length ≤ 3 := by
  unfold spK
  have h1 := List.length_filter_le (fun k => decide (0 ≤ sel x k)) ((List.finRange 3).take n)
  have h2 : ((List.finRange 3).take n).length ≤ 3 := by rw [List.length_take]; simp; omega
  omega
theorem run_index {t e : TypeId} {n : Nat} {cs : Array Value} {j : Nat} {i : TypeInfo} {w : World} (hu : Try.prog.underlying t = some (.array n e)) (hi : Try.prog.info? e = some i) (hj : j < n) :
    (Instr.index t (.agg cs) (.int .i64 (j : Int))).run Try.prog w = (part e cs (j * i.size)).run Try.prog w := by
  have h1 : (0 : Int) ≤ (j : Int) ∧ (j : Int) < (n : Int) := by omega
  have hs : (sizeOf e).run Try.prog w = .ok i.size w := by simp [sizeOf, typeInfo, hi]
  simp [Instr.index, run_underlying hu, asIntOf, hj, hs]
theorem ix3 (x : C) (k : Fin 3) (w : World) : (Instr.index 102 (.agg #[.int .i64 x.v, .int .i64 x.u, .int .i64 x.a]) (.int .i64 (k.val : Nat))).run Try.prog w = .ok (.int .i64 (sel x k)) w := by
  obtain ⟨i, z, hi, _, _, hs, _⟩ := KI.info
  rw [run_index Try.underlying102 hi k.isLt, hs]
  match k with
  | ⟨0, _⟩ => simp [part, go_sem, KI, sel]
  | ⟨1, _⟩ => simp [part, go_sem, KI, sel]
  | ⟨2, _⟩ => simp [part, go_sem, KI, sel]
set_option maxRecDepth 100000 in
set_option maxHeartbeats 2000000 in
theorem steps1_in (F : Fence) (n : Nat) (h7 : F.fn 66) (hro : F.round = none) (hn : 1 ≤ n) (l b : Nat) (x : C) (X : Nat → Prop) (J Jx : List (Fin 3) → World → Prop)
    (hY : ∀ pre k W, J pre W → pre.length < (spL x).length → YieldAt F (n - 1) Try.prog l #[.int .i64 (sel x k)] W fun e W' =>
      (e = .returned (.bool true) ∧ J (pre ++ [k]) W' ∧ KX X W W') ∨ (e = .returned (.bool false) ∧ Jx (pre ++ [k]) W'))
    (W : World) (hb : KC.At W b 0 x) (h0 : J [] W) :
    CallsIn F n Try.prog 66 #[.func (.yield l) #[] #[], .pointer (some ⟨b, 0, none⟩)] W fun e W' => (∃ v, e = .returned v) ∧
      ((∃ ys, ys = spL x ∧ J ys W') ∨ (∃ pre, pre <+: spL x ∧ Jx pre W')) := by
  have e1 := hb 9 _ rfl
  have e2 := hb 10 _ rfl
  have e3 := hb 11 _ rfl
  simp only [Nat.zero_add] at e1 e2 e3
  clear hb
  refine callsIn_of_wp Try.func66 rfl h7 ?_ hro
  simp only [Try.ntmps66, List.size_toArray, List.length_cons, List.length_nil, Nat.reduceAdd, Nat.reduceSub, Array.replicate_succ, Array.replicate_zero, List.push_toArray, List.append_toArray, List.nil_append, List.cons_append]
  gi_wp2
  clear e1 e2 e3
  gi_loopw [12] (fun i wr => ∃ k : Nat, k ≤ 3 ∧ i = .int .i64 k ∧ J (spK x k) wr)
    (fun i _ => 3 - (intOf i).toNat)
  case atStart => exact ⟨0, Nat.zero_le _, rfl, h0⟩
  case round =>
    obtain ⟨k, hk, rfl, hJs⟩ := hrel
    by_cases hlt : k < 3
    · have hV := fun w => ix3 x ⟨k, hlt⟩ w
      have d0 : decide ((k : Int) < 3) = true := decide_eq_true (by omega)
      have k3 : (k : Int) < 3 := by omega
      by_cases hs : 0 ≤ sel x ⟨k, hlt⟩
      · have d1 := decide_eq_true hs
        have HN := Lib.hid (spK_yes hs)
        obtain ⟨fn, tmps, assign, body, hy, hRd⟩ := hY (spK x k) ⟨k, hlt⟩ wr hJs (by
          have h1 := (spK_pre x (show k + 1 ≤ 3 by omega)).length_le
          have h2 := congrArg List.length HN.out
          simp only [List.length_append, List.length_cons, List.length_nil] at h2
          omega)
        clear hJs
        generalize sel x ⟨k, hlt⟩ = z at *
        gi_wp2
        refine hRd.mono ?_
        rintro e W3 (⟨rfl, hJ3, hk3⟩ | ⟨rfl, hJx3⟩)
        · gi_wp2
          go_roundw
          case rel => exact ⟨k + 1, by omega, by go_num, by rw [HN.out]; exact hJ3⟩
          case measure => simp [intOf]; omega
        · gi_wp2
          refine bodyPost_ret (results_none rfl _ _ _) rfl ?_
          exact ⟨⟨_, rfl⟩, .inr ⟨_, by rw [← HN.out]; exact spK_pre x (by show k + 1 ≤ 3; omega), hJx3⟩⟩
      · have d1 := decide_eq_false hs
        have HN := Lib.hid (spK_no hs)
        generalize sel x ⟨k, hlt⟩ = z at *
        gi_wp2
        refine ⟨fun _ h => (by cases h), ?_⟩
        gi_wp2
        go_roundw
        case rel => exact ⟨k + 1, by omega, by go_num, by rw [HN.out]; exact hJs⟩
        case measure => simp [intOf]; omega
    · obtain rfl : k = 3 := by omega
      have d0 : decide (((3 : Nat) : Int) < 3) = false := by decide
      gi_wp2
      go_end0
      exact ⟨⟨_, rfl⟩, .inl ⟨_, rfl, hJs⟩⟩
theorem steps_in (F : Fence) (n : Nat) (h : F.fn 56) (hro : F.round = none) (x : C) (w : World) :
    CallsIn F n Try.prog 56 #[.agg #[.int .i64 x.t, .int .i64 x.i, .int .u8 x.k, .int .u64 x.p0, .int .u64 x.p1, .int .u64 x.p2, .int .u64 x.p3, .int .u64 x.p4, .int .u64 x.p5, .int .i64 x.v, .int .i64 x.u, .int .i64 x.a, .int .i64 x.s, .int .i64 x.re, .bool x.rf, .int .u64 x.rk, .int .u64 x.rv, .int .i64 x.rc]] w fun e w' => e = .returned (.func (.func 66) #[] #[.pointer (some ⟨w.heap.size, 0, none⟩)]) ∧ w' = w.alloc (.cells #[.int .i64 x.t, .int .i64 x.i, .int .u8 x.k, .int .u64 x.p0, .int .u64 x.p1, .int .u64 x.p2, .int .u64 x.p3, .int .u64 x.p4, .int .u64 x.p5, .int .i64 x.v, .int .i64 x.u, .int .i64 x.a, .int .i64 x.s, .int .i64 x.re, .bool x.rf, .int .u64 x.rk, .int .u64 x.rv, .int .i64 x.rc] 47) := by
  refine callsIn_of_wp Try.func56 rfl h ?_ hro
  simp only [Try.ntmps56, List.size_toArray, List.length_cons, List.length_nil, Nat.reduceAdd, Nat.reduceSub, Array.replicate_succ, Array.replicate_zero, List.push_toArray, List.append_toArray, List.nil_append, List.cons_append]
  gi_wp2
  go_ret
  exact ⟨rfl, rfl⟩
theorem steps_stops (F : Fence) (hF : ∀ f, F.fn f) (hro : F.round = none) (n : Nat) (hn : 1 ≤ n) (b : Nat) (x : C) (X : Nat → Prop) (w : World) (hx : KC.At w b 0 x) :
    SeqStopsK F n Try.prog 66 #[.pointer (some ⟨b, 0, none⟩)] (fun k : Fin 3 => #[Value.int .i64 (sel x k)]) (KX X) (fun ys => ys = spL x) (fun pre => pre <+: spL x) (spL x).length w := fun l J Jx W hW _ _ hY h0 =>
  steps1_in F n (hF _) hro hn l b x X J Jx hY W (hx.bel hW hx.lt) h0
end Hi
end Go.Proofs.Ytgfhfcjjodcgdaa
