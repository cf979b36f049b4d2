/- Package picks: the iterator over the threads that picks choose (choices, its closure): contracts of the translated code. Conditions: 1 to 64 threads, at most 100,000 picks. -/
import Derived.Test.YtnoggggbghkgkaaPk
import Derived.RangeFuncNested
import Derived.RangeFuncBound
import Derived.RangeFuncCalls
import Derived.RangeFuncLeaves
import Derived.RangeFuncBox
import Derived.Shelf.Abstract
import Derived.Shelf.RegionOpen
import Derived.OwnWalkIn
import Derived.TacticsInMore
import Derived.LoopNIn
import Derived.LoopIn
import Derived.Maps.AppendAt
namespace Go.Proofs.Ytnoggggbghkgkaa
open Go.RowKit Go.Shelf Go.Sort
set_option linter.unusedVariables false
set_option linter.unusedSimpArgs false
attribute [local go_sem] Oper.semAt_some
namespace Pk
open Dm (RdK BdI bel_alloc bel_trans cell_lt)
/-- the blocks X are as they were -/
def KX (X : Nat → Prop) (W W' : World) : Prop := ∀ b, X b → W'.heap[b]? = W.heap[b]?
theorem KX.refl (X : Nat → Prop) (W : World) : KX X W W := fun _ _ => rfl
theorem KX.trans {X : Nat → Prop} {A B C : World} (h : KX X A B) (k : KX X B C) : KX X A C := fun b hb => (k b hb).trans (h b hb)
theorem KX.put {X : Nat → Prop} {w : World} (hX : ∀ b, X b → b < w.heap.size) (W : World) (l : Nat) (o o' : Obj) (hl : w.heap.size ≤ l) (h : W.heap[l]? = some o) (h1 : o.isCells = false) (h2 : o.isWalk = false) : KX X W (W.putObj l o') := fun b hb =>
  (belowK_b (w := w) (Nat.le_refl _) W l o o' hl h h1 h2).block b (hX b hb)
theorem KX.below {X : Nat → Prop} {n : Nat} (hX : ∀ b, X b → b < n) {W W' : World} (h : Below n W W') : KX X W W' := fun b hb => h.block b (hX b hb)
theorem KX.set {X : Nat → Prop} {W : World} {b o : Nat} {v : Value} (h : ¬ X b) : KX X W (W.setCell ⟨b, o, none⟩ v) := fun b' hb => Below.heap_setCell _ _ _ _ (fun e => h (by cases e; exact hb))
theorem KX.cell {X : Nat → Prop} {W W' : World} (h : KX X W W') {b : Nat} (hb : X b) (o : Nat) : W'.cell? ⟨b, o, none⟩ = W.cell? ⟨b, o, none⟩ := World.cell?_of_block (a := ⟨b, o, none⟩) (h b hb)
theorem KX.rd {X : Nat → Prop} {W W' : World} (h : KX X W W') {A : Option Addr} {l : List Int} (hA : ∀ a, A = some a → X a.block) (r : RdK .i64 W A l) : RdK .i64 W' A l := fun k hk => by
  obtain ⟨b, o, e, c⟩ := r k hk
  exact ⟨b, o, e, (h.cell (hA _ e) _).trans c⟩
theorem rd_lt {w : World} {A : Option Addr} {l : List Int} (h : RdK .i64 w A l) (h0 : 0 < l.length) : ∀ a, A = some a → a.block < w.heap.size := fun a e => by
  obtain ⟨b, o, e', c⟩ := h 0 h0
  rw [e] at e'; injection e' with e'; subst e'
  exact cell_lt c
theorem take_next {l : List (Fin 64)} {k : Nat} (h : k < l.length) : l.take (k + 1) = l.take k ++ [l[k]] := by
  rw [List.take_succ_eq_append_getElem h]
set_option maxRecDepth 100000 in
set_option maxHeartbeats 2000000 in
theorem choices1_in (F : Fence) (n : Nat) (h7 : F.fn 49) (h8 : F.fn 39) (hro : F.round = none) (hwide : ∀ {g : Nat} {args : Array Value} {w : World} {R : Ending → World → Prop}, Calls Try.prog g args w R → CallsIn F (n - 1) Try.prog g args w R) (hn : 1 ≤ n) (l Bp Bt t : Nat) (t1 : 1 ≤ t) (t2 : t ≤ 64)
    (A : Option Addr) (m c : Nat) (xs : List Int) (hl : xs.length = m) (hm : m ≤ 100000) (X : Nat → Prop) (X1 : X Bt) (X2 : 0 < xs.length → ∀ a, A = some a → X a.block) (J Jx : List (Fin 64) → World → Prop)
    (hY : ∀ pre x W, J pre W → pre.length < (chL t xs).length → YieldAt F (n - 1) Try.prog l #[.int .i64 (x.val : Int)] W fun e W' =>
      (e = .returned (.bool true) ∧ J (pre ++ [x]) W' ∧ KX X W W') ∨ (e = .returned (.bool false) ∧ Jx (pre ++ [x]) W'))
    (W : World) (hBp : W.cell? ⟨Bp, 0, none⟩ = some (.slice A m c)) (hBt : W.cell? ⟨Bt, 0, none⟩ = some (.int .i64 (t : Int))) (hrd : RdK .i64 W A xs) (h0 : J [] W) :
    CallsIn F n Try.prog 49 #[.func (.yield l) #[] #[], .pointer (some ⟨Bp, 0, none⟩), .pointer (some ⟨Bt, 0, none⟩)] W fun e W' => (∃ v, e = .returned v) ∧
      ((∃ ys, ys = chL t xs ∧ J ys W') ∨ (∃ pre, pre <+: chL t xs ∧ Jx pre W')) := by
  have HR := Lib.hid hrd; clear hrd
  have HL := Lib.hid hl; clear hl
  have HBt := Lib.hid hBt; clear hBt
  refine callsIn_of_wp Try.func49 rfl h7 ?_ hro
  simp only [Try.ntmps49, List.size_toArray, List.length_cons, List.length_nil, Nat.reduceAdd, Nat.reduceSub, Array.replicate_succ, Array.replicate_zero, List.push_toArray, List.append_toArray, List.nil_append, List.cons_append]
  gi_wp2
  gi_loopw [8] (fun i wr => ∃ k : Nat, k ≤ m ∧ i = .int .i64 k ∧ J ((chL t xs).take k) wr ∧ KX X W wr)
    (fun i _ => m - (intOf i).toNat)
  case atStart => exact ⟨0, Nat.zero_le _, rfl, h0, KX.refl _ _⟩
  case round =>
    obtain ⟨k, hk, rfl, hJs, hkx⟩ := hrel
    have HK := Lib.hid hkx; clear hkx
    have clen := chL_len t xs
    by_cases hlt : k < m
    · have hkl : k < xs.length := by have := HL.out; omega
      obtain ⟨b, o, rfl, g0⟩ := (HK.out.rd (X2 (by omega)) HR.out) k hkl
      have gt : wr.cell? ⟨Bt, 0, none⟩ = some (.int .i64 (t : Int)) := (HK.out.cell X1 _).trans HBt.out
      obtain ⟨p, hp⟩ : ∃ p, xs.getD k 0 = p := ⟨_, rfl⟩
      rw [hp] at g0
      obtain ⟨y, hy0⟩ : ∃ y, chF t p = y := ⟨_, rfl⟩
      have hv := chF_val t1 t2 p
      rw [hy0] at hv
      have CH := Lib.hid (hwide (choice_any t p t1 t2 wr))
      rw [← hv] at CH
      have hnx : (chL t xs).take (k + 1) = (chL t xs).take k ++ [y] := by
        rw [take_next (by omega), ← hy0, ← hp]
        simp [chL, List.getD_eq_getElem?_getD, List.getElem?_eq_getElem hkl]
      obtain ⟨fn, tmps, assign, body, hy, hRd⟩ := hY ((chL t xs).take k) y wr hJs (by rw [List.length_take]; omega)
      have HN := Lib.hid hnx
      have d0 : decide ((k : Int) < m) = true := decide_eq_true (by omega)
      clear hp hy0 hv hnx clen hJs hkl
      gi_wp2_with (gi_at_call 39; refine CH.out.mono ?_; rintro e w' ⟨rfl, rfl⟩)
      refine hRd.mono ?_
      rintro e W3 (⟨rfl, hJ3, hk3⟩ | ⟨rfl, hJx3⟩)
      · gi_wp2
        go_roundw
        case rel => exact ⟨k + 1, by omega, by go_num, by rw [HN.out]; exact hJ3, HK.out.trans hk3⟩
        case measure => simp [intOf]; omega
      · gi_wp2
        refine bodyPost_ret (results_none rfl _ _ _) rfl ?_
        exact ⟨⟨_, rfl⟩, .inr ⟨_, by rw [← HN.out]; exact List.take_prefix _ _, hJx3⟩⟩
    · obtain rfl : k = m := by omega
      have HX := Lib.hid (show (chL t xs).take k = chL t xs from List.take_of_length_le (by rw [chL_len, HL.out]; omega))
      have d0 : decide ((k : Int) < k) = false := by simp
      gi_wp2
      go_end0
      exact ⟨⟨_, rfl⟩, .inl ⟨_, HX.out, hJs⟩⟩
theorem choices_in (F : Fence) (n : Nat) (h : F.fn 34) (hro : F.round = none) (t : Int) (A : Option Addr) (m c : Nat) (w : World) :
    CallsIn F n Try.prog 34 #[.int .i64 t, .slice A m c] w fun e w' => e = .returned (.func (.func 49) #[] #[.pointer (some ⟨w.heap.size + 1, 0, none⟩), .pointer (some ⟨w.heap.size, 0, none⟩)]) ∧ w' = (w.alloc (.cells #[.int .i64 t] 3)).alloc (.cells #[.slice A m c] 22) := by
  refine callsIn_of_wp Try.func34 rfl h ?_ hro
  simp only [Try.ntmps34, List.size_toArray, List.length_cons, List.length_nil, Nat.reduceAdd, Nat.reduceSub, Array.replicate_succ, Array.replicate_zero, List.push_toArray, List.append_toArray, List.nil_append, List.cons_append]
  gi_wp2
  go_ret
  exact ⟨rfl, rfl⟩
theorem choices_stops (F : Fence) (hF : ∀ f, F.fn f) (hro : F.round = none) (hwide : ∀ {n g : Nat} {args : Array Value} {w : World} {R : Ending → World → Prop}, Calls Try.prog g args w R → CallsIn F n Try.prog g args w R) (n : Nat) (hn : 1 ≤ n) (Bp Bt t : Nat) (t1 : 1 ≤ t) (t2 : t ≤ 64)
    (A : Option Addr) (m c : Nat) (xs : List Int) (hl : xs.length = m) (hm : m ≤ 100000) (X : Nat → Prop) (X1 : X Bt) (X2 : 0 < xs.length → ∀ a, A = some a → X a.block) (w : World) (hX : ∀ b, X b → b < w.heap.size) (hp : Bp < w.heap.size)
    (hBp : w.cell? ⟨Bp, 0, none⟩ = some (.slice A m c)) (hBt : w.cell? ⟨Bt, 0, none⟩ = some (.int .i64 (t : Int))) (hrd : RdK .i64 w A xs) :
    SeqStopsK F n Try.prog 49 #[.pointer (some ⟨Bp, 0, none⟩), .pointer (some ⟨Bt, 0, none⟩)] (fun x : Fin 64 => #[Value.int .i64 (x.val : Int)]) (KX X) (fun ys => ys = chL t xs) (fun pre => pre <+: chL t xs) (chL t xs).length w := fun l J Jx W hW _ _ hY h0 =>
  choices1_in F n (hF _) (hF _) hro (fun h => hwide h) hn l Bp Bt t t1 t2 A m c xs hl hm X X1 X2 J Jx hY W ((hW.cell (p := ⟨Bp, 0, none⟩) hp).trans hBp) ((hW.cell (p := ⟨Bt, 0, none⟩) (hX _ X1)).trans hBt) (hrd.below hW) h0
end Pk
end Go.Proofs.Ytnoggggbghkgkaa
