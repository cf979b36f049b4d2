/- The library's slices.Backward over a list of ints: the iterator's closure, for any body: contracts of the translated code. Conditions: at most 1,000 ints. -/
import Derived.Test.YtgfhfcjjodcgdaaHiZ
import Derived.RangeFuncNested
import Derived.RangeFuncBound
import Derived.RangeFuncCalls
import Derived.RangeFuncLeaves
import Derived.RangeFuncBox
import Derived.Shelf.Abstract
import Derived.Shelf.RegionOpen
import Derived.OwnWalkIn
import Derived.TacticsInMore
import Derived.LoopNIn
import Derived.LoopIn
namespace Go.Proofs.Ytgfhfcjjodcgdaa
open Go.RowKit Go.Shelf Go.Sort
set_option linter.unusedVariables false
set_option linter.unusedSimpArgs false
attribute [local go_sem] Oper.semAt_some
namespace Hi
/-- the indices, the last one first -/
def bwd (n : Nat) : List (Fin n) := (List.finRange n).reverse
theorem bwd_len (n : Nat) : (bwd n).length = n := by simp [bwd]
theorem bwd_at {n k : Nat} (h : k < n) : (bwd n)[k]'(by rw [bwd_len]; exact h) = ⟨n - 1 - k, by omega⟩ := by
  simp [bwd]
theorem bwd_next {n k : Nat} (h : k < n) : (bwd n).take (k + 1) = (bwd n).take k ++ [⟨n - 1 - k, by omega⟩] := by
  rw [List.take_succ_eq_append_getElem (by rw [bwd_len]; exact h), bwd_at h]
/-- what the iterator hands out for an index -/
def yA (l : List Int) (x : Fin l.length) : Array Value := #[.int .i64 (x.val : Nat), .int .i64 (l.getD x.val 0)]
set_option maxRecDepth 100000 in
set_option maxHeartbeats 2000000 in
theorem backward1_in (F : Fence) (n : Nat) (h7 : F.fn 78) (hro : F.round = none) (hn : 1 ≤ n) (l : Nat) (Bp : Nat)
    (A : Option Addr) (m c : Nat) (xs : List Int) (hl : xs.length = m) (hm : m ≤ 1000) (X : Nat → Prop) (X1 : X Bp) (X2 : 0 < xs.length → ∀ a, A = some a → X a.block) (J Jx : List (Fin xs.length) → World → Prop)
    (hY : ∀ pre x W, J pre W → pre.length < (bwd xs.length).length → YieldAt F (n - 1) Try.prog l (yA xs x) W fun e W' =>
      (e = .returned (.bool true) ∧ J (pre ++ [x]) W' ∧ KX X W W') ∨ (e = .returned (.bool false) ∧ Jx (pre ++ [x]) W'))
    (W : World) (hBp : W.cell? ⟨Bp, 0, none⟩ = some (.slice A m c)) (hrd : KI.Rd W A xs) (h0 : J [] W) :
    CallsIn F n Try.prog 78 #[.func (.yield l) #[] #[], .pointer (some ⟨Bp, 0, none⟩)] W fun e W' => (∃ v, e = .returned v) ∧
      ((∃ ys, ys = bwd xs.length ∧ J ys W') ∨ (∃ pre, pre <+: bwd xs.length ∧ Jx pre W')) := by
  have HR := Lib.hid hrd; clear hrd
  have HBp := Lib.hid hBp
  have HMM' := Lib.hid hl
  have m1 : (m : Int) ≤ 1000 := by omega
  clear hl
  refine callsIn_of_wp Try.func78 rfl h7 ?_ hro
  simp only [Try.ntmps78, List.size_toArray, List.length_cons, List.length_nil, Nat.reduceAdd, Nat.reduceSub, Array.replicate_succ, Array.replicate_zero, List.push_toArray, List.append_toArray, List.nil_append, List.cons_append]
  gi_wp2
  clear hBp
  gi_loopw [3] (fun i wr => ∃ K : Nat, K ≤ m ∧ i = .int .i64 ((K : Int) - 1) ∧ J ((bwd xs.length).take (m - K)) wr ∧ KX X W wr)
    (fun i _ => (intOf i + 1).toNat)
  case atStart => exact ⟨m, Nat.le_refl _, rfl, by rw [Nat.sub_self]; exact h0, KX.refl _ _⟩
  case round =>
    obtain ⟨K, hK, rfl, hJs, hkx⟩ := hrel
    have HK := Lib.hid hkx; clear hkx
    cases K with
    | zero =>
      have HX := Lib.hid (show (bwd xs.length).take (m - 0) = bwd xs.length from List.take_of_length_le (by rw [bwd_len, HMM'.out]; omega))
      have d0 : decide ((0 : Int) ≤ 0 - 1) = false := by decide
      have d1 : ((0 : Nat) : Int) - 1 = -1 := rfl
      rw [d1]
      gi_wp2
      go_end0
      exact ⟨⟨_, rfl⟩, .inl ⟨_, HX.out, hJs⟩⟩
    | succ j =>
      have hjl : j < xs.length := by have := HMM'.out; omega
      have hj0 : m - (j + 1) < xs.length := by have := HMM'.out; omega
      have g0 : wr.cell? ⟨Bp, 0, none⟩ = some (.slice A m c) := (HK.out.cell X1 _).trans HBp.out
      obtain ⟨b, o, rfl, c0⟩ := KI.at_ (HK.out.rd (X2 (by omega)) HR.out) hjl
      have hnx := bwd_next hj0
      have hxj : (⟨xs.length - 1 - (m - (j + 1)), by omega⟩ : Fin xs.length) = ⟨j, hjl⟩ := Fin.ext (by show xs.length - 1 - (m - (j + 1)) = j; have := HMM'.out; omega)
      rw [hxj] at hnx
      rw [show m - (j + 1) + 1 = m - j by omega] at hnx
      obtain ⟨fn, tmps, assign, body, hy, hRd⟩ := hY ((bwd xs.length).take (m - (j + 1))) ⟨j, hjl⟩ wr hJs (by rw [List.length_take, bwd_len]; omega)
      have HN := Lib.hid hnx
      have q0 : ((j + 1 : Nat) : Int) - 1 = (j : Int) := by omega
      have d0 : decide ((0 : Int) ≤ (j : Int)) = true := decide_eq_true (by omega)
      have j1 : (j : Int) < m := by omega
      have j0 : (j : Int) ≤ 1000 := by omega
      rw [q0]
      clear hnx hJs hxj q0
      unfold yA at hy
      obtain ⟨x, hx⟩ : ∃ x, xs.getD j 0 = x := ⟨_, rfl⟩
      simp only [hx] at hy c0
      gi_wp2
      refine hRd.mono ?_
      rintro e W3 (⟨rfl, hJ3, hk3⟩ | ⟨rfl, hJx3⟩)
      · gi_wp2
        go_roundw
        case rel => exact ⟨j, by omega, rfl, by rw [HN.out]; exact hJ3, HK.out.trans hk3⟩
        case measure => simp [intOf]
      · gi_wp2
        refine bodyPost_ret (results_none rfl _ _ _) rfl ?_
        exact ⟨⟨_, rfl⟩, .inr ⟨_, by rw [← HN.out]; exact List.take_prefix _ _, hJx3⟩⟩
theorem backward_in (F : Fence) (n : Nat) (h : F.fn 65) (hro : F.round = none) (A : Option Addr) (m c : Nat) (w : World) :
    CallsIn F n Try.prog 65 #[.slice A m c] w fun e w' => e = .returned (.func (.func 78) #[] #[.pointer (some ⟨w.heap.size, 0, none⟩)]) ∧ w' = w.alloc (.cells #[.slice A m c] 30) := by
  refine callsIn_of_wp Try.func65 rfl h ?_ hro
  simp only [Try.ntmps65, List.size_toArray, List.length_cons, List.length_nil, Nat.reduceAdd, Nat.reduceSub, Array.replicate_succ, Array.replicate_zero, List.push_toArray, List.append_toArray, List.nil_append, List.cons_append]
  gi_wp2
  go_ret
  exact ⟨rfl, rfl⟩
theorem backward_stops (F : Fence) (hF : ∀ f, F.fn f) (hro : F.round = none) (n : Nat) (hn : 1 ≤ n) (Bp : Nat)
    (A : Option Addr) (m c : Nat) (xs : List Int) (hl : xs.length = m) (hm : m ≤ 1000) (X : Nat → Prop) (X1 : X Bp) (X2 : 0 < xs.length → ∀ a, A = some a → X a.block) (w : World) (hX : ∀ b, X b → b < w.heap.size)
    (hBp : w.cell? ⟨Bp, 0, none⟩ = some (.slice A m c)) (hrd : KI.Rd w A xs) :
    SeqStopsK F n Try.prog 78 #[.pointer (some ⟨Bp, 0, none⟩)] (yA xs) (KX X) (fun ys => ys = bwd xs.length) (fun pre => pre <+: bwd xs.length) (bwd xs.length).length w := fun l J Jx W hW _ _ hY h0 =>
  backward1_in F n (hF _) hro hn l Bp A m c xs hl hm X X1 X2 J Jx hY W ((hW.cell (p := ⟨Bp, 0, none⟩) (hX _ X1)).trans hBp) (hrd.below hW) h0
end Hi
end Go.Proofs.Ytgfhfcjjodcgdaa
