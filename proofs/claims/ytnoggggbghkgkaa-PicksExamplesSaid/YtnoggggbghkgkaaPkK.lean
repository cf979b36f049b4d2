/- The library's slices.Chunk at ints, for pairs: its closure: contracts of the translated code. Conditions: a list of even length. -/
import Derived.Test.YtnoggggbghkgkaaPkR
namespace Go.Proofs.Ytnoggggbghkgkaa
open Go.RowKit Go.Shelf Go.Sort
set_option linter.unusedVariables false
set_option linter.unusedSimpArgs false
attribute [local go_sem] Oper.semAt_some
namespace Pk
open Dm (RdK BdI bel_alloc bel_trans cell_lt flatI info info_parts row_rd app1)
theorem drop_run (b o m c i : Nat) (h1 : i < m) (h2 : m ≤ c) : ∀ w : World, (Instr.sliceAt 22 (.slice (some ⟨b, o, none⟩) m c) (some (.int .i64 (i : Nat))) none none).run Try.prog w = .ok (.slice (some ⟨b, o + i, none⟩) (m - i) (c - i)) w := fun w => by
  have u : Try.prog.underlying 22 = some (.slice (Try.prog.elem 22)) := by kernel_rfl
  have hmn : (i : Int) ≤ m := by omega
  have hnc : (m : Int) ≤ c := by omega
  have e : sliced (some ⟨b, o, none⟩) i m c 1 = .slice (some ⟨b, o + i, none⟩) (m - i) (c - i) := by
    unfold sliced
    rw [if_neg (by omega)]
    simp [Addr.add]
  rw [← e]
  simp [go_sem, Instr.sliceBounds, hmn, hnc]
theorem cut_run (b o m c i : Nat) (h1 : i + 2 ≤ m) (h2 : m ≤ c) : ∀ w : World, (Instr.sliceAt 22 (.slice (some ⟨b, o, none⟩) m c) (some (.int .i64 (i : Nat))) (some (.int .i64 ((i : Nat) + 2))) (some (.int .i64 ((i : Nat) + 2)))).run Try.prog w = .ok (.slice (some ⟨b, o + i, none⟩) 2 2) w := fun w => by
  have u : Try.prog.underlying 22 = some (.slice (Try.prog.elem 22)) := by kernel_rfl
  have hmn : (i : Int) ≤ m := by omega
  have hnc : (m : Int) ≤ c := by omega
  have hn2 : (i : Int) + 2 ≤ c := by omega
  have hn0 : 0 ≤ (i : Int) + 2 := by omega
  have ht : ((i : Int) + 2).toNat = i + 2 := by omega
  have e : sliced (some ⟨b, o, none⟩) i (i + 2) (i + 2) 1 = .slice (some ⟨b, o + i, none⟩) 2 2 := by
    unfold sliced
    rw [if_neg (by omega)]
    simp [Addr.add]
  rw [← e]
  simp [go_sem, Instr.sliceBounds, hmn, hnc, hn2, hn0, ht]
theorem fin_next {j k : Nat} (h : j < k) : (List.finRange k).take (j + 1) = (List.finRange k).take j ++ [⟨j, h⟩] := by
  rw [List.take_succ_eq_append_getElem (by simpa using h)]
  simp
theorem grown_drew (w : World) (row : Option Nat) : w.grownBy w.drew row := ⟨rfl, rfl, rfl, Nat.le_refl _, fun _ _ _ => rfl⟩
/-- the pair j of a list -/
abbrev prV (b o j : Nat) : Value := .slice (some ⟨b, o + 2 * j, none⟩) 2 2
set_option maxRecDepth 100000 in
set_option maxHeartbeats 2000000 in
theorem chunk1_in (F : Fence) (n : Nat) (h7 : F.fn 50) (hro : F.round = none) (hn : 1 ≤ n) (l Bs Bn b o k c : Nat) (A : Option Addr) (hA : 0 < k → A = some ⟨b, o, none⟩) (hc : 2 * k ≤ c) (hm : c ≤ 9223372036854775807) (X : Nat → Prop) (X1 : X Bs) (X2 : X Bn) (J Jx : List (Fin k) → World → Prop) (hJd : ∀ s W, J s W → J s W.drew)
    (hY : ∀ pre x W, J pre W → pre.length < (List.finRange k).length → YieldAt F (n - 1) Try.prog l #[.slice (some ⟨b, o + 2 * x.val, none⟩) 2 2] W fun e W' =>
      (e = .returned (.bool true) ∧ J (pre ++ [x]) W' ∧ KX X W W') ∨ (e = .returned (.bool false) ∧ Jx (pre ++ [x]) W'))
    (W : World) (hBs : W.cell? ⟨Bs, 0, none⟩ = some (.slice A (2 * k) c)) (hBn : W.cell? ⟨Bn, 0, none⟩ = some (.int .i64 2)) (h0 : J [] W) :
    CallsIn F n Try.prog 50 #[.func (.yield l) #[] #[], .pointer (some ⟨Bs, 0, none⟩), .pointer (some ⟨Bn, 0, none⟩)] W fun e W' => (∃ v, e = .returned v) ∧
      ((∃ ys, ys = List.finRange k ∧ J ys W') ∨ (∃ pre, pre <+: List.finRange k ∧ Jx pre W')) := by
  have HBs := Lib.hid hBs; clear hBs
  have HBn := Lib.hid hBn; clear hBn
  have HA := Lib.hid hA; clear hA
  obtain ⟨m, hmk⟩ : ∃ m, 2 * k = m := ⟨_, rfl⟩
  have HMK := Lib.hid hmk
  rw [hmk] at HBs hc
  have hmx : 2 * k ≤ m := by omega
  have hmx2 : m ≤ 2 * k := by omega
  clear hmk
  have hmix : Try.prog.follows .mixedOrders = true := by kernel_rfl
  refine callsIn_of_wp Try.func50 rfl h7 ?_ hro
  simp only [Try.ntmps50, List.size_toArray, List.length_cons, List.length_nil, Nat.reduceAdd, Nat.reduceSub, Array.replicate_succ, Array.replicate_zero, List.push_toArray, List.append_toArray, List.nil_append, List.cons_append]
  gi_wp2
  gi_loopw [4] (fun i wr => ∃ j : Nat, j ≤ k ∧ i = .int .i64 ((2 * j : Nat) : Int) ∧ J ((List.finRange k).take j) wr ∧ KX X W wr)
    (fun i _ => m - (intOf i).toNat)
  case atStart => exact ⟨0, Nat.zero_le _, rfl, h0, KX.refl _ _⟩
  case round =>
    obtain ⟨j, hj, rfl, hJs, hkx⟩ := hrel
    have HK := Lib.hid hkx; clear hkx
    have g1 : wr.cell? ⟨Bs, 0, none⟩ = some (.slice A m c) := (HK.out.cell X1 _).trans HBs.out
    have g2 : wr.cell? ⟨Bn, 0, none⟩ = some (.int .i64 2) := (HK.out.cell X2 _).trans HBn.out
    obtain ⟨i, hi⟩ : ∃ i, 2 * j = i := ⟨_, rfl⟩
    by_cases hlt : j < k
    · obtain rfl := HA.out (by omega)
      obtain ⟨fn, tmps, assign, body, hy, hRd⟩ := hY ((List.finRange k).take j) ⟨j, hlt⟩ wr.drew (hJd _ _ hJs) (by simp; omega)
      have HN := Lib.hid (fin_next hlt)
      rw [hi] at hy ⊢
      have him : i + 2 ≤ m := by omega
      have R1 := drop_run b o m c i (by omega) hc
      have R2 := cut_run b o m c i (by omega) hc
      have d0 : decide ((i : Int) < m) = true := decide_eq_true (by omega)
      have HI := Lib.hid hi
      have i1 : (i : Int) + 2 ≤ m := by omega
      have i2 : (m : Int) ≤ 9223372036854775807 := by omega
      have e2 : ((m - i : Nat) : Int) = (m : Int) - i := by omega
      have e4 : decide ((2 : Int) ≤ (m : Int) - (i : Int)) = true := decide_eq_true (by omega)
      have e5 : (2 : Int) ≤ (m : Int) - (i : Int) := by omega
      have e3 : decide ((2 : Int) ≤ ((m - i : Nat) : Int)) = true := decide_eq_true (by omega)
      have e6 : (2 : Int) ≤ ((m - i : Nat) : Int) := by omega
      have d1 : decide (i < m) = true := decide_eq_true (by omega)
      have d2 : i < m := by omega
      clear hi hJs e2 hY HBs HA
      gi_wp2
      gi_region_with_o (fail)
      all_goals gi_wp2
      all_goals (refine hRd.mono ?_)
      all_goals (rintro e W3 (⟨rfl, hJ3, hk3⟩ | ⟨rfl, hJx3⟩))
      all_goals first
        | (have g3 : W3.cell? ⟨Bn, 0, none⟩ = some (.int .i64 2) := (hk3.cell X2 0).trans g2
           have HK3 := Lib.hid (show KX X W W3 from HK.out.trans hk3)
           clear hk3
           gi_wp2
           go_roundw
           case rel => exact ⟨j + 1, by omega, by rw [show 2 * (j + 1) = i + 2 by have := HI.out; omega]; go_num, by rw [HN.out]; exact hJ3, HK3.out⟩
           case measure => simp [intOf]; omega)
        | (gi_wp2
           refine bodyPost_ret (results_none rfl _ _ _) rfl ?_
           exact ⟨⟨_, rfl⟩, .inr ⟨_, by rw [← HN.out]; exact List.take_prefix _ _, hJx3⟩⟩)
    · obtain rfl : j = k := by omega
      have d0 : decide ((i : Int) < m) = false := decide_eq_false (by omega)
      have d1 : decide (i < m) = false := decide_eq_false (by omega)
      rw [hi]
      clear hi
      gi_wp2
      go_end0
      exact ⟨⟨_, rfl⟩, .inl ⟨_, List.take_of_length_le (by simp), hJs⟩⟩
theorem chunk_in (F : Fence) (n : Nat) (h : F.fn 46) (hro : F.round = none) (A : Option Addr) (m c : Nat) (w : World) :
    CallsIn F n Try.prog 46 #[.slice A m c, .int .i64 2] w fun e w' => e = .returned (.func (.func 50) #[] #[.pointer (some ⟨w.heap.size, 0, none⟩), .pointer (some ⟨w.heap.size + 1, 0, none⟩)]) ∧ w' = (w.alloc (.cells #[.slice A m c] 22)).alloc (.cells #[.int .i64 2] 3) := by
  refine callsIn_of_wp Try.func46 rfl h ?_ hro
  simp only [Try.ntmps46, List.size_toArray, List.length_cons, List.length_nil, Nat.reduceAdd, Nat.reduceSub, Array.replicate_succ, Array.replicate_zero, List.push_toArray, List.append_toArray, List.nil_append, List.cons_append]
  gi_wp2
  go_ret
  exact ⟨rfl, rfl⟩
theorem chunk_stops (F : Fence) (hF : ∀ f, F.fn f) (hro : F.round = none) (n : Nat) (hn : 1 ≤ n) (Bs Bn b o k c : Nat) (A : Option Addr) (hA : 0 < k → A = some ⟨b, o, none⟩) (hc : 2 * k ≤ c) (hm : c ≤ 9223372036854775807) (X : Nat → Prop) (X1 : X Bs) (X2 : X Bn) (w : World) (hX : ∀ b, X b → b < w.heap.size)
    (hBs : w.cell? ⟨Bs, 0, none⟩ = some (.slice A (2 * k) c)) (hBn : w.cell? ⟨Bn, 0, none⟩ = some (.int .i64 2)) :
    SeqStopsK F n Try.prog 50 #[.pointer (some ⟨Bs, 0, none⟩), .pointer (some ⟨Bn, 0, none⟩)] (fun x : Fin k => #[Value.slice (some ⟨b, o + 2 * x.val, none⟩) 2 2]) (KX X) (fun ys => ys = List.finRange k) (fun pre => pre <+: List.finRange k) (List.finRange k).length w := fun l J Jx W hW hJ _ hY h0 =>
  chunk1_in F n (hF _) hro hn l Bs Bn b o k c A hA hc hm X X1 X2 J Jx (fun s W h => hJ s W W.drew none h (grown_drew W none) (fun r e => by cases e)) hY W ((hW.cell (p := ⟨Bs, 0, none⟩) (hX _ X1)).trans hBs) ((hW.cell (p := ⟨Bn, 0, none⟩) (hX _ X2)).trans hBn) h0
end Pk
end Go.Proofs.Ytnoggggbghkgkaa
