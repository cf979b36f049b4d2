/- A merge of package merge beside blocks that are to stay: the calls' contracts in one form, for the laws. Conditions: those of XQmA. -/
import Derived.Test.YtbndgbjenmknmaaDoorQmF
import Derived.Test.YtbndgbjenmknmaaDoorMgK
import Derived.Test.YtbndgbjenmknmaaDoorMgE
namespace Go.Proofs.YtbndgbjenmknmaaDoor
open Go.RowKit Go.Sort
set_option linter.unusedVariables false
set_option linter.unusedSimpArgs false
namespace Hq
open Om (bel_alloc below_drewN flat Pr bel_trans)
open Dm (RdK flatI row_rd)
/-- the blocks X are as they were -/
structure Kx (X : Nat → Prop) (w w' : World) : Prop where
  os : w'.os = w.os
  tape : w'.tape = w.tape
  output : w'.output = w.output
  size : w.heap.size ≤ w'.heap.size
  block : ∀ i, X i → w'.heap[i]? = w.heap[i]?
theorem Kx.below {X : Nat → Prop} {w w' : World} {B : Nat} (h : Kx X w w') (hB : ∀ i, i < B → X i) : Below B w w' := ⟨h.os, h.tape, h.output, h.size, fun i hi => h.block i (hB i hi)⟩
theorem kx_of {X : Nat → Prop} {w w' : World} (h : Below w.heap.size w w') (hX : ∀ i, X i → i < w.heap.size) : Kx X w w' := ⟨h.os, h.tape, h.output, h.size, fun i hi => h.block i (hX i hi)⟩
/-- at b lies the merge M; neither it nor its candidates lie in X -/
structure Sm (X : Nat → Prop) (w : World) (b : Nat) (M : Mg.Mg) : Prop where
  at' : ∃ Q, MAt w b Q M ∧ ∀ q, Q = some q → ¬ X q
  nb : ¬ X b
  inv : M.Inv
  u : M.U
  lt : ∀ i, X i → i < w.heap.size
  lb : b < w.heap.size
theorem Sm.below {X : Nat → Prop} {w w' : World} {b : Nat} {M : Mg.Mg} (h : Sm X w b M) (hb : Below w.heap.size w w') : Sm X w' b M := by
  obtain ⟨Q, h1, h2⟩ := h.at'
  exact ⟨⟨Q, h1.below hb, h2⟩, h.nb, h.inv, h.u, fun i hi => Nat.lt_of_lt_of_le (h.lt i hi) hb.size, Nat.lt_of_lt_of_le h.lb hb.size⟩
theorem MAt.qlt {w : World} {b q : Nat} {M : Mg.Mg} (h : MAt w b (some q) M) : q < w.heap.size := by
  obtain ⟨n, v, a, S, X, h1, h2⟩ := h
  exact (h2.q.row.lt q h1).2
/-- more blocks are to stay: new ones, or those of X -/
theorem Sm.more {X Y : Nat → Prop} {w w' : World} {b : Nat} {M : Mg.Mg} (h : Sm X w b M) (hb : Below w.heap.size w w') (hY : ∀ i, Y i → X i ∨ w.heap.size ≤ i ∧ i < w'.heap.size) : Sm Y w' b M := by
  obtain ⟨Q, h1, h2⟩ := h.at'
  refine ⟨⟨Q, h1.below hb, fun q e hq => ?_⟩, fun hq => ?_, h.inv, h.u, fun i hi => ?_, Nat.lt_of_lt_of_le h.lb hb.size⟩
  · rcases hY q hq with h3 | h3
    · exact h2 q e h3
    · subst e; have := h1.qlt; omega
  · rcases hY b hq with h3 | h3
    · exact h.nb h3
    · have := h.lb; omega
  · rcases hY i hi with h3 | h3
    · exact Nat.lt_of_lt_of_le (h.lt i h3) hb.size
    · exact h3.2
theorem Sm.less {X Y : Nat → Prop} {w : World} {b : Nat} {M : Mg.Mg} (h : Sm X w b M) (hY : ∀ i, Y i → X i) : Sm Y w b M := h.more (Below.refl _ _) fun i hi => .inl (hY i hi)
/-- a block of X is written -/
theorem Sm.other {X : Nat → Prop} {w w' : World} {b r : Nat} {M : Mg.Mg} (h : Sm X w b M) (hr : X r) (hc : Mg.Chg r w w') : Sm X w' b M := by
  obtain ⟨Q, h1, h2⟩ := h.at'
  refine ⟨⟨Q, h1.keep (hc.block b h.lb fun e => by injection e with e; subst e; exact h.nb hr) (fun q e => hc.block q (by subst e; exact h1.qlt) fun e2 => by injection e2 with e2; subst e2; exact h2 q e hr), h2⟩, h.nb, h.inv, h.u, fun i hi => Nat.lt_of_lt_of_le (h.lt i hi) hc.size, Nat.lt_of_lt_of_le h.lb hc.size⟩
theorem Sm.step {X : Nat → Prop} {w w' : World} {b : Nat} {Q : Option Nat} {M N : Mg.Mg} (h : Sm X w b M) (hQ : ∀ q, Q = some q → ¬ X q) (ha : After b Q N w w') (hi : N.Inv) (hu : N.U) : Sm X w' b N ∧ Kx X w w' := by
  obtain ⟨Q', h1, h2, h3⟩ := ha
  refine ⟨⟨⟨Q', h1, fun q e hq => ?_⟩, h.nb, hi, hu, fun i hi => Nat.lt_of_lt_of_le (h.lt i hi) h3.size, Nat.lt_of_lt_of_le h.lb h3.size⟩, ⟨h3.os, h3.tape, h3.output, h3.size, fun i hi => h3.block i (h.lt i hi) fun e => ?_⟩⟩
  · rcases h2 q e with h4 | h4
    · exact hQ q h4 hq
    · have := h.lt q hq; omega
  · rcases e with e | e
    · subst e; exact h.nb hi
    · exact hQ i e hi
/-! ### what the calls keep -/
theorem inv_after {M N : Mg.Mg} {e : Int} (h : M.Inv) (hn : e = 0 → N.Inv) : (M.after e N).Inv := by
  unfold Mg.Mg.after; split
  · rename_i he; exact hn he
  · exact h
theorem u_after {M N : Mg.Mg} {e : Int} (h : M.U) (hn : N.U) : (M.after e N).U := by
  unfold Mg.Mg.after; split
  · exact hn
  · exact h
theorem u_put {M : Mg.Mg} (h : M.U) (v : Nat) {x : Pr} (x0 : 0 ≤ x.1) (x1 : x.1 ≤ 18446744073709551615) : (M.put v x).U := fun u hu => by
  simp only [Mg.Mg.put]
  split
  · exact ⟨x0, x1⟩
  · exact h u hu
theorem u_done {M : Mg.Mg} (h : M.U) (v : Nat) : (M.done v).U := h
theorem u_popped {M : Mg.Mg} (h : M.U) (v : Nat) : (M.popped v).U := fun u hu => by
  unfold Mg.Mg.popped; split <;> exact h u hu
theorem u_skipped {M : Mg.Mg} (h : M.U) (k : Int) : (M.skipped k).U := h
theorem u_new (s : Nat → Bool) : (Mg.Mg.new s).U := fun u hu => ⟨by simp [Mg.Mg.new], by simp [Mg.Mg.new]⟩
theorem inv_pops {M N : Mg.Mg} {r : Value} (h : M.Inv) (hp : M.pops r N) : N.Inv := by
  rcases hp with ⟨_, _, rfl⟩ | ⟨_, _, _, rfl⟩ | ⟨_, v, hv, _, rfl⟩
  · exact h
  · exact h
  · exact Mg.inv_popped h hv
theorem u_pops {M N : Mg.Mg} {r : Value} (h : M.U) (hp : M.pops r N) : N.U := by
  rcases hp with ⟨_, _, rfl⟩ | ⟨_, _, _, rfl⟩ | ⟨_, v, hv, _, rfl⟩
  · exact h
  · exact h
  · exact u_popped h v
/-! ### the calls -/
def OfS (X : Nat → Prop) (b : Nat) (M : Mg.Mg) (l : Int) (x : Pr) (e : Ending) (w w' : World) : Prop := e = .returned (.int .i64 (M.offE l x)) ∧ Sm X w' b (M.after (M.offE l x) (M.put l.toNat x)) ∧ Kx X w w'
theorem offerS {X : Nat → Prop} {w : World} {b : Nat} {M : Mg.Mg} (h : Sm X w b M) (l : Int) (x : Pr) (l0 : (-9223372036854775808) ≤ l) (l1 : l ≤ 9223372036854775807) (x0 : 0 ≤ x.1) (x1 : x.1 ≤ 18446744073709551615) :
    Calls Tryd.prog 19 #[.pointer (some ⟨b, 0, none⟩), .int .i64 l, .agg #[.int .u64 x.1, .int .u64 x.2]] w fun e w' => OfS X b M l x e w w' := by
  obtain ⟨Q, h1, h2⟩ := h.at'
  exact (offer_any b Q M l x w h1 h.inv l0 l1).mono fun e w' ⟨he, ha⟩ => ⟨he, h.step h2 ha (inv_after h.inv fun h0 => (Mg.inv_put h.inv h0).1) (u_after h.u (u_put h.u _ x0 x1))⟩
def EnS (X : Nat → Prop) (b : Nat) (M : Mg.Mg) (l : Int) (e : Ending) (w w' : World) : Prop := e = .returned (.int .i64 (M.err l)) ∧ Sm X w' b (M.after (M.err l) (M.done l.toNat)) ∧ Kx X w w'
theorem endS {X : Nat → Prop} {w : World} {b : Nat} {M : Mg.Mg} (h : Sm X w b M) (l : Int) (l0 : (-9223372036854775808) ≤ l) (l1 : l ≤ 9223372036854775807) :
    Calls Tryd.prog 20 #[.pointer (some ⟨b, 0, none⟩), .int .i64 l] w fun e w' => EnS X b M l e w w' := by
  obtain ⟨Q, h1, h2⟩ := h.at'
  exact (end_any b Q M l w h1 l0 l1).mono fun e w' ⟨he, ha⟩ => ⟨he, h.step h2 ha (inv_after h.inv fun h0 => (Mg.inv_done h.inv h0).1) (u_after h.u (u_done h.u _))⟩
def PoS (X : Nat → Prop) (b : Nat) (M : Mg.Mg) (e : Ending) (w w' : World) : Prop := ∃ r N, e = .returned r ∧ M.pops r N ∧ Sm X w' b N ∧ Kx X w w'
theorem popS {X : Nat → Prop} {w : World} {b : Nat} {M : Mg.Mg} (h : Sm X w b M) : Calls Tryd.prog 18 #[.pointer (some ⟨b, 0, none⟩)] w fun e w' => PoS X b M e w w' := by
  obtain ⟨Q, h1, h2⟩ := h.at'
  exact (pop_any b Q M w h1 h.inv h.u).mono fun e w' ⟨r, N, he, hp, ha⟩ => ⟨r, N, he, hp, h.step h2 ha (inv_pops h.inv hp) (u_pops h.u hp)⟩
def SkS (X : Nat → Prop) (b : Nat) (M : Mg.Mg) (K : Int) (e : Ending) (w w' : World) : Prop := e = .returned (.tuple #[.int .i64 (M.skN K 64 : Nat), .int .i64 0]) ∧ Sm X w' b (M.skipped K) ∧ Kx X w w'
theorem skipS {X : Nat → Prop} {w : World} {b : Nat} {M : Mg.Mg} (h : Sm X w b M) (K : Int) : Calls Tryd.prog 21 #[.pointer (some ⟨b, 0, none⟩), .int .u64 K] w fun e w' => SkS X b M K e w w' := by
  obtain ⟨Q, h1, h2⟩ := h.at'
  exact (skip_any b Q M K w h1 h.inv).mono fun e w' ⟨he, ha⟩ => ⟨he, h.step h2 ha (Mg.inv_skipped h.inv K) (u_skipped h.u K)⟩
def NeS (X : Nat → Prop) (S : Nat) (e : Ending) (w w' : World) : Prop := e = .returned (.pointer (some ⟨w.heap.size, 0, none⟩)) ∧ Sm X w' w.heap.size (Mg.Mg.new fun v => S.testBit v) ∧ Below w.heap.size w w'
theorem newS (X : Nat → Prop) (S : Nat) (w : World) (hS : S < 18446744073709551616) (hX : ∀ i, X i → i < w.heap.size) : Calls Tryd.prog 9 #[.int .u64 (S : Nat)] w fun e w' => NeS X S e w w' :=
  (new_any S w hS).mono fun e w' ⟨he, ha, hb⟩ => ⟨he, ⟨⟨none, ha, fun q e => by cases e⟩, fun h => absurd (hX _ h) (Nat.lt_irrefl _), Mg.inv_new _, u_new _, fun i hi => Nat.lt_of_lt_of_le (hX i hi) hb.size, by obtain ⟨n, v, a, S, X, h1, h2⟩ := ha; exact h2.lt⟩, hb⟩
/-- a list of pairs that is handed out -/
def LsS (l : List Pr) (w : World) (e : Ending) (w' : World) : Prop := (∃ A c, e = .returned (.slice A l.length c) ∧ Om.Rd w' A l ∧ w'.ownsRow w.heap.size 39 2 (.slice A l.length c) l.length (flat l)) ∧ Below w.heap.size w w'
theorem listS {X : Nat → Prop} {w : World} {b : Nat} {M : Mg.Mg} (h : Sm X w b M) : Calls Tryd.prog 13 #[.pointer (some ⟨b, 0, none⟩)] w (LsS M.list w) := by
  obtain ⟨Q, h1, h2⟩ := h.at'
  refine (list_any b Q M w h1 h.inv).mono fun e w' ⟨v, he, ho, hb⟩ => ?_
  obtain ⟨_, A, c, rfl, _, hr, _⟩ := Om.row_form ho
  exact ⟨⟨A, c, he, hr, ho⟩, hb⟩
def MiS (l : List Int) (w : World) (e : Ending) (w' : World) : Prop := (∃ A c, e = .returned (.slice A l.length c) ∧ RdK .i64 w' A l ∧ w'.ownsRow w.heap.size 3 1 (.slice A l.length c) l.length (flatI l)) ∧ Below w.heap.size w w'
theorem missS {X : Nat → Prop} {w : World} {b : Nat} {M : Mg.Mg} (h : Sm X w b M) (hT : Dm.Tz w) : Calls Tryd.prog 12 #[.pointer (some ⟨b, 0, none⟩)] w (MiS (M.missN 64) w) := by
  obtain ⟨Q, h1, h2⟩ := h.at'
  refine (missing_any b Q M w h1 hT).mono fun e w' ⟨⟨v, he, ho⟩, hb⟩ => ?_
  obtain ⟨_, A, c, rfl, hr⟩ := row_rd ho
  exact ⟨⟨A, c, he, hr, ho⟩, hb⟩
theorem Kx.tz {X : Nat → Prop} {w w' : World} (h : Kx X w w') (h0 : X 0) (hT : Dm.Tz w) : Dm.Tz w' := fun j hj => (World.cell?_of_block (a := ⟨0, j, none⟩) (h.block 0 h0)).trans (hT j hj)
end Hq
end Go.Proofs.YtbndgbjenmknmaaDoor
