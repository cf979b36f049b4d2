/- A range over a function whose iterator keeps a map of its own: the law of the caller's loop where no round leaves it, and what the iterator owes. (The library's laws let an iterator turn walks alone.) Conditions: those of the law. -/
import Derived.Test.YtjcbjbhlclajnaaDomQ
import Derived.RangeFuncNested
import Derived.RangeFuncBound
import Derived.RangeFuncCalls
import Derived.RangeFuncLeaves
import Derived.RangeFuncBox
import Derived.Shelf.Abstract
import Derived.WalkKit
import Derived.OwnWalkIn
import Derived.TacticsInMore
import Derived.LoopNIn
import Derived.LoopIn
namespace Go.Proofs.Ytjcbjbhlclajnaa
open Go.RowKit Go.Shelf Go.Sort
set_option linter.unusedVariables false
set_option linter.unusedSimpArgs false
namespace Tw
/-- below n₀ nothing has changed but the blocks of Z -/
structure Kx (Z : Nat → Prop) (n₀ : Nat) (X Y : World) : Prop where
  os : Y.os = X.os
  tape : Y.tape = X.tape
  output : Y.output = X.output
  size : X.heap.size ≤ Y.heap.size
  block : ∀ i, i < n₀ → ¬ Z i → Y.heap[i]? = X.heap[i]?
section
variable {Z : Nat → Prop} {n₀ : Nat} {X Y V : World}
theorem Kx.refl (Z : Nat → Prop) (n₀ : Nat) (X : World) : Kx Z n₀ X X := ⟨rfl, rfl, rfl, Nat.le_refl _, fun _ _ _ => rfl⟩
theorem Kx.trans (h : Kx Z n₀ X Y) (k : Kx Z n₀ Y V) : Kx Z n₀ X V :=
  ⟨k.os.trans h.os, k.tape.trans h.tape, k.output.trans h.output, Nat.le_trans h.size k.size, fun i hi hz => (k.block i hi hz).trans (h.block i hi hz)⟩
theorem Kx.of_below (h : Below n₀ X Y) : Kx Z n₀ X Y := ⟨h.os, h.tape, h.output, h.size, fun i hi _ => h.block i hi⟩
theorem Kx.grown {row : Option Nat} (h : X.grownBy Y row) (hn : n₀ ≤ X.heap.size) (hr : ∀ r, row = some r → Z r ∨ n₀ ≤ r) : Kx Z n₀ X Y :=
  ⟨h.os, h.tape, h.output, h.size, fun i hi hz => h.block i (by omega) fun e => by rcases hr i e.symm with q | q; exact hz q; omega⟩
theorem Kx.cell (h : Kx Z n₀ X Y) {a : Addr} (hi : a.block < n₀) (hz : ¬ Z a.block) : Y.cell? a = X.cell? a := World.cell?_of_block (h.block _ hi hz)
theorem Kx.below {N : Nat} (h : Kx Z n₀ X Y) (h1 : ∀ i, i < N → ¬ Z i) (h2 : N ≤ n₀) : Below N X Y := ⟨h.os, h.tape, h.output, h.size, fun i hi => h.block i (by omega) (h1 i hi)⟩
theorem Kx.mono {Z' : Nat → Prop} (h : Kx Z n₀ X Y) (hz : ∀ i, Z i → Z' i) : Kx Z' n₀ X Y := ⟨h.os, h.tape, h.output, h.size, fun i hi hn => h.block i hi fun q => hn (hz i q)⟩
theorem kx_put {l : Nat} (W : World) (o : Obj) (h : n₀ ≤ l) (hn : n₀ ≤ W.heap.size) : Kx Z n₀ W (W.putObj l o) := Kx.grown (grownBy_putObj' W l o) hn fun r e => by cases e; exact .inr h
end
/-- the iterator's contract: it comes to each of xs in order, and changes of what lay there nothing; a round keeps what lies below n₀ and what is no cells and is the iterator's own -/
def SeqM (F : Fence) (n : Nat) (P : Program) (gf : Nat) (lb : Array Value) (xs : List Int) (Z : Nat → Prop) (n₀ : Nat) (w : World) : Prop :=
  ∀ (l : Nat) (J : List Int → World → Prop) (W : World), Below w.heap.size w W → OwnFrom W.heap.size J →
    (∀ pre x X, J pre X → pre ++ [x] <+: xs → YieldAt F (n - 1) P l #[.int .i64 x] X fun e X' => e = .returned (.bool true) ∧ J (pre ++ [x]) X' ∧ KeepsFrom W.heap.size X X' ∧ Kx Z n₀ X X') →
    J [] W → CallsIn F n P gf (#[.func (.yield l) #[] #[]] ++ lb) W fun e W' => (∃ v, e = .returned v) ∧ J xs W'
/-- how a round ends -/
def RoundEnd (B : Nat) (Z : Nat → Prop) (n₀ : Nat) (I : List Int → World → Prop) (xs : List Int) (W : World) : Exit → Act → World → Prop
  | .normal, _, W' => KeepsFrom B W W' ∧ Kx Z n₀ W W' ∧ I xs W'
  | .ret, _, _ => False
  | .exit _, _, _ => False
  | .goto _, _, _ => False
  | .panic _, _, _ => False
  | .outgrown, _, _ => False
theorem keep_put {B l : Nat} (W : World) (o : Obj) (h : l < B) : KeepsFrom B W (W.putObj l o) :=
  KeepsFrom.of_grownBy (grownBy_putObj' W l o) fun j e => by cases e; exact h
theorem grown_below {W W' : World} (h : Below W.heap.size W W') : W.grownBy W' none := ⟨h.os, h.tape, h.output, h.size, fun k hk _ => h.block k hk⟩
theorem own_below {B : Nat} {J : List Int → World → Prop} (h : OwnFrom B J) {s : List Int} {W W' : World} (hs : J s W) (hb : Below W.heap.size W W') : J s W' :=
  h s W W' none hs (grown_below hb) fun r e => by cases e
theorem range_all {F : Fence} {n : Nat} {P : Program} {g : Operand} {ps : Array Tmp} {assign body : Code} {Q : Exit → Act → World → Prop} {a : Act} {w : World}
    (hro : F.round = none) (h1 : 1 ≤ n) {gf : Nat} {lb : Array Value} (hg : a.eval g = .func (.func gf) #[] lb) (hFg : F.fn gf) (eg : ∀ args w, (callFunc gf args).run P w = .ok (.enter gf args) w)
    {xs : List Int} {Z : Nat → Prop} {n₀ : Nat} {w0 : World} (hseq : SeqM F (n - 1) P gf lb xs Z n₀ w0) (hn : n₀ ≤ w.heap.size) (hb0 : Below w0.heap.size w0 w) (hps : ps.size = 1)
    (I : List Int → World → Prop) (hI : OwnFrom w.heap.size I) (h0 : I [] w) (a₁ : Int → Act)
    (hassign : ∀ (l : Nat) (x : Int) (W : World) (K : Act → World → Prop), K (a₁ x) W →
      assign.wpIn (F.inRound l) (n - 1 - 1) P (Exit.then K (fun _ _ _ => False)) { tmps := (ps.zip #[Value.int .i64 x]).foldl (fun t (p, v) => t.setIfInBounds p v) a.tmps, defers := [] } W)
    (hbody : ∀ (l : Nat) (pre : List Int) (x : Int) (W : World), I pre W → pre ++ [x] <+: xs → body.wpIn (F.inRound l) (n - 1 - 1) P (RoundEnd w.heap.size Z n₀ I (pre ++ [x]) W) (a₁ x) W)
    (hdone : ∀ (D : Nat) (W : World), w.heap.size ≤ D → I xs W → W.heap[D]? = some (.deferred (some [])) → Q .normal { a with defers := { target := .collected D, args := #[] } :: a.defers } W) :
    (Code.rangeFunc g ps assign body).wpIn F n P Q a w := by
  refine wpIn_rangeFunc ?_
  intro fn hfn
  rw [hro]
  -- the loop's record, and the world in which the iterator is called
  obtain ⟨lp, hlp⟩ : ∃ lp : LoopState → Loop, lp = fun st => { state := st, pending := none, fn, tmps := a.tmps, params := ps, assign, body, defers := w.heap.size } := ⟨_, rfl⟩
  obtain ⟨V, hV⟩ : ∃ V, V = (w.alloc (.deferred (some []))).alloc (.loop (lp .ready)) := ⟨_, rfl⟩
  have hsz : V.heap.size = w.heap.size + 2 := by rw [hV]; simp
  have v0 : V.heap[w.heap.size]? = some (.deferred (some [])) := by
    rw [hV]; exact (Below.heap_alloc _ _ _ (by simp)).trans (World.alloc_heap_new w _)
  have v1 : V.heap[w.heap.size + 1]? = some (.loop (lp .ready)) := by
    have := World.alloc_heap_new (w.alloc (.deferred (some []))) (.loop (lp .ready))
    rw [World.size_alloc] at this
    rw [hV]; exact this
  have bV : Below w.heap.size w V := by rw [hV]; exact ((Below.refl _ w).alloc (Nat.le_refl _) _).alloc (by simp) _
  obtain ⟨J, hJ⟩ : ∃ J : List Int → World → Prop, J = fun pre X => I pre X ∧ X.heap[w.heap.size + 1]? = some (.loop (lp .ready)) ∧ X.heap[w.heap.size]? = some (.deferred (some [])) := ⟨_, rfl⟩
  have jV : J [] V := by
    rw [hJ]
    refine ⟨?_, v1, v0⟩
    rw [hV]; exact hI.alloc _ (hI.alloc _ h0)
  have jO : OwnFrom V.heap.size J := by
    rw [hJ]
    rintro s A B row ⟨q1, q2, q3⟩ hgr hrow
    have far : ∀ k, k < V.heap.size → (∃ o, A.heap[k]? = some o) → B.heap[k]? = A.heap[k]? := fun k hk ⟨o, ho⟩ => hgr.block k (Array.getElem?_eq_some_iff.1 ho).1 fun e => by have := (hrow k e.symm).1; omega
    exact ⟨hI s A B row q1 hgr fun r e => ⟨by have := (hrow r e).1; omega, (hrow r e).2⟩, (far _ (by omega) ⟨_, q2⟩).trans q2, (far _ (by omega) ⟨_, q3⟩).trans q3⟩
  refine ⟨w.heap.size + 1, [{ target := .collected w.heap.size, args := #[] }], V, { target := .fn (.func gf) lb, args := #[.func (.yield (w.heap.size + 1)) #[] #[]] }, V, gf,
    #[.func (.yield (w.heap.size + 1)) #[] #[]] ++ lb, V, ?_, ?_, ?_, ?_, fun _ => h1, ?_⟩
  · rw [hV, hlp]; exact run_enterLoop_outer _ _ _ _ _
  · simp only [resolve, hg]
    simp [go_sem]
  · intro f' hf'; simp [Target.leads] at hf'; subst hf'; exact hFg
  · simp [invoke, go_sem, eg]
  refine (hseq (w.heap.size + 1) J V (hb0.trans (bV.mono hb0.size)) jO ?_ jV).mono ?_
  · -- a round
    intro pre x X hj hx
    have hj' := hj
    rw [hJ] at hj'
    obtain ⟨q1, q2, q3⟩ := hj'
    have lt : w.heap.size + 1 < X.heap.size := (Array.getElem?_eq_some_iff.1 q2).1
    have hy := run_yield (P := P) (args := #[Value.int .i64 x]) q2 (by rw [hlp]; exact hps.symm)
    rw [hlp] at hy
    refine ⟨fn, _, assign, body, hy, roundIn_of_wpIn hfn (hassign _ x X _ ⟨_, run_beginRound q2 (by rw [hlp]), ?_⟩)⟩
    -- the round has begun: its world Y
    obtain ⟨bu, hbu⟩ : ∃ bu : Loop, bu = { lp .ready with state := .busy } := ⟨_, rfl⟩
    rw [← hbu]
    have y1 : (X.putObj (w.heap.size + 1) (.loop bu)).heap[w.heap.size + 1]? = some (.loop bu) := World.putObj_heap_same lt
    have y0 : (X.putObj (w.heap.size + 1) (.loop bu)).heap[w.heap.size]? = some (.deferred (some [])) := (World.putObj_heap_other (by omega)).trans q3
    have yK : KeepsFrom V.heap.size X (X.putObj (w.heap.size + 1) (.loop bu)) := keep_put _ _ (by omega)
    have yB : Kx Z n₀ X (X.putObj (w.heap.size + 1) (.loop bu)) := kx_put _ _ (by omega) (by omega)
    refine wpIn_mono (hbody _ pre x _ (hI.putObj _ q1 (by omega) q2 rfl) hx) ?_
    rintro e a3 Z hp
    cases e with
    | normal =>
      obtain ⟨k3, b3, i3⟩ := hp
      have z1 := k3.same _ _ (Nat.le_succ _) y1 rfl
      have z0 := k3.same _ _ (Nat.le_refl _) y0 rfl
      have zl := (Array.getElem?_eq_some_iff.1 z1).1
      have re : lp .ready = { bu with state := .ready, pending := none } := by rw [hbu, hlp]
      have hr := run_endRound (P := P) none z1
      refine ⟨_, _, hr, rfl, ?_, ?_, ?_⟩
      · rw [hJ]
        refine ⟨hI.putObj _ i3 (by omega) z1 rfl, ?_, (World.putObj_heap_other (by omega)).trans z0⟩
        rw [re]; exact World.putObj_heap_same zl
      · refine yK.trans (KeepsFrom.trans (⟨k3.size, fun k o hB hk ho => k3.same k o (by omega) hk ho⟩) (keep_put _ _ (by omega)))
      · exact yB.trans (b3.trans (kx_put _ _ (by omega) (by omega)))
    | ret => exact hp.elim
    | exit id => exact hp.elim
    | goto t => exact hp.elim
    | panic ch => exact hp.elim
    | outgrown => exact hp.elim
  · -- behind the iterator
    rintro e W2 ⟨⟨v, rfl⟩, hj⟩
    rw [hJ] at hj
    obtain ⟨q1, q2, q3⟩ := hj
    have hr := run_endLoop (P := P) q2 (by rw [hlp]; simp)
    rw [hlp] at hr
    exact ⟨none, _, hr, hdone _ _ (Nat.le_refl _) (hI.putObj _ q1 (by omega) q2 rfl) ((World.putObj_heap_other (by omega)).trans q3)⟩
end Tw
end Go.Proofs.Ytjcbjbhlclajnaa
