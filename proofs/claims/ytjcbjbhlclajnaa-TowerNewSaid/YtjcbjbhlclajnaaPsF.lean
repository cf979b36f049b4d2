/- Colours of blocks: which blocks a call may change, and a memory whose blocks have one colour. Conditions: those of each lemma. (The first part of XLtS, without package latch.) -/
import Derived.Test.YtjcbjbhlclajnaaWdE
import Derived.Test.YtjcbjbhlclajnaaPoM
namespace Go.Proofs.Ytjcbjbhlclajnaa
open Go.RowKit Go.Sort
set_option linter.unusedVariables false
set_option linter.unusedSimpArgs false
namespace Po
open Wd
open Dm (addr_lit info_parts spot_none RdK flatU infoU bel_alloc bel_trans own_keep below_drewN)
/-- colours of blocks: all new ones have the colour k -/
def up (c : Nat → Nat) (n k : Nat) : Nat → Nat := fun i => if n ≤ i then k else c i
theorem up_lt {c : Nat → Nat} {n k i : Nat} (h : i < n) : up c n k i = c i := if_neg (by omega)
theorem up_ge {c : Nat → Nat} {n k i : Nat} (h : n ≤ i) : up c n k i = k := if_pos h
/-- only blocks whose colour is in S have changed; old blocks have kept their colours -/
structure Fc (S : Nat → Prop) (w : World) (c : Nat → Nat) (w' : World) (c' : Nat → Nat) : Prop where
  fr : Fr (fun i => S (c i)) w w'
  co : ∀ i, i < w.heap.size → c' i = c i
theorem Fc.of_below {S : Nat → Prop} {w w' : World} {c : Nat → Nat} (h : Below w.heap.size w w') : Fc S w c w' c := ⟨Fr.of_below h, fun _ _ => rfl⟩
theorem Fc.of_below_up {S : Nat → Prop} {w w' : World} {c : Nat → Nat} {k : Nat} (h : Below w.heap.size w w') : Fc S w c w' (up c w.heap.size k) := ⟨Fr.of_below h, fun _ h => up_lt h⟩
theorem Fc.trans {S : Nat → Prop} {w w1 w2 : World} {c c1 c2 : Nat → Nat} (h : Fc S w c w1 c1) (h2 : Fc S w1 c1 w2 c2) : Fc S w c w2 c2 :=
  ⟨h.fr.trans h2.fr fun i hi e => by rw [h.co i hi] at e; exact e, fun i hi => (h2.co i (Nat.lt_of_lt_of_le hi h.fr.size)).trans (h.co i hi)⟩
theorem Fc.mono {S T : Nat → Prop} {w w1 : World} {c c1 : Nat → Nat} (h : Fc S w c w1 c1) (hs : ∀ i, S i → T i) : Fc T w c w1 c1 := ⟨⟨h.fr.os, h.fr.tape, h.fr.output, h.fr.size, fun i hi hn => h.fr.block i hi fun e => hn (hs _ e)⟩, h.co⟩
theorem Fc.below {S : Nat → Prop} {w w1 : World} {c c1 : Nat → Nat} {B : Nat} (h : Fc S w c w1 c1) (hB : B ≤ w.heap.size) (h0 : ∀ i, i < B → c i = 0) (hS : ¬ S 0) : Below B w w1 := h.fr.below hB fun i hi e => hS (by rw [h0 i hi] at e; exact e)
theorem Fc.low {S : Nat → Prop} {w w1 : World} {c c1 : Nat → Nat} {B : Nat} (h : Fc S w c w1 c1) (hB : B ≤ w.heap.size) (h0 : ∀ i, i < B → c i = 0) : ∀ i, i < B → c1 i = 0 := fun i hi => (h.co i (by omega)).trans (h0 i hi)
theorem Fc.keep {S : Nat → Prop} {w w1 : World} {c c1 : Nat → Nat} (h : Fc S w c w1 c1) {i : Nat} (hi : i < w.heap.size) (hn : ¬ S (c i)) : w1.heap[i]? = w.heap[i]? := h.fr.block i hi hn
/-- a memory whose blocks have the colour k -/
def MC (ty : TypeId) (w : World) (c : Nat → Nat) (k b : Nat) (M : Wm) : Prop := ∃ p q, At ty w b p q M ∧ ∀ i, Of b p q i → c i = k
theorem MC.keep {ty : TypeId} {S : Nat → Prop} {w w1 : World} {c c1 : Nat → Nat} {k b : Nat} {M : Wm} (h : MC ty w c k b M) (hf : Fc S w c w1 c1) (hS : ¬ S k) : MC ty w1 c1 k b M := by
  obtain ⟨p, q, h1, h2⟩ := h
  exact ⟨p, q, h1.keep fun i hi ho => hf.keep hi (by rw [h2 i ho]; exact hS), fun i hi => (hf.co i (h1.lt i hi)).trans (h2 i hi)⟩
theorem MC.after {ty : TypeId} {w w1 : World} {c : Nat → Nat} {k b p : Nat} {q : Option Nat} {M' : Wm} (hl : ∀ i, Of b p q i → i < w.heap.size) (hc : ∀ i, Of b p q i → c i = k) {q' : Option Nat} (h : At ty w1 b p q' M') (hq : ∀ g, q' = some g → q = some g ∨ w.heap.size ≤ g) : MC ty w1 (up c w.heap.size k) k b M' := by
  refine ⟨p, q', h, fun i hi => ?_⟩
  have old : ∀ i, Of b p q i → up c w.heap.size k i = k := fun i hi => (up_lt (hl i hi)).trans (hc i hi)
  rcases hi with e | e | e
  · exact old i (.inl e)
  · exact old i (.inr (.inl e))
  · rcases hq i e with h | h
    · exact old i (.inr (.inr h))
    · exact up_ge h
theorem Fc.drewN {S : Nat → Prop} {w w1 : World} {c c1 : Nat → Nat} (h : Fc S w c w1 c1) (m : Nat) : Fc S w c (w1.drewN m) c1 := h.trans (Fc.of_below (below_drewN (Below.refl _ _) m))
theorem Fc.then {S : Nat → Prop} {w w1 w2 : World} {c c1 : Nat → Nat} (h : Fc S w c w1 c1) (hb : Below w1.heap.size w1 w2) : Fc S w c w2 c1 := h.trans (Fc.of_below hb)
theorem Fc.id (S : Nat → Prop) (w : World) (c : Nat → Nat) : Fc S w c w c := Fc.of_below (Below.refl _ _)
theorem Fc.set {S : Nat → Prop} {w w1 : World} {c c1 : Nat → Nat} (h : Fc S w c w1 c1) (a : Addr) (v : Value) (ha : a.block < w1.heap.size → S (c1 a.block)) : Fc S w c (w1.setCell a v) c1 := by
  refine h.trans ⟨⟨rfl, rfl, rfl, ?_, fun i hi hn => ?_⟩, fun _ _ => rfl⟩
  · simp
  · by_cases e : i = a.block
    · subst e; exact absurd (ha hi) hn
    · exact Below.heap_setCell w1 a v i e
/-- behind a change of the memory -/
theorem MC.mem {ty : TypeId} {w w1 : World} {c : Nat → Nat} {k b p : Nat} {q : Option Nat} {M M' : Wm} (h : At ty w b p q M) (hc : ∀ i, Of b p q i → c i = k) (ha : After ty b p q M' w w1) : MC ty w1 (up c w.heap.size k) k b M' ∧ Fc (fun i => i = k) w c w1 (up c w.heap.size k) := by
  obtain ⟨q', h1, h3, h4⟩ := ha
  exact ⟨MC.after h.lt hc h1 h3, ⟨h4.os, h4.tape, h4.output, h4.size, fun i hi hn => h4.block i hi fun e => hn (hc i e)⟩, fun i hi => up_lt hi⟩
/-- a row of one's own of the colour k, or an operation -/
theorem up_of {c : Nat → Nat} {n k i : Nat} (h : c i = k) : up c n k i = k := by unfold up; split <;> first | rfl | exact h
end Po
end Go.Proofs.Ytjcbjbhlclajnaa
