/- PlanMaps: what it says, as mathematics; two maps side by side (the structure Sta of the texts of layer 5). -/
import Derived.Test.YtbdllakbkienoaaPlLw
import Derived.Test.YtbdllakbkienoaaOmC2
namespace Go.Proofs.Ytbdllakbkienoaa
open Go.RowKit Go.Sort
set_option linter.unusedVariables false
set_option linter.unusedSimpArgs false
namespace Om
/-- the map bm with the pairs l and the map bn with the pairs r; nothing below B has changed since w1 -/
structure Sta (B : Nat) (w1 W : World) (bm : Nat) (v : Value) (l : List Pr) (bn : Nat) (u : Value) (r : List Pr) : Prop where
  m : MapAt W bm v l
  c : MapAt W bn u r
  two : Two bm v bn u
  hm : B ≤ bm
  hn : B ≤ bn
  fv : Fresh B v
  fu : Fresh B u
  hw : B ≤ w1.heap.size
  bel : Below B w1 W
theorem Sta.size {B : Nat} {w1 W : World} {bm bn : Nat} {v u : Value} {l r : List Pr} (h : Sta B w1 W bm v l bn u r) : B ≤ W.heap.size := Nat.le_trans h.hw h.bel.size
theorem Sta.below {B : Nat} {w1 W W' : World} {bm bn : Nat} {v u : Value} {l r : List Pr} (h : Sta B w1 W bm v l bn u r) (b : Below W.heap.size W W') : Sta B w1 W' bm v l bn u r :=
  ⟨h.m.below b, h.c.below b, h.two, h.hm, h.hn, h.fv, h.fu, h.hw, h.bel.trans (b.mono h.size)⟩
theorem Sta.left {B : Nat} {w1 W W' : World} {bm bn : Nat} {v u : Value} {l l' r : List Pr} {t : Value} {e : Ending} (h : Sta B w1 W bm v l bn u r) (o : Opn W bm v l' t e W') : ∃ v', e = .returned t ∧ Sta B w1 W' bm v' l' bn u r := by
  obtain ⟨v', he, hm', hn', hc⟩ := o
  have hb : Below B W W' := hc.below h.hm h.fv h.size
  exact ⟨v', he, hm', h.c.other h.two hc, h.two.next hn' h.c.lt h.c.row_lt, h.hm, h.hn, fun k hk => by rcases hn' k hk with e | e; exact h.fv k e; have := h.size; omega, h.fu, h.hw, h.bel.trans hb⟩
theorem Sta.swap {B : Nat} {w1 W : World} {bm bn : Nat} {v u : Value} {l r : List Pr} (h : Sta B w1 W bm v l bn u r) : Sta B w1 W bn u r bm v l :=
  ⟨h.c, h.m, h.two.symm, h.hn, h.hm, h.fu, h.fv, h.hw, h.bel⟩
end Om
namespace Pl
open Om (Asc getL inL outL mvL asc_get getL_mvL)
/-- a key of the range that was present -/
def fromB (lo hi : Int) (x : Cg) : Bool := x.b.isSome && decide (lo ≤ x.k ∧ x.k ≤ hi)
theorem from_eq {p : List Om.Pr} (h : Asc p) (lo hi d : Int) : (mvP p lo hi d).filter (fromB lo hi) = plan (keysL (inL p lo hi)) (getL p) (getL (mvL p lo hi d)) := by
  refine ext_mem ((mvP_asc h lo hi d).filter _) (plan_asc (keysL_asc (h.filter _)) _ _) fun x => ?_
  rw [List.mem_filter]
  constructor
  · rintro ⟨hx, hf⟩
    obtain ⟨k, hk, rfl⟩ := List.mem_map.1 hx
    refine List.mem_map.2 ⟨k, ?_, rfl⟩
    simp only [fromB, Bool.and_eq_true, decide_eq_true_eq] at hf
    rw [keysL_mem, Om.getL_inL h, if_pos hf.2]
    intro e; rw [e] at hf; exact absurd hf.1 (by simp)
  · intro hx
    obtain ⟨k, hk, rfl⟩ := List.mem_map.1 hx
    rw [keysL_mem, Om.getL_inL h] at hk
    by_cases g : lo ≤ k ∧ k ≤ hi
    · rw [if_pos g] at hk
      refine ⟨List.mem_map.2 ⟨k, (mvK_mem h _ _ _ _).2 (.inl ⟨g.1, g.2, hk⟩), rfl⟩, ?_⟩
      simp only [fromB, Bool.and_eq_true, decide_eq_true_eq]
      exact ⟨Option.isSome_iff_ne_none.2 hk, g⟩
    · rw [if_neg g] at hk; exact absurd rfl hk
theorem from_len {p : List Om.Pr} (h : Asc p) (lo hi d : Int) : ((mvP p lo hi d).filter (fromB lo hi)).length = (inL p lo hi).length := by
  rw [from_eq h]
  unfold plan keysL
  rw [List.length_map, List.length_map]
theorem from_take {L : List Cg} {j : Nat} {x : Cg} {lo hi : Int} (hx : L[j]? = some x) : ((L.take (j + 1)).filter (fromB lo hi)).length = ((L.take j).filter (fromB lo hi)).length + (if fromB lo hi x then 1 else 0) := by
  rw [List.take_add_one, hx, List.filter_append, List.length_append]
  cases hf : fromB lo hi x <;> simp [hf]
/-- what the law looks at for a change of the plan of moving -/
structure At (p : List Om.Pr) (lo hi d : Int) (x : Cg) : Prop where
  b : x.b = getL p x.k
  is : x.a.isSome = true ↔ (lo ≤ x.k - d ∧ x.k - d ≤ hi ∧ getL p (x.k - d) ≠ none)
  or : (lo ≤ x.k ∧ x.k ≤ hi ∧ getL p x.k ≠ none) ∨ (lo ≤ x.k - d ∧ x.k - d ≤ hi ∧ getL p (x.k - d) ≠ none)
theorem at_of {p : List Om.Pr} (h : Asc p) {lo hi d : Int} {x : Cg} (hx : x ∈ mvP p lo hi d) : At p lo hi d x := by
  obtain ⟨k, hk, rfl⟩ := List.mem_map.1 hx
  have hor := (mvK_mem h _ _ _ _).1 hk
  refine ⟨rfl, ?_, hor⟩
  show (getL (mvL p lo hi d) k).isSome = true ↔ _
  rw [getL_mvL h]
  constructor
  · intro hs
    rcases hor with h1 | h1
    · by_cases g : lo ≤ k - d ∧ k - d ≤ hi
      · rw [if_pos g, if_pos ⟨h1.1, h1.2.1⟩] at hs
        refine ⟨g.1, g.2, fun e => ?_⟩
        rw [e] at hs; cases hs
      · rw [if_neg g, if_pos ⟨h1.1, h1.2.1⟩] at hs; cases hs
    · exact h1
  · rintro ⟨g1, g2, g3⟩
    rw [if_pos ⟨g1, g2⟩]
    cases hv : getL p (k - d) with
    | none => exact absurd hv g3
    | some v => rfl
end Pl
end Go.Proofs.Ytbdllakbkienoaa
