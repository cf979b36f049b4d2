/- possible and Replay of package words, Replay of the reference, EqualUints, EqualAccesses, within: contracts of the translated code. Conditions: those of each lemma. -/
import Derived.Test.YtjocbmoelkobaaaWdR
namespace Go.Proofs.Ytjocbmoelkobaaa
open Go.RowKit Go.Sort
set_option linter.unusedVariables false
set_option linter.unusedSimpArgs false
namespace Wd
open Dm (addr_lit info_parts spot_none RdK flatU infoU bel_alloc bel_trans own_keep below_drewN)
theorem qL {P : Program} {f : FuncId} {args : Array Value} {w : World} {n : Nat} {v : Value}
    (h : Calls P f args (w.drewN n) fun e w' => e = .returned v ∧ w' = w.drewN n) : Calls P f args (w.drewN n) fun e w' => e = .returned v ∧ ∃ m, w' = w.drewN m :=
  h.mono fun _ _ ⟨he, hm⟩ => ⟨he, n, hm⟩
theorem qA {P : Program} {f : FuncId} {args : Array Value} {w : World} {a n : Nat} {v : Value}
    (h : Calls P f args (w.drewN (a + n)) fun e w' => e = .returned v ∧ w' = w.drewN (a + n)) : Calls P f args (w.drewN (a + n)) fun e w'' => e = .returned v ∧ ∃ m, w'' = w.drewN (a + m) :=
  h.mono fun _ _ ⟨he, hm⟩ => ⟨he, n, hm⟩
/-- what possible answers -/
def okP (l : List Int) (x : Ac) (w : World) (e : Ending) (w' : World) : Prop := e = .returned (.bool (decide (ok l x))) ∧ Below w.heap.size w w'
theorem okP_no {l : List Int} {x : Ac} {w w' : World} (h : ¬ ok l x) (hb : Below w.heap.size w w') : okP l x w (.returned (.bool false)) w' := ⟨by rw [decide_eq_false h], hb⟩
theorem okP_yes {l : List Int} {x : Ac} {w w' : World} (h : ok l x) (hb : Below w.heap.size w w') : okP l x w (.returned (.bool true)) w' := ⟨by rw [decide_eq_true h], hb⟩
theorem ok_iff {l : List Int} {x : Ac} (h1 : 0 ≤ x.t ∧ x.t < 64) (h2 : 0 ≤ x.a ∧ x.a < l.length) (h3 : x.o = l.getD x.a.toNat 0) : ok l x ↔ ((x.k = 1 ∧ x.n = x.o ∧ x.s = false) ∨ ((x.k = 2 ∨ x.k = 3) ∧ x.s = false) ∨ (x.k = 4 ∧ (x.s = true ∨ x.n = x.o))) :=
  ⟨fun h => h.2.2.2, fun h => ⟨h1, h2, h3, h⟩⟩
end Wd
end Go.Proofs.Ytjocbmoelkobaaa
