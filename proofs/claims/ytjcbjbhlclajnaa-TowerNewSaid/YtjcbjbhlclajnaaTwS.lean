/- The set of the towers that a walk of a list has seen (a map of the call's own). Conditions: those of each lemma. -/
import Derived.Test.YtjcbjbhlclajnaaTwM
import Derived.Test.YtjcbjbhlclajnaaTwR
import Derived.Maps.OwnSet
namespace Go.Proofs.Ytjcbjbhlclajnaa
open Go.RowKit Go.Sort
set_option linter.unusedVariables false
set_option linter.unusedSimpArgs false
namespace Tw
theorem wfI {x : Int} (h : Ly.I64 x) : (Lit.int .i64 x).wf = true := by
  have h1 : IntKind.i64.min = -9223372036854775808 := by decide
  have h2 : IntKind.i64.max = 9223372036854775807 := by decide
  simp [Lit.wf, h1, h2]
  exact h
theorem key_int {x : Int} (h : Ly.I64 x) : keyOf Try.prog 31 (.int .i64 x) = some (.int .i64 x) := Maps.keyOf_int_mk Try.underlying31 (wfI h)
theorem key_ed : Maps.Keyed Try.prog 31 := Maps.int_keyed Try.underlying31
theorem zero_b (w : World) : (zeroValue 4).run Try.prog w = .ok (.bool false) w := by kernel_rfl
theorem bool_inv {H : Type} {P : Program} {e : TypeId} (he : P.underlying e = some .bool) {v : Value} {z : DataW H × List MemPlace} (h : plainElem P e v = some z) : ∃ x, v = .bool x ∧ z = (.lit (.bool x), []) := by
  unfold plainElem at h
  rw [he] at h
  cases v <;> simp at h
  exact ⟨_, rfl, h.symm⟩
/-- the block B is the set of the numbers l -/
def Sw (w : World) (B : Nat) (l : List Int) : Prop := ∃ D : DataW Unit, w.ownsMap Try.prog 31 (plainElem Try.prog 4) B l.length D ∧ ∀ x, Ly.I64 x → D.atKey (.int .i64 x) (.lit (.bool false)) = .lit (.bool (decide (x ∈ l)))
section
variable {w : World} {B : Nat} {l : List Int}
theorem Sw.lt (h : Sw w B l) : B < w.heap.size := by
  obtain ⟨D, h, _⟩ := h; exact h.lt
theorem Sw.same {w' : World} (h : Sw w B l) (hb : w'.heap[B]? = w.heap[B]?) : Sw w' B l := by
  obtain ⟨D, ⟨es, cl, h1, h2⟩, h3⟩ := h
  exact ⟨D, ⟨es, cl, hb.trans h1, h2⟩, h3⟩
theorem Sw.below {w' : World} (h : Sw w B l) (hb : Below w.heap.size w w') : Sw w' B l := h.same (hb.block B h.lt)
/-- it lies in a block that is no cells -/
theorem Sw.obj (h : Sw w B l) : ∃ o : Obj, w.heap[B]? = some o ∧ o.isCells = false := by
  obtain ⟨D, ⟨es, cl, h1, h2⟩, h3⟩ := h
  exact ⟨_, h1, rfl⟩
theorem Sw.from {w' : World} {N : Nat} (h : Sw w B l) (hk : KeepsFrom N w w') (hN : N ≤ B) : Sw w' B l := by
  obtain ⟨o, ho, hc⟩ := h.obj
  exact h.same ((hk.same B o hN ho hc).trans ho.symm)
theorem Sw.made (w : World) : Sw (w.alloc (.map #[] 0)) w.heap.size [] :=
  ⟨.map [], World.ownsMap_made w Try.prog _ _, fun x hx => by simp [DataW.atKey]⟩
theorem Sw.look (h : Sw w B l) {x : Int} (hx : Ly.I64 x) : (Instr.lookup 93 (.map (some B)) (.int .i64 x) false).run Try.prog w = .ok (.bool (decide (x ∈ l))) w := by
  obtain ⟨D, o, hk⟩ := h
  obtain ⟨v, ps, hrun, hv⟩ := o.lookup key_ed Try.underlying93 (zero_b w) (plainElem_bool Try.underlying4 false) (key_int hx)
  rw [hk x hx] at hv
  obtain ⟨y, rfl, hz⟩ := bool_inv Try.underlying4 hv
  simp only [Prod.mk.injEq, DataW.lit.injEq, Lit.bool.injEq] at hz
  rw [hrun, ← hz.1]
theorem Sw.put (h : Sw w B l) {x : Int} (hx : Ly.I64 x) (hl : l.length < maxLen) : ∃ w', (Instr.mapUpdate 93 (.map (some B)) (.int .i64 x) (.bool true)).run Try.prog w = .ok () w' ∧ Sw w' B (l ++ [x]) ∧ w.grownBy w' (some B) := by
  obtain ⟨D, o, hk⟩ := h
  obtain ⟨w', hrun, o', hg⟩ := o.update key_ed Try.underlying93 hl (key_int hx) (plainElem_bool Try.underlying4 true)
  refine ⟨w', hrun, ⟨_, by rw [List.length_append, List.length_singleton]; exact o', fun y hy => ?_⟩, hg⟩
  by_cases e : y = x
  · subst e
    rw [Maps.atKey_put_same o.isMap (k := .int .i64 y) trivial]
    simp
  · rw [Maps.atKey_put_other (fun q => by injection q with _ q; exact e q), hk y hy]
    simp [e]
theorem Sw.mem_iff {l' : List Int} (h : Sw w B l) (h' : Sw w B l') {x : Int} (hx : Ly.I64 x) : x ∈ l ↔ x ∈ l' := by
  have e1 := h.look hx
  have e2 := h'.look hx
  rw [e1] at e2
  simp at e2
  exact e2
/-- how many more there can be -/
noncomputable def left (N B : Nat) (w : World) : Nat := by
  classical
  exact if h : ∃ l : List Int, Sw w B l ∧ l.Nodup ∧ ∀ x, x ∈ l → Ly.I64 x then N - (Classical.choose h).length else 0
theorem left_eq (h : Sw w B l) (hd : l.Nodup) (hb : ∀ x, x ∈ l → Ly.I64 x) (N : Nat) : left N B w = N - l.length := by
  have hx : ∃ l : List Int, Sw w B l ∧ l.Nodup ∧ ∀ x, x ∈ l → Ly.I64 x := ⟨l, h, hd, hb⟩
  unfold left
  rw [dif_pos hx]
  obtain ⟨q1, q2, q3⟩ := Classical.choose_spec hx
  have hp : (Classical.choose hx).Perm l := (List.perm_ext_iff_of_nodup q2 hd).2 fun x => by
    constructor
    · intro hm; exact (q1.mem_iff h (q3 x hm)).1 hm
    · intro hm; exact (q1.mem_iff h (hb x hm)).2 hm
  rw [hp.length_eq]
end
end Tw
end Go.Proofs.Ytjcbjbhlclajnaa
