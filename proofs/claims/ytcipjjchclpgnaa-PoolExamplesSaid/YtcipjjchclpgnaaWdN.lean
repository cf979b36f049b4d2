/- Lists of uint64 in memory: what is read, what is the call's own, append of a list, and arguments that are a list of uint64. For whatever program has the types uint64 and []uint64. No conditions beside those of each lemma. -/
import Derived.Test.YtcipjjchclpgnaaRows
import Derived.Test.YtcipjjchclpgnaaDomA
import Derived.WalkKit
import Derived.ProofKit
import Derived.OpenShut
import Derived.Outline
import Derived.WalkLawsBesides
import Derived.Deep.QuietTactic
import Derived.BigQuiet
import Derived.Lib.QuietBelow
import Derived.Lib.Hide
import Derived.Deep.Slices
import Derived.Deep.Fields
import Derived.ChangeSame
import Derived.Lib.SmallJoins
import Derived.OwnWalk
import Derived.WalkSpells
import Derived.Laws.AppendOwnNone
namespace Go.Proofs.Ytcipjjchclpgnaa
open Go.RowKit Go.Sort Go.ChangeShapes Go.WideShapes Go.Deep Go.Joins
set_option linter.unusedVariables false
set_option linter.unusedSimpArgs false
set_option maxRecDepth 100000
namespace Dm
section
variable {H : Type} {enc : TypeId × Value → H} {w : World} {base fuel : Nat} {spare : Nat → Bool} {held : Bool}
end
def flatU (l : List Int) : List Value := l.map (Value.int .u64)
theorem addr_lit (b o k : Nat) : (⟨b, o, none⟩ : Addr).add k = ⟨b, o + k, none⟩ := by simp [Addr.add]
theorem infoU : (Try.prog.info? 57).map (fun i => (i.zero, i.size, i.bytes)) = some (some (.int .u64 0), 1, 8) := by kernel_rfl
theorem info_parts {i? : Option TypeInfo} {z : Option Value} {s b : Nat} (h : i?.map (fun i => (i.zero, i.size, i.bytes)) = some (z, s, b)) : ∃ i0, i? = some i0 ∧ i0.zero = z ∧ i0.size = s ∧ i0.bytes = b := by
  cases i? with
  | none => cases h
  | some i => simp at h; exact ⟨i, rfl, h.1, h.2.1, h.2.2⟩
theorem app1 {ops : Array Oper} {rest : List Oper} {o : Oper} {a : Act} {Q : Exit → Act → World → Prop} (hgd : o.guard = none) (s x : Operand)
    (ho : o.op = .call { callee := .builtin .append, args := #[s, x], argTypes := #[26, 26] }) (w : World) (base n : Nat) (v : Value) (ys : List Int) (y : Int)
    (hs : a.eval s = v) (hx : a.eval x = .slice (some ⟨w.heap.size, 0, none⟩) 1 1) (hown : w.ownsRow base 57 1 v n (flatU ys)) (hn : n ≤ 2000) (hb : base ≤ w.heap.size)
    (h : ∀ v' w', w'.ownsRow base 57 1 v' (n + 1) (flatU (ys ++ [y])) → Below base w w' → wpList Try.prog ops Q rest (a.put o.dst v') w') :
    wpList Try.prog ops Q (o :: rest) a (w.alloc (.cells #[.int .u64 y] 57)) := by
  obtain ⟨i0, hi, hz0, hz1, hz2⟩ := info_parts infoU
  refine wpList_append_own _ hgd s x 26 ho base 57 i0 _ 1 8 Try.underlying26 hi hz0 hz1 hz2 rfl (by omega) v n (flatU ys) hs (hown.alloc _) ⟨w.heap.size, 0, none⟩ 1 1 [.int .u64 y] hx rfl ?_ ?_ (by unfold maxLen; omega) (by omega) (by simp; omega) ?_
  · intro j u hj
    rw [addr_lit, Nat.zero_add, World.cell?_alloc_new]
    simpa using hj
  · intro u hu
    simp at hu
    rcases hu with rfl
    rfl
  · intro v' w' h1 h2 _
    rw [show flatU ys ++ [.int .u64 y] = flatU (ys ++ [y]) by simp [flatU]] at h1
    refine h v' w' h1 (((Below.refl _ _).alloc hb _).grown h2 (by simp; omega) fun k hk => ?_)
    exact (hown.lt k hk).1
/-- what a row of the call's own reads as -/
theorem row_rd {w : World} {base n : Nat} {v : Value} {l : List Int} (h : w.ownsRow base 57 1 v n (flatU l)) : l.length = n ∧ ∃ A c, v = .slice A n c ∧ RdK .u64 w A l := by
  have hl : l.length = n := by have := h.1; simp [flatU] at this; omega
  refine ⟨hl, ?_⟩
  rcases h.2 with ⟨rfl, rfl⟩ | ⟨g, cap, cur, rfl, hbase, hh, hnc, _⟩
  · obtain rfl : l = [] := List.eq_nil_of_length_eq_zero hl
    exact ⟨none, 0, rfl, fun k hk => by simp at hk⟩
  · refine ⟨_, cap, rfl, fun k hk => ⟨g, 0, rfl, ?_⟩⟩
    rw [Nat.zero_add, h.cellAt _ (by omega)]
    simp only [flatU, List.getElem?_map, List.getElem?_eq_getElem hk, List.getD_eq_getElem?_getD]
    rfl
/-- 'append([]uint64{}, xs...)' or an append of a list to a row of the call's own -/
theorem appAll {ops : Array Oper} {rest : List Oper} {o : Oper} {a : Act} {Q : Exit → Act → World → Prop} (hgd : o.guard = none) (s x : Operand)
    (ho : o.op = .call { callee := .builtin .append, args := #[s, x], argTypes := #[26, 26] }) (w : World) (base m : Nat) (v : Value) (ys : List Int) (A : Option Addr) (n c : Nat) (l : List Int)
    (hs : a.eval s = v) (hx : a.eval x = .slice A n c) (hown : w.ownsRow base 57 1 v m (flatU ys)) (hl : l.length = n) (hm : m ≤ 100000) (hn : n ≤ 100000) (hb : base ≤ w.heap.size) (hr : RdK .u64 w A l) (hnil : A = none → c = 0)
    (h : ∀ v' w', w'.ownsRow base 57 1 v' (m + n) (flatU (ys ++ l)) → Below base w w' → wpList Try.prog ops Q rest (a.put o.dst v') w') :
    wpList Try.prog ops Q (o :: rest) a w := by
  obtain ⟨i0, hi, hz0, hz1, hz2⟩ := info_parts infoU
  cases A with
  | none =>
    have hl0 : l = [] := by
      cases l with
      | nil => rfl
      | cons x l => obtain ⟨b, o, e, _⟩ := hr 0 (by simp); cases e
    subst hl0
    obtain rfl : n = 0 := by simpa using hl.symm
    obtain rfl := hnil rfl
    exact wpList_append_own_none hgd s x 26 ho base 57 i0 1 Try.underlying26 hi v m (flatU ys) hs hown hx (h _ _ (by simpa using hown) (Below.refl _ _))
  | some ad =>
    refine wpList_append_own _ hgd s x 26 ho base 57 i0 _ 1 8 Try.underlying26 hi hz0 hz1 hz2 rfl (by omega) v m (flatU ys) hs hown ad n c (flatU l) hx (by simp [flatU, hl]) ?_ (fun u hu => by simp [flatU] at hu; obtain ⟨_, _, rfl⟩ := hu; rfl) (by unfold maxLen; omega) (by omega) hb ?_
    · intro j u hj
      have hjl : j < l.length := by
        have := (List.getElem?_eq_some_iff.1 hj).1
        simpa [flatU] using this
      obtain ⟨b, o', e, g⟩ := hr j hjl
      cases e
      have e2 : (⟨b, o', none⟩ : Addr).add j = ⟨b, o' + j, none⟩ := by simp [Addr.add]
      rw [e2, g]
      simp only [flatU, List.getElem?_map, List.getElem?_eq_getElem hjl, List.getD_eq_getElem?_getD] at hj ⊢
      simpa using hj
    · intro v' w' h1 h2 _
      rw [show flatU ys ++ flatU l = flatU (ys ++ l) by simp [flatU]] at h1
      exact h v' w' h1 ((Below.refl _ w).grown h2 hb fun k hk => (hown.lt k hk).1)
theorem own_keep {w w' : World} {base : Nat} {e : TypeId} {size : Nat} {v : Value} {n : Nat} {xs : List Value} (h : w.ownsRow base e size v n xs) (hb : ∀ g, v.ownBlock = some g → w'.heap[g]? = w.heap[g]?) : w'.ownsRow base e size v n xs := by
  rcases h.2 with ⟨rfl, rfl⟩ | ⟨g, cap, cur, rfl, h1, h2, h3, h4, h5, h6⟩
  · exact ⟨h.1, .inl ⟨rfl, rfl⟩⟩
  · exact ⟨h.1, .inr ⟨g, cap, cur, rfl, h1, (hb g rfl).trans h2, h3, h4, h5, h6⟩⟩
theorem below_drewN {B : Nat} {a w : World} (h : Below B a w) (n : Nat) : Below B a (w.drewN n) := ⟨h.os, h.tape, h.output, h.size, h.block⟩
end Dm
end Go.Proofs.Ytcipjjchclpgnaa
