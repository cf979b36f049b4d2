/- Lists of uint64 in memory: what is read, what is the call's own, append of a list, and arguments that are a list of uint64. For whatever program has the types uint64 and []uint64. No conditions beside those of each lemma. -/
import Derived.Test.YtjocbmoelkobaaaRows
import Derived.WalkKit
import Derived.ProofKit
import Derived.OpenShut
import Derived.Outline
import Derived.WalkLawsBesides
import Derived.Deep.QuietTactic
import Derived.BigQuiet
import Derived.Lib.QuietBelow
import Derived.Lib.Hide
import Derived.Deep.Slices
import Derived.Deep.Fields
import Derived.ChangeSame
import Derived.Lib.SmallJoins
import Derived.OwnWalk
import Derived.WalkSpells
import Derived.Laws.AppendOwnNone
namespace Go.Proofs.Ytjocbmoelkobaaa
open Go.RowKit Go.Sort Go.ChangeShapes Go.WideShapes Go.Deep Go.Joins
set_option linter.unusedVariables false
set_option linter.unusedSimpArgs false
namespace Dm
theorem ret_eq {a b : Value} (h : a = b) : Ending.returned a = Ending.returned b := by rw [h]
theorem bcell {W w1 : World} (hb : Below W.heap.size W w1) : (∀ b o, b < W.heap.size → w1.cell? ⟨b, o, none⟩ = W.cell? ⟨b, o, none⟩) ∧ (∀ b o, b < W.heap.size → w1.frozen? ⟨b, o, none⟩ = W.frozen? ⟨b, o, none⟩) :=
  ⟨fun b o h => hb.cell (p := ⟨b, o, none⟩) h, fun b o h => hb.frozen (p := ⟨b, o, none⟩) h⟩
theorem bel_alloc {W w : World} (h : Below W.heap.size W w) (o : Obj) : Below W.heap.size W (w.alloc o) := h.alloc h.size o
theorem bel_trans {W w w1 : World} (h : Below W.heap.size W w) (h1 : Below w.heap.size w w1) : Below W.heap.size W w1 := h.trans (h1.mono h.size)
def RdK (κ : IntKind) (w : World) (A : Option Addr) (l : List Int) : Prop :=
  ∀ (k : Nat), k < l.length → ∃ b o, A = some ⟨b, o, none⟩ ∧ w.cell? ⟨b, o + k, none⟩ = some (.int κ (l.getD k 0))
theorem cell_lt {w : World} {b o : Nat} {v : Value} (h : w.cell? ⟨b, o, none⟩ = some v) : b < w.heap.size := by
  have hb : w.heap[b]? ≠ none := by
    intro h0
    unfold World.cell? at h
    rw [h0] at h
    cases h
  by_cases hlt : b < w.heap.size
  · exact hlt
  · exact absurd (Array.getElem?_eq_none_iff.2 (by omega)) hb
theorem RdK.below {κ : IntKind} {w w' : World} {A : Option Addr} {l : List Int} (h : RdK κ w A l) (hb : Below w.heap.size w w') : RdK κ w' A l := by
  intro k hk
  obtain ⟨b, o, e, c⟩ := h k hk
  exact ⟨b, o, e, (hb.cell (p := ⟨b, o + k, none⟩) (cell_lt c)).trans c⟩
theorem RdK.drewN {κ : IntKind} {w : World} {A : Option Addr} {l : List Int} (h : RdK κ w A l) (n : Nat) : RdK κ (w.drewN n) A l := h
def rdK (w : World) (a : Addr) : Int := match w.cell? a with | some (.int _ n) => n | _ => 0
theorem rdK_of {w : World} {a : Addr} {k : IntKind} {n : Int} (h : w.cell? a = some (.int k n)) : rdK w a = n := by simp [rdK, h]
theorem spot_none {w : World} {a : Addr} {v : Value} (h : w.cell? a = some v) : a.spot = none := by
  unfold World.cell? at h
  split at h
  · split at h
    · cases h
    · rename_i hs; simpa using hs
  · cases h
section
variable {H : Type} {enc : TypeId × Value → H} {w : World} {base fuel : Nat} {spare : Nat → Bool} {held : Bool}
theorem open_nums {κ : IntKind} {t e : TypeId} {v : Value} {y : DataW H × List MemPlace} (ht : Try.prog.underlying t = some (.slice e)) (he : Try.prog.underlying e = some (.int κ)) (hc : Try.prog.cellsOf e = 1)
    (h : DataW.trod enc Try.prog w base spare held fuel t [v] = some y) :
    ∃ (A : Option Addr) (n c : Nat) (l : List Int), v = .slice A n c ∧ l.length = n ∧ n ≤ maxLen ∧ RdK κ w A l ∧ (∀ k, k < l.length → (Lit.int κ (l.getD k 0)).wf = true) ∧ (A = none → c = 0) := by
  rcases open_slice1 ht hc h with ⟨h0, _⟩ | ⟨a, n, c, m, q, V, D, Pl, h0, hb, hl, hm, hmm, _, hi⟩
  · simp at h0
    subst h0
    exact ⟨none, 0, 0, [], rfl, rfl, Nat.zero_le _, fun k hk => (by simp at hk), fun k hk => (by simp at hk), fun _ => rfl⟩
  · simp at h0
    subst h0
    have hnm : n ≤ m := by rw [hmm]; split <;> omega
    have each : ∀ i, i < n → ∃ x : Int, w.cell? (a.add i) = some (.int κ x) ∧ (Lit.int κ x).wf = true := by
      intro i hin
      obtain ⟨g, t0⟩ := hi i (by omega)
      obtain ⟨x, e0, _, w0⟩ := DataW.trod_int he t0
      simp at e0
      rw [e0] at g
      exact ⟨x, g, w0⟩
    have hget : ∀ k, k < n → ((List.range n).map fun i => rdK w (a.add i)).getD k 0 = rdK w (a.add k) := by
      intro k hk
      rw [List.getD_eq_getElem?_getD, List.getElem?_map, List.getElem?_range hk]
      rfl
    refine ⟨some a, n, c, (List.range n).map fun i => rdK w (a.add i), rfl, by simp, by omega, ?_, ?_, fun h => (by cases h)⟩
    · intro k hk
      have hkn : k < n := by simpa using hk
      rw [hget k hkn]
      obtain ⟨b, o, s⟩ := a
      obtain ⟨_, z0, _⟩ := each 0 (by omega)
      have hs : s = none := spot_none (a := ⟨b, o, s⟩) (by simpa [Addr.add] using z0)
      subst hs
      obtain ⟨x, c0, _⟩ := each k hkn
      refine ⟨b, o, rfl, ?_⟩
      have e : (⟨b, o, none⟩ : Addr).add k = ⟨b, o + k, none⟩ := by simp [Addr.add]
      rw [rdK_of c0]
      rw [e] at c0
      exact c0
    · intro k hk
      have hkn : k < n := by simpa using hk
      rw [hget k hkn]
      obtain ⟨x, c0, w0⟩ := each k hkn
      rw [rdK_of c0]
      exact w0
def BdU (l : List Int) : Prop := ∀ k, k < l.length → 0 ≤ l.getD k 0 ∧ l.getD k 0 ≤ 18446744073709551615
set_option maxRecDepth 100000 in
theorem open_u64s {b0 : Nat} {r : Reach} {v : Value} {d : DataW H} {p : List MemPlace} (hv : Value.okWide Try.prog w r b0 22 v) (h : DataW.Trod enc Try.prog w base spare held 22 v d p) :
    ∃ (A : Option Addr) (n c : Nat) (l : List Int), v = .slice A n c ∧ l.length = n ∧ n ≤ maxLen ∧ RdK .u64 w A l ∧ BdU l ∧ (A = none → c = 0) := by
  obtain ⟨A, n, c, rfl⟩ := okWide_slice Try.underlying22 hv
  obtain ⟨fuel, hf⟩ := h
  obtain ⟨A', n', c', l, e, h1, h2, h3, h4, h5⟩ := open_nums Try.underlying22 Try.underlying55 (by kernel_rfl) (by simpa [Value.cells] using hf)
  exact ⟨A', n', c', l, e, h1, h2, h3, fun k hk => bounds_u64 (h4 k hk), h5⟩
end
def flatU (l : List Int) : List Value := l.map (Value.int .u64)
theorem addr_lit (b o k : Nat) : (⟨b, o, none⟩ : Addr).add k = ⟨b, o + k, none⟩ := by simp [Addr.add]
theorem infoU : (Try.prog.info? 55).map (fun i => (i.zero, i.size, i.bytes)) = some (some (.int .u64 0), 1, 8) := by kernel_rfl
theorem info_parts {i? : Option TypeInfo} {z : Option Value} {s b : Nat} (h : i?.map (fun i => (i.zero, i.size, i.bytes)) = some (z, s, b)) : ∃ i0, i? = some i0 ∧ i0.zero = z ∧ i0.size = s ∧ i0.bytes = b := by
  cases i? with
  | none => cases h
  | some i => simp at h; exact ⟨i, rfl, h.1, h.2.1, h.2.2⟩
theorem app1 {ops : Array Oper} {rest : List Oper} {o : Oper} {a : Act} {Q : Exit → Act → World → Prop} (hgd : o.guard = none) (s x : Operand)
    (ho : o.op = .call { callee := .builtin .append, args := #[s, x], argTypes := #[22, 22] }) (w : World) (base n : Nat) (v : Value) (ys : List Int) (y : Int)
    (hs : a.eval s = v) (hx : a.eval x = .slice (some ⟨w.heap.size, 0, none⟩) 1 1) (hown : w.ownsRow base 55 1 v n (flatU ys)) (hn : n ≤ 2000) (hb : base ≤ w.heap.size)
    (h : ∀ v' w', w'.ownsRow base 55 1 v' (n + 1) (flatU (ys ++ [y])) → Below base w w' → wpList Try.prog ops Q rest (a.put o.dst v') w') :
    wpList Try.prog ops Q (o :: rest) a (w.alloc (.cells #[.int .u64 y] 55)) := by
  obtain ⟨i0, hi, hz0, hz1, hz2⟩ := info_parts infoU
  refine wpList_append_own _ hgd s x 22 ho base 55 i0 _ 1 8 Try.underlying22 hi hz0 hz1 hz2 rfl (by omega) v n (flatU ys) hs (hown.alloc _) ⟨w.heap.size, 0, none⟩ 1 1 [.int .u64 y] hx rfl ?_ ?_ (by unfold maxLen; omega) (by omega) (by simp; omega) ?_
  · intro j u hj
    rw [addr_lit, Nat.zero_add, World.cell?_alloc_new]
    simpa using hj
  · intro u hu
    simp at hu
    rcases hu with rfl
    rfl
  · intro v' w' h1 h2 _
    rw [show flatU ys ++ [.int .u64 y] = flatU (ys ++ [y]) by simp [flatU]] at h1
    refine h v' w' h1 (((Below.refl _ _).alloc hb _).grown h2 (by simp; omega) fun k hk => ?_)
    exact (hown.lt k hk).1
/-- what a row of the call's own reads as -/
theorem row_rd {w : World} {base n : Nat} {v : Value} {l : List Int} (h : w.ownsRow base 55 1 v n (flatU l)) : l.length = n ∧ ∃ A c, v = .slice A n c ∧ RdK .u64 w A l := by
  have hl : l.length = n := by have := h.1; simp [flatU] at this; omega
  refine ⟨hl, ?_⟩
  rcases h.2 with ⟨rfl, rfl⟩ | ⟨g, cap, cur, rfl, hbase, hh, hnc, _⟩
  · obtain rfl : l = [] := List.eq_nil_of_length_eq_zero hl
    exact ⟨none, 0, rfl, fun k hk => by simp at hk⟩
  · refine ⟨_, cap, rfl, fun k hk => ⟨g, 0, rfl, ?_⟩⟩
    rw [Nat.zero_add, h.cellAt _ (by omega)]
    simp only [flatU, List.getElem?_map, List.getElem?_eq_getElem hk, List.getD_eq_getElem?_getD]
    rfl
/-- 'append([]uint64{}, xs...)' or an append of a list to a row of the call's own -/
theorem appAll {ops : Array Oper} {rest : List Oper} {o : Oper} {a : Act} {Q : Exit → Act → World → Prop} (hgd : o.guard = none) (s x : Operand)
    (ho : o.op = .call { callee := .builtin .append, args := #[s, x], argTypes := #[22, 22] }) (w : World) (base m : Nat) (v : Value) (ys : List Int) (A : Option Addr) (n c : Nat) (l : List Int)
    (hs : a.eval s = v) (hx : a.eval x = .slice A n c) (hown : w.ownsRow base 55 1 v m (flatU ys)) (hl : l.length = n) (hm : m ≤ 100000) (hn : n ≤ 100000) (hb : base ≤ w.heap.size) (hr : RdK .u64 w A l) (hnil : A = none → c = 0)
    (h : ∀ v' w', w'.ownsRow base 55 1 v' (m + n) (flatU (ys ++ l)) → Below base w w' → wpList Try.prog ops Q rest (a.put o.dst v') w') :
    wpList Try.prog ops Q (o :: rest) a w := by
  obtain ⟨i0, hi, hz0, hz1, hz2⟩ := info_parts infoU
  cases A with
  | none =>
    have hl0 : l = [] := by
      cases l with
      | nil => rfl
      | cons x l => obtain ⟨b, o, e, _⟩ := hr 0 (by simp); cases e
    subst hl0
    obtain rfl : n = 0 := by simpa using hl.symm
    obtain rfl := hnil rfl
    exact wpList_append_own_none hgd s x 22 ho base 55 i0 1 Try.underlying22 hi v m (flatU ys) hs hown hx (h _ _ (by simpa using hown) (Below.refl _ _))
  | some ad =>
    refine wpList_append_own _ hgd s x 22 ho base 55 i0 _ 1 8 Try.underlying22 hi hz0 hz1 hz2 rfl (by omega) v m (flatU ys) hs hown ad n c (flatU l) hx (by simp [flatU, hl]) ?_ (fun u hu => by simp [flatU] at hu; obtain ⟨_, _, rfl⟩ := hu; rfl) (by unfold maxLen; omega) (by omega) hb ?_
    · intro j u hj
      have hjl : j < l.length := by
        have := (List.getElem?_eq_some_iff.1 hj).1
        simpa [flatU] using this
      obtain ⟨b, o', e, g⟩ := hr j hjl
      cases e
      have e2 : (⟨b, o', none⟩ : Addr).add j = ⟨b, o' + j, none⟩ := by simp [Addr.add]
      rw [e2, g]
      simp only [flatU, List.getElem?_map, List.getElem?_eq_getElem hjl, List.getD_eq_getElem?_getD] at hj ⊢
      simpa using hj
    · intro v' w' h1 h2 _
      rw [show flatU ys ++ flatU l = flatU (ys ++ l) by simp [flatU]] at h1
      exact h v' w' h1 ((Below.refl _ w).grown h2 hb fun k hk => (hown.lt k hk).1)
theorem own_keep {w w' : World} {base : Nat} {e : TypeId} {size : Nat} {v : Value} {n : Nat} {xs : List Value} (h : w.ownsRow base e size v n xs) (hb : ∀ g, v.ownBlock = some g → w'.heap[g]? = w.heap[g]?) : w'.ownsRow base e size v n xs := by
  rcases h.2 with ⟨rfl, rfl⟩ | ⟨g, cap, cur, rfl, h1, h2, h3, h4, h5, h6⟩
  · exact ⟨h.1, .inl ⟨rfl, rfl⟩⟩
  · exact ⟨h.1, .inr ⟨g, cap, cur, rfl, h1, (hb g rfl).trans h2, h3, h4, h5, h6⟩⟩
theorem below_drewN {B : Nat} {a w : World} (h : Below B a w) (n : Nat) : Below B a (w.drewN n) := ⟨h.os, h.tape, h.output, h.size, h.block⟩
end Dm
end Go.Proofs.Ytjocbmoelkobaaa
