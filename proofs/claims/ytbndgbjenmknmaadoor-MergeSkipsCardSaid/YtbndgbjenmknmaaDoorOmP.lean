/- Lists of pairs in memory: what is read, what is the call's own, append of one pair and of a list, and arguments that are a list of pairs. No conditions beside those of each lemma. -/
import Derived.Test.YtbndgbjenmknmaaDoorRows
import Derived.Test.YtbndgbjenmknmaaDoorOmM
import Derived.WalkKit
import Derived.ProofKit
import Derived.OpenShut
import Derived.Outline
import Derived.WalkLawsBesides
import Derived.Deep.QuietTactic
import Derived.BigQuiet
import Derived.Lib.QuietBelow
import Derived.Lib.Hide
import Derived.Deep.Slices
import Derived.Deep.Fields
import Derived.ChangeSame
import Derived.Lib.SmallJoins
import Derived.OwnWalk
import Derived.WalkSpells
import Derived.Laws.AppendOwnNone
import Derived.Deep.AppendLies
namespace Go.Proofs.YtbndgbjenmknmaaDoor
open Go.RowKit Go.Sort Go.ChangeShapes Go.WideShapes Go.Deep
set_option linter.unusedVariables false
set_option linter.unusedSimpArgs false
namespace Om
theorem quiet_left {P : Program} {f : FuncId} {args : Array Value} {w : World} {n : Nat} {v : Value}
    (h : Calls P f args (w.drewN n) fun e w' => e = .returned v ∧ w.drewN n = w') : Calls P f args (w.drewN n) fun e w' => e = .returned v ∧ ∃ m, w' = w.drewN m :=
  h.mono fun _ _ ⟨he, hm⟩ => ⟨he, n, hm.symm⟩
theorem quiet_add_left {P : Program} {f : FuncId} {args : Array Value} {w : World} {a n : Nat} {v : Value}
    (h : Calls P f args (w.drewN (a + n)) fun e w' => e = .returned v ∧ w.drewN (a + n) = w') : Calls P f args (w.drewN (a + n)) fun e w'' => e = .returned v ∧ ∃ m, w'' = w.drewN (a + m) :=
  h.mono fun _ _ ⟨he, hm⟩ => ⟨he, n, hm.symm⟩
theorem ret_eq {a b : Value} (h : a = b) : Ending.returned a = Ending.returned b := by rw [h]
theorem bcell {W w1 : World} (hb : Below W.heap.size W w1) : (∀ b o, b < W.heap.size → w1.cell? ⟨b, o, none⟩ = W.cell? ⟨b, o, none⟩) ∧ (∀ b o, b < W.heap.size → w1.frozen? ⟨b, o, none⟩ = W.frozen? ⟨b, o, none⟩) :=
  ⟨fun b o h => hb.cell (p := ⟨b, o, none⟩) h, fun b o h => hb.frozen (p := ⟨b, o, none⟩) h⟩

theorem bel_alloc {W w : World} (h : Below W.heap.size W w) (o : Obj) : Below W.heap.size W (w.alloc o) := h.alloc h.size o
theorem bel_trans {W w w1 : World} (h : Below W.heap.size W w) (h1 : Below w.heap.size w w1) : Below W.heap.size W w1 := h.trans (h1.mono h.size)
/-- from the address A on lie the pairs l -/
def Rd (w : World) (A : Option Addr) (l : List Pr) : Prop :=
  ∀ (k : Nat) (x : Pr), l[k]? = some x → ∃ b o, A = some ⟨b, o, none⟩ ∧ w.cell? ⟨b, o + k * 2, none⟩ = some (.int .u64 x.1) ∧ w.cell? ⟨b, o + k * 2 + 1, none⟩ = some (.int .u64 x.2)
def Bd (l : List Pr) : Prop := ∀ x, x ∈ l → 0 ≤ x.1 ∧ x.1 ≤ 18446744073709551615 ∧ 0 ≤ x.2 ∧ x.2 ≤ 18446744073709551615
theorem below_drewN {B : Nat} {a w : World} (h : Below B a w) (n : Nat) : Below B a (w.drewN n) := ⟨h.os, h.tape, h.output, h.size, h.block⟩
theorem Rd.below {w w' : World} {A : Option Addr} {l : List Pr} (h : Rd w A l) (hb : Below w.heap.size w w') : Rd w' A l := by
  intro k x hk
  obtain ⟨b, o, e, c0, c1⟩ := h k x hk
  exact ⟨b, o, e, (hb.cell (World.block_lt_of_cell? w _ c0)).trans c0, (hb.cell (World.block_lt_of_cell? w _ c1)).trans c1⟩
theorem Rd.drewN {w : World} {A : Option Addr} {l : List Pr} (h : Rd w A l) (n : Nat) : Rd (w.drewN n) A l := h
theorem getElem?_lt {l : List Pr} {k n : Nat} (hn : l.length = n) (h : k < n) : ∃ x, l[k]? = some x ∧ x ∈ l := ⟨l[k]'(by omega), List.getElem?_eq_getElem (by omega), List.getElem_mem _⟩
theorem take_succ' {l : List Pr} {k : Nat} {x : Pr} (h : l[k]? = some x) : l.take (k + 1) = l.take k ++ [x] := by
  rw [List.take_add_one, h]; rfl
def encV (x : Pr) : List Value := [.int .u64 x.1, .int .u64 x.2]
def flat (l : List Pr) : List Value := l.flatMap encV
theorem flat_len : ∀ l : List Pr, (flat l).length = l.length * 2
  | [] => rfl
  | x :: l => by
    have := flat_len l
    simp only [flat, List.flatMap_cons, List.length_append, encV, List.length_cons, List.length_nil] at this ⊢
    omega
theorem flat_append (l m : List Pr) : flat (l ++ m) = flat l ++ flat m := by simp [flat]
theorem flat_one (x : Pr) : flat [x] = [.int .u64 x.1, .int .u64 x.2] := by simp [flat, encV]
theorem flat_get : ∀ (l : List Pr) (k : Nat) (x : Pr), l[k]? = some x → (flat l)[k * 2]? = some (.int .u64 x.1) ∧ (flat l)[k * 2 + 1]? = some (.int .u64 x.2)
  | [], k, x, h => by simp at h
  | y :: l, 0, x, h => by simp at h; subst h; exact ⟨rfl, rfl⟩
  | y :: l, k + 1, x, h => by
    have h' : l[k]? = some x := by simpa using h
    have r := flat_get l k x h'
    have e : flat (y :: l) = .int .u64 y.1 :: .int .u64 y.2 :: flat l := rfl
    rw [e, show (k + 1) * 2 = k * 2 + 1 + 1 by omega]
    simpa using r
theorem flat_one_cell (l : List Pr) : ∀ u ∈ flat l, u.oneCell' = true := by
  intro u hu
  simp only [flat, List.mem_flatMap, encV] at hu
  obtain ⟨x, _, hx⟩ := hu
  simp only [List.mem_cons, List.not_mem_nil, or_false] at hx
  rcases hx with rfl | rfl <;> rfl

/-- at block b from cell o on lie the pairs l, and may be written to -/
def Own (w : World) (b o : Nat) (l : List Pr) : Prop :=
  ∀ (k : Nat) (x : Pr), l[k]? = some x → w.cell? ⟨b, o + k * 2, none⟩ = some (.int .u64 x.1) ∧ w.cell? ⟨b, o + k * 2 + 1, none⟩ = some (.int .u64 x.2) ∧ w.frozen? ⟨b, o + k * 2, none⟩ = false ∧ w.frozen? ⟨b, o + k * 2 + 1, none⟩ = false
theorem Own.rd {w : World} {b o : Nat} {l : List Pr} (h : Own w b o l) : Rd w (some ⟨b, o, none⟩) l := fun k x hk => ⟨b, o, rfl, (h k x hk).1, (h k x hk).2.1⟩
theorem Own.take {w : World} {b o : Nat} {l : List Pr} (h : Own w b o l) (n : Nat) : Own w b o (l.take n) := fun k x hk => h k x (by
  rw [List.getElem?_take] at hk
  split at hk
  · exact hk
  · cases hk)
theorem Own.keep {w w' : World} {b o : Nat} {l : List Pr} (h : Own w b o l) (hb : w'.heap[b]? = w.heap[b]?) : Own w' b o l := fun k x hk => by
  obtain ⟨c0, c1, f0, f1⟩ := h k x hk
  exact ⟨(World.cell?_of_block (a := ⟨b, _, none⟩) hb).trans c0, (World.cell?_of_block (a := ⟨b, _, none⟩) hb).trans c1, (World.frozen?_of_block (a := ⟨b, _, none⟩) hb).trans f0, (World.frozen?_of_block (a := ⟨b, _, none⟩) hb).trans f1⟩
theorem own_of_row {w : World} {base g n cap : Nat} {t : TypeId} {l : List Pr} (h : w.ownsRow base t 2 (.slice (some ⟨g, 0, none⟩) n cap) n (flat l)) : Own w g 0 l := fun k x hk => by
  have hl : l.length = n := by have := h.1; rw [flat_len] at this; omega
  have hkn : k < n := by have := (List.getElem?_eq_some_iff.1 hk).1; omega
  obtain ⟨e0, e1⟩ := flat_get l k x hk
  refine ⟨?_, ?_, h.frozenAt _, h.frozenAt _⟩
  · rw [Nat.zero_add, h.cellAt _ (by omega)]; exact e0
  · rw [Nat.zero_add, h.cellAt _ (by omega)]; exact e1
/-- what a row of the call's own reads as -/
theorem row_form {w : World} {base n : Nat} {t : TypeId} {v : Value} {l : List Pr} (h : w.ownsRow base t 2 v n (flat l)) : l.length = n ∧ ∃ A c, v = .slice A n c ∧ n ≤ c ∧ Rd w A l ∧ (∀ a, A = some a → base ≤ a.block ∧ a.block < w.heap.size ∧ ∃ g, a = ⟨g, 0, none⟩ ∧ Own w g 0 l) := by
  have hl : l.length = n := by have := h.1; rw [flat_len] at this; omega
  refine ⟨hl, ?_⟩
  rcases h.2 with ⟨rfl, rfl⟩ | ⟨g, cap, cur, rfl, hbase, hh, hnc, _⟩
  · obtain rfl : l = [] := List.eq_nil_of_length_eq_zero hl
    exact ⟨none, 0, rfl, Nat.le_refl _, fun k x hk => by simp at hk, fun a ha => by cases ha⟩
  · have o := own_of_row h
    have hlt := (h.lt g rfl).2
    exact ⟨_, cap, rfl, hnc, o.rd, fun a ha => by cases ha; exact ⟨hbase, hlt, g, rfl, o⟩⟩

theorem info : (Tryd.prog.info? 39).map (fun i => (i.zero, i.size, i.bytes)) = some (some (.agg #[.int .u64 0, .int .u64 0]), 2, 16) := by kernel_rfl
theorem addr_lit (b o j : Nat) : (⟨b, o, none⟩ : Addr).add j = ⟨b, o + j, none⟩ := Addr.add_lit ..
/-- the cells of a list that is read, one behind the other -/
theorem Rd.flat_cells {w : World} {a : Addr} {l : List Pr} (h : Rd w (some a) l) : ∀ (j : Nat) (u : Value), (flat l)[j]? = some u → w.cell? (a.add j) = some u := by
  intro j u hj
  have hjl : j < l.length * 2 := by have := (List.getElem?_eq_some_iff.1 hj).1; rw [flat_len] at this; exact this
  have hk : j / 2 < l.length := by omega
  obtain ⟨b, o, e, c0, c1⟩ := h (j / 2) _ (List.getElem?_eq_getElem hk)
  injection e with e
  subst e
  obtain ⟨g0, g1⟩ := flat_get l (j / 2) _ (List.getElem?_eq_getElem hk)
  rw [addr_lit]
  rcases Nat.mod_two_eq_zero_or_one j with h0 | h0
  · have ej : j / 2 * 2 = j := by omega
    rw [ej] at g0 c0
    rw [hj] at g0
    injection g0 with g0
    rw [g0]; exact c0
  · have ej : j / 2 * 2 + 1 = j := by omega
    rw [ej] at g1
    rw [Nat.add_assoc, ej] at c1
    rw [hj] at g1
    injection g1 with g1
    rw [g1]; exact c1
/-- 'out = append(out, y)' onto a row of the call's own -/
theorem app1 {ops : Array Oper} {rest : List Oper} {o : Oper} {a : Act} {Q : Exit → Act → World → Prop} (hgd : o.guard = none) (s x : Operand)
    (ho : o.op = .call { callee := .builtin .append, args := #[s, x], argTypes := #[34, 34] }) (w : World) (base n : Nat) (v : Value) (ys : List Pr) (y : Pr)
    (hs : a.eval s = v) (hx : a.eval x = .slice (some ⟨w.heap.size, 0, none⟩) 1 1) (hown : w.ownsRow base 39 2 v n (flat ys)) (hn : (n + 1) * 16 ≤ 140737488355328) (hb : base ≤ w.heap.size)
    (h : ∀ v' w', w'.ownsRow base 39 2 v' (n + 1) (flat (ys ++ [y])) → Below base w w' → wpList Tryd.prog ops Q rest (a.put o.dst v') w') :
    wpList Tryd.prog ops Q (o :: rest) a (w.alloc (.cells #[.int .u64 y.1, .int .u64 y.2] 39)) := by
  obtain ⟨i0, hi, hz0, hz1, hz2⟩ := info_parts info
  refine wpList_append_own _ hgd s x 34 ho base 39 i0 _ 2 16 Tryd.underlying34 hi hz0 hz1 hz2 rfl (by omega) v n (flat ys) hs (hown.alloc _) ⟨w.heap.size, 0, none⟩ 1 1 [.int .u64 y.1, .int .u64 y.2] hx rfl ?_ ?_ (by unfold maxLen; omega) (by omega) (by simp; omega) ?_
  · intro j u hj
    rw [addr_lit, Nat.zero_add, World.cell?_alloc_new]
    simpa using hj
  · intro u hu
    simp at hu
    rcases hu with rfl | rfl <;> rfl
  · intro v' w' h1 h2 _
    rw [show flat ys ++ [.int .u64 y.1, .int .u64 y.2] = flat (ys ++ [y]) by rw [flat_append, flat_one]] at h1
    refine h v' w' h1 (((Below.refl _ _).alloc hb _).grown h2 (by simp; omega) fun k hk => ?_)
    exact (hown.lt k hk).1

/-- 'append([]T{}, xs...)': a copy -/
theorem appAll {ops : Array Oper} {rest : List Oper} {o : Oper} {a : Act} {Q : Exit → Act → World → Prop} (hgd : o.guard = none) (s x : Operand)
    (ho : o.op = .call { callee := .builtin .append, args := #[s, x], argTypes := #[34, 34] }) (w : World) (A : Option Addr) (n c : Nat) (l : List Pr)
    (hs : a.eval s = .slice (some ⟨w.heap.size, 0, none⟩) 0 0) (hx : a.eval x = .slice A n c) (hl : l.length = n) (hn : n ≤ 2000) (hr : Rd w A l) (hnil : A = none → c = 0)
    (h : ∀ v' w', w'.ownsRow w.heap.size 39 2 v' n (flat l) → Below w.heap.size w w' → wpList Tryd.prog ops Q rest (a.put o.dst v') w') :
    wpList Tryd.prog ops Q (o :: rest) a (w.alloc (.cells #[] 39)) := by
  obtain ⟨i0, hi, hz0, hz1, hz2⟩ := info_parts info
  have made : (w.alloc (.cells #[] 39)).ownsRow w.heap.size 39 2 (.slice (some ⟨w.heap.size, 0, none⟩) 0 0) 0 [] := World.ownsRow_made w #[] 0 (Nat.le_refl _) (Nat.zero_le _) (by simp)
  cases A with
  | none =>
    have hl0 : l = [] := by
      cases l with
      | nil => rfl
      | cons x l => obtain ⟨b, o, e, _⟩ := hr 0 x rfl; cases e
    subst hl0
    obtain rfl : n = 0 := by simpa using hl.symm
    obtain rfl := hnil rfl
    exact wpList_append_own_none hgd s x 34 ho w.heap.size 39 i0 2 Tryd.underlying34 hi _ 0 [] hs made hx (h _ _ made (bel_alloc (Below.refl _ _) _))
  | some ad =>
    refine wpList_append_own _ hgd s x 34 ho w.heap.size 39 i0 _ 2 16 Tryd.underlying34 hi hz0 hz1 hz2 rfl (by omega) _ 0 [] hs made ad n c (flat l) hx (by rw [flat_len, hl]) ?_ (flat_one_cell l) (by unfold maxLen; omega) (by omega) (by simp) ?_
    · intro j u hj
      have h := hr.flat_cells j u hj
      rw [World.cell?_alloc_lt w _ _ (World.block_lt_of_cell? w _ h)]
      exact h
    · intro v' w' h1 h2 _
      refine h v' w' (by simpa using h1) (((Below.refl _ w).alloc (Nat.le_refl _) _).grown h2 (by simp) fun k hk => ?_)
      simp [Value.ownBlock] at hk
      omega
theorem row_base {w : World} {B B' n : Nat} {t : TypeId} {v : Value} {xs : List Value} (h : w.ownsRow B t 2 v n xs) (hB : B' ≤ B) : w.ownsRow B' t 2 v n xs := by
  refine ⟨h.1, ?_⟩
  rcases h.2 with h' | ⟨g, cap, cur, e, hb, r⟩
  · exact .inl h'
  · exact .inr ⟨g, cap, cur, e, by omega, r⟩
theorem row_below {w w' : World} {B n : Nat} {t : TypeId} {v : Value} {xs : List Value} (h : w.ownsRow B t 2 v n xs) (hb : Below w.heap.size w w') : w'.ownsRow B t 2 v n xs := by
  refine ⟨h.1, ?_⟩
  rcases h.2 with h' | ⟨g, cap, cur, e, hbase, hh, r⟩
  · exact .inl h'
  · subst e
    exact .inr ⟨g, cap, cur, rfl, hbase, (hb.block g (h.lt g rfl).2).trans hh, r⟩
theorem row_set {w : World} {B n : Nat} {t : TypeId} {v : Value} {xs : List Value} (h : w.ownsRow B t 2 v n xs) {p : Addr} (hp : p.block < B) (u : Value) : (w.setCell p u).ownsRow B t 2 v n xs := by
  refine ⟨h.1, ?_⟩
  rcases h.2 with h' | ⟨g, cap, cur, e, hbase, hh, r⟩
  · exact .inl h'
  · exact .inr ⟨g, cap, cur, e, hbase, (Below.heap_setCell w p u g (by omega)).trans hh, r⟩
section
variable {H : Type} {enc : TypeId × Value → H} {P : Program} {w : World} {base : Nat} {spare : Nat → Bool} {held : Bool}
theorem open_slice_fields {t e : TypeId} {fs : Array Field} {fuel : Nat} {cs : List Value} {x : DataW H × List MemPlace} (ht : P.underlying t = some (.slice e)) (he : P.underlying e = some (.struct fs))
    (hone : oneCellFields P fs = true) (hC : P.cellsOf e = fs.size) (h : DataW.trod enc P w base spare held fuel t cs = some x) :
    (cs = [.slice none 0 0] ∧ x = (.nil, [])) ∨
    ∃ (a : Addr) (len cap m : Nat) (D : Nat → DataW H) (Pl : Nat → List MemPlace), cs = [.slice (some a) len cap] ∧ base ≤ a.block ∧ len ≤ cap ∧ cap ≤ maxLen ∧ m = (if spare a.block then cap else len) ∧
      x = (.slice ((List.range len).map D) ((List.range (m - len)).map fun j => D (len + j)), MemPlace.row a (m * fs.size) ++ (List.range m).flatMap Pl) ∧
      ∀ i, i < m → ∃ (ys : List (DataW H × List MemPlace)) (n : Nat), D i = .agg (ys.map (·.1)) ∧ Pl i = ys.flatMap (·.2) ∧ ys.length = fs.size ∧
        ∀ (j : Nat) (f : Field), fs[j]? = some f → ∃ (v : Value) (y : DataW H × List MemPlace), w.cell? (a.add (i * fs.size + j)) = some v ∧ ys[j]? = some y ∧ DataW.trod enc P w base spare held n f.type [v] = some y := by
  rcases open_slice ht h with h0 | ⟨a, len, cap, m, n, D, Pl, hcs, hb, hl, hm, hmm, hx, hi⟩
  · exact .inl h0
  · refine .inr ⟨a, len, cap, m, D, Pl, hcs, hb, hl, hm, hmm, by rw [hC] at hx; exact hx, fun i him => ?_⟩
    obtain ⟨cs', hc, ht'⟩ := hi i him
    rw [hC] at hc
    obtain ⟨ys, n', hn', hy, hlen, hyl, hf⟩ := DataW.trod_struct he ht'
    obtain ⟨_, hcl, hat⟩ := World.cells?_some hc
    simp only [Prod.mk.injEq] at hy
    refine ⟨ys, n', hy.1, hy.2, hyl, fun j f hj => ?_⟩
    obtain ⟨ho, hk⟩ := hone_of hone j f hj
    have hjl : j < fs.size := (Array.getElem?_eq_some_iff.1 hj).1
    have hcell := hat j hjl
    have hv : cs'[j]? = some (cs'[j]'(by omega)) := List.getElem?_eq_getElem (by omega)
    have h1 := hf j f hj
    rw [ho, hk] at h1
    have hone' : (cs'.drop j).take 1 = [cs'[j]'(by omega)] := by
      rw [List.drop_eq_getElem_cons (by omega)]
      rfl
    rw [hone'] at h1
    have hys : ys[j]? = some (ys[j]'(by omega)) := List.getElem?_eq_getElem (by omega)
    refine ⟨_, _, ?_, hys, h1.trans hys⟩
    rw [← Go.Deep.add_add, hcell, hv]
end
theorem cellsOf_pair : Tryd.prog.cellsOf 39 = 2 := by kernel_rfl
def rdI (w : World) (a : Addr) : Int := match w.cell? a with | some (.int _ n) => n | _ => 0
theorem rdI_of {w : World} {a : Addr} {k : IntKind} {n : Int} (h : w.cell? a = some (.int k n)) : rdI w a = n := by simp [rdI, h]
theorem spot_none {w : World} {a : Addr} {v : Value} (h : w.cell? a = some v) : a.spot = none := by
  unfold World.cell? at h
  split at h
  · split at h
    · cases h
    · rename_i hs; simpa using hs
  · cases h
section
variable {H : Type} {enc : TypeId × Value → H} {w : World} {base b0 : Nat} {spare : Nat → Bool} {held : Bool} {r : Reach}
set_option maxRecDepth 100000 in
theorem open_pairs {v : Value} {d : DataW H} {p : List MemPlace} (hv : Value.okWide Tryd.prog w r b0 34 v) (h : DataW.Trod enc Tryd.prog w base spare held 34 v d p) :
    ∃ (A : Option Addr) (n c : Nat) (l : List Pr), v = .slice A n c ∧ l.length = n ∧ n ≤ maxLen ∧ Rd w A l ∧ Bd l ∧ (A = none → c = 0) ∧ (n = 0 ∨ ∃ elems spare, d = .slice elems spare ∧ elems.length = n) := by
  obtain ⟨A, n, c, rfl⟩ := okWide_slice Tryd.underlying34 hv
  obtain ⟨fuel, hf⟩ := h
  rcases open_slice_fields Tryd.underlying34 Tryd.underlying39 (by kernel_rfl) cellsOf_pair hf with ⟨hcs, hx⟩ | ⟨a, len, cap, m, D, Pl, hcs, hb, hl, hm, hmm, hx, hi⟩
  · simp [Value.cells] at hcs
    obtain ⟨rfl, rfl, rfl⟩ := hcs
    exact ⟨none, 0, 0, [], rfl, rfl, Nat.zero_le _, fun k x hk => by simp at hk, fun x hx => (by cases hx), fun _ => rfl, .inl rfl⟩
  · simp [Value.cells] at hcs
    obtain ⟨rfl, rfl, rfl⟩ := hcs
    have hlm : n ≤ m := by rw [hmm]; split <;> omega
    have each : ∀ i, i < n → ∃ x y : Int, w.cell? (a.add (i * 2)) = some (.int .u64 x) ∧ w.cell? (a.add (i * 2 + 1)) = some (.int .u64 y) ∧ 0 ≤ x ∧ x ≤ 18446744073709551615 ∧ 0 ≤ y ∧ y ≤ 18446744073709551615 := by
      intro i hin
      obtain ⟨ys, q, _, _, _, hfl⟩ := hi i (by omega)
      obtain ⟨v0, y0, c0, _, t0⟩ := hfl 0 _ rfl
      obtain ⟨v1, y1, c1, _, t1⟩ := hfl 1 _ rfl
      obtain ⟨x, e0, _, w0⟩ := DataW.trod_int Tryd.underlying22 t0
      obtain ⟨y, e1, _, w1⟩ := DataW.trod_int Tryd.underlying22 t1
      simp at e0 e1
      subst e0 e1
      exact ⟨x, y, c0, c1, (bounds_u64 w0).1, (bounds_u64 w0).2, (bounds_u64 w1).1, (bounds_u64 w1).2⟩
    refine ⟨some a, n, c, (List.range n).map fun i => (rdI w (a.add (i * 2)), rdI w (a.add (i * 2 + 1))), rfl, by simp, by omega, ?_, ?_, fun h => (by cases h), .inr ⟨_, _, (Prod.mk.inj hx).1, by simp⟩⟩
    · intro k x hk
      have hkn : k < n := by have := (List.getElem?_eq_some_iff.1 hk).1; simpa using this
      rw [List.getElem?_map, List.getElem?_range hkn] at hk
      simp only [Option.map_some, Option.some.injEq] at hk
      subst hk
      obtain ⟨b, o, s⟩ := a
      obtain ⟨_, _, z0, _⟩ := each 0 (by omega)
      have hs : s = none := spot_none (a := ⟨b, o, s⟩) (by simpa [Addr.add] using z0)
      subst hs
      obtain ⟨x, y, c0, c1, _⟩ := each k hkn
      rw [addr_lit] at c0 c1
      refine ⟨b, o, rfl, ?_, ?_⟩
      · show w.cell? _ = some (.int .u64 (rdI w ((⟨b, o, none⟩ : Addr).add (k * 2))))
        rw [addr_lit, rdI_of c0]; exact c0
      · show w.cell? _ = some (.int .u64 (rdI w ((⟨b, o, none⟩ : Addr).add (k * 2 + 1))))
        rw [addr_lit, rdI_of c1]; exact c1
    · intro x hx
      simp only [List.mem_map, List.mem_range] at hx
      obtain ⟨i, hin, rfl⟩ := hx
      obtain ⟨x, y, c0, c1, h0, h1, h2, h3⟩ := each i hin
      rw [rdI_of c0, rdI_of c1]
      exact ⟨h0, h1, h2, h3⟩
end
end Om
end Go.Proofs.YtbndgbjenmknmaaDoor
