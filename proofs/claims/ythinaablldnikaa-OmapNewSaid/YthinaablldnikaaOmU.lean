/- Lists of keys that a law makes: rows of uint64. And one map with rows that were handed out. No conditions beside those of each lemma. -/
import Derived.Test.YthinaablldnikaaOmT
namespace Go.Proofs.Ythinaablldnikaa
open Go.RowKit Go.Sort
set_option linter.unusedVariables false
set_option linter.unusedSimpArgs false
namespace Om
def flatU (l : List Int) : List Value := l.map (Value.int .u64)
def BdU (l : List Int) : Prop := ∀ x, x ∈ l → 0 ≤ x ∧ x ≤ 18446744073709551615
def RdU (w : World) (A : Option Addr) (l : List Int) : Prop := ∀ (k : Nat) (x : Int), l[k]? = some x → ∃ b o, A = some ⟨b, o, none⟩ ∧ w.cell? ⟨b, o + k, none⟩ = some (.int .u64 x)
theorem RdU.below {w w' : World} {A : Option Addr} {l : List Int} (h : RdU w A l) (hb : Below w.heap.size w w') : RdU w' A l := fun k x hk => by
  obtain ⟨b, o, e, c⟩ := h k x hk
  exact ⟨b, o, e, (hb.cell (World.block_lt_of_cell? w _ c)).trans c⟩
theorem infoU : (Try.prog.info? 33).map (fun i => (i.zero, i.size, i.bytes)) = some (some (.int .u64 0), 1, 8) := by kernel_rfl
theorem app1U {ops : Array Oper} {rest : List Oper} {o : Oper} {a : Act} {Q : Exit → Act → World → Prop} (hgd : o.guard = none) (s x : Operand)
    (ho : o.op = .call { callee := .builtin .append, args := #[s, x], argTypes := #[64, 64] }) (w : World) (base n : Nat) (v : Value) (ys : List Int) (y : Int)
    (hs : a.eval s = v) (hx : a.eval x = .slice (some ⟨w.heap.size, 0, none⟩) 1 1) (hown : w.ownsRow base 33 1 v n (flatU ys)) (hn : n ≤ 2000) (hb : base ≤ w.heap.size)
    (h : ∀ v' w', w'.ownsRow base 33 1 v' (n + 1) (flatU (ys ++ [y])) → Below base w w' → wpList Try.prog ops Q rest (a.put o.dst v') w') :
    wpList Try.prog ops Q (o :: rest) a (w.alloc (.cells #[.int .u64 y] 33)) := by
  obtain ⟨i0, hi, hz0, hz1, hz2⟩ := info_parts infoU
  refine wpList_append_own _ hgd s x 64 ho base 33 i0 _ 1 8 Try.underlying64 hi hz0 hz1 hz2 rfl (by omega) v n (flatU ys) hs (hown.alloc _) ⟨w.heap.size, 0, none⟩ 1 1 [.int .u64 y] hx rfl ?_ ?_ (by unfold maxLen; omega) (by omega) (by simp; omega) ?_
  · intro j u hj
    rw [addr_lit, Nat.zero_add, World.cell?_alloc_new]
    simpa using hj
  · intro u hu
    simp at hu
    subst hu
    rfl
  · intro v' w' h1 h2 _
    rw [show flatU ys ++ [.int .u64 y] = flatU (ys ++ [y]) by simp [flatU]] at h1
    refine h v' w' h1 (((Below.refl _ _).alloc hb _).grown h2 (by simp; omega) fun k hk => ?_)
    exact (hown.lt k hk).1
theorem rowU_rd {w : World} {base n : Nat} {v : Value} {l : List Int} (h : w.ownsRow base 33 1 v n (flatU l)) : l.length = n ∧ ∃ A c, v = .slice A n c ∧ RdU w A l := by
  have hl : l.length = n := by have := h.1; simp [flatU] at this; omega
  refine ⟨hl, ?_⟩
  rcases h.2 with ⟨rfl, rfl⟩ | ⟨g, cap, cur, rfl, hbase, hh, hnc, _⟩
  · obtain rfl : l = [] := List.eq_nil_of_length_eq_zero hl
    exact ⟨none, 0, rfl, fun k x hk => by simp at hk⟩
  · refine ⟨_, cap, rfl, fun k x hk => ⟨g, 0, rfl, ?_⟩⟩
    have hkl : k < l.length := (List.getElem?_eq_some_iff.1 hk).1
    rw [Nat.zero_add, h.cellAt _ (by omega)]
    simp only [flatU, List.getElem?_map, hk]
    rfl
/-- a new row of one key -/
theorem rowU_one (w : World) (x : Int) : (w.alloc (.cells #[.int .u64 x] 33)).ownsRow w.heap.size 33 1 (.slice (some ⟨w.heap.size, 0, none⟩) 1 1) 1 (flatU [x]) :=
  World.ownsRow_lit (e := 33) (base := w.heap.size) (size := 1) w #[.int .u64 x] 1 (Nat.le_refl _) (by unfold maxLen; omega) (by simp)
/-! ### one map and rows -/
structure Rv (W : World) (bm : Nat) (v : Value) (q : Value) (m : List Pr) : Prop where
  row : W.ownsRow 0 45 2 q m.length (flat m)
  l : Apt v q
  lm : q.ownBlock ≠ some bm
theorem Rv.below {W W' : World} {bm : Nat} {v q : Value} {m : List Pr} (h : Rv W bm v q m) (b : Below W.heap.size W W') : Rv W' bm v q m := ⟨row_below h.row b, h.l, h.lm⟩
theorem Rv.fresh {B : Nat} {w1 W W' : World} {bm : Nat} {v q : Value} {l m : List Pr} (h : Stb B w1 W bm v l) (hr : W'.ownsRow W.heap.size 45 2 q m.length (flat m)) : Rv W' bm v q m :=
  ⟨row_base hr (Nat.zero_le _), fun k hk hk2 => by have := h.m.row_lt k hk; have := row_fresh hr k hk2; omega, fun e => by have := h.m.lt; have := row_fresh hr _ e; omega⟩
theorem Rv.rd {W : World} {bm : Nat} {v q : Value} {m : List Pr} (h : Rv W bm v q m) : ∃ A c, q = .slice A m.length c ∧ m.length ≤ c ∧ Rd W A m := by
  obtain ⟨_, A, c, e, hc, rd, _⟩ := row_form h.row
  exact ⟨A, c, e, hc, rd⟩
theorem Stb.left' {B : Nat} {w1 W W' : World} {bm : Nat} {v : Value} {l l' : List Pr} {t : Value} {e : Ending} (h : Stb B w1 W bm v l) (o : Opn W bm v l' t e W') :
    ∃ v', e = .returned t ∧ Stb B w1 W' bm v' l' ∧ ∀ q m, Rv W bm v q m → Rv W' bm v' q m := by
  obtain ⟨v', he, hm', hn', hc⟩ := o
  have hb : Below B W W' := hc.below h.hm h.fv h.size
  refine ⟨v', he, ⟨hm', h.hm, fun k hk => by rcases hn' k hk with e | e; exact h.fv k e; have := h.size; omega, h.hw, h.bel.trans hb⟩, fun q m hq => ⟨?_, ?_, hq.lm⟩⟩
  · exact row_keep hq.row fun k hk => hc.block k (hq.row.lt k hk).2 (fun e => hq.lm (e ▸ hk)) fun e => hq.l k e hk
  · intro k hk hk2
    rcases hn' k hk with e | e
    · exact hq.l k e hk2
    · have := (hq.row.lt k hk2).2; omega
/-- the value of a key after a move, as the law reckons it -/
theorem mv_or {l : List Pr} (h : Asc l) (lo hi d k : Int) : getL (mvL l lo hi d) k = (if lo ≤ k - d ∧ k - d ≤ hi then getL l (k - d) else none).or (if lo ≤ k ∧ k ≤ hi then none else getL l k) := getL_mvL h lo hi d k
end Om
end Go.Proofs.Ythinaablldnikaa
