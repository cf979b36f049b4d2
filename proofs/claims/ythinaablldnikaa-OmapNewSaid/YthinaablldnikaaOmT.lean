/- Two maps side by side while calls write one of them: what a law's walk carries along. And small facts on maps before and after. No conditions beside those of each lemma. -/
import Derived.Test.YthinaablldnikaaOmJ
namespace Go.Proofs.Ythinaablldnikaa
open Go.RowKit Go.Sort
set_option linter.unusedVariables false
set_option linter.unusedSimpArgs false
namespace Om
/-- the map bm with the pairs l and the map bn with the pairs r; nothing below B has changed since w1 -/
structure Sta (B : Nat) (w1 W : World) (bm : Nat) (v : Value) (l : List Pr) (bn : Nat) (u : Value) (r : List Pr) : Prop where
  m : MapAt W bm v l
  c : MapAt W bn u r
  two : Two bm v bn u
  hm : B ≤ bm
  hn : B ≤ bn
  fv : Fresh B v
  fu : Fresh B u
  hw : B ≤ w1.heap.size
  bel : Below B w1 W
theorem Sta.size {B : Nat} {w1 W : World} {bm bn : Nat} {v u : Value} {l r : List Pr} (h : Sta B w1 W bm v l bn u r) : B ≤ W.heap.size := Nat.le_trans h.hw h.bel.size
theorem Sta.below {B : Nat} {w1 W W' : World} {bm bn : Nat} {v u : Value} {l r : List Pr} (h : Sta B w1 W bm v l bn u r) (b : Below W.heap.size W W') : Sta B w1 W' bm v l bn u r :=
  ⟨h.m.below b, h.c.below b, h.two, h.hm, h.hn, h.fv, h.fu, h.hw, h.bel.trans (b.mono h.size)⟩
theorem Sta.left {B : Nat} {w1 W W' : World} {bm bn : Nat} {v u : Value} {l l' r : List Pr} {t : Value} {e : Ending} (h : Sta B w1 W bm v l bn u r) (o : Opn W bm v l' t e W') : ∃ v', e = .returned t ∧ Sta B w1 W' bm v' l' bn u r := by
  obtain ⟨v', he, hm', hn', hc⟩ := o
  have hb : Below B W W' := hc.below h.hm h.fv h.size
  exact ⟨v', he, hm', h.c.other h.two hc, h.two.next hn' h.c.lt h.c.row_lt, h.hm, h.hn, fun k hk => by rcases hn' k hk with e | e; exact h.fv k e; have := h.size; omega, h.fu, h.hw, h.bel.trans hb⟩
theorem Sta.swap {B : Nat} {w1 W : World} {bm bn : Nat} {v u : Value} {l r : List Pr} (h : Sta B w1 W bm v l bn u r) : Sta B w1 W bn u r bm v l :=
  ⟨h.c, h.m, h.two.symm, h.hn, h.hm, h.fu, h.fv, h.hw, h.bel⟩
/-- a map of which no other one is known -/
structure Stb (B : Nat) (w1 W : World) (bm : Nat) (v : Value) (l : List Pr) : Prop where
  m : MapAt W bm v l
  hm : B ≤ bm
  fv : Fresh B v
  hw : B ≤ w1.heap.size
  bel : Below B w1 W
theorem Stb.size {B : Nat} {w1 W : World} {bm : Nat} {v : Value} {l : List Pr} (h : Stb B w1 W bm v l) : B ≤ W.heap.size := Nat.le_trans h.hw h.bel.size
theorem Stb.below {B : Nat} {w1 W W' : World} {bm : Nat} {v : Value} {l : List Pr} (h : Stb B w1 W bm v l) (b : Below W.heap.size W W') : Stb B w1 W' bm v l :=
  ⟨h.m.below b, h.hm, h.fv, h.hw, h.bel.trans (b.mono h.size)⟩
theorem Stb.left {B : Nat} {w1 W W' : World} {bm : Nat} {v : Value} {l l' : List Pr} {t : Value} {e : Ending} (h : Stb B w1 W bm v l) (o : Opn W bm v l' t e W') : ∃ v', e = .returned t ∧ Stb B w1 W' bm v' l' := by
  obtain ⟨v', he, hm', hn', hc⟩ := o
  have hb : Below B W W' := hc.below h.hm h.fv h.size
  exact ⟨v', he, hm', h.hm, fun k hk => by rcases hn' k hk with e | e; exact h.fv k e; have := h.size; omega, h.hw, h.bel.trans hb⟩
theorem Stb.start {B : Nat} {w1 W : World} {l : List Pr} {e : Ending} (hw : B ≤ w1.heap.size) (hB : B = w1.heap.size) (h : CpPost w1 l e W) : ∃ bm v, e = .returned (.pointer (some ⟨bm, 0, none⟩)) ∧ Stb B w1 W bm v l := by
  obtain ⟨bm, v, he, hm, hb, hf, b⟩ := h
  subst hB
  exact ⟨bm, v, he, hm, hb, hf, hw, b⟩
/-- another map made beside it -/
theorem Stb.more {B : Nat} {w1 W W' : World} {bm : Nat} {v : Value} {l r : List Pr} {e : Ending} (h : Stb B w1 W bm v l) (o : CpPost W r e W') : ∃ bn u, e = .returned (.pointer (some ⟨bn, 0, none⟩)) ∧ Sta B w1 W' bm v l bn u r := by
  obtain ⟨bn, u, he, hm', hb, hf, b⟩ := o
  have hlt := h.m.lt
  have hrl := h.m.row_lt
  have h' := h.below b
  exact ⟨bn, u, he, h'.m, hm', ⟨by omega, fun e => by have := hrl _ e; omega, fun e => by have := hf _ e; omega, fun k hk hk2 => by have := hrl k hk; have := hf k hk2; omega⟩, h.hm, Nat.le_trans h.size hb, h.fv, fun k hk => Nat.le_trans h.size (hf k hk), h.hw, h'.bel⟩
/-! ### facts -/
theorem outL_get_self {l : List Pr} (h : Asc l) (k : Int) : getL (outL l k k) k = none := by rw [getL_outL h, if_pos (by omega)]
theorem outL_asc {l : List Pr} (h : Asc l) (a b : Int) : Asc (outL l a b) := h.filter _
theorem set_out {l : List Pr} (h : Asc l) {k x : Int} (hg : getL l k = some x) : setL (outL l k k) (k, x) = l :=
  asc_get (setL_asc (outL_asc h k k) _) h fun q => by
    rw [getL_setL (outL_asc h k k), getL_outL h]
    by_cases e : q = k
    · subst e; rw [if_pos rfl, hg]
    · rw [if_neg e, if_neg (by omega)]
theorem out_set {l : List Pr} (h : Asc l) {k : Int} (x : Int) (hg : getL l k = none) : outL (setL l (k, x)) k k = l :=
  asc_get (outL_asc (setL_asc h _) k k) h fun q => by
    rw [getL_outL (setL_asc h _), getL_setL h]
    by_cases e : q = k
    · subst e; rw [if_pos (by omega), hg]
    · rw [if_neg (by omega), if_neg e]
theorem out_len {l : List Pr} (h : Asc l) {k x : Int} (hg : getL l k = some x) : (outL l k k).length + 1 = l.length := by
  have h1 := in_out_len l k k
  have h2 : inL l k k = [(k, x)] := asc_get (h.filter _) (by simp [Asc]) fun q => by
    rw [getL_inL h]
    by_cases e : q = k
    · subst e; rw [if_pos (by omega), hg]; simp [getL]
    · rw [if_neg (by omega)]; simp [getL]; omega
  rw [h2] at h1
  simp at h1
  omega
theorem set_len {l : List Pr} (h : Asc l) {k : Int} (x : Int) (hg : getL l k = none) : (setL l (k, x)).length = l.length + 1 := by
  have h1 := out_len (setL_asc h (k, x)) (k := k) (x := x) (by rw [getL_setL h, if_pos rfl])
  rw [out_set h x hg] at h1
  omega
theorem ne_of_get {l r : List Pr} (k : Int) (h : getL l k ≠ getL r k) : decide (l = r) = false := decide_eq_false fun e => h (by rw [e])
theorem setL_bd {l : List Pr} (h : Bd l) {p : Pr} (hp : 0 ≤ p.1 ∧ p.1 ≤ 18446744073709551615 ∧ 0 ≤ p.2 ∧ p.2 ≤ 18446744073709551615) : Bd (setL l p) := fun x hx => by
  rcases (mem_setL l p x).1 hx with rfl | ⟨h', _⟩
  · exact hp
  · exact h x h'
theorem outL_bd {l : List Pr} (h : Bd l) (a b : Int) : Bd (outL l a b) := fun x hx => h x (List.mem_filter.1 hx).1
/-! ### rows that were handed out -/
/-- a row with the pairs m that shares no block with the two maps -/
structure Rw (W : World) (bm : Nat) (v : Value) (bn : Nat) (u : Value) (q : Value) (m : List Pr) : Prop where
  row : W.ownsRow 0 45 2 q m.length (flat m)
  l : Apt v q
  r : Apt u q
  lm : q.ownBlock ≠ some bm
  rn : q.ownBlock ≠ some bn
theorem Rw.below {W W' : World} {bm bn : Nat} {v u q : Value} {m : List Pr} (h : Rw W bm v bn u q m) (b : Below W.heap.size W W') : Rw W' bm v bn u q m :=
  ⟨row_below h.row b, h.l, h.r, h.lm, h.rn⟩
theorem Rw.swap {W : World} {bm bn : Nat} {v u q : Value} {m : List Pr} (h : Rw W bm v bn u q m) : Rw W bn u bm v q m := ⟨h.row, h.r, h.l, h.rn, h.lm⟩
theorem Rw.fresh {B : Nat} {w1 W W' : World} {bm bn : Nat} {v u q : Value} {l r m : List Pr} (h : Sta B w1 W bm v l bn u r) (hr : W'.ownsRow W.heap.size 45 2 q m.length (flat m)) : Rw W' bm v bn u q m :=
  ⟨row_base hr (Nat.zero_le _), fun k hk hk2 => by have := h.m.row_lt k hk; have := row_fresh hr k hk2; omega, fun k hk hk2 => by have := h.c.row_lt k hk; have := row_fresh hr k hk2; omega,
    fun e => by have := h.m.lt; have := row_fresh hr _ e; omega, fun e => by have := h.c.lt; have := row_fresh hr _ e; omega⟩
theorem Rw.rd {W : World} {bm bn : Nat} {v u q : Value} {m : List Pr} (h : Rw W bm v bn u q m) : ∃ A c, q = .slice A m.length c ∧ m.length ≤ c ∧ Rd W A m := by
  obtain ⟨_, A, c, e, hc, rd, _⟩ := row_form h.row
  exact ⟨A, c, e, hc, rd⟩
/-- a call that writes the left map -/
theorem Sta.left' {B : Nat} {w1 W W' : World} {bm bn : Nat} {v u : Value} {l l' r : List Pr} {t : Value} {e : Ending} (h : Sta B w1 W bm v l bn u r) (o : Opn W bm v l' t e W') :
    ∃ v', e = .returned t ∧ Sta B w1 W' bm v' l' bn u r ∧ ∀ q m, Rw W bm v bn u q m → Rw W' bm v' bn u q m := by
  have o' := o
  obtain ⟨v', he, hm', hn', hc⟩ := o
  have hb : Below B W W' := hc.below h.hm h.fv h.size
  refine ⟨v', he, ⟨hm', h.c.other h.two hc, h.two.next hn' h.c.lt h.c.row_lt, h.hm, h.hn, fun k hk => by rcases hn' k hk with e | e; exact h.fv k e; have := h.size; omega, h.fu, h.hw, h.bel.trans hb⟩, fun q m hq => ⟨?_, ?_, hq.r, hq.lm, hq.rn⟩⟩
  · exact row_keep hq.row fun k hk => hc.block k (hq.row.lt k hk).2 (fun e => hq.lm (e ▸ hk)) fun e => hq.l k e hk
  · intro k hk hk2
    rcases hn' k hk with e | e
    · exact hq.l k e hk2
    · have := (hq.row.lt k hk2).2; omega
theorem mv_get {l : List Pr} (h : Asc l) {lo hi d k x : Int} (h1 : lo ≤ k) (h2 : k ≤ hi) (hg : getL l k = some x) : getL (mvL l lo hi d) (k + d) = some x := by
  rw [getL_mvL h, show k + d - d = k by omega, if_pos ⟨h1, h2⟩, hg]; rfl
theorem shL_bd {l : List Pr} {lo hi d : Int} (h : Bd l) (hd : 0 ≤ d) (hh : hi + d ≤ 18446744073709551615) : Bd (mvL l lo hi d) := fun x hx => by
  rcases mem_setA _ _ x hx with h' | h'
  · exact h x (List.mem_filter.1 h').1
  · obtain ⟨y, hy, rfl⟩ := List.mem_map.1 h'
    obtain ⟨hy1, hy2, hy3⟩ := in_mem hy
    obtain ⟨q0, q1, q2, q3⟩ := h y hy1
    exact ⟨by show 0 ≤ y.1 + d; omega, by show y.1 + d ≤ _; omega, q2, q3⟩
end Om
end Go.Proofs.Ythinaablldnikaa
