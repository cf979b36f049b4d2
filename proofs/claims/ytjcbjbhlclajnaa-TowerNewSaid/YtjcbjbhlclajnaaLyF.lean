/- Package layout: the state of a layout that is being laid out; the closure that places a group: contracts of the translated code. No conditions beside those of each lemma. -/
import Derived.Test.YtjcbjbhlclajnaaLyE
import Derived.Deep.RegionLaw
import Derived.Deep.AppendLies
import Derived.Deep.CutRange
namespace Go.Proofs.Ytjcbjbhlclajnaa
open Go.RowKit Go.Sort
set_option linter.unusedVariables false
set_option linter.unusedSimpArgs false
set_option maxRecDepth 100000
namespace Ly
open Dm (RdK BdU dmB dmE dmN bel_alloc bel_trans cell_lt)
def upd {α : Type} (p : Nat → α) (i : Nat) (v : α) : Nat → α := fun j => if j = i then v else p j
theorem upd_at {α : Type} (p : Nat → α) (i : Nat) (v : α) : upd p i v i = v := by simp [upd]
theorem upd_ne {α : Type} {p : Nat → α} {i j : Nat} {v : α} (h : j ≠ i) : upd p i v j = p j := by simp [upd, h]
/-- a layout in the block b that is being laid out; bp and bl are the boxes of its places and of itself -/
structure Ps (w00 : World) (N0 b bp bl bc base : Nat) (f : Cf) (w : World) (p : Nat → Int) (gl : List Gx) (lk hd : Gx) (tw : Nat → Gx) : Prop where
  cf : CfB w b f
  pl : ∀ i, i < 10 → w.cell? ⟨b, 16 + i, none⟩ = some (.int .i64 (p i))
  lk : KG.At w b 27 lk
  hd : KG.At w b 32 hd
  tw : ∀ i, i < 6 → KG.At w b (37 + i * 5) (tw i)
  fz : ∀ j, w.frozen? ⟨b, j, none⟩ = false
  gr : ∃ gv, w.cell? ⟨b, 26, none⟩ = some gv ∧ w.ownsRow base KG.E KG.sz gv gl.length (KG.flat gl)
  xp : w.cell? ⟨bp, 0, none⟩ = some (.pointer (some ⟨b, 16, none⟩))
  xl : w.cell? ⟨bl, 0, none⟩ = some (.pointer (some ⟨b, 0, none⟩))
  o1 : b < base
  o2 : bp < base
  o3 : bl < base
  o4 : b ≠ bp
  o5 : b ≠ bl
  o6 : base ≤ w.heap.size
  o7 : N0 ≤ b
  bel : Below N0 w00 w
  oc : bc < base
  oc2 : b ≠ bc
  cc : CfB w bc f
theorem CfB.cong {w w' : World} {b : Nat} {f : Cf} (g : CfB w b f) (k : ∀ j, j < 16 → w'.cell? ⟨b, j, none⟩ = w.cell? ⟨b, j, none⟩) : CfB w' b f :=
  ⟨(k 0 (by omega)).trans g.c0, (k 1 (by omega)).trans g.c1, (k 2 (by omega)).trans g.c2, (k 3 (by omega)).trans g.c3, (k 4 (by omega)).trans g.c4, (k 5 (by omega)).trans g.c5, (k 6 (by omega)).trans g.c6, (k 7 (by omega)).trans g.c7, (k 8 (by omega)).trans g.c8, (k 9 (by omega)).trans g.c9, (k 10 (by omega)).trans g.c10, (k 11 (by omega)).trans g.c11, (k 12 (by omega)).trans g.c12, (k 13 (by omega)).trans g.c13, (k 14 (by omega)).trans g.c14, (k 15 (by omega)).trans g.c15⟩
theorem at_keep {w w' : World} {b o : Nat} {x : Gx} (h : KG.At w b o x) (hk : ∀ j, j < 5 → w'.cell? ⟨b, o + j, none⟩ = w.cell? ⟨b, o + j, none⟩) : KG.At w' b o x := fun j u hj => by
  have hlt : j < 5 := (List.getElem?_eq_some_iff.1 hj).1
  rw [hk j hlt]; exact h j u hj
section
variable {w00 w : World} {N0 b bp bl bc base : Nat} {f : Cf} {p : Nat → Int} {gl : List Gx} {lk hd : Gx} {tw : Nat → Gx}
/-- worlds that agree in all that was there -/
theorem Ps.below {w' : World} (h : Ps w00 N0 b bp bl bc base f w p gl lk hd tw) (hb : Below w.heap.size w w') : Ps w00 N0 b bp bl bc base f w' p gl lk hd tw := by
  have hlt : b < w.heap.size := Nat.lt_of_lt_of_le h.o1 h.o6
  have k : ∀ j, w'.cell? ⟨b, j, none⟩ = w.cell? ⟨b, j, none⟩ := fun j => hb.cell (p := ⟨b, j, none⟩) hlt
  refine ⟨h.cf.below hb, fun i hi => (k _).trans (h.pl i hi), at_keep h.lk fun j _ => k _, at_keep h.hd fun j _ => k _, fun i hi => at_keep (h.tw i hi) fun j _ => k _, fun j => (hb.frozen (p := ⟨b, j, none⟩) hlt).trans (h.fz j), ?_, (hb.cell (p := ⟨bp, 0, none⟩) (Nat.lt_of_lt_of_le h.o2 h.o6)).trans h.xp, (hb.cell (p := ⟨bl, 0, none⟩) (Nat.lt_of_lt_of_le h.o3 h.o6)).trans h.xl, h.o1, h.o2, h.o3, h.o4, h.o5, Nat.le_trans h.o6 hb.size, h.o7, ?_, h.oc, h.oc2, h.cc.below hb⟩
  · obtain ⟨gv, h1, h2⟩ := h.gr
    exact ⟨gv, (k _).trans h1, KG.own_keep h2 fun g hg => hb.block g (h2.lt g hg).2⟩
  · exact h.bel.trans (hb.mono (Nat.le_trans h.o7 (Nat.le_trans (Nat.le_of_lt h.o1) h.o6)))
/-- one cell of the block is written -/
theorem cell_set {w : World} {b i j : Nat} {v : Value} (h : i ≠ j) : (w.setCell ⟨b, i, none⟩ v).cell? ⟨b, j, none⟩ = w.cell? ⟨b, j, none⟩ := World.cell?_setCell_other _ _ _ _ (fun e => h (by cases e; rfl))
theorem cell_set_b {w : World} {b b' i j : Nat} {v : Value} (h : b ≠ b') : (w.setCell ⟨b, i, none⟩ v).cell? ⟨b', j, none⟩ = w.cell? ⟨b', j, none⟩ := World.cell?_setCell_other _ _ _ _ (fun e => h (by cases e; rfl))
theorem CfB.set {w : World} {b i : Nat} {f : Cf} {v : Value} (h : CfB w b f) (hi : 16 ≤ i) : CfB (w.setCell ⟨b, i, none⟩ v) b f := by
  have k : ∀ j, j < 16 → (w.setCell ⟨b, i, none⟩ v).cell? ⟨b, j, none⟩ = w.cell? ⟨b, j, none⟩ := fun j hj => cell_set (by omega)
  exact ⟨(k 0 (by omega)).trans h.c0, (k 1 (by omega)).trans h.c1, (k 2 (by omega)).trans h.c2, (k 3 (by omega)).trans h.c3, (k 4 (by omega)).trans h.c4, (k 5 (by omega)).trans h.c5, (k 6 (by omega)).trans h.c6, (k 7 (by omega)).trans h.c7, (k 8 (by omega)).trans h.c8, (k 9 (by omega)).trans h.c9, (k 10 (by omega)).trans h.c10, (k 11 (by omega)).trans h.c11, (k 12 (by omega)).trans h.c12, (k 13 (by omega)).trans h.c13, (k 14 (by omega)).trans h.c14, (k 15 (by omega)).trans h.c15⟩
theorem row_set {w : World} {base b i n : Nat} {gv v : Value} {xs : List Value} (h : w.ownsRow base KG.E KG.sz gv n xs) (hb : b < base) : (w.setCell ⟨b, i, none⟩ v).ownsRow base KG.E KG.sz gv n xs :=
  KG.own_keep h fun g hg => Below.heap_setCell _ _ _ _ (by have := (h.lt g hg).1; simp; omega)
theorem Ps.setP (h : Ps w00 N0 b bp bl bc base f w p gl lk hd tw) {i : Nat} (hi : i < 10) (v : Int) : Ps w00 N0 b bp bl bc base f (w.setCell ⟨b, 16 + i, none⟩ (.int .i64 v)) (upd p i v) gl lk hd tw := by
  refine ⟨h.cf.set (by omega), fun j hj => ?_, at_keep h.lk fun j hj => cell_set (by omega), at_keep h.hd fun j hj => cell_set (by omega), fun q hq => at_keep (h.tw q hq) fun j hj => cell_set (by omega), fun j => by rw [World.frozen?_setCell]; exact h.fz j, ?_, by rw [cell_set_b h.o4]; exact h.xp, by rw [cell_set_b h.o5]; exact h.xl, h.o1, h.o2, h.o3, h.o4, h.o5, by simpa using h.o6, h.o7, h.bel.setCell (p := ⟨b, 16 + i, none⟩) h.o7 _, h.oc, h.oc2, h.cc.cong fun j _ => cell_set_b h.oc2⟩
  · by_cases e : j = i
    · subst e
      rw [upd_at]; exact World.cell?_setCell_same _ _ _ (h.pl j hj)
    · rw [upd_ne e, cell_set (by omega)]; exact h.pl j hj
  · obtain ⟨gv, h1, h2⟩ := h.gr
    exact ⟨gv, by rw [cell_set (by omega)]; exact h1, row_set h2 h.o1⟩
theorem Ps.setG (h : Ps w00 N0 b bp bl bc base f w p gl lk hd tw) {gv : Value} {gl' : List Gx} (hr : w.ownsRow base KG.E KG.sz gv gl'.length (KG.flat gl')) : Ps w00 N0 b bp bl bc base f (w.setCell ⟨b, 26, none⟩ gv) p gl' lk hd tw := by
  refine ⟨h.cf.set (by omega), fun j hj => by rw [cell_set (by omega)]; exact h.pl j hj, at_keep h.lk fun j hj => cell_set (by omega), at_keep h.hd fun j hj => cell_set (by omega), fun q hq => at_keep (h.tw q hq) fun j hj => cell_set (by omega), fun j => by rw [World.frozen?_setCell]; exact h.fz j, ?_, by rw [cell_set_b h.o4]; exact h.xp, by rw [cell_set_b h.o5]; exact h.xl, h.o1, h.o2, h.o3, h.o4, h.o5, by simpa using h.o6, h.o7, h.bel.setCell (p := ⟨b, 26, none⟩) h.o7 _, h.oc, h.oc2, h.cc.cong fun j _ => cell_set_b h.oc2⟩
  obtain ⟨gv0, h1, h2⟩ := h.gr
  exact ⟨gv, World.cell?_setCell_same _ _ _ h1, row_set hr h.o1⟩
theorem Ps.congr (h : Ps w00 N0 b bp bl bc base f w p gl lk hd tw) {p' : Nat → Int} (hp : ∀ i, i < 10 → p i = p' i) {tw' : Nat → Gx} (ht : ∀ i, i < 6 → tw i = tw' i) : Ps w00 N0 b bp bl bc base f w p' gl lk hd tw' :=
  ⟨h.cf, fun i hi => by rw [← hp i hi]; exact h.pl i hi, h.lk, h.hd, fun i hi => by rw [← ht i hi]; exact h.tw i hi, h.fz, h.gr, h.xp, h.xl, h.o1, h.o2, h.o3, h.o4, h.o5, h.o6, h.o7, h.bel, h.oc, h.oc2, h.cc⟩
theorem enc_grp (x : Gx) : KG.enc x = [.int .u8 x.1.k, .int .i64 (x.1.i : Nat), .int .i64 (x.1.n : Nat), .int .i64 (x.1.s : Nat), .int .i64 (x.2 : Nat)] := rfl
/-- a group is written at the cell o -/
def put5 (w : World) (b o : Nat) (x : Gx) : World := w.setCells b o (KG.enc x)
theorem put5_out {w : World} {b o j : Nat} {x : Gx} (h : j < o ∨ o + 5 ≤ j) : (put5 w b o x).cell? ⟨b, j, none⟩ = w.cell? ⟨b, j, none⟩ := World.cell?_setCells_out b _ o w ⟨b, j, none⟩ (fun _ _ => h)
theorem put5_other {w : World} {b b' o j : Nat} {x : Gx} (h : b ≠ b') : (put5 w b o x).cell? ⟨b', j, none⟩ = w.cell? ⟨b', j, none⟩ := World.cell?_setCells_out b _ o w ⟨b', j, none⟩ (fun e _ => absurd e.symm h)
theorem put5_in {w : World} {b o : Nat} {x y : Gx} (h : KG.At w b o y) : KG.At (put5 w b o x) b o x := fun j u hj => by
  obtain ⟨hlt, e⟩ := List.getElem?_eq_some_iff.1 hj
  have hlt5 : j < 5 := hlt
  rw [put5, World.cell?_setCells_in b _ o w (fun i hi => by
    have hi5 : i < (KG.enc y).length := hi
    rw [h i _ (List.getElem?_eq_getElem hi5)]; rfl) j hlt, e]
theorem Ps.putAny (h : Ps w00 N0 b bp bl bc base f w p gl lk hd tw) {o : Nat} (ho : 27 ≤ o) (x : Gx) {lk' hd' : Gx} {tw' : Nat → Gx} (h1 : KG.At (put5 w b o x) b 27 lk') (h2 : KG.At (put5 w b o x) b 32 hd') (h3 : ∀ i, i < 6 → KG.At (put5 w b o x) b (37 + i * 5) (tw' i)) : Ps w00 N0 b bp bl bc base f (put5 w b o x) p gl lk' hd' tw' := by
  have k : ∀ j, j < 27 → (put5 w b o x).cell? ⟨b, j, none⟩ = w.cell? ⟨b, j, none⟩ := fun j hj => put5_out (by omega)
  refine ⟨?_, fun j hj => by rw [k _ (by omega)]; exact h.pl j hj, h1, h2, h3, fun j => by rw [put5, World.frozen?_setCells]; exact h.fz j, ?_, by rw [put5_other h.o4]; exact h.xp, by rw [put5_other h.o5]; exact h.xl, h.o1, h.o2, h.o3, h.o4, h.o5, by rw [put5, size_setCells]; exact h.o6, h.o7, below_setCells h.bel h.o7 _ _, h.oc, h.oc2, h.cc.cong fun j _ => put5_other h.oc2⟩
  · have g := h.cf
    exact ⟨(k 0 (by omega)).trans g.c0, (k 1 (by omega)).trans g.c1, (k 2 (by omega)).trans g.c2, (k 3 (by omega)).trans g.c3, (k 4 (by omega)).trans g.c4, (k 5 (by omega)).trans g.c5, (k 6 (by omega)).trans g.c6, (k 7 (by omega)).trans g.c7, (k 8 (by omega)).trans g.c8, (k 9 (by omega)).trans g.c9, (k 10 (by omega)).trans g.c10, (k 11 (by omega)).trans g.c11, (k 12 (by omega)).trans g.c12, (k 13 (by omega)).trans g.c13, (k 14 (by omega)).trans g.c14, (k 15 (by omega)).trans g.c15⟩
  · obtain ⟨gv, q1, q2⟩ := h.gr
    exact ⟨gv, (k 26 (by omega)).trans q1, KG.own_keep q2 fun g hg => block_setCells _ _ _ _ _ (by have := (q2.lt g hg).1; have := h.o1; omega)⟩
theorem Ps.setLk (h : Ps w00 N0 b bp bl bc base f w p gl lk hd tw) (x : Gx) : Ps w00 N0 b bp bl bc base f (put5 w b 27 x) p gl x hd tw :=
  h.putAny (Nat.le_refl _) x (put5_in h.lk) (at_keep h.hd fun j hj => put5_out (by omega)) fun i hi => at_keep (h.tw i hi) fun j hj => put5_out (by omega)
theorem Ps.setHd (h : Ps w00 N0 b bp bl bc base f w p gl lk hd tw) (x : Gx) : Ps w00 N0 b bp bl bc base f (put5 w b 32 x) p gl lk x tw :=
  h.putAny (by omega) x (at_keep h.lk fun j hj => put5_out (by omega)) (put5_in h.hd) fun i hi => at_keep (h.tw i hi) fun j hj => put5_out (by omega)
theorem Ps.setTw (h : Ps w00 N0 b bp bl bc base f w p gl lk hd tw) {q : Nat} (hq : q < 6) (x : Gx) : Ps w00 N0 b bp bl bc base f (put5 w b (37 + q * 5) x) p gl lk hd (upd tw q x) :=
  h.putAny (by omega) x (at_keep h.lk fun j hj => put5_out (by omega)) (at_keep h.hd fun j hj => put5_out (by omega)) fun i hi => by
    by_cases e : i = q
    · subst e; rw [upd_at]; exact put5_in (h.tw i hi)
    · rw [upd_ne e]; exact at_keep (h.tw i hi) fun j hj => put5_out (by omega)
end
/-- 'append(l, a)' onto a row of one's own, in a region that draws -/
theorem stepG {ops : Array Oper} {o : Oper} {a : Act} {K : Act → World → Prop} {Q : Exit → Act → World → Prop} {E : Prop} (hgd : o.guard = none) (s x : Operand)
    (ho : o.op = .call { callee := .builtin .append, args := #[s, x], argTypes := #[136, 136] }) (W : World) (base H : Nat) (v : Value) (ys : List Gx) (y : Gx)
    (hs : a.eval s = v) (hx : a.eval x = .slice (some ⟨H, 0, none⟩) 1 1) (hb : W.heap[H]? = some (.cells #[.int .u8 y.1.k, .int .i64 (y.1.i : Nat), .int .i64 (y.1.n : Nat), .int .i64 (y.1.s : Nat), .int .i64 (y.2 : Nat)] 138 (0, 0))) (hown : W.ownsRow base KG.E KG.sz v ys.length (KG.flat ys)) (hn : ys.length ≤ 50000) (hbs : base ≤ W.heap.size)
    (h : ∀ g cap w', w'.ownsRow base KG.E KG.sz (.slice (some ⟨g, 0, none⟩) (ys.length + 1) cap) (ys.length + 1) (KG.flat (ys ++ [y])) → W.grownBy w' v.ownBlock → (v.ownBlock = some g ∨ g = W.heap.size) → K (a.put o.dst (.slice (some ⟨g, 0, none⟩) (ys.length + 1) cap)) w') :
    if Region.wanted o (yielded ops a.tmps) = true then Oper.wp Try.prog o a W K Q else E := by
  obtain ⟨i0, z, hi, hz0, hzs, hz1, hz2⟩ := KG.info
  refine step_append_lies _ hgd s x 136 ho base KG.E i0 z KG.sz KG.bt Try.underlying136 hi hz0 hz1 hz2 hzs KG.pos v ys.length (KG.flat ys) hs hown ⟨H, 0, none⟩ 1 1 (KG.enc y) hx rfl
    (World.news_of_block hb) ?_ (by omega) (by unfold maxLen; omega) (by have : KG.bt = 40 := rfl; rw [this]; omega) hbs _ rfl ?_
  · exact KG.one y
  · intro g cap w' h1 h2 h3 _
    rw [show KG.flat ys ++ KG.enc y = KG.flat (ys ++ [y]) by rw [KG.flat_append, KG.flat_one]] at h1
    exact h g cap w' h1 h2 h3
theorem Ps.remade {w00 w w' : World} {N0 b bp bl bc base : Nat} {f : Cf} {p : Nat → Int} {gl gl' : List Gx} {lk hd : Gx} {tw : Nat → Gx} {v : Int} {gv : Value} (h : Ps w00 N0 b bp bl bc base f w p gl lk hd tw)
    (hk : ∀ j, j ≠ 25 → j ≠ 26 → w'.cell? ⟨b, j, none⟩ = w.cell? ⟨b, j, none⟩) (h25 : w'.cell? ⟨b, 25, none⟩ = some (.int .i64 v)) (h26 : w'.cell? ⟨b, 26, none⟩ = some gv) (hr : w'.ownsRow base KG.E KG.sz gv gl'.length (KG.flat gl'))
    (hp : w'.cell? ⟨bp, 0, none⟩ = w.cell? ⟨bp, 0, none⟩) (hl : w'.cell? ⟨bl, 0, none⟩ = w.cell? ⟨bl, 0, none⟩) (hf : ∀ j, w'.frozen? ⟨b, j, none⟩ = w.frozen? ⟨b, j, none⟩) (hb : Below N0 w w') (hcc : ∀ j, w'.cell? ⟨bc, j, none⟩ = w.cell? ⟨bc, j, none⟩) : Ps w00 N0 b bp bl bc base f w' (upd p 9 v) gl' lk hd tw := by
  have g := h.cf
  refine ⟨⟨(hk 0 (by omega) (by omega)).trans g.c0, (hk 1 (by omega) (by omega)).trans g.c1, (hk 2 (by omega) (by omega)).trans g.c2, (hk 3 (by omega) (by omega)).trans g.c3, (hk 4 (by omega) (by omega)).trans g.c4, (hk 5 (by omega) (by omega)).trans g.c5, (hk 6 (by omega) (by omega)).trans g.c6, (hk 7 (by omega) (by omega)).trans g.c7, (hk 8 (by omega) (by omega)).trans g.c8, (hk 9 (by omega) (by omega)).trans g.c9, (hk 10 (by omega) (by omega)).trans g.c10, (hk 11 (by omega) (by omega)).trans g.c11, (hk 12 (by omega) (by omega)).trans g.c12, (hk 13 (by omega) (by omega)).trans g.c13, (hk 14 (by omega) (by omega)).trans g.c14, (hk 15 (by omega) (by omega)).trans g.c15⟩, fun i hi => ?_, at_keep h.lk fun j hj => hk _ (by omega) (by omega), at_keep h.hd fun j hj => hk _ (by omega) (by omega), fun i hi => at_keep (h.tw i hi) fun j hj => hk _ (by omega) (by omega), fun j => (hf j).trans (h.fz j), ⟨gv, h26, hr⟩, hp.trans h.xp, hl.trans h.xl, h.o1, h.o2, h.o3, h.o4, h.o5, Nat.le_trans h.o6 hb.size, h.o7, h.bel.trans hb, h.oc, h.oc2, h.cc.cong fun j _ => hcc j⟩
  by_cases e : i = 9
  · subst e; rw [upd_at]; exact h25
  · rw [upd_ne e, hk _ (by omega) (by omega)]; exact h.pl i hi
/-- what the closure leaves -/
def PlacePost (w00 : World) (N0 b bp bl bc base : Nat) (f : Cf) (p : Nat → Int) (gl : List Gx) (lk hd : Gx) (tw : Nat → Gx) (k : Int) (i n s P : Nat) (e : Ending) (w' : World) : Prop :=
  e = .returned (.agg #[.int .u8 k, .int .i64 (i : Nat), .int .i64 (n : Nat), .int .i64 (s : Nat), .int .i64 (P : Nat)]) ∧ Ps w00 N0 b bp bl bc base f w' (upd p 9 ((P + n * s : Nat) : Int)) (gl ++ [(⟨k, i, n, s⟩, P)]) lk hd tw
theorem place_fin {k : Int} {i n s P m : Nat} {w00 w W w1 : World} {N0 b bp bl bc base g cap : Nat} {f : Cf} {p : Nat → Int} {gl : List Gx} {lk hd : Gx} {tw : Nat → Gx} {gv' : Value} (H : Ps w00 N0 b bp bl bc base f w p gl lk hd tw)
    (cg : w.cell? ⟨b, 26, none⟩ = some gv') (c9 : w.cell? ⟨b, 25, none⟩ = some (.int .i64 (P : Int))) (BB : Below w.heap.size w W) (SZ : W.heap.size = w.heap.size + 3) (hv : ∀ q, gv'.ownBlock = some q → base ≤ q ∧ q < w.heap.size)
    (own1 : w1.ownsRow base KG.E KG.sz (.slice (some ⟨g, 0, none⟩) (gl.length + 1) cap) (gl.length + 1) (KG.flat (gl ++ [(⟨k, i, n, s⟩, P)]))) (grow1 : W.grownBy w1 gv'.ownBlock) (at1 : gv'.ownBlock = some g ∨ g = W.heap.size) :
    Ps w00 N0 b bp bl bc base f (((w1.setCell ⟨b, 26, none⟩ (.slice (some ⟨g, 0, none⟩) (gl.length + 1) cap)).setCell ⟨b, 25, none⟩ (.int .i64 ((P : Int) + (m : Int)))).setCells w.heap.size 0 [.int .u8 k, .int .i64 (i : Nat), .int .i64 (n : Nat), .int .i64 (s : Nat), .int .i64 (P : Nat)]) (upd p 9 ((P + m : Nat) : Int)) (gl ++ [(⟨k, i, n, s⟩, P)]) lk hd tw := by
  have ob := H.o1
  have obp := H.o2
  have obl := H.o3
  have o6 := H.o6
  have hbW : Below base W w1 := ⟨grow1.os, grow1.tape, grow1.output, grow1.size, fun q hq => grow1.block q (by rw [SZ]; omega) fun e => by have := (hv _ e.symm).1; omega⟩
  have hb1 : Below base w w1 := (BB.mono o6).trans hbW
  have hsz1 : w.heap.size + 3 ≤ w1.heap.size := by have := grow1.size; rw [SZ] at this; exact this
  have hgb : g ≠ w.heap.size ∧ g ≠ b ∧ base ≤ g := by
    rcases at1 with e | e
    · have := hv _ e; exact ⟨by omega, by omega, this.1⟩
    · rw [SZ] at e; exact ⟨by omega, by omega, by omega⟩
  have hw1 : ∀ j, w1.cell? ⟨b, j, none⟩ = w.cell? ⟨b, j, none⟩ := fun j => hb1.cell (p := ⟨b, j, none⟩) ob
  generalize hvs : ([.int .u8 k, .int .i64 (i : Nat), .int .i64 (n : Nat), .int .i64 (s : Nat), .int .i64 (P : Nat)] : List Value) = vs
  obtain ⟨gv, hgv⟩ : ∃ gv, gv = Value.slice (some ⟨g, 0, none⟩) (gl.length + 1) cap := ⟨_, rfl⟩
  have hgo : ∀ q, gv.ownBlock = some q → q = g := fun q hq => by
    subst hgv
    simp [Value.ownBlock] at hq
    omega
  have hln : (gl ++ [((⟨k, i, n, s⟩ : G), P)]).length = gl.length + 1 := by simp
  rw [← hgv] at own1 ⊢
  rw [← hln] at own1
  clear hgv
  generalize gl ++ [((⟨k, i, n, s⟩ : G), P)] = gl' at own1 ⊢
  obtain ⟨w2, hw2⟩ : ∃ w2, w2 = (w1.setCell ⟨b, 26, none⟩ gv).setCell ⟨b, 25, none⟩ (.int .i64 ((P : Int) + (m : Int))) := ⟨_, rfl⟩
  have hblk : ∀ q, q ≠ b → q ≠ w.heap.size → (w2.setCells w.heap.size 0 vs).heap[q]? = w1.heap[q]? := fun q h1 h2 => by
    rw [block_setCells _ _ _ _ _ h2, hw2, Below.heap_setCell _ _ _ _ h1, Below.heap_setCell _ _ _ _ h1]
  have hcb : ∀ j, (w2.setCells w.heap.size 0 vs).cell? ⟨b, j, none⟩ = w2.cell? ⟨b, j, none⟩ := fun j => World.cell?_setCells_out _ _ _ _ _ (fun e _ => by simp only at e; omega)
  have hN : N0 ≤ b := H.o7
  rw [← hw2]
  refine H.remade (v := ((P + m : Nat) : Int)) (gv := gv) (fun j h1 h2 => ?_) ?_ ?_ (KG.own_keep own1 fun q hq => ?_) ?_ ?_ (fun j => ?_) ?_ (fun j => ?_)
  · rw [hcb, hw2, cell_set (fun e => h1 e.symm), cell_set (fun e => h2 e.symm), hw1]
  · rw [hcb, hw2, World.cell?_setCell_same _ _ _ ((cell_set (by omega)).trans ((hw1 25).trans c9))]
    rw [show (P : Int) + (m : Int) = ((P + m : Nat) : Int) by omega]
  · rw [hcb, hw2, cell_set (by omega)]; exact World.cell?_setCell_same _ _ _ ((hw1 26).trans cg)
  · rw [hgo q hq]; exact hblk _ hgb.2.1 hgb.1
  · rw [World.cell?_of_block (a := ⟨bp, 0, none⟩) (hblk bp (fun e => H.o4 e.symm) (by omega))]; exact hb1.cell (p := ⟨bp, 0, none⟩) obp
  · rw [World.cell?_of_block (a := ⟨bl, 0, none⟩) (hblk bl (fun e => H.o5 e.symm) (by omega))]; exact hb1.cell (p := ⟨bl, 0, none⟩) obl
  · rw [World.frozen?_setCells, hw2, World.frozen?_setCell, World.frozen?_setCell]; exact hb1.frozen (p := ⟨b, j, none⟩) ob
  · rw [hw2]
    exact below_setCells (((hb1.mono (Nat.le_trans hN (Nat.le_of_lt ob))).setCell (p := ⟨b, 26, none⟩) hN _).setCell (p := ⟨b, 25, none⟩) hN _) (by omega) _ _
  · have hbc := H.oc
    rw [World.cell?_of_block (a := ⟨bc, j, none⟩) (hblk bc (fun e => H.oc2 e.symm) (by omega))]; exact hb1.cell (p := ⟨bc, j, none⟩) hbc
set_option maxRecDepth 100000 in
set_option maxHeartbeats 4000000 in
theorem place_any (k : Int) (i n s P : Nat) {w00 w : World} {N0 b bp bl bc base : Nat} {f : Cf} {p : Nat → Int} {gl : List Gx} {lk hd : Gx} {tw : Nat → Gx} (h : Ps w00 N0 b bp bl bc base f w p gl lk hd tw) (hp : p 9 = P) (hP : P + n * s ≤ 100000) (hg : gl.length ≤ 1000) :
    Calls Try.prog 95 #[.int .u8 k, .int .i64 (i : Nat), .int .i64 (n : Nat), .int .i64 (s : Nat), .pointer (some ⟨bp, 0, none⟩), .pointer (some ⟨bl, 0, none⟩)] w (PlacePost w00 N0 b bp bl bc base f p gl lk hd tw k i n s P) := by
  have H := Lib.hid h
  obtain ⟨gv, cg, row⟩ := h.gr
  have c9 : w.cell? ⟨b, 25, none⟩ = some (.int .i64 (P : Int)) := by rw [← hp]; exact h.pl 9 (by omega)
  have xp := h.xp
  have xl := h.xl
  have f9 := h.fz 25
  have f6 := h.fz 26
  have ROW := Lib.hid row
  have l0 : b < w.heap.size := Nat.lt_of_lt_of_le h.o1 h.o6
  have l1 : bp < w.heap.size := Nat.lt_of_lt_of_le h.o2 h.o6
  have l2 : bl < w.heap.size := Nat.lt_of_lt_of_le h.o3 h.o6
  obtain ⟨m, hm⟩ : ∃ m, n * s = m := ⟨_, rfl⟩
  have hm2 : (n : Int) * (s : Int) = (m : Int) := by rw [← hm]; simp
  rw [hm] at hP
  have HM := Lib.hid hm
  clear h row hm hp
  go_enter Try.func95, Try.ntmps95
  have BB : Below w.heap.size w (((w.alloc (.cells #[.int .u8 0, .int .i64 0, .int .i64 0, .int .i64 0, .int .i64 0] 138)).alloc (.cells #[.int .u8 k, .int .i64 (i : Nat), .int .i64 (n : Nat), .int .i64 (s : Nat), .int .i64 (P : Nat)] 138)).alloc (.cells #[.int .u8 k, .int .i64 (i : Nat), .int .i64 (n : Nat), .int .i64 (s : Nat), .int .i64 (P : Nat)] 138)).drew := Om_drew (bel_alloc (bel_alloc (bel_alloc (Below.refl _ _) _) _) _)
  have N2 : ((((w.alloc (.cells #[.int .u8 0, .int .i64 0, .int .i64 0, .int .i64 0, .int .i64 0] 138)).alloc (.cells #[.int .u8 k, .int .i64 (i : Nat), .int .i64 (n : Nat), .int .i64 (s : Nat), .int .i64 (P : Nat)] 138)).alloc (.cells #[.int .u8 k, .int .i64 (i : Nat), .int .i64 (n : Nat), .int .i64 (s : Nat), .int .i64 (P : Nat)] 138)).drew).heap[w.heap.size + 2]? = some (.cells #[.int .u8 k, .int .i64 (i : Nat), .int .i64 (n : Nat), .int .i64 (s : Nat), .int .i64 (P : Nat)] 138) := by
    have := heap_new ((w.alloc (.cells #[.int .u8 0, .int .i64 0, .int .i64 0, .int .i64 0, .int .i64 0] 138)).alloc (.cells #[.int .u8 k, .int .i64 (i : Nat), .int .i64 (n : Nat), .int .i64 (s : Nat), .int .i64 (P : Nat)] 138)) (.cells #[.int .u8 k, .int .i64 (i : Nat), .int .i64 (n : Nat), .int .i64 (s : Nat), .int .i64 (P : Nat)] 138)
    simp only [World.size_alloc] at this; exact this
  have N1 : ((((w.alloc (.cells #[.int .u8 0, .int .i64 0, .int .i64 0, .int .i64 0, .int .i64 0] 138)).alloc (.cells #[.int .u8 k, .int .i64 (i : Nat), .int .i64 (n : Nat), .int .i64 (s : Nat), .int .i64 (P : Nat)] 138)).alloc (.cells #[.int .u8 k, .int .i64 (i : Nat), .int .i64 (n : Nat), .int .i64 (s : Nat), .int .i64 (P : Nat)] 138)).drew).heap[w.heap.size + 1]? = some (.cells #[.int .u8 k, .int .i64 (i : Nat), .int .i64 (n : Nat), .int .i64 (s : Nat), .int .i64 (P : Nat)] 138) := by
    have := heap_new (w.alloc (.cells #[.int .u8 0, .int .i64 0, .int .i64 0, .int .i64 0, .int .i64 0] 138)) (.cells #[.int .u8 k, .int .i64 (i : Nat), .int .i64 (n : Nat), .int .i64 (s : Nat), .int .i64 (P : Nat)] 138)
    simp only [World.size_alloc] at this
    show (((w.alloc (.cells #[.int .u8 0, .int .i64 0, .int .i64 0, .int .i64 0, .int .i64 0] 138)).alloc (.cells #[.int .u8 k, .int .i64 (i : Nat), .int .i64 (n : Nat), .int .i64 (s : Nat), .int .i64 (P : Nat)] 138)).alloc (.cells #[.int .u8 k, .int .i64 (i : Nat), .int .i64 (n : Nat), .int .i64 (s : Nat), .int .i64 (P : Nat)] 138)).heap[w.heap.size + 1]? = _
    rw [Below.heap_alloc _ _ _ (by rw [World.size_alloc, World.size_alloc]; omega)]; exact this
  have N0' : ((((w.alloc (.cells #[.int .u8 0, .int .i64 0, .int .i64 0, .int .i64 0, .int .i64 0] 138)).alloc (.cells #[.int .u8 k, .int .i64 (i : Nat), .int .i64 (n : Nat), .int .i64 (s : Nat), .int .i64 (P : Nat)] 138)).alloc (.cells #[.int .u8 k, .int .i64 (i : Nat), .int .i64 (n : Nat), .int .i64 (s : Nat), .int .i64 (P : Nat)] 138)).drew).heap[w.heap.size]? = some (.cells #[.int .u8 0, .int .i64 0, .int .i64 0, .int .i64 0, .int .i64 0] 138) := by
    have := heap_new w (.cells #[.int .u8 0, .int .i64 0, .int .i64 0, .int .i64 0, .int .i64 0] 138)
    show (((w.alloc (.cells #[.int .u8 0, .int .i64 0, .int .i64 0, .int .i64 0, .int .i64 0] 138)).alloc (.cells #[.int .u8 k, .int .i64 (i : Nat), .int .i64 (n : Nat), .int .i64 (s : Nat), .int .i64 (P : Nat)] 138)).alloc (.cells #[.int .u8 k, .int .i64 (i : Nat), .int .i64 (n : Nat), .int .i64 (s : Nat), .int .i64 (P : Nat)] 138)).heap[w.heap.size]? = _
    rw [Below.heap_alloc _ _ _ (by rw [World.size_alloc, World.size_alloc]; omega), Below.heap_alloc _ _ _ (by rw [World.size_alloc]; omega)]; exact this
  have SZ : ((((w.alloc (.cells #[.int .u8 0, .int .i64 0, .int .i64 0, .int .i64 0, .int .i64 0] 138)).alloc (.cells #[.int .u8 k, .int .i64 (i : Nat), .int .i64 (n : Nat), .int .i64 (s : Nat), .int .i64 (P : Nat)] 138)).alloc (.cells #[.int .u8 k, .int .i64 (i : Nat), .int .i64 (n : Nat), .int .i64 (s : Nat), .int .i64 (P : Nat)] 138)).drew).heap.size = w.heap.size + 3 := by show (((w.alloc (.cells #[.int .u8 0, .int .i64 0, .int .i64 0, .int .i64 0, .int .i64 0] 138)).alloc (.cells #[.int .u8 k, .int .i64 (i : Nat), .int .i64 (n : Nat), .int .i64 (s : Nat), .int .i64 (P : Nat)] 138)).alloc (.cells #[.int .u8 k, .int .i64 (i : Nat), .int .i64 (n : Nat), .int .i64 (s : Nat), .int .i64 (P : Nat)] 138)).heap.size = _; rw [World.size_alloc, World.size_alloc, World.size_alloc]
  have PS := H.out.below BB
  obtain ⟨gv', cg', row'⟩ := PS.gr
  obtain rfl : gv' = gv := by
    have := (BB.cell (p := ⟨b, 26, none⟩) l0).trans cg
    rw [cg'] at this; injection this
  have hv : ∀ q, gv'.ownBlock = some q → base ≤ q ∧ q < w.heap.size := fun q hq => ROW.out.lt q hq
  have HB := Lib.hid BB
  have HN2 := Lib.hid N2
  have HN1 := Lib.hid N1
  have HN0 := Lib.hid N0'
  have HSZ := Lib.hid SZ
  have HPS := Lib.hid PS
  have HROW := Lib.hid row'
  have HV := Lib.hid hv
  have ob := PS.o1
  have obl := PS.o3
  have obp := PS.o2
  have o6 := H.out.o6
  have e26 : (((w.alloc (.cells #[.int .u8 0, .int .i64 0, .int .i64 0, .int .i64 0, .int .i64 0] 138)).alloc (.cells #[.int .u8 k, .int .i64 (i : Nat), .int .i64 (n : Nat), .int .i64 (s : Nat), .int .i64 (P : Nat)] 138)).alloc (.cells #[.int .u8 k, .int .i64 (i : Nat), .int .i64 (n : Nat), .int .i64 (s : Nat), .int .i64 (P : Nat)] 138)).cell? ⟨b, 26, none⟩ = some gv' := (BB.cell (p := ⟨b, 26, none⟩) l0).trans cg
  have ebl : (((w.alloc (.cells #[.int .u8 0, .int .i64 0, .int .i64 0, .int .i64 0, .int .i64 0] 138)).alloc (.cells #[.int .u8 k, .int .i64 (i : Nat), .int .i64 (n : Nat), .int .i64 (s : Nat), .int .i64 (P : Nat)] 138)).alloc (.cells #[.int .u8 k, .int .i64 (i : Nat), .int .i64 (n : Nat), .int .i64 (s : Nat), .int .i64 (P : Nat)] 138)).cell? ⟨bl, 0, none⟩ = some (.pointer (some ⟨b, 0, none⟩)) := (BB.cell (p := ⟨bl, 0, none⟩) l2).trans xl
  have FIN := Lib.hid (fun (g cap : Nat) (w1 : World) own1 grow1 at1 => place_fin (k := k) (i := i) (n := n) (s := s) (P := P) (m := m) (w1 := w1) (g := g) (cap := cap) H.out cg c9 BB SZ hv own1 grow1 at1)
  clear BB N2 N1 N0' SZ PS row' hv cg'
  go_wp2_with fail
  go_cut [] from 21 to 30 (fun wc => ∃ (g cap : Nat) (w1 : World), w1.ownsRow base KG.E KG.sz (.slice (some ⟨g, 0, none⟩) (gl.length + 1) cap) (gl.length + 1) (KG.flat (gl ++ [(⟨k, i, n, s⟩, P)])) ∧ ((((w.alloc (.cells #[.int .u8 0, .int .i64 0, .int .i64 0, .int .i64 0, .int .i64 0] 138)).alloc (.cells #[.int .u8 k, .int .i64 (i : Nat), .int .i64 (n : Nat), .int .i64 (s : Nat), .int .i64 (P : Nat)] 138)).alloc (.cells #[.int .u8 k, .int .i64 (i : Nat), .int .i64 (n : Nat), .int .i64 (s : Nat), .int .i64 (P : Nat)] 138)).drew).grownBy w1 gv'.ownBlock ∧ (gv'.ownBlock = some g ∨ g = ((((w.alloc (.cells #[.int .u8 0, .int .i64 0, .int .i64 0, .int .i64 0, .int .i64 0] 138)).alloc (.cells #[.int .u8 k, .int .i64 (i : Nat), .int .i64 (n : Nat), .int .i64 (s : Nat), .int .i64 (P : Nat)] 138)).alloc (.cells #[.int .u8 k, .int .i64 (i : Nat), .int .i64 (n : Nat), .int .i64 (s : Nat), .int .i64 (P : Nat)] 138)).drew).heap.size) ∧ wc = w1.setCell ⟨b, 26, none⟩ (.slice (some ⟨g, 0, none⟩) (gl.length + 1) cap))
  case first =>
    go_region_law ((refine stepG (by rfl) (.tmp 25) (.tmp 27) (by rfl) _ base _ gv' gl (⟨k, i, n, s⟩, P) (by rfl) (by rfl) HN2.out HROW.out (by omega) (by rw [HSZ.out]; omega) ?_; intro g cap w1 own1 grow1 at1; have kk := (fun (q : Nat) (hq : q < w.heap.size) (hn : gv'.ownBlock ≠ some q) => grow1.block q (by rw [HSZ.out]; omega) (fun e => hn e.symm)); have kb := kk b l0 (fun e => by have := (HV.out _ e).1; omega); have kl := kk bl l2 (fun e => by have := (HV.out _ e).1; omega); have k1 := (World.cell?_of_block (a := ⟨b, 26, none⟩) kb).trans ((HB.out.cell (p := ⟨b, 26, none⟩) l0).trans cg); have k2 := (World.frozen?_of_block (a := ⟨b, 26, none⟩) kb).trans ((HB.out.frozen (p := ⟨b, 26, none⟩) l0).trans f6); have k3 := (World.cell?_of_block (a := ⟨bl, 0, none⟩) kl).trans ((HB.out.cell (p := ⟨bl, 0, none⟩) l2).trans xl)))
    all_goals (go_wp2_with fail)
    all_goals (go_meet)
    all_goals (exact ⟨g, cap, w1, own1, grow1, at1, rfl⟩)
  case rest =>
    obtain ⟨g, cap, w1, own1, grow1, at1, rfl⟩ := hcut
    have kk := (fun (q : Nat) (hq : q < w.heap.size) (hn : gv'.ownBlock ≠ some q) => grow1.block q (by rw [HSZ.out]; omega) (fun e => hn e.symm))
    have kb := kk b l0 (fun e => by have := (HV.out _ e).1; omega)
    have k1 := (World.cell?_of_block (a := ⟨b, 26, none⟩) kb).trans ((HB.out.cell (p := ⟨b, 26, none⟩) l0).trans cg)
    have kp := (World.cell?_of_block (a := ⟨bp, 0, none⟩) (kk bp l1 (fun e => by have := (HV.out _ e).1; omega))).trans ((HB.out.cell (p := ⟨bp, 0, none⟩) l1).trans xp)
    have k9 := (World.cell?_of_block (a := ⟨b, 25, none⟩) kb).trans ((HB.out.cell (p := ⟨b, 25, none⟩) l0).trans c9)
    have p9 := (World.frozen?_of_block (a := ⟨b, 25, none⟩) kb).trans ((HB.out.frozen (p := ⟨b, 25, none⟩) l0).trans f9)
    have kg := (grow1.block (w.heap.size + 1) (by rw [HSZ.out]; omega) (fun e => by have := (HV.out _ e.symm).2; omega)).trans HN1.out
    have kr := (grow1.block w.heap.size (by rw [HSZ.out]; omega) (fun e => by have := (HV.out _ e.symm).2; omega)).trans HN0.out
    have g0 := cell_of (j := 0) kg rfl
    have g1 := cell_of (j := 1) kg rfl
    have g2 := cell_of (j := 2) kg rfl
    have g3 := cell_of (j := 3) kg rfl
    have g4 := cell_of (j := 4) kg rfl
    have r0 := cell_of (j := 0) kr rfl
    have r1 := cell_of (j := 1) kr rfl
    have r2 := cell_of (j := 2) kr rfl
    have r3 := cell_of (j := 3) kr rfl
    have r4 := cell_of (j := 4) kr rfl
    have fr : ∀ j, w1.frozen? ⟨w.heap.size, j, none⟩ = false := fun j => by simp [World.frozen?, kr]
    have fr0 := fr 0
    have fr1 := fr 1
    have fr2 := fr 2
    have fr3 := fr 3
    have fr4 := fr 4
    have F := Lib.hid (FIN.out g cap w1 own1 grow1 at1)
    clear kk kb kg kr fr own1 grow1 at1
    have hin := World.cell?_setCells_in w.heap.size [.int .u8 k, .int .i64 (i : Nat), .int .i64 (n : Nat), .int .i64 (s : Nat), .int .i64 (P : Nat)] 0 ((w1.setCell ⟨b, 26, none⟩ (.slice (some ⟨g, 0, none⟩) (gl.length + 1) cap)).setCell ⟨b, 25, none⟩ (.int .i64 ((P : Int) + (m : Int)))) (fun j hj => by
      rw [Nat.zero_add, cell_set_b (by omega), cell_set_b (by omega)]
      have hj : j < 5 := hj
      rcases j with _ | _ | _ | _ | _ | j
      · rw [r0]; rfl
      · rw [r1]; rfl
      · rw [r2]; rfl
      · rw [r3]; rfl
      · rw [r4]; rfl
      · omega)
    have z0 := hin 0 (by show 0 < 5; omega)
    have z1 := hin 1 (by show 1 < 5; omega)
    have z2 := hin 2 (by show 2 < 5; omega)
    have z3 := hin 3 (by show 3 < 5; omega)
    have z4 := hin 4 (by show 4 < 5; omega)
    simp only [List.getElem_cons_zero, List.getElem_cons_succ, Nat.zero_add] at z0 z1 z2 z3 z4
    have Z := Lib.hid (And.intro z0 (And.intro z1 (And.intro z2 (And.intro z3 z4))))
    clear hin z0 z1 z2 z3 z4
    go_wp2
    have f := F.out
    obtain ⟨z0, z1, z2, z3, z4⟩ := Z.out
    show bodyPost _ _ _ _ _ (((w1.setCell ⟨b, 26, none⟩ (.slice (some ⟨g, 0, none⟩) (gl.length + 1) cap)).setCell ⟨b, 25, none⟩ (.int .i64 ((P : Int) + (m : Int)))).setCells w.heap.size 0 [.int .u8 k, .int .i64 (i : Nat), .int .i64 (n : Nat), .int .i64 (s : Nat), .int .i64 (P : Nat)])
    generalize ((w1.setCell ⟨b, 26, none⟩ (.slice (some ⟨g, 0, none⟩) (gl.length + 1) cap)).setCell ⟨b, 25, none⟩ (.int .i64 ((P : Int) + (m : Int)))).setCells w.heap.size 0 [.int .u8 k, .int .i64 (i : Nat), .int .i64 (n : Nat), .int .i64 (s : Nat), .int .i64 (P : Nat)] = w4 at *
    refine bodyPost_ret (v := .agg #[.int .u8 k, .int .i64 (i : Nat), .int .i64 (n : Nat), .int .i64 (s : Nat), .int .i64 (P : Nat)]) ?_ rfl ⟨rfl, by rw [HM.out]; exact f⟩
    simp [results, Try.results95, go_sem, z0, z1, z2, z3, z4]
end Ly
end Go.Proofs.Ytjcbjbhlclajnaa
