/- leapfrogref09: the state of a layout that is being laid; group: contract of the translated code. No conditions beside those of each lemma. -/
import Derived.Test.YtjcbjbhlclajnaaLyF
namespace Go.Proofs.Ytjcbjbhlclajnaa
open Go.RowKit Go.Sort
set_option linter.unusedVariables false
set_option linter.unusedSimpArgs false
set_option maxRecDepth 100000
namespace Ly
open Dm (RdK BdU dmB dmE dmN bel_alloc bel_trans cell_lt)
/-- n words of a group -/
def grp (k : Int) (i s n : Nat) : List Pl := (List.range n).map fun x => (k, ((i + x / s : Nat) : Int), ((x % s : Nat) : Int))
theorem grp_zero (k : Int) (i s : Nat) : grp k i s 0 = [] := rfl
theorem grp_succ (k : Int) (i s n : Nat) : grp k i s (n + 1) = grp k i s n ++ [(k, ((i + n / s : Nat) : Int), ((n % s : Nat) : Int))] := by
  unfold grp; rw [List.range_succ, List.map_append]; rfl
theorem grp_len (k : Int) (i s n : Nat) : (grp k i s n).length = n := by simp [grp]
theorem grp_what (k : Int) (i n s : Nat) : grp k i s (n * s) = (G.mk k i n s).what := rfl
/-- a layout of the specification in the block b that is being laid; bc: the box of the argument -/
structure Rs (w00 : World) (N0 b bc base : Nat) (f f0 : Cf) (w : World) (p : Nat → Int) (hs : List Int) (ps : List Pl) : Prop where
  cf : CfB w b f
  pl : ∀ i, i < 10 → w.cell? ⟨b, 16 + i, none⟩ = some (.int .i64 (p i))
  fz : ∀ j, w.frozen? ⟨b, j, none⟩ = false
  rows : ∃ hv pv, w.cell? ⟨b, 26, none⟩ = some hv ∧ w.cell? ⟨b, 27, none⟩ = some pv ∧ w.ownsRow base KI.E KI.sz hv hs.length (KI.flat hs) ∧ w.ownsRow base KP.E KP.sz pv ps.length (KP.flat ps) ∧ (∀ g, hv.ownBlock = some g → pv.ownBlock ≠ some g)
  o1 : b < base
  o6 : base ≤ w.heap.size
  o7 : N0 ≤ b
  bel : Below N0 w00 w
  oc : bc < base
  oc2 : b ≠ bc
  cc : CfB w bc f0
section
variable {w00 w : World} {N0 b bc base : Nat} {f f0 : Cf} {p : Nat → Int} {hs : List Int} {ps : List Pl}
theorem Rs.lt (h : Rs w00 N0 b bc base f f0 w p hs ps) : b < w.heap.size := Nat.lt_of_lt_of_le h.o1 h.o6
theorem Rs.below {w' : World} (h : Rs w00 N0 b bc base f f0 w p hs ps) (hb : Below w.heap.size w w') : Rs w00 N0 b bc base f f0 w' p hs ps := by
  have k : ∀ j, w'.cell? ⟨b, j, none⟩ = w.cell? ⟨b, j, none⟩ := fun j => hb.cell (p := ⟨b, j, none⟩) h.lt
  refine ⟨h.cf.below hb, fun i hi => (k _).trans (h.pl i hi), fun j => (hb.frozen (p := ⟨b, j, none⟩) h.lt).trans (h.fz j), ?_, h.o1, Nat.le_trans h.o6 hb.size, h.o7, ?_, h.oc, h.oc2, h.cc.below hb⟩
  · obtain ⟨hv, pv, h1, h2, h3, h4, h5⟩ := h.rows
    exact ⟨hv, pv, (k _).trans h1, (k _).trans h2, KI.own_keep h3 fun g hg => hb.block g (h3.lt g hg).2, KP.own_keep h4 fun g hg => hb.block g (h4.lt g hg).2, h5⟩
  · exact h.bel.trans (hb.mono (Nat.le_trans h.o7 (Nat.le_of_lt h.lt)))
theorem Rs.remade {w' : World} {hs' : List Int} {ps' : List Pl} (h : Rs w00 N0 b bc base f f0 w p hs ps)
    (hk : ∀ j, j < 26 → w'.cell? ⟨b, j, none⟩ = w.cell? ⟨b, j, none⟩)
    (hr : ∃ hv pv, w'.cell? ⟨b, 26, none⟩ = some hv ∧ w'.cell? ⟨b, 27, none⟩ = some pv ∧ w'.ownsRow base KI.E KI.sz hv hs'.length (KI.flat hs') ∧ w'.ownsRow base KP.E KP.sz pv ps'.length (KP.flat ps') ∧ (∀ g, hv.ownBlock = some g → pv.ownBlock ≠ some g))
    (hf : ∀ j, w'.frozen? ⟨b, j, none⟩ = w.frozen? ⟨b, j, none⟩) (hb : Below N0 w w') (hcc : ∀ j, w'.cell? ⟨bc, j, none⟩ = w.cell? ⟨bc, j, none⟩) : Rs w00 N0 b bc base f f0 w' p hs' ps' :=
  ⟨h.cf.cong fun j hj => hk j (by omega), fun i hi => (hk _ (by omega)).trans (h.pl i hi), fun j => (hf j).trans (h.fz j), hr, h.o1, Nat.le_trans h.o6 hb.size, h.o7, h.bel.trans hb, h.oc, h.oc2, h.cc.cong fun j _ => hcc j⟩
theorem Rs.setP (h : Rs w00 N0 b bc base f f0 w p hs ps) {i : Nat} (hi : i < 10) (v : Int) : Rs w00 N0 b bc base f f0 (w.setCell ⟨b, 16 + i, none⟩ (.int .i64 v)) (upd p i v) hs ps := by
  refine ⟨h.cf.set (by omega), fun j hj => ?_, fun j => by rw [World.frozen?_setCell]; exact h.fz j, ?_, h.o1, by simpa using h.o6, h.o7, h.bel.setCell (p := ⟨b, 16 + i, none⟩) h.o7 _, h.oc, h.oc2, h.cc.cong fun j _ => cell_set_b h.oc2⟩
  · by_cases e : j = i
    · subst e
      rw [upd_at]; exact World.cell?_setCell_same _ _ _ (h.pl j hj)
    · rw [upd_ne e, cell_set (by omega)]; exact h.pl j hj
  · obtain ⟨hv, pv, h1, h2, h3, h4, h5⟩ := h.rows
    have o1 := h.o1
    exact ⟨hv, pv, by rw [cell_set (by omega)]; exact h1, by rw [cell_set (by omega)]; exact h2, KI.own_keep h3 fun g hg => Below.heap_setCell _ _ _ _ (by have := (h3.lt g hg).1; simp; omega), KP.own_keep h4 fun g hg => Below.heap_setCell _ _ _ _ (by have := (h4.lt g hg).1; simp; omega), h5⟩
theorem Rs.congr (h : Rs w00 N0 b bc base f f0 w p hs ps) {p' : Nat → Int} (hp : ∀ i, i < 10 → p i = p' i) : Rs w00 N0 b bc base f f0 w p' hs ps :=
  ⟨h.cf, fun i hi => by rw [← hp i hi]; exact h.pl i hi, h.fz, h.rows, h.o1, h.o6, h.o7, h.bel, h.oc, h.oc2, h.cc⟩
/-- a word is appended -/
theorem Rs.push {W w1 : World} {g cap : Nat} {y : Pl} {hv pv : Value} (H : Rs w00 N0 b bc base f f0 w p hs ps)
    (ch : w.cell? ⟨b, 26, none⟩ = some hv) (cp : w.cell? ⟨b, 27, none⟩ = some pv) (rh : w.ownsRow base KI.E KI.sz hv hs.length (KI.flat hs)) (ne : ∀ g, hv.ownBlock = some g → pv.ownBlock ≠ some g)
    (BB : Below w.heap.size w W) (SZ : W.heap.size = w.heap.size + 1) (hb : ∀ q, pv.ownBlock = some q → base ≤ q ∧ q < w.heap.size)
    (own1 : w1.ownsRow base KP.E KP.sz (.slice (some ⟨g, 0, none⟩) (ps.length + 1) cap) (ps.length + 1) (KP.flat (ps ++ [y]))) (grow1 : W.grownBy w1 pv.ownBlock) (at1 : pv.ownBlock = some g ∨ g = W.heap.size) :
    Rs w00 N0 b bc base f f0 (w1.setCell ⟨b, 27, none⟩ (.slice (some ⟨g, 0, none⟩) (ps.length + 1) cap)) p hs (ps ++ [y]) := by
  have ob := H.o1
  have o6 := H.o6
  have oc := H.oc
  have hbW : Below base W w1 := ⟨grow1.os, grow1.tape, grow1.output, grow1.size, fun q hq => grow1.block q (by rw [SZ]; omega) fun e => by have := (hb _ e.symm).1; omega⟩
  have hb1 : Below base w w1 := (BB.mono o6).trans hbW
  have hw1 : ∀ j, w1.cell? ⟨b, j, none⟩ = w.cell? ⟨b, j, none⟩ := fun j => hb1.cell (p := ⟨b, j, none⟩) ob
  have hgb : g ≠ b := by
    rcases at1 with e | e
    · have := hb _ e; omega
    · rw [SZ] at e; omega
  refine H.remade (fun j hj => by rw [cell_set (by omega)]; exact hw1 j) ⟨hv, .slice (some ⟨g, 0, none⟩) (ps.length + 1) cap, by rw [cell_set (by omega), hw1]; exact ch, World.cell?_setCell_same _ _ _ ((hw1 27).trans cp), ?_, ?_, ?_⟩ (fun j => by rw [World.frozen?_setCell]; exact hb1.frozen (p := ⟨b, j, none⟩) ob) ?_ (fun j => by rw [cell_set_b H.oc2]; exact hb1.cell (p := ⟨bc, j, none⟩) oc)
  · refine KI.own_keep (KI.own_keep rh fun q hq => ?_) fun q hq => Below.heap_setCell _ _ _ _ (by have := (rh.lt q hq).1; show q ≠ b; omega)
    have hq2 := rh.lt q hq
    rw [grow1.block q (by rw [SZ]; omega) (fun e => ne q hq e.symm)]
    exact BB.block q hq2.2
  · rw [show (ps ++ [y]).length = ps.length + 1 by simp]
    refine KP.own_keep own1 fun q hq => Below.heap_setCell _ _ _ _ ?_
    have : g = q := by simpa [Value.ownBlock] using hq
    show q ≠ b
    omega
  · intro q hq e
    have e : g = q := by simpa [Value.ownBlock] using e
    have h1 := rh.lt q hq
    rcases at1 with h | h
    · exact ne q hq (by rw [h, e])
    · rw [SZ] at h; omega
  · exact (hb1.mono (Nat.le_trans H.o7 (Nat.le_of_lt ob))).setCell (p := ⟨b, 27, none⟩) H.o7 _
end
/-- 'append(l, a)' onto a row of places of one's own, in a region that draws -/
theorem stepP {ops : Array Oper} {o : Oper} {a : Act} {K : Act → World → Prop} {Q : Exit → Act → World → Prop} {E : Prop} (hgd : o.guard = none) (s x : Operand)
    (ho : o.op = .call { callee := .builtin .append, args := #[s, x], argTypes := #[191, 191] }) (W : World) (base H : Nat) (v : Value) (ys : List Pl) (y : Pl)
    (hs : a.eval s = v) (hx : a.eval x = .slice (some ⟨H, 0, none⟩) 1 1) (hb : W.heap[H]? = some (.cells #[.int .u8 y.1, .int .i64 y.2.1, .int .i64 y.2.2] 208 (0, 0))) (hown : W.ownsRow base KP.E KP.sz v ys.length (KP.flat ys)) (hn : ys.length ≤ 50000) (hbs : base ≤ W.heap.size)
    (h : ∀ g cap w', w'.ownsRow base KP.E KP.sz (.slice (some ⟨g, 0, none⟩) (ys.length + 1) cap) (ys.length + 1) (KP.flat (ys ++ [y])) → W.grownBy w' v.ownBlock → (v.ownBlock = some g ∨ g = W.heap.size) → K (a.put o.dst (.slice (some ⟨g, 0, none⟩) (ys.length + 1) cap)) w') :
    if Region.wanted o (yielded ops a.tmps) = true then Oper.wp Try.prog o a W K Q else E := by
  obtain ⟨i0, z, hi, hz0, hzs, hz1, hz2⟩ := KP.info
  refine step_append_lies _ hgd s x 191 ho base KP.E i0 z KP.sz KP.bt Try.underlying191 hi hz0 hz1 hz2 hzs KP.pos v ys.length (KP.flat ys) hs hown ⟨H, 0, none⟩ 1 1 (KP.enc y) hx rfl
    (World.news_of_block hb) ?_ (by omega) (by unfold maxLen; omega) (by have : KP.bt = 24 := rfl; rw [this]; omega) hbs _ rfl ?_
  · exact KP.one y
  · intro g cap w' h1 h2 h3 _
    rw [show KP.flat ys ++ KP.enc y = KP.flat (ys ++ [y]) by rw [KP.flat_append, KP.flat_one]] at h1
    exact h g cap w' h1 h2 h3
set_option maxRecDepth 100000 in
set_option maxHeartbeats 4000000 in
theorem group_any (k : Int) (i s n : Nat) {w00 w : World} {N0 b bc base : Nat} {f f0 : Cf} {p : Nat → Int} {hs : List Int} {ps : List Pl} (h : Rs w00 N0 b bc base f f0 w p hs ps) (hs0 : 0 < s) (hi : i ≤ 100000) (hn : n ≤ 30000) (hp : ps.length ≤ 20000) (hsb : s ≤ 100000) :
    Calls Try.prog 89 #[.pointer (some ⟨b, 0, none⟩), .int .i64 (n : Nat), .int .u8 k, .int .i64 (i : Nat), .int .i64 (s : Nat)] w fun e w' =>
      e = .returned (.int .i64 (ps.length : Nat)) ∧ Rs w00 N0 b bc base f f0 w' p hs (ps ++ grp k i s n) := by
  have H := Lib.hid h
  obtain ⟨hv, pv, ch, cp, rh, rp, ne⟩ := h.rows
  obtain ⟨P, hP⟩ : ∃ P, ps.length = P := ⟨_, rfl⟩
  have HP := Lib.hid hP
  obtain ⟨Ap, pc, hpv⟩ : ∃ A c, pv = .slice A P c := by
    obtain ⟨_, A, c, e, _⟩ := KP.row rp
    exact ⟨A, c, by rw [e, hP]⟩
  subst hpv
  have lt := h.lt
  rw [hP] at hp ⊢
  clear h ch rh rp ne hP
  go_enter Try.func89, Try.ntmps89
  go_wp2_with fail
  go_loopw [12] (fun v wr => ∃ x : Nat, x ≤ n ∧ v = .int .i64 x ∧ Rs w00 N0 b bc base f f0 wr p hs (ps ++ grp k i s x)) (fun v _ => n - (intOf v).toNat)
  case atStart => exact ⟨0, Nat.zero_le _, rfl, by rw [grp_zero, List.append_nil]; exact H.out⟩
  case round =>
    clear cp
    obtain ⟨x, hx, rfl, hr⟩ := hrel
    have R := Lib.hid hr
    by_cases hxn : x < n
    · have d0 : decide ((x : Int) < n) = true := decide_eq_true (by omega)
      obtain ⟨hv, pv, ch, cp, rh, rp, ne⟩ := hr.rows
      have ob := hr.o1
      have o6 := hr.o6
      have l0 := hr.lt
      have f7 := hr.fz 27
      have hv7 : ∀ q, pv.ownBlock = some q → base ≤ q ∧ q < wr.heap.size := fun q hq => rp.lt q hq
      have HV := Lib.hid hv7
      obtain ⟨q, hq⟩ : ∃ q, x / s = q := ⟨_, rfl⟩
      obtain ⟨u, hu⟩ : ∃ u, x % s = u := ⟨_, rfl⟩
      have hq0 : (x : Int) / (s : Int) = (q : Int) := by rw [← hq]; simp
      have hu0 : (x : Int) % (s : Int) = (u : Int) := by rw [← hu]; simp
      have hqx : q ≤ x := by rw [← hq]; exact Nat.div_le_self _ _
      have hus : u < s := by rw [← hu]; exact Nat.mod_lt _ hs0
      have hs1 : (s : Int) ≠ 0 := by omega
      have hs2 : ¬ s = 0 := by omega
      have hu1 : (x : Int).tmod (s : Int) = (u : Int) := by rw [Int.tmod_eq_emod_of_nonneg (by omega)]; exact hu0
      have hq1 : (x : Int).tdiv (s : Int) = (q : Int) := by rw [Int.tdiv_eq_ediv_of_nonneg (by omega)]; exact hq0
      have hwq : IntKind.i64.wrap (q : Int) = q := IntWalk.i64_in _ (by omega)
      have hwu : IntKind.i64.wrap (u : Int) = u := IntWalk.i64_in _ (by omega)
      have hxb : (x : Int) ≤ 100000 := by omega
      have hqb : (q : Int) ≤ 100000 := by omega
      have hib : (i : Int) ≤ 100000 := by omega
      have hsi : (s : Int) ≤ 100000 := by omega
      have hw1 : IntKind.i64.wrap ((i : Int) + (q : Int)) = (i : Int) + (q : Int) := IntWalk.i64_in _ (by omega)
      have HG := Lib.hid (grp_succ k i s x)
      rw [hq, hu] at HG
      obtain ⟨Q, hQ⟩ : ∃ Q, ps ++ grp k i s x = Q := ⟨_, rfl⟩
      have hQl : Q.length ≤ 50000 := by rw [← hQ, List.length_append, grp_len]; have := HP.out; omega
      have HGQ := Lib.hid (show ps ++ grp k i s (x + 1) = Q ++ [(k, ((i + q : Nat) : Int), (u : Int))] by rw [HG.out, ← hQ, List.append_assoc])
      rw [hQ] at R rp
      have ROW := Lib.hid rp
      obtain ⟨W, hW⟩ : ∃ W : World, W = (wr.alloc (.cells #[.int .u8 k, .int .i64 ((i : Int) + (q : Int)), .int .i64 (u : Int)] 208)).drew := ⟨_, rfl⟩
      have BB := Lib.hid (show Below wr.heap.size wr W from by rw [hW]; exact Om_drew (bel_alloc (Below.refl _ _) _))
      have SZ := Lib.hid (show W.heap.size = wr.heap.size + 1 from by rw [hW]; exact World.size_alloc _ _)
      have NB := Lib.hid (show W.heap[wr.heap.size]? = some (.cells #[.int .u8 k, .int .i64 ((i + q : Nat) : Int), .int .i64 (u : Int)] 208) from by rw [hW]; exact heap_new _ _)
      have ROWW := Lib.hid (show W.ownsRow base KP.E KP.sz pv Q.length (KP.flat Q) from KP.own_keep rp fun g hg => BB.out.block g (rp.lt g hg).2)
      have FIN := Lib.hid (fun (g cap : Nat) (w1 : World) own1 grow1 at1 => R.out.push (W := W) (w1 := w1) (g := g) (cap := cap) (y := (k, ((i + q : Nat) : Int), (u : Int))) ch cp rh ne BB.out SZ.out hv7 own1 grow1 at1)
      have CP := Lib.hid cp
      clear hr ch rh rp ne hq hu hQ hv7 HG
      go_wp2_with fail
      go_region_law ((refine stepP (by rfl) (.tmp 27) (.tmp 38) (by rfl) _ base wr.heap.size pv Q (k, ((i + q : Nat) : Int), (u : Int)) (by rfl) (by rfl) (by rw [← hW]; exact NB.out) (by rw [← hW]; exact ROWW.out) (by omega) (by rw [← hW, SZ.out]; omega) ?_; rw [← hW]; intro g cap w1 own1 grow1 at1; have kk := (fun (q : Nat) (hq : q < wr.heap.size) (hn : pv.ownBlock ≠ some q) => grow1.block q (by rw [SZ.out]; omega) (fun e => hn e.symm)); have kb := kk b l0 (fun e => by have := (HV.out _ e).1; omega); have k1 := (World.cell?_of_block (a := ⟨b, 27, none⟩) kb).trans ((BB.out.cell (p := ⟨b, 27, none⟩) l0).trans CP.out); have k2 := (World.frozen?_of_block (a := ⟨b, 27, none⟩) kb).trans ((BB.out.frozen (p := ⟨b, 27, none⟩) l0).trans f7)))
      all_goals (go_wp2_with fail)
      all_goals (have RC := Lib.hid (FIN.out g cap w1 own1 grow1 at1))
      all_goals (rw [← HGQ.out] at RC)
      all_goals (go_roundw)
      all_goals (first | (exact ⟨x + 1, by omega, by go_num, RC.out⟩) | (simp [intOf]; omega))
    · obtain rfl : x = n := by omega
      have d0 : decide ((x : Int) < x) = false := by simp
      clear hr
      go_wp2
      go_ret
      exact ⟨rfl, R.out⟩
end Ly
end Go.Proofs.Ytjcbjbhlclajnaa
