/- A deed done on a map of package omap and on one of leapfrogref05 (written by tools/mk7om.py): the law's function do. Conditions: the two maps hold the same pairs, at most 999 with increasing keys; the bounds of each number's kind. -/
import Derived.Test.YthinaablldnikaaOmB
import Derived.Test.YthinaablldnikaaOmC2
import Derived.Test.YthinaablldnikaaOmA
import Derived.Test.YthinaablldnikaaOmU
namespace Go.Proofs.Ythinaablldnikaa
open Go.RowKit Go.Sort
set_option linter.unusedVariables false
set_option linter.unusedSimpArgs false
namespace Om
def encD (x : Dd) : Array Value := #[.int .u8 x.d, .int .u64 x.k, .int .u64 x.h, .int .u64 x.v, .int .u64 x.b]
/-- the deed lies at db, its range at db + 1 -/
structure Kq (db : Nat) (W : World) (x : Dd) : Prop where
  c0 : W.cell? ⟨db, 0, none⟩ = some (.int .u8 x.d)
  c1 : W.cell? ⟨db, 1, none⟩ = some (.int .u64 x.k)
  c2 : W.cell? ⟨db, 2, none⟩ = some (.int .u64 x.h)
  c3 : W.cell? ⟨db, 3, none⟩ = some (.int .u64 x.v)
  c4 : W.cell? ⟨db, 4, none⟩ = some (.int .u64 x.b)
  s0 : W.cell? ⟨db + 1, 0, none⟩ = some (.int .u64 x.k)
  s1 : W.cell? ⟨db + 1, 1, none⟩ = some (.int .u64 x.h)
  lt : db + 1 < W.heap.size
theorem Kq.keep {db : Nat} {W W' : World} {x : Dd} (h : Kq db W x) (h0 : W'.heap[db]? = W.heap[db]?) (h1 : W'.heap[db + 1]? = W.heap[db + 1]?) (hs : W.heap.size ≤ W'.heap.size) : Kq db W' x :=
  ⟨(World.cell?_of_block (a := ⟨db, _, none⟩) h0).trans h.c0, (World.cell?_of_block (a := ⟨db, _, none⟩) h0).trans h.c1, (World.cell?_of_block (a := ⟨db, _, none⟩) h0).trans h.c2, (World.cell?_of_block (a := ⟨db, _, none⟩) h0).trans h.c3, (World.cell?_of_block (a := ⟨db, _, none⟩) h0).trans h.c4,
    (World.cell?_of_block (a := ⟨db + 1, _, none⟩) h1).trans h.s0, (World.cell?_of_block (a := ⟨db + 1, _, none⟩) h1).trans h.s1, Nat.lt_of_lt_of_le h.lt hs⟩
theorem Kq.below {db : Nat} {W W' : World} {x : Dd} (h : Kq db W x) (b : Below W.heap.size W W') : Kq db W' x :=
  h.keep (b.block db (by have := h.lt; omega)) (b.block (db + 1) h.lt) b.size
/-- a block of the law's own -/
structure Off (k bm : Nat) (v : Value) (bn : Nat) (u : Value) : Prop where
  m : k ≠ bm
  n : k ≠ bn
  v : v.ownBlock ≠ some k
  u : u.ownBlock ≠ some k
/-- two maps, and the deed with its range -/
structure Kt (B db : Nat) (w1 W : World) (bm : Nat) (v : Value) (l : List Pr) (bn : Nat) (u : Value) (r : List Pr) (x : Dd) : Prop where
  st : Sta B w1 W bm v l bn u r
  q : Kq db W x
  o0 : Off db bm v bn u
  o1 : Off (db + 1) bm v bn u
theorem Kt.below {B db : Nat} {w1 W W' : World} {bm bn : Nat} {v u : Value} {l r : List Pr} {x : Dd} (h : Kt B db w1 W bm v l bn u r x) (b : Below W.heap.size W W') : Kt B db w1 W' bm v l bn u r x :=
  ⟨h.st.below b, h.q.below b, h.o0, h.o1⟩
theorem Off.swap {k bm bn : Nat} {v u : Value} (h : Off k bm v bn u) : Off k bn u bm v := ⟨h.n, h.m, h.u, h.v⟩
theorem Kt.swap {B db : Nat} {w1 W : World} {bm bn : Nat} {v u : Value} {l r : List Pr} {x : Dd} (h : Kt B db w1 W bm v l bn u r x) : Kt B db w1 W bn u r bm v l x := ⟨h.st.swap, h.q, h.o0.swap, h.o1.swap⟩
theorem Kt.left {B db : Nat} {w1 W W' : World} {bm bn : Nat} {v u : Value} {l l' r : List Pr} {x : Dd} {t : Value} {e : Ending} (h : Kt B db w1 W bm v l bn u r x) (o : Opn W bm v l' t e W') : ∃ v', e = .returned t ∧ Kt B db w1 W' bm v' l' bn u r x := by
  have o' := o
  obtain ⟨v', he, hm', hn', hc⟩ := o'
  obtain ⟨v2, he2, hs⟩ := h.st.left o
  have hv : v2 = v' := by have h1 := hs.m.1; rw [hm'.1] at h1; exact (Option.some.inj h1).symm
  subst hv
  have lt := h.q.lt
  refine ⟨v2, he, hs, h.q.keep (hc.block db (by omega) h.o0.m h.o0.v) (hc.block (db + 1) lt h.o1.m h.o1.v) hc.size, ⟨h.o0.m, h.o0.n, fun e => ?_, h.o0.u⟩, ⟨h.o1.m, h.o1.n, fun e => ?_, h.o1.u⟩⟩
  · rcases hn' _ e with e' | e'
    · exact h.o0.v e'
    · omega
  · rcases hn' _ e with e' | e'
    · exact h.o1.v e'
    · omega
theorem Kt.right {B db : Nat} {w1 W W' : World} {bm bn : Nat} {v u : Value} {l l' r : List Pr} {x : Dd} {t : Value} {e : Ending} (h : Kt B db w1 W bm v l bn u r x) (o : Opn W bn u l' t e W') : ∃ u', e = .returned t ∧ Kt B db w1 W' bm v l bn u' l' x := by
  obtain ⟨u', he, hk⟩ := h.swap.left o
  exact ⟨u', he, hk.swap⟩
/-- the deed boxed, and its range -/
def dW (W : World) (x : Dd) : World := (W.alloc (.cells (encD x) 35)).alloc (.cells #[.int .u64 x.k, .int .u64 x.h] 41)
theorem dW_q (W : World) (x : Dd) : Kq W.heap.size (dW W x) x :=
  ⟨by simp [dW, encD], by simp [dW, encD], by simp [dW, encD], by simp [dW, encD], by simp [dW, encD], by simp [dW, encD], by simp [dW, encD], by simp [dW]⟩
theorem dW_below (W : World) (x : Dd) : Below W.heap.size W (dW W x) := bel_alloc (bel_alloc (Below.refl _ _) _) _
theorem Kt.start {B : Nat} {w1 W : World} {bm bn : Nat} {v u : Value} {l r : List Pr} (h : Sta B w1 W bm v l bn u r) (x : Dd) : Kt B W.heap.size w1 (dW W x) bm v l bn u r x := by
  have h1 := h.m.lt
  have h2 := h.c.lt
  have h3 := h.m.row_lt
  have h4 := h.c.row_lt
  exact ⟨h.below (dW_below W x), dW_q W x, ⟨by omega, by omega, fun e => by have := h3 _ e; omega, fun e => by have := h4 _ e; omega⟩, ⟨by omega, by omega, fun e => by have := h3 _ e; omega, fun e => by have := h4 _ e; omega⟩⟩
/-- the maps behind the deed -/
def DoPost (B : Nat) (w1 : World) (bm bn n : Nat) (e : Ending) (w' : World) : Prop :=
  e = .returned (.bool true) ∧ ∃ v u l, Sta B w1 w' bm v l bn u l ∧ Asc l ∧ Bd l ∧ l.length ≤ n + 1
end Om
namespace Wk
open Om

theorem bx_mod {x : Dd} (h : BdD1 x) : 0 ≤ x.d ∧ x.d ≤ 255 := ⟨h.d0, h.d1⟩
set_option maxRecDepth 100000 in
set_option maxHeartbeats 1000000 in
theorem do_0 (B bm bn : Nat) (v u : Value) (l : List Pr) (w1 W : World) (x : Dd) (st : Sta B w1 W bm v l bn u l) (ha : Asc l) (hb : Bd l) (hl : l.length ≤ 900) (bx : BdD1 x) (c : x.d % 9 = 0) :
    Calls Try.prog 14 #[.pointer (some ⟨bm, 0, none⟩), .pointer (some ⟨bn, 0, none⟩), .agg (encD x)] W (DoPost B w1 bm bn l.length) := by
  have u0 : (x.d % 9 == 0) = true := by simp [c]
  clear c
  have KT := Lib.hid (Kt.start st x)
  have HA := Lib.hid ha; have HB := Lib.hid hb; have HL := Lib.hid (show l.length ≤ 1000 by omega); have BX := Lib.hid bx
  clear ha hb bx
  have d0 := bx_mod BX.out
  unfold encD
  obtain ⟨d1, d2⟩ := d0
  go_enter Try.func14, Try.ntmps14
  go_upto_region 2 with fail
  iterate 8 first | go_values | go_skip | go_step | go_upon | go_back | go_simp
  obtain ⟨W2, hW2⟩ : ∃ W2, W2 = dW W x := ⟨_, rfl⟩
  rw [← hW2] at KT
  unfold dW encD at hW2
  rw [← hW2]
  clear hW2 st
  have c0 := KT.out.q.c0
  have c1 := KT.out.q.c1
  have c2 := KT.out.q.c2
  have c3 := KT.out.q.c3
  have c4 := KT.out.q.c4
  have s0 := KT.out.q.s0
  have s1 := KT.out.q.s1
  go_wp2_with fail
  refine (getC_any bm _ l x.k _ KT.out.st.m HA.out HL.out).mono ?_
  rintro r W3 ⟨rfl, b⟩
  have KT := Lib.hid (KT.out.below b); clear b c0 c1 c2 c3 c4 s0 s1
  have c0 := KT.out.q.c0
  have c1 := KT.out.q.c1
  have c2 := KT.out.q.c2
  have c3 := KT.out.q.c3
  have c4 := KT.out.q.c4
  have s0 := KT.out.q.s0
  have s1 := KT.out.q.s1
  unfold gT
  go_wp2_with fail
  refine (getR_any bn _ l x.k _ KT.out.st.c HA.out HL.out).mono ?_
  rintro r W4 ⟨rfl, b⟩
  have KT := Lib.hid (KT.out.below b); clear b c0 c1 c2 c3 c4 s0 s1
  unfold gT
  go_wp2
  go_ret
  exact ⟨rfl, _, _, _, KT.out.st, HA.out, HB.out, by omega⟩
set_option maxRecDepth 100000 in
set_option maxHeartbeats 1000000 in
theorem do_1 (B bm bn : Nat) (v u : Value) (l : List Pr) (w1 W : World) (x : Dd) (st : Sta B w1 W bm v l bn u l) (ha : Asc l) (hb : Bd l) (hl : l.length ≤ 900) (bx : BdD1 x) (c : x.d % 9 = 1) :
    Calls Try.prog 14 #[.pointer (some ⟨bm, 0, none⟩), .pointer (some ⟨bn, 0, none⟩), .agg (encD x)] W (DoPost B w1 bm bn l.length) := by
  have u0 : (x.d % 9 == 0) = false := by simp [c]
  have u1 : (x.d % 9 == 1) = true := by simp [c]
  clear c
  have KT := Lib.hid (Kt.start st x)
  have HA := Lib.hid ha; have HB := Lib.hid hb; have HL := Lib.hid (show l.length ≤ 1000 by omega); have BX := Lib.hid bx
  clear ha hb bx
  have d0 := bx_mod BX.out
  unfold encD
  obtain ⟨d1, d2⟩ := d0
  go_enter Try.func14, Try.ntmps14
  go_upto_region 2 with fail
  iterate 8 first | go_values | go_skip | go_step | go_upon | go_back | go_simp
  obtain ⟨W2, hW2⟩ : ∃ W2, W2 = dW W x := ⟨_, rfl⟩
  rw [← hW2] at KT
  unfold dW encD at hW2
  rw [← hW2]
  clear hW2 st
  have c0 := KT.out.q.c0
  have c1 := KT.out.q.c1
  have c2 := KT.out.q.c2
  have c3 := KT.out.q.c3
  have c4 := KT.out.q.c4
  have s0 := KT.out.q.s0
  have s1 := KT.out.q.s1
  go_wp2_with fail
  refine (putC_any bm _ l x.k x.v _ KT.out.st.m HA.out HL.out).mono ?_
  intro r W3 h
  obtain ⟨v1, rfl, hk⟩ := KT.out.left h
  have KT := Lib.hid hk; clear hk h c0 c1 c2 c3 c4 s0 s1
  have c0 := KT.out.q.c0
  have c1 := KT.out.q.c1
  have c2 := KT.out.q.c2
  have c3 := KT.out.q.c3
  have c4 := KT.out.q.c4
  have s0 := KT.out.q.s0
  have s1 := KT.out.q.s1
  unfold pT
  go_wp2_with fail
  refine (putR_any bn _ l x.k x.v _ KT.out.st.c HA.out HL.out).mono ?_
  intro r W4 h
  obtain ⟨u1, rfl, hk⟩ := KT.out.right h
  have KT := Lib.hid hk; clear hk h c0 c1 c2 c3 c4 s0 s1
  unfold pT
  go_wp2
  go_ret
  exact ⟨rfl, ⟨_, _, _, KT.out.st, setL_asc HA.out _, setL_bd HB.out ⟨BX.out.k0, BX.out.k1, BX.out.v0, BX.out.v1⟩, setL_len_le _ _⟩⟩
set_option maxRecDepth 100000 in
set_option maxHeartbeats 1000000 in
theorem do_2 (B bm bn : Nat) (v u : Value) (l : List Pr) (w1 W : World) (x : Dd) (st : Sta B w1 W bm v l bn u l) (ha : Asc l) (hb : Bd l) (hl : l.length ≤ 900) (bx : BdD1 x) (c : x.d % 9 = 2) :
    Calls Try.prog 14 #[.pointer (some ⟨bm, 0, none⟩), .pointer (some ⟨bn, 0, none⟩), .agg (encD x)] W (DoPost B w1 bm bn l.length) := by
  have u0 : (x.d % 9 == 0) = false := by simp [c]
  have u1 : (x.d % 9 == 1) = false := by simp [c]
  have u2 : (x.d % 9 == 2) = true := by simp [c]
  clear c
  have KT := Lib.hid (Kt.start st x)
  have HA := Lib.hid ha; have HB := Lib.hid hb; have HL := Lib.hid (show l.length ≤ 1000 by omega); have BX := Lib.hid bx
  clear ha hb bx
  have d0 := bx_mod BX.out
  have KS := Lib.hid (show Asc (paL l (getL l x.k) (x.k, x.v)) ∧ Bd (paL l (getL l x.k) (x.k, x.v)) ∧ (paL l (getL l x.k) (x.k, x.v)).length ≤ l.length + 1 by cases getL l x.k; exact ⟨setL_asc HA.out _, setL_bd HB.out ⟨BX.out.k0, BX.out.k1, BX.out.v0, BX.out.v1⟩, setL_len_le _ _⟩; exact ⟨HA.out, HB.out, Nat.le_succ _⟩)
  unfold encD
  obtain ⟨d1, d2⟩ := d0
  go_enter Try.func14, Try.ntmps14
  go_upto_region 2 with fail
  iterate 8 first | go_values | go_skip | go_step | go_upon | go_back | go_simp
  obtain ⟨W2, hW2⟩ : ∃ W2, W2 = dW W x := ⟨_, rfl⟩
  rw [← hW2] at KT
  unfold dW encD at hW2
  rw [← hW2]
  clear hW2 st
  have c0 := KT.out.q.c0
  have c1 := KT.out.q.c1
  have c2 := KT.out.q.c2
  have c3 := KT.out.q.c3
  have c4 := KT.out.q.c4
  have s0 := KT.out.q.s0
  have s1 := KT.out.q.s1
  go_wp2_with fail
  refine (putAbsC_any bm _ l x.k x.v _ KT.out.st.m HA.out HL.out).mono ?_
  intro r W3 h
  obtain ⟨v1, rfl, hk⟩ := KT.out.left h
  have KT := Lib.hid hk; clear hk h c0 c1 c2 c3 c4 s0 s1
  have c0 := KT.out.q.c0
  have c1 := KT.out.q.c1
  have c2 := KT.out.q.c2
  have c3 := KT.out.q.c3
  have c4 := KT.out.q.c4
  have s0 := KT.out.q.s0
  have s1 := KT.out.q.s1
  unfold pT
  go_wp2_with fail
  refine (putAbsR_any bn _ l x.k x.v _ KT.out.st.c HA.out HL.out).mono ?_
  intro r W4 h
  obtain ⟨u1, rfl, hk⟩ := KT.out.right h
  have KT := Lib.hid hk; clear hk h c0 c1 c2 c3 c4 s0 s1
  unfold pT
  go_wp2
  go_ret
  exact ⟨rfl, ⟨_, _, _, KT.out.st, KS.out⟩⟩
set_option maxRecDepth 100000 in
set_option maxHeartbeats 1000000 in
theorem do_3 (B bm bn : Nat) (v u : Value) (l : List Pr) (w1 W : World) (x : Dd) (st : Sta B w1 W bm v l bn u l) (ha : Asc l) (hb : Bd l) (hl : l.length ≤ 900) (bx : BdD1 x) (c : x.d % 9 = 3) :
    Calls Try.prog 14 #[.pointer (some ⟨bm, 0, none⟩), .pointer (some ⟨bn, 0, none⟩), .agg (encD x)] W (DoPost B w1 bm bn l.length) := by
  have u0 : (x.d % 9 == 0) = false := by simp [c]
  have u1 : (x.d % 9 == 1) = false := by simp [c]
  have u2 : (x.d % 9 == 2) = false := by simp [c]
  have u3 : (x.d % 9 == 3) = true := by simp [c]
  clear c
  have KT := Lib.hid (Kt.start st x)
  have HA := Lib.hid ha; have HB := Lib.hid hb; have HL := Lib.hid (show l.length ≤ 1000 by omega); have BX := Lib.hid bx
  clear ha hb bx
  have d0 := bx_mod BX.out
  unfold encD
  obtain ⟨d1, d2⟩ := d0
  go_enter Try.func14, Try.ntmps14
  go_upto_region 2 with fail
  iterate 8 first | go_values | go_skip | go_step | go_upon | go_back | go_simp
  obtain ⟨W2, hW2⟩ : ∃ W2, W2 = dW W x := ⟨_, rfl⟩
  rw [← hW2] at KT
  unfold dW encD at hW2
  rw [← hW2]
  clear hW2 st
  have c0 := KT.out.q.c0
  have c1 := KT.out.q.c1
  have c2 := KT.out.q.c2
  have c3 := KT.out.q.c3
  have c4 := KT.out.q.c4
  have s0 := KT.out.q.s0
  have s1 := KT.out.q.s1
  go_wp2_with fail
  refine (delC_any bm _ l x.k _ KT.out.st.m HA.out HB.out HL.out BX.out.k0 BX.out.k1).mono ?_
  intro r W3 h
  obtain ⟨v1, rfl, hk⟩ := KT.out.left h
  have KT := Lib.hid hk; clear hk h c0 c1 c2 c3 c4 s0 s1
  have c0 := KT.out.q.c0
  have c1 := KT.out.q.c1
  have c2 := KT.out.q.c2
  have c3 := KT.out.q.c3
  have c4 := KT.out.q.c4
  have s0 := KT.out.q.s0
  have s1 := KT.out.q.s1
  unfold pT
  go_wp2_with fail
  refine (delR_any bn _ l x.k _ KT.out.st.c HA.out HB.out HL.out BX.out.k0 BX.out.k1).mono ?_
  intro r W4 h
  obtain ⟨u1, rfl, hk⟩ := KT.out.right h
  have KT := Lib.hid hk; clear hk h c0 c1 c2 c3 c4 s0 s1
  unfold pT
  go_wp2
  go_ret
  exact ⟨rfl, ⟨_, _, _, KT.out.st, outL_asc HA.out _ _, outL_bd HB.out _ _, by have := in_out_len l x.k x.k; omega⟩⟩
set_option maxRecDepth 100000 in
set_option maxHeartbeats 1000000 in
theorem do_4 (B bm bn : Nat) (v u : Value) (l : List Pr) (w1 W : World) (x : Dd) (st : Sta B w1 W bm v l bn u l) (ha : Asc l) (hb : Bd l) (hl : l.length ≤ 900) (bx : BdD1 x) (c : x.d % 9 = 4) :
    Calls Try.prog 14 #[.pointer (some ⟨bm, 0, none⟩), .pointer (some ⟨bn, 0, none⟩), .agg (encD x)] W (DoPost B w1 bm bn l.length) := by
  have u0 : (x.d % 9 == 0) = false := by simp [c]
  have u1 : (x.d % 9 == 1) = false := by simp [c]
  have u2 : (x.d % 9 == 2) = false := by simp [c]
  have u3 : (x.d % 9 == 3) = false := by simp [c]
  have u4 : (x.d % 9 == 4) = true := by simp [c]
  clear c
  have KT := Lib.hid (Kt.start st x)
  have HA := Lib.hid ha; have HB := Lib.hid hb; have HL := Lib.hid (show l.length ≤ 1000 by omega); have BX := Lib.hid bx
  clear ha hb bx
  have d0 := bx_mod BX.out
  have KS := Lib.hid (show Asc (casL l (getL l x.k) x.b (x.k, x.v)) ∧ Bd (casL l (getL l x.k) x.b (x.k, x.v)) ∧ (casL l (getL l x.k) x.b (x.k, x.v)).length ≤ l.length + 1 by unfold casL; split; exact ⟨setL_asc HA.out _, setL_bd HB.out ⟨BX.out.k0, BX.out.k1, BX.out.v0, BX.out.v1⟩, setL_len_le _ _⟩; exact ⟨HA.out, HB.out, Nat.le_succ _⟩)
  unfold encD
  obtain ⟨d1, d2⟩ := d0
  go_enter Try.func14, Try.ntmps14
  go_upto_region 2 with fail
  iterate 8 first | go_values | go_skip | go_step | go_upon | go_back | go_simp
  obtain ⟨W2, hW2⟩ : ∃ W2, W2 = dW W x := ⟨_, rfl⟩
  rw [← hW2] at KT
  unfold dW encD at hW2
  rw [← hW2]
  clear hW2 st
  have c0 := KT.out.q.c0
  have c1 := KT.out.q.c1
  have c2 := KT.out.q.c2
  have c3 := KT.out.q.c3
  have c4 := KT.out.q.c4
  have s0 := KT.out.q.s0
  have s1 := KT.out.q.s1
  go_wp2_with fail
  refine (casC_any bm _ l x.k x.b x.v _ KT.out.st.m HA.out HL.out).mono ?_
  intro r W3 h
  obtain ⟨v1, rfl, hk⟩ := KT.out.left h
  have KT := Lib.hid hk; clear hk h c0 c1 c2 c3 c4 s0 s1
  have c0 := KT.out.q.c0
  have c1 := KT.out.q.c1
  have c2 := KT.out.q.c2
  have c3 := KT.out.q.c3
  have c4 := KT.out.q.c4
  have s0 := KT.out.q.s0
  have s1 := KT.out.q.s1
  unfold cT
  go_wp2_with fail
  refine (casR_any bn _ l x.k x.b x.v _ KT.out.st.c HA.out HL.out).mono ?_
  intro r W4 h
  obtain ⟨u1, rfl, hk⟩ := KT.out.right h
  have KT := Lib.hid hk; clear hk h c0 c1 c2 c3 c4 s0 s1
  unfold cT
  go_wp2
  go_ret
  exact ⟨rfl, ⟨_, _, _, KT.out.st, KS.out⟩⟩
set_option maxRecDepth 100000 in
set_option maxHeartbeats 1000000 in
theorem do_5 (B bm bn : Nat) (v u : Value) (l : List Pr) (w1 W : World) (x : Dd) (st : Sta B w1 W bm v l bn u l) (ha : Asc l) (hb : Bd l) (hl : l.length ≤ 900) (bx : BdD1 x) (c : x.d % 9 = 5) :
    Calls Try.prog 14 #[.pointer (some ⟨bm, 0, none⟩), .pointer (some ⟨bn, 0, none⟩), .agg (encD x)] W (DoPost B w1 bm bn l.length) := by
  have u0 : (x.d % 9 == 0) = false := by simp [c]
  have u1 : (x.d % 9 == 1) = false := by simp [c]
  have u2 : (x.d % 9 == 2) = false := by simp [c]
  have u3 : (x.d % 9 == 3) = false := by simp [c]
  have u4 : (x.d % 9 == 4) = false := by simp [c]
  have u5 : (x.d % 9 == 5) = true := by simp [c]
  clear c
  have KT := Lib.hid (Kt.start st x)
  have HA := Lib.hid ha; have HB := Lib.hid hb; have HL := Lib.hid (show l.length ≤ 1000 by omega); have BX := Lib.hid bx
  clear ha hb bx
  have d0 := bx_mod BX.out
  have KS := Lib.hid (show Asc (moL l x.k x.h x.b) ∧ Bd (moL l x.k x.h x.b) ∧ (moL l x.k x.h x.b).length ≤ l.length + 1 by unfold moL; split; (rename_i h; have hov : x.h + x.b ≤ 18446744073709551615 := by (unfold moE at h; split at h; omega; split at h; omega; omega)); exact ⟨mvL_asc HA.out _ _ _, shL_bd HB.out BX.out.b0 hov, by have := mvL_len_le l x.k x.h x.b; omega⟩; exact ⟨HA.out, HB.out, Nat.le_succ _⟩)
  unfold encD
  obtain ⟨d1, d2⟩ := d0
  obtain ⟨qn, qe, NC⟩ : ∃ a b, moT l x.k x.h x.b = .tuple #[.int .i64 a, .int .i64 b] := ⟨_, _, rfl⟩
  have NC := Lib.hid NC
  go_enter Try.func14, Try.ntmps14
  go_upto_region 2 with fail
  iterate 8 first | go_values | go_skip | go_step | go_upon | go_back | go_simp
  obtain ⟨W2, hW2⟩ : ∃ W2, W2 = dW W x := ⟨_, rfl⟩
  rw [← hW2] at KT
  unfold dW encD at hW2
  rw [← hW2]
  clear hW2 st
  have c0 := KT.out.q.c0
  have c1 := KT.out.q.c1
  have c2 := KT.out.q.c2
  have c3 := KT.out.q.c3
  have c4 := KT.out.q.c4
  have s0 := KT.out.q.s0
  have s1 := KT.out.q.s1
  go_wp2_with fail
  refine (moC_any bm _ l x.k x.h x.b _ KT.out.st.m HA.out HL.out HB.out BX.out.k0 BX.out.k1 BX.out.h0 BX.out.h1 BX.out.b0 BX.out.b1).mono ?_
  intro r W3 h
  obtain ⟨v1, rfl, hk⟩ := KT.out.left h
  have KT := Lib.hid hk; clear hk h c0 c1 c2 c3 c4 s0 s1
  have c0 := KT.out.q.c0
  have c1 := KT.out.q.c1
  have c2 := KT.out.q.c2
  have c3 := KT.out.q.c3
  have c4 := KT.out.q.c4
  have s0 := KT.out.q.s0
  have s1 := KT.out.q.s1
  rw [NC.out]
  go_wp2_with fail
  refine (moR_any bn _ l x.k x.h x.b _ KT.out.st.c HL.out HB.out BX.out.k0 BX.out.k1 BX.out.h0 BX.out.h1 BX.out.b0 BX.out.b1).mono ?_
  intro r W4 h
  obtain ⟨u1, rfl, hk⟩ := KT.out.right h
  have KT := Lib.hid hk; clear hk h c0 c1 c2 c3 c4 s0 s1
  rw [NC.out]
  go_wp2
  go_ret
  exact ⟨rfl, ⟨_, _, _, KT.out.st, KS.out⟩⟩
set_option maxRecDepth 100000 in
set_option maxHeartbeats 1000000 in
theorem do_6 (B bm bn : Nat) (v u : Value) (l : List Pr) (w1 W : World) (x : Dd) (st : Sta B w1 W bm v l bn u l) (ha : Asc l) (hb : Bd l) (hl : l.length ≤ 900) (bx : BdD1 x) (c : x.d % 9 = 6) :
    Calls Try.prog 14 #[.pointer (some ⟨bm, 0, none⟩), .pointer (some ⟨bn, 0, none⟩), .agg (encD x)] W (DoPost B w1 bm bn l.length) := by
  have u0 : (x.d % 9 == 0) = false := by simp [c]
  have u1 : (x.d % 9 == 1) = false := by simp [c]
  have u2 : (x.d % 9 == 2) = false := by simp [c]
  have u3 : (x.d % 9 == 3) = false := by simp [c]
  have u4 : (x.d % 9 == 4) = false := by simp [c]
  have u5 : (x.d % 9 == 5) = false := by simp [c]
  have u6 : (x.d % 9 == 6) = true := by simp [c]
  clear c
  have KT := Lib.hid (Kt.start st x)
  have HA := Lib.hid ha; have HB := Lib.hid hb; have HL := Lib.hid (show l.length ≤ 1000 by omega); have BX := Lib.hid bx
  clear ha hb bx
  have d0 := bx_mod BX.out
  have KS := Lib.hid (show Asc (deL l x.k x.h) ∧ Bd (deL l x.k x.h) ∧ (deL l x.k x.h).length ≤ l.length + 1 by unfold deL; split; exact ⟨outL_asc HA.out _ _, outL_bd HB.out _ _, by have := in_out_len l x.k x.h; omega⟩; exact ⟨HA.out, HB.out, Nat.le_succ _⟩)
  unfold encD
  obtain ⟨d1, d2⟩ := d0
  go_enter Try.func14, Try.ntmps14
  go_upto_region 2 with fail
  iterate 8 first | go_values | go_skip | go_step | go_upon | go_back | go_simp
  obtain ⟨W2, hW2⟩ : ∃ W2, W2 = dW W x := ⟨_, rfl⟩
  rw [← hW2] at KT
  unfold dW encD at hW2
  rw [← hW2]
  clear hW2 st
  have c0 := KT.out.q.c0
  have c1 := KT.out.q.c1
  have c2 := KT.out.q.c2
  have c3 := KT.out.q.c3
  have c4 := KT.out.q.c4
  have s0 := KT.out.q.s0
  have s1 := KT.out.q.s1
  go_wp2_with fail
  refine (deC_any bm _ l x.k x.h _ KT.out.st.m HA.out HL.out HB.out BX.out.k0 BX.out.k1 BX.out.h0 BX.out.h1).mono ?_
  intro r W3 h
  obtain ⟨v1, rfl, hk⟩ := KT.out.left h
  have KT := Lib.hid hk; clear hk h c0 c1 c2 c3 c4 s0 s1
  have c0 := KT.out.q.c0
  have c1 := KT.out.q.c1
  have c2 := KT.out.q.c2
  have c3 := KT.out.q.c3
  have c4 := KT.out.q.c4
  have s0 := KT.out.q.s0
  have s1 := KT.out.q.s1
  unfold deT
  go_wp2_with fail
  refine (deR_any bn _ l x.k x.h _ KT.out.st.c HL.out HB.out BX.out.k0 BX.out.k1 BX.out.h0 BX.out.h1).mono ?_
  intro r W4 h
  obtain ⟨u1, rfl, hk⟩ := KT.out.right h
  have KT := Lib.hid hk; clear hk h c0 c1 c2 c3 c4 s0 s1
  unfold deT
  go_wp2
  go_ret
  exact ⟨rfl, ⟨_, _, _, KT.out.st, KS.out⟩⟩
set_option maxRecDepth 100000 in
set_option maxHeartbeats 1000000 in
theorem do_7 (B bm bn : Nat) (v u : Value) (l : List Pr) (w1 W : World) (x : Dd) (st : Sta B w1 W bm v l bn u l) (ha : Asc l) (hb : Bd l) (hl : l.length ≤ 900) (bx : BdD1 x) (c : x.d % 9 = 7) :
    Calls Try.prog 14 #[.pointer (some ⟨bm, 0, none⟩), .pointer (some ⟨bn, 0, none⟩), .agg (encD x)] W (DoPost B w1 bm bn l.length) := by
  have u0 : (x.d % 9 == 0) = false := by simp [c]
  have u1 : (x.d % 9 == 1) = false := by simp [c]
  have u2 : (x.d % 9 == 2) = false := by simp [c]
  have u3 : (x.d % 9 == 3) = false := by simp [c]
  have u4 : (x.d % 9 == 4) = false := by simp [c]
  have u5 : (x.d % 9 == 5) = false := by simp [c]
  have u6 : (x.d % 9 == 6) = false := by simp [c]
  have u7 : (x.d % 9 == 7) = true := by simp [c]
  clear c
  have KT := Lib.hid (Kt.start st x)
  have HA := Lib.hid ha; have HB := Lib.hid hb; have HL := Lib.hid (show l.length ≤ 1000 by omega); have BX := Lib.hid bx
  clear ha hb bx
  have d0 := bx_mod BX.out
  unfold encD
  obtain ⟨d1, d2⟩ := d0
  go_enter Try.func14, Try.ntmps14
  go_upto_region 2 with fail
  iterate 8 first | go_values | go_skip | go_step | go_upon | go_back | go_simp
  obtain ⟨W2, hW2⟩ : ∃ W2, W2 = dW W x := ⟨_, rfl⟩
  rw [← hW2] at KT
  unfold dW encD at hW2
  rw [← hW2]
  clear hW2 st
  have c0 := KT.out.q.c0
  have c1 := KT.out.q.c1
  have c2 := KT.out.q.c2
  have c3 := KT.out.q.c3
  have c4 := KT.out.q.c4
  have s0 := KT.out.q.s0
  have s1 := KT.out.q.s1
  go_wp2_with fail
  refine (rangeC_any bm _ l x.k x.h _ KT.out.st.m HA.out HL.out HB.out BX.out.k0 BX.out.k1 BX.out.h0 BX.out.h1).mono ?_
  rintro r W3 ⟨p, rfl, hv, b⟩
  have KT := Lib.hid (KT.out.below b); clear c0 c1 c2 c3 c4 s0 s1
  obtain ⟨_, Ap, np, rfl, _, rd, _⟩ := row_form hv
  have RP := Lib.hid rd; clear rd hv b
  have c0 := KT.out.q.c0
  have c1 := KT.out.q.c1
  have c2 := KT.out.q.c2
  have c3 := KT.out.q.c3
  have c4 := KT.out.q.c4
  have s0 := KT.out.q.s0
  have s1 := KT.out.q.s1
  go_wp2_with fail
  refine (rangeR_any bn _ l x.k x.h _ KT.out.st.c HL.out HB.out BX.out.k0 BX.out.k1 BX.out.h0 BX.out.h1).mono ?_
  rintro r W4 ⟨q, rfl, hv, b⟩
  have KT := Lib.hid (KT.out.below b); clear c0 c1 c2 c3 c4 s0 s1
  obtain ⟨_, Aq, nq, rfl, _, rd, _⟩ := row_form hv
  have RP := Lib.hid (RP.out.below b); have RQ := Lib.hid rd; clear rd hv b
  have hrl := Lib.hid (show (rgL l x.k x.h).length ≤ 5000 by unfold rgL; split <;> first | (have := inL_len l x.k x.h; omega) | simp)
  go_wp2_with fail
  refine (sameR_any _ _ _ _ _ _ (rgL l x.k x.h) (rgL l x.k x.h) _ rfl rfl hrl.out hrl.out RP.out RQ.out).mono ?_
  rw [show decide (rgL l x.k x.h = rgL l x.k x.h) = true from decide_eq_true rfl]
  rintro r W5 ⟨rfl, b⟩
  have KT := Lib.hid (KT.out.below b); clear b
  go_wp2
  go_ret
  exact ⟨rfl, _, _, _, KT.out.st, HA.out, HB.out, by omega⟩
set_option maxRecDepth 100000 in
set_option maxHeartbeats 1000000 in
theorem do_8 (B bm bn : Nat) (v u : Value) (l : List Pr) (w1 W : World) (x : Dd) (st : Sta B w1 W bm v l bn u l) (ha : Asc l) (hb : Bd l) (hl : l.length ≤ 900) (bx : BdD1 x) (c : x.d % 9 = 8) :
    Calls Try.prog 14 #[.pointer (some ⟨bm, 0, none⟩), .pointer (some ⟨bn, 0, none⟩), .agg (encD x)] W (DoPost B w1 bm bn l.length) := by
  have u0 : (x.d % 9 == 0) = false := by simp [c]
  have u1 : (x.d % 9 == 1) = false := by simp [c]
  have u2 : (x.d % 9 == 2) = false := by simp [c]
  have u3 : (x.d % 9 == 3) = false := by simp [c]
  have u4 : (x.d % 9 == 4) = false := by simp [c]
  have u5 : (x.d % 9 == 5) = false := by simp [c]
  have u6 : (x.d % 9 == 6) = false := by simp [c]
  have u7 : (x.d % 9 == 7) = false := by simp [c]
  clear c
  have KT := Lib.hid (Kt.start st x)
  have HA := Lib.hid ha; have HB := Lib.hid hb; have HL := Lib.hid (show l.length ≤ 1000 by omega); have BX := Lib.hid bx
  clear ha hb bx
  have d0 := bx_mod BX.out
  unfold encD
  obtain ⟨d1, d2⟩ := d0
  go_enter Try.func14, Try.ntmps14
  go_upto_region 2 with fail
  iterate 8 first | go_values | go_skip | go_step | go_upon | go_back | go_simp
  obtain ⟨W2, hW2⟩ : ∃ W2, W2 = dW W x := ⟨_, rfl⟩
  rw [← hW2] at KT
  unfold dW encD at hW2
  rw [← hW2]
  clear hW2 st
  have c0 := KT.out.q.c0
  have c1 := KT.out.q.c1
  have c2 := KT.out.q.c2
  have c3 := KT.out.q.c3
  have c4 := KT.out.q.c4
  have s0 := KT.out.q.s0
  have s1 := KT.out.q.s1
  go_wp2_with fail
  refine (nextC_any bm _ l x.k x.h _ KT.out.st.m HA.out HL.out).mono ?_
  have NC : ∃ a b t, nxT (rgL l x.k x.h) (rgE x.k x.h) = .tuple #[.agg #[.int .u64 a, .int .u64 b], .bool t, .int .i64 (rgE x.k x.h)] := by unfold nxT; cases rgL l x.k x.h; exact ⟨_, _, _, rfl⟩; exact ⟨_, _, _, rfl⟩
  obtain ⟨a, bb, t, NC⟩ := NC
  have NC := Lib.hid NC
  rw [NC.out]
  rintro r W3 ⟨rfl, b⟩
  have KT := Lib.hid (KT.out.below b); clear b c0 c1 c2 c3 c4 s0 s1
  have c0 := KT.out.q.c0
  have c1 := KT.out.q.c1
  have c2 := KT.out.q.c2
  have c3 := KT.out.q.c3
  have c4 := KT.out.q.c4
  have s0 := KT.out.q.s0
  have s1 := KT.out.q.s1
  go_upto_region 36 with fail
  have Pp0 : (W3.alloc (.cells #[.int .u64 a, .int .u64 bb] 45)).cell? ⟨W3.heap.size, 0, none⟩ = some (.int .u64 a) := by simp
  have Pp1 : (W3.alloc (.cells #[.int .u64 a, .int .u64 bb] 45)).cell? ⟨W3.heap.size, 1, none⟩ = some (.int .u64 bb) := by simp
  have Lp : W3.heap.size < (W3.alloc (.cells #[.int .u64 a, .int .u64 bb] 45)).heap.size := by simp
  have KT := Lib.hid (KT.out.below (bel_alloc (Below.refl _ _) (.cells #[.int .u64 a, .int .u64 bb] 45)))
  generalize W3.alloc (.cells #[.int .u64 a, .int .u64 bb] 45) = W5 at *
  generalize W3.heap.size = p1 at *
  clear c0 c1 c2 c3 c4 s0 s1
  have c0 := KT.out.q.c0
  have c1 := KT.out.q.c1
  have c2 := KT.out.q.c2
  have c3 := KT.out.q.c3
  have c4 := KT.out.q.c4
  have s0 := KT.out.q.s0
  have s1 := KT.out.q.s1
  go_wp2_with fail
  refine (nextR_any bn _ l x.k x.h _ KT.out.st.c HL.out HB.out BX.out.k0 BX.out.k1 BX.out.h0 BX.out.h1).mono ?_
  rw [NC.out]
  rintro r W4 ⟨rfl, b⟩
  replace Pp0 := (b.cell (p := ⟨p1, 0, none⟩) Lp).trans Pp0
  replace Pp1 := (b.cell (p := ⟨p1, 1, none⟩) Lp).trans Pp1
  replace Lp := Nat.lt_of_lt_of_le Lp b.size
  have KT := Lib.hid (KT.out.below b); clear b c0 c1 c2 c3 c4 s0 s1
  go_upto_region 37 with fail
  iterate 8 first | go_values | go_skip | go_step | go_upon | go_back | go_simp
  replace Pp0 := (World.cell?_alloc_lt W4 (.cells #[.int .u64 a, .int .u64 bb] 45) ⟨p1, 0, none⟩ Lp).trans Pp0
  replace Pp1 := (World.cell?_alloc_lt W4 (.cells #[.int .u64 a, .int .u64 bb] 45) ⟨p1, 1, none⟩ Lp).trans Pp1
  have Pq0 : (W4.alloc (.cells #[.int .u64 a, .int .u64 bb] 45)).cell? ⟨W4.heap.size, 0, none⟩ = some (.int .u64 a) := by simp
  have Pq1 : (W4.alloc (.cells #[.int .u64 a, .int .u64 bb] 45)).cell? ⟨W4.heap.size, 1, none⟩ = some (.int .u64 bb) := by simp
  have Lq : W4.heap.size < (W4.alloc (.cells #[.int .u64 a, .int .u64 bb] 45)).heap.size := by simp
  have KT := Lib.hid (KT.out.below (bel_alloc (Below.refl _ _) (.cells #[.int .u64 a, .int .u64 bb] 45)))
  generalize W4.alloc (.cells #[.int .u64 a, .int .u64 bb] 45) = W6 at *
  generalize W4.heap.size = p2 at *
  go_wp2
  go_ret
  exact ⟨rfl, _, _, _, KT.out.st, HA.out, HB.out, by omega⟩
set_option maxRecDepth 100000 in
set_option maxHeartbeats 1000000 in
theorem don_0 (W : World) (x : Dd) (bx : BdD1 x) (c : x.d % 9 = 0) :
    Calls Try.prog 14 #[.pointer none, .pointer none, .agg (encD x)] W fun e w' => e = .returned (.bool true) ∧ Below W.heap.size W w' := by
  have u0 : (x.d % 9 == 0) = true := by simp [c]
  clear c
  have KQ := Lib.hid (dW_q W x)
  have BL := Lib.hid (dW_below W x)
  obtain ⟨d1, d2⟩ := bx_mod bx
  clear bx
  unfold encD
  go_enter Try.func14, Try.ntmps14
  go_upto_region 2 with fail
  iterate 8 first | go_values | go_skip | go_step | go_upon | go_back | go_simp
  obtain ⟨W2, hW2⟩ : ∃ W2, W2 = dW W x := ⟨_, rfl⟩
  rw [← hW2] at KQ BL
  unfold dW encD at hW2
  rw [← hW2]
  clear hW2
  have c0 := KQ.out.c0
  have c1 := KQ.out.c1
  have c2 := KQ.out.c2
  have c3 := KQ.out.c3
  have c4 := KQ.out.c4
  have s0 := KQ.out.s0
  have s1 := KQ.out.s1
  go_wp2_with fail
  refine (getC_nil x.k _).mono ?_
  rintro r W3 ⟨rfl, rfl⟩
  unfold gT
  go_wp2_with fail
  refine (getR_nil x.k _).mono ?_
  rintro r W4 ⟨rfl, rfl⟩
  unfold gT
  go_wp2
  go_ret
  exact ⟨rfl, BL.out⟩
set_option maxRecDepth 100000 in
set_option maxHeartbeats 1000000 in
theorem don_1 (W : World) (x : Dd) (bx : BdD1 x) (c : x.d % 9 = 1) :
    Calls Try.prog 14 #[.pointer none, .pointer none, .agg (encD x)] W fun e w' => e = .returned (.bool true) ∧ Below W.heap.size W w' := by
  have u0 : (x.d % 9 == 0) = false := by simp [c]
  have u1 : (x.d % 9 == 1) = true := by simp [c]
  clear c
  have KQ := Lib.hid (dW_q W x)
  have BL := Lib.hid (dW_below W x)
  obtain ⟨d1, d2⟩ := bx_mod bx
  clear bx
  unfold encD
  go_enter Try.func14, Try.ntmps14
  go_upto_region 2 with fail
  iterate 8 first | go_values | go_skip | go_step | go_upon | go_back | go_simp
  obtain ⟨W2, hW2⟩ : ∃ W2, W2 = dW W x := ⟨_, rfl⟩
  rw [← hW2] at KQ BL
  unfold dW encD at hW2
  rw [← hW2]
  clear hW2
  have c0 := KQ.out.c0
  have c1 := KQ.out.c1
  have c2 := KQ.out.c2
  have c3 := KQ.out.c3
  have c4 := KQ.out.c4
  have s0 := KQ.out.s0
  have s1 := KQ.out.s1
  go_wp2_with fail
  refine (putC_nil x.k x.v _).mono ?_
  rintro r W3 ⟨rfl, b⟩
  have KQ := Lib.hid (KQ.out.below b); have BL := Lib.hid (bel_trans BL.out b); clear c0 c1 c2 c3 c4 s0 s1
  clear b
  have c0 := KQ.out.c0
  have c1 := KQ.out.c1
  have c2 := KQ.out.c2
  have c3 := KQ.out.c3
  have c4 := KQ.out.c4
  have s0 := KQ.out.s0
  have s1 := KQ.out.s1
  go_wp2_with fail
  refine (putR_nil x.k x.v _).mono ?_
  rintro r W4 ⟨rfl, b⟩
  have KQ := Lib.hid (KQ.out.below b); have BL := Lib.hid (bel_trans BL.out b); clear c0 c1 c2 c3 c4 s0 s1
  go_wp2
  go_ret
  exact ⟨rfl, BL.out⟩
set_option maxRecDepth 100000 in
set_option maxHeartbeats 1000000 in
theorem don_2 (W : World) (x : Dd) (bx : BdD1 x) (c : x.d % 9 = 2) :
    Calls Try.prog 14 #[.pointer none, .pointer none, .agg (encD x)] W fun e w' => e = .returned (.bool true) ∧ Below W.heap.size W w' := by
  have u0 : (x.d % 9 == 0) = false := by simp [c]
  have u1 : (x.d % 9 == 1) = false := by simp [c]
  have u2 : (x.d % 9 == 2) = true := by simp [c]
  clear c
  have KQ := Lib.hid (dW_q W x)
  have BL := Lib.hid (dW_below W x)
  obtain ⟨d1, d2⟩ := bx_mod bx
  clear bx
  unfold encD
  go_enter Try.func14, Try.ntmps14
  go_upto_region 2 with fail
  iterate 8 first | go_values | go_skip | go_step | go_upon | go_back | go_simp
  obtain ⟨W2, hW2⟩ : ∃ W2, W2 = dW W x := ⟨_, rfl⟩
  rw [← hW2] at KQ BL
  unfold dW encD at hW2
  rw [← hW2]
  clear hW2
  have c0 := KQ.out.c0
  have c1 := KQ.out.c1
  have c2 := KQ.out.c2
  have c3 := KQ.out.c3
  have c4 := KQ.out.c4
  have s0 := KQ.out.s0
  have s1 := KQ.out.s1
  go_wp2_with fail
  refine (putAbsC_nil x.k x.v _).mono ?_
  rintro r W3 ⟨rfl, b⟩
  have KQ := Lib.hid (KQ.out.below b); have BL := Lib.hid (bel_trans BL.out b); clear c0 c1 c2 c3 c4 s0 s1
  clear b
  have c0 := KQ.out.c0
  have c1 := KQ.out.c1
  have c2 := KQ.out.c2
  have c3 := KQ.out.c3
  have c4 := KQ.out.c4
  have s0 := KQ.out.s0
  have s1 := KQ.out.s1
  go_wp2_with fail
  refine (putAbsR_nil x.k x.v _).mono ?_
  rintro r W4 ⟨rfl, b⟩
  have KQ := Lib.hid (KQ.out.below b); have BL := Lib.hid (bel_trans BL.out b); clear c0 c1 c2 c3 c4 s0 s1
  go_wp2
  go_ret
  exact ⟨rfl, BL.out⟩
set_option maxRecDepth 100000 in
set_option maxHeartbeats 1000000 in
theorem don_3 (W : World) (x : Dd) (bx : BdD1 x) (c : x.d % 9 = 3) :
    Calls Try.prog 14 #[.pointer none, .pointer none, .agg (encD x)] W fun e w' => e = .returned (.bool true) ∧ Below W.heap.size W w' := by
  have u0 : (x.d % 9 == 0) = false := by simp [c]
  have u1 : (x.d % 9 == 1) = false := by simp [c]
  have u2 : (x.d % 9 == 2) = false := by simp [c]
  have u3 : (x.d % 9 == 3) = true := by simp [c]
  clear c
  have KQ := Lib.hid (dW_q W x)
  have BL := Lib.hid (dW_below W x)
  obtain ⟨d1, d2⟩ := bx_mod bx
  clear bx
  unfold encD
  go_enter Try.func14, Try.ntmps14
  go_upto_region 2 with fail
  iterate 8 first | go_values | go_skip | go_step | go_upon | go_back | go_simp
  obtain ⟨W2, hW2⟩ : ∃ W2, W2 = dW W x := ⟨_, rfl⟩
  rw [← hW2] at KQ BL
  unfold dW encD at hW2
  rw [← hW2]
  clear hW2
  have c0 := KQ.out.c0
  have c1 := KQ.out.c1
  have c2 := KQ.out.c2
  have c3 := KQ.out.c3
  have c4 := KQ.out.c4
  have s0 := KQ.out.s0
  have s1 := KQ.out.s1
  go_wp2_with fail
  refine (delC_nil x.k _).mono ?_
  rintro r W3 ⟨rfl, b⟩
  have KQ := Lib.hid (KQ.out.below b); have BL := Lib.hid (bel_trans BL.out b); clear c0 c1 c2 c3 c4 s0 s1
  clear b
  have c0 := KQ.out.c0
  have c1 := KQ.out.c1
  have c2 := KQ.out.c2
  have c3 := KQ.out.c3
  have c4 := KQ.out.c4
  have s0 := KQ.out.s0
  have s1 := KQ.out.s1
  go_wp2_with fail
  refine (delR_nil x.k _).mono ?_
  rintro r W4 ⟨rfl, b⟩
  have KQ := Lib.hid (KQ.out.below b); have BL := Lib.hid (bel_trans BL.out b); clear c0 c1 c2 c3 c4 s0 s1
  go_wp2
  go_ret
  exact ⟨rfl, BL.out⟩
set_option maxRecDepth 100000 in
set_option maxHeartbeats 1000000 in
theorem don_4 (W : World) (x : Dd) (bx : BdD1 x) (c : x.d % 9 = 4) :
    Calls Try.prog 14 #[.pointer none, .pointer none, .agg (encD x)] W fun e w' => e = .returned (.bool true) ∧ Below W.heap.size W w' := by
  have u0 : (x.d % 9 == 0) = false := by simp [c]
  have u1 : (x.d % 9 == 1) = false := by simp [c]
  have u2 : (x.d % 9 == 2) = false := by simp [c]
  have u3 : (x.d % 9 == 3) = false := by simp [c]
  have u4 : (x.d % 9 == 4) = true := by simp [c]
  clear c
  have KQ := Lib.hid (dW_q W x)
  have BL := Lib.hid (dW_below W x)
  obtain ⟨d1, d2⟩ := bx_mod bx
  clear bx
  unfold encD
  go_enter Try.func14, Try.ntmps14
  go_upto_region 2 with fail
  iterate 8 first | go_values | go_skip | go_step | go_upon | go_back | go_simp
  obtain ⟨W2, hW2⟩ : ∃ W2, W2 = dW W x := ⟨_, rfl⟩
  rw [← hW2] at KQ BL
  unfold dW encD at hW2
  rw [← hW2]
  clear hW2
  have c0 := KQ.out.c0
  have c1 := KQ.out.c1
  have c2 := KQ.out.c2
  have c3 := KQ.out.c3
  have c4 := KQ.out.c4
  have s0 := KQ.out.s0
  have s1 := KQ.out.s1
  go_wp2_with fail
  refine (casC_nil x.k x.b x.v _).mono ?_
  rintro r W3 ⟨rfl, b⟩
  have KQ := Lib.hid (KQ.out.below b); have BL := Lib.hid (bel_trans BL.out b); clear c0 c1 c2 c3 c4 s0 s1
  clear b
  have c0 := KQ.out.c0
  have c1 := KQ.out.c1
  have c2 := KQ.out.c2
  have c3 := KQ.out.c3
  have c4 := KQ.out.c4
  have s0 := KQ.out.s0
  have s1 := KQ.out.s1
  go_wp2_with fail
  refine (casR_nil x.k x.b x.v _).mono ?_
  rintro r W4 ⟨rfl, b⟩
  have KQ := Lib.hid (KQ.out.below b); have BL := Lib.hid (bel_trans BL.out b); clear c0 c1 c2 c3 c4 s0 s1
  go_wp2
  go_ret
  exact ⟨rfl, BL.out⟩
set_option maxRecDepth 100000 in
set_option maxHeartbeats 1000000 in
theorem don_5 (W : World) (x : Dd) (bx : BdD1 x) (c : x.d % 9 = 5) :
    Calls Try.prog 14 #[.pointer none, .pointer none, .agg (encD x)] W fun e w' => e = .returned (.bool true) ∧ Below W.heap.size W w' := by
  have u0 : (x.d % 9 == 0) = false := by simp [c]
  have u1 : (x.d % 9 == 1) = false := by simp [c]
  have u2 : (x.d % 9 == 2) = false := by simp [c]
  have u3 : (x.d % 9 == 3) = false := by simp [c]
  have u4 : (x.d % 9 == 4) = false := by simp [c]
  have u5 : (x.d % 9 == 5) = true := by simp [c]
  clear c
  have KQ := Lib.hid (dW_q W x)
  have BL := Lib.hid (dW_below W x)
  obtain ⟨d1, d2⟩ := bx_mod bx
  clear bx
  unfold encD
  go_enter Try.func14, Try.ntmps14
  go_upto_region 2 with fail
  iterate 8 first | go_values | go_skip | go_step | go_upon | go_back | go_simp
  obtain ⟨W2, hW2⟩ : ∃ W2, W2 = dW W x := ⟨_, rfl⟩
  rw [← hW2] at KQ BL
  unfold dW encD at hW2
  rw [← hW2]
  clear hW2
  have c0 := KQ.out.c0
  have c1 := KQ.out.c1
  have c2 := KQ.out.c2
  have c3 := KQ.out.c3
  have c4 := KQ.out.c4
  have s0 := KQ.out.s0
  have s1 := KQ.out.s1
  go_wp2_with fail
  refine (moC_nil x.k x.h x.b _).mono ?_
  rintro r W3 ⟨rfl, b⟩
  have KQ := Lib.hid (KQ.out.below b); have BL := Lib.hid (bel_trans BL.out b); clear c0 c1 c2 c3 c4 s0 s1
  clear b
  have c0 := KQ.out.c0
  have c1 := KQ.out.c1
  have c2 := KQ.out.c2
  have c3 := KQ.out.c3
  have c4 := KQ.out.c4
  have s0 := KQ.out.s0
  have s1 := KQ.out.s1
  go_wp2_with fail
  refine (moR_nil x.k x.h x.b _).mono ?_
  rintro r W4 ⟨rfl, b⟩
  have KQ := Lib.hid (KQ.out.below b); have BL := Lib.hid (bel_trans BL.out b); clear c0 c1 c2 c3 c4 s0 s1
  go_wp2
  go_ret
  exact ⟨rfl, BL.out⟩
set_option maxRecDepth 100000 in
set_option maxHeartbeats 1000000 in
theorem don_6 (W : World) (x : Dd) (bx : BdD1 x) (c : x.d % 9 = 6) :
    Calls Try.prog 14 #[.pointer none, .pointer none, .agg (encD x)] W fun e w' => e = .returned (.bool true) ∧ Below W.heap.size W w' := by
  have u0 : (x.d % 9 == 0) = false := by simp [c]
  have u1 : (x.d % 9 == 1) = false := by simp [c]
  have u2 : (x.d % 9 == 2) = false := by simp [c]
  have u3 : (x.d % 9 == 3) = false := by simp [c]
  have u4 : (x.d % 9 == 4) = false := by simp [c]
  have u5 : (x.d % 9 == 5) = false := by simp [c]
  have u6 : (x.d % 9 == 6) = true := by simp [c]
  clear c
  have KQ := Lib.hid (dW_q W x)
  have BL := Lib.hid (dW_below W x)
  obtain ⟨d1, d2⟩ := bx_mod bx
  clear bx
  unfold encD
  go_enter Try.func14, Try.ntmps14
  go_upto_region 2 with fail
  iterate 8 first | go_values | go_skip | go_step | go_upon | go_back | go_simp
  obtain ⟨W2, hW2⟩ : ∃ W2, W2 = dW W x := ⟨_, rfl⟩
  rw [← hW2] at KQ BL
  unfold dW encD at hW2
  rw [← hW2]
  clear hW2
  have c0 := KQ.out.c0
  have c1 := KQ.out.c1
  have c2 := KQ.out.c2
  have c3 := KQ.out.c3
  have c4 := KQ.out.c4
  have s0 := KQ.out.s0
  have s1 := KQ.out.s1
  go_wp2_with fail
  refine (deC_nil x.k x.h _).mono ?_
  rintro r W3 ⟨rfl, b⟩
  have KQ := Lib.hid (KQ.out.below b); have BL := Lib.hid (bel_trans BL.out b); clear c0 c1 c2 c3 c4 s0 s1
  clear b
  have c0 := KQ.out.c0
  have c1 := KQ.out.c1
  have c2 := KQ.out.c2
  have c3 := KQ.out.c3
  have c4 := KQ.out.c4
  have s0 := KQ.out.s0
  have s1 := KQ.out.s1
  go_wp2_with fail
  refine (deR_nil x.k x.h _).mono ?_
  rintro r W4 ⟨rfl, b⟩
  have KQ := Lib.hid (KQ.out.below b); have BL := Lib.hid (bel_trans BL.out b); clear c0 c1 c2 c3 c4 s0 s1
  go_wp2
  go_ret
  exact ⟨rfl, BL.out⟩
set_option maxRecDepth 100000 in
set_option maxHeartbeats 1000000 in
theorem don_7 (W : World) (x : Dd) (bx : BdD1 x) (c : x.d % 9 = 7) :
    Calls Try.prog 14 #[.pointer none, .pointer none, .agg (encD x)] W fun e w' => e = .returned (.bool true) ∧ Below W.heap.size W w' := by
  have u0 : (x.d % 9 == 0) = false := by simp [c]
  have u1 : (x.d % 9 == 1) = false := by simp [c]
  have u2 : (x.d % 9 == 2) = false := by simp [c]
  have u3 : (x.d % 9 == 3) = false := by simp [c]
  have u4 : (x.d % 9 == 4) = false := by simp [c]
  have u5 : (x.d % 9 == 5) = false := by simp [c]
  have u6 : (x.d % 9 == 6) = false := by simp [c]
  have u7 : (x.d % 9 == 7) = true := by simp [c]
  clear c
  have KQ := Lib.hid (dW_q W x)
  have BL := Lib.hid (dW_below W x)
  obtain ⟨d1, d2⟩ := bx_mod bx
  clear bx
  unfold encD
  go_enter Try.func14, Try.ntmps14
  go_upto_region 2 with fail
  iterate 8 first | go_values | go_skip | go_step | go_upon | go_back | go_simp
  obtain ⟨W2, hW2⟩ : ∃ W2, W2 = dW W x := ⟨_, rfl⟩
  rw [← hW2] at KQ BL
  unfold dW encD at hW2
  rw [← hW2]
  clear hW2
  have c0 := KQ.out.c0
  have c1 := KQ.out.c1
  have c2 := KQ.out.c2
  have c3 := KQ.out.c3
  have c4 := KQ.out.c4
  have s0 := KQ.out.s0
  have s1 := KQ.out.s1
  go_wp2_with fail
  refine (rangeC_nil x.k x.h _).mono ?_
  rintro r W3 ⟨p, rfl, hv, b⟩
  have KQ := Lib.hid (KQ.out.below b); have BL := Lib.hid (bel_trans BL.out b); clear c0 c1 c2 c3 c4 s0 s1
  obtain ⟨_, Ap, np, rfl, _, rd, _⟩ := row_form hv
  have RP := Lib.hid rd; clear rd hv b
  have c0 := KQ.out.c0
  have c1 := KQ.out.c1
  have c2 := KQ.out.c2
  have c3 := KQ.out.c3
  have c4 := KQ.out.c4
  have s0 := KQ.out.s0
  have s1 := KQ.out.s1
  go_wp2_with fail
  refine (rangeR_nil x.k x.h _).mono ?_
  rintro r W4 ⟨q, rfl, hv, b⟩
  have KQ := Lib.hid (KQ.out.below b); have BL := Lib.hid (bel_trans BL.out b); clear c0 c1 c2 c3 c4 s0 s1
  obtain ⟨_, Aq, nq, rfl, _, rd, _⟩ := row_form hv
  have RP := Lib.hid (RP.out.below b); have RQ := Lib.hid rd; clear rd hv b
  go_wp2_with fail
  refine (sameR_any _ _ _ _ _ _ [] [] _ rfl rfl (by simp) (by simp) RP.out RQ.out).mono ?_
  rw [show decide (([] : List Pr) = []) = true from decide_eq_true rfl]
  rintro r W5 ⟨rfl, b⟩
  have BL := Lib.hid (bel_trans BL.out b); clear b
  go_wp2
  go_ret
  exact ⟨rfl, BL.out⟩
set_option maxRecDepth 100000 in
set_option maxHeartbeats 1000000 in
theorem don_8 (W : World) (x : Dd) (bx : BdD1 x) (c : x.d % 9 = 8) :
    Calls Try.prog 14 #[.pointer none, .pointer none, .agg (encD x)] W fun e w' => e = .returned (.bool true) ∧ Below W.heap.size W w' := by
  have u0 : (x.d % 9 == 0) = false := by simp [c]
  have u1 : (x.d % 9 == 1) = false := by simp [c]
  have u2 : (x.d % 9 == 2) = false := by simp [c]
  have u3 : (x.d % 9 == 3) = false := by simp [c]
  have u4 : (x.d % 9 == 4) = false := by simp [c]
  have u5 : (x.d % 9 == 5) = false := by simp [c]
  have u6 : (x.d % 9 == 6) = false := by simp [c]
  have u7 : (x.d % 9 == 7) = false := by simp [c]
  clear c
  have KQ := Lib.hid (dW_q W x)
  have BL := Lib.hid (dW_below W x)
  obtain ⟨d1, d2⟩ := bx_mod bx
  clear bx
  unfold encD
  go_enter Try.func14, Try.ntmps14
  go_upto_region 2 with fail
  iterate 8 first | go_values | go_skip | go_step | go_upon | go_back | go_simp
  obtain ⟨W2, hW2⟩ : ∃ W2, W2 = dW W x := ⟨_, rfl⟩
  rw [← hW2] at KQ BL
  unfold dW encD at hW2
  rw [← hW2]
  clear hW2
  have c0 := KQ.out.c0
  have c1 := KQ.out.c1
  have c2 := KQ.out.c2
  have c3 := KQ.out.c3
  have c4 := KQ.out.c4
  have s0 := KQ.out.s0
  have s1 := KQ.out.s1
  go_wp2_with fail
  refine (nextC_nil x.k x.h _).mono ?_
  have NC : ∃ a b t, nxT [] 1 = .tuple #[.agg #[.int .u64 a, .int .u64 b], .bool t, .int .i64 1] := ⟨_, _, _, rfl⟩
  obtain ⟨a, bb, t, NC⟩ := NC
  have NC := Lib.hid NC
  rw [NC.out]
  rintro r W3 ⟨rfl, b⟩
  have KQ := Lib.hid (KQ.out.below b); have BL := Lib.hid (bel_trans BL.out b); clear c0 c1 c2 c3 c4 s0 s1
  clear b
  have c0 := KQ.out.c0
  have c1 := KQ.out.c1
  have c2 := KQ.out.c2
  have c3 := KQ.out.c3
  have c4 := KQ.out.c4
  have s0 := KQ.out.s0
  have s1 := KQ.out.s1
  go_upto_region 36 with fail
  have Pp0 : (W3.alloc (.cells #[.int .u64 a, .int .u64 bb] 45)).cell? ⟨W3.heap.size, 0, none⟩ = some (.int .u64 a) := by simp
  have Pp1 : (W3.alloc (.cells #[.int .u64 a, .int .u64 bb] 45)).cell? ⟨W3.heap.size, 1, none⟩ = some (.int .u64 bb) := by simp
  have Lp : W3.heap.size < (W3.alloc (.cells #[.int .u64 a, .int .u64 bb] 45)).heap.size := by simp
  have bb0 := bel_alloc (Below.refl W3.heap.size W3) (.cells #[.int .u64 a, .int .u64 bb] 45)
  have KQ := Lib.hid (KQ.out.below bb0)
  have BL := Lib.hid (bel_trans BL.out bb0)
  clear bb0
  generalize W3.alloc (.cells #[.int .u64 a, .int .u64 bb] 45) = W5 at *
  generalize W3.heap.size = p1 at *
  clear c0 c1 c2 c3 c4 s0 s1
  have c0 := KQ.out.c0
  have c1 := KQ.out.c1
  have c2 := KQ.out.c2
  have c3 := KQ.out.c3
  have c4 := KQ.out.c4
  have s0 := KQ.out.s0
  have s1 := KQ.out.s1
  go_wp2_with fail
  refine (nextR_nil x.k x.h _).mono ?_
  rw [NC.out]
  rintro r W4 ⟨rfl, b⟩
  replace Pp0 := (b.cell (p := ⟨p1, 0, none⟩) Lp).trans Pp0
  replace Pp1 := (b.cell (p := ⟨p1, 1, none⟩) Lp).trans Pp1
  replace Lp := Nat.lt_of_lt_of_le Lp b.size
  have KQ := Lib.hid (KQ.out.below b); have BL := Lib.hid (bel_trans BL.out b); clear c0 c1 c2 c3 c4 s0 s1
  clear b
  go_upto_region 37 with fail
  iterate 8 first | go_values | go_skip | go_step | go_upon | go_back | go_simp
  replace Pp0 := (World.cell?_alloc_lt W4 (.cells #[.int .u64 a, .int .u64 bb] 45) ⟨p1, 0, none⟩ Lp).trans Pp0
  replace Pp1 := (World.cell?_alloc_lt W4 (.cells #[.int .u64 a, .int .u64 bb] 45) ⟨p1, 1, none⟩ Lp).trans Pp1
  have Pq0 : (W4.alloc (.cells #[.int .u64 a, .int .u64 bb] 45)).cell? ⟨W4.heap.size, 0, none⟩ = some (.int .u64 a) := by simp
  have Pq1 : (W4.alloc (.cells #[.int .u64 a, .int .u64 bb] 45)).cell? ⟨W4.heap.size, 1, none⟩ = some (.int .u64 bb) := by simp
  have Lq : W4.heap.size < (W4.alloc (.cells #[.int .u64 a, .int .u64 bb] 45)).heap.size := by simp
  have bb0 := bel_alloc (Below.refl W4.heap.size W4) (.cells #[.int .u64 a, .int .u64 bb] 45)
  have KQ := Lib.hid (KQ.out.below bb0)
  have BL := Lib.hid (bel_trans BL.out bb0)
  clear bb0
  generalize W4.alloc (.cells #[.int .u64 a, .int .u64 bb] 45) = W6 at *
  generalize W4.heap.size = p2 at *
  go_wp2
  go_ret
  exact ⟨rfl, BL.out⟩
theorem nine (d : Int) : d % 9 = 0 ∨ d % 9 = 1 ∨ d % 9 = 2 ∨ d % 9 = 3 ∨ d % 9 = 4 ∨ d % 9 = 5 ∨ d % 9 = 6 ∨ d % 9 = 7 ∨ d % 9 = 8 := by omega
theorem do_any (B bm bn : Nat) (v u : Value) (l : List Pr) (w1 W : World) (x : Dd) (st : Sta B w1 W bm v l bn u l) (ha : Asc l) (hb : Bd l) (hl : l.length ≤ 900) (bx : BdD1 x) :
    Calls Try.prog 14 #[.pointer (some ⟨bm, 0, none⟩), .pointer (some ⟨bn, 0, none⟩), .agg (encD x)] W (DoPost B w1 bm bn l.length) := by
  rcases nine x.d with c | c | c | c | c | c | c | c | c
  · exact do_0 B bm bn v u l w1 W x st ha hb hl bx c
  · exact do_1 B bm bn v u l w1 W x st ha hb hl bx c
  · exact do_2 B bm bn v u l w1 W x st ha hb hl bx c
  · exact do_3 B bm bn v u l w1 W x st ha hb hl bx c
  · exact do_4 B bm bn v u l w1 W x st ha hb hl bx c
  · exact do_5 B bm bn v u l w1 W x st ha hb hl bx c
  · exact do_6 B bm bn v u l w1 W x st ha hb hl bx c
  · exact do_7 B bm bn v u l w1 W x st ha hb hl bx c
  · exact do_8 B bm bn v u l w1 W x st ha hb hl bx c
theorem do_nil (W : World) (x : Dd) (bx : BdD1 x) :
    Calls Try.prog 14 #[.pointer none, .pointer none, .agg (encD x)] W fun e w' => e = .returned (.bool true) ∧ Below W.heap.size W w' := by
  rcases nine x.d with c | c | c | c | c | c | c | c | c
  · exact don_0 W x bx c
  · exact don_1 W x bx c
  · exact don_2 W x bx c
  · exact don_3 W x bx c
  · exact don_4 W x bx c
  · exact don_5 W x bx c
  · exact don_6 W x bx c
  · exact don_7 W x bx c
  · exact don_8 W x bx c
end Wk
end Go.Proofs.Ythinaablldnikaa
