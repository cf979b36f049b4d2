/- The pools and operations of package pool in memory, told by colours (1 the memory, 5 the records, 7 the pool and the maps of steps, 9 the operation; 0 what was there before). Conditions: those of each lemma. (Written by tools/mkps1.py.) -/
import Derived.Test.YtdkkpaofodicjaaGreatPsF
import Derived.Test.YtdkkpaofodicjaaGreatPoU
import Derived.Test.YtdkkpaofodicjaaGreatLyK
import Derived.Test.YtdkkpaofodicjaaGreatField
import Derived.Test.YtdkkpaofodicjaaGreatPoI
import Derived.Deep.RegionHeld3
namespace Go.Proofs.YtdkkpaofodicjaaGreat
open Go.RowKit Go.Sort
set_option linter.unusedVariables false
set_option linter.unusedSimpArgs false
set_option maxRecDepth 100000
namespace Po
open Wd
open Ly (Ge tot pP pK pW pk Cf LyAt)
open Dm (addr_lit info_parts spot_none RdK flatU infoU bel_alloc bel_trans own_keep below_drewN)
def mE (n : Int) (f : FuncId) (b : Nat) : MapEntry := ⟨.int .u8 n, .func (.func f) #[] #[], b⟩
def tkM : Array MapEntry := #[mE 4 46 0, mE 5 47 1, mE 6 48 2]
def gvM : Array MapEntry := #[mE 4 52 0, mE 7 53 1, mE 8 54 2]
/-- an operation of package pool at y, on the pool at x -/
structure OA (w : World) (c : Nat → Nat) (y x : Nat) (r : Op) : Prop where
  c0 : w.cell? ⟨y, 0, none⟩ = some (.pointer (some ⟨x, 0, none⟩))
  c1 : w.cell? ⟨y, 1, none⟩ = some (.int .i64 ((r.th : Nat) : Int))
  c2 : w.cell? ⟨y, 2, none⟩ = some (.int .i64 ((r.h + 1 : Nat) : Int))
  c3 : w.cell? ⟨y, 3, none⟩ = some (.int .u8 ((r.pc : Nat) : Int))
  c4 : w.cell? ⟨y, 4, none⟩ = some (.int .u64 r.hd)
  mp : ∃ m, w.cell? ⟨y, 5, none⟩ = some (.map (some m)) ∧ w.heap[m]? = some (.map (if r.tw = 0 then tkM else gvM) 3) ∧ c m = 7 ∧ m ≠ y
  t : r.tw = 0 → w.cell? ⟨y, 6, none⟩ = some (.int .i64 ((r.tr : Nat) : Int)) ∧ w.cell? ⟨y, 7, none⟩ = some (.int .i64 ((r.fl : Nat) : Int)) ∧ w.cell? ⟨y, 8, none⟩ = some (.int .i64 r.lk) ∧ w.cell? ⟨y, 9, none⟩ = some (.int .i64 r.got) ∧ w.cell? ⟨y, 10, none⟩ = some (.int .i64 r.e)
  g : 0 < r.tw → w.cell? ⟨y, 6, none⟩ = some (.int .i64 ((r.tw : Nat) : Int))
  fz : ∀ j, (j < 7 ∨ (r.tw = 0 ∧ j < 11)) → w.frozen? ⟨y, j, none⟩ = false
theorem OA.lt {w : World} {c : Nat → Nat} {y x : Nat} {r : Op} (h : OA w c y x r) : y < w.heap.size := World.block_lt_of_cell? w ⟨y, 0, none⟩ h.c0
theorem OA.keep {w w' : World} {c c' : Nat → Nat} {y x : Nat} {r : Op} (h : OA w c y x r) (hb : w'.heap[y]? = w.heap[y]?) (hm : ∀ m, m < w.heap.size → c m = 7 → m ≠ y → w'.heap[m]? = w.heap[m]? ∧ c' m = c m) : OA w' c' y x r := by
  have k : ∀ j, w'.cell? ⟨y, j, none⟩ = w.cell? ⟨y, j, none⟩ := fun j => World.cell?_of_block (a := ⟨y, j, none⟩) hb
  obtain ⟨m, m1, m2, m3, m4⟩ := h.mp
  have ml : m < w.heap.size := (Array.getElem?_eq_some_iff.1 m2).1
  obtain ⟨n1, n2⟩ := hm m ml m3 m4
  exact ⟨(k _).trans h.c0, (k _).trans h.c1, (k _).trans h.c2, (k _).trans h.c3, (k _).trans h.c4, ⟨m, (k _).trans m1, n1.trans m2, n2.trans m3, m4⟩, fun e => ⟨(k _).trans (h.t e).1, (k _).trans (h.t e).2.1, (k _).trans (h.t e).2.2.1, (k _).trans (h.t e).2.2.2.1, (k _).trans (h.t e).2.2.2.2⟩, fun e => (k _).trans (h.g e), fun j hj => (World.frozen?_of_block (a := ⟨y, j, none⟩) hb).trans (h.fz j hj)⟩
theorem OA.fc {S : Nat → Prop} {w w' : World} {c c' : Nat → Nat} {y x : Nat} {r : Op} (h : OA w c y x r) (hf : Fc S w c w' c') (h1 : ¬ S (c y)) (h2 : ¬ S 7) : OA w' c' y x r :=
  h.keep (hf.keep h.lt h1) fun m ml mc _ => ⟨hf.keep ml (by rw [mc]; exact h2), hf.co m ml⟩
theorem OA.set3 {w : World} {c : Nat → Nat} {y x : Nat} {r : Op} (h : OA w c y x r) (v : Nat) : OA (w.setCell ⟨y, 3, none⟩ (.int .u8 ((v : Nat) : Int))) c y x ⟨r.th, r.h, r.tw, r.tr, v, r.hd, r.lk, r.got, r.fl, r.e⟩ := by
  obtain ⟨m, m1, m2, m3, m4⟩ := h.mp
  exact ⟨(oth (by omega)).trans h.c0, (oth (by omega)).trans h.c1, (oth (by omega)).trans h.c2, World.cell?_setCell_same _ _ _ h.c3, (oth (by omega)).trans h.c4, ⟨m, (oth (by omega)).trans m1, (blk m4).trans m2, m3, m4⟩, fun e => ⟨(oth (by omega)).trans (h.t e).1, (oth (by omega)).trans (h.t e).2.1, (oth (by omega)).trans (h.t e).2.2.1, (oth (by omega)).trans (h.t e).2.2.2.1, (oth (by omega)).trans (h.t e).2.2.2.2⟩, fun e => (oth (by omega)).trans (h.g e), fun j hj => frz (h.fz j hj)⟩
theorem OA.set4 {w : World} {c : Nat → Nat} {y x : Nat} {r : Op} (h : OA w c y x r) (v : Int) : OA (w.setCell ⟨y, 4, none⟩ (.int .u64 v)) c y x ⟨r.th, r.h, r.tw, r.tr, r.pc, v, r.lk, r.got, r.fl, r.e⟩ := by
  obtain ⟨m, m1, m2, m3, m4⟩ := h.mp
  exact ⟨(oth (by omega)).trans h.c0, (oth (by omega)).trans h.c1, (oth (by omega)).trans h.c2, (oth (by omega)).trans h.c3, World.cell?_setCell_same _ _ _ h.c4, ⟨m, (oth (by omega)).trans m1, (blk m4).trans m2, m3, m4⟩, fun e => ⟨(oth (by omega)).trans (h.t e).1, (oth (by omega)).trans (h.t e).2.1, (oth (by omega)).trans (h.t e).2.2.1, (oth (by omega)).trans (h.t e).2.2.2.1, (oth (by omega)).trans (h.t e).2.2.2.2⟩, fun e => (oth (by omega)).trans (h.g e), fun j hj => frz (h.fz j hj)⟩
theorem OA.set7 {w : World} {c : Nat → Nat} {y x : Nat} {r : Op} (h : OA w c y x r) (h0 : r.tw = 0) (v : Nat) : OA (w.setCell ⟨y, 7, none⟩ (.int .i64 ((v : Nat) : Int))) c y x ⟨r.th, r.h, r.tw, r.tr, r.pc, r.hd, r.lk, r.got, v, r.e⟩ := by
  obtain ⟨m, m1, m2, m3, m4⟩ := h.mp
  exact ⟨(oth (by omega)).trans h.c0, (oth (by omega)).trans h.c1, (oth (by omega)).trans h.c2, (oth (by omega)).trans h.c3, (oth (by omega)).trans h.c4, ⟨m, (oth (by omega)).trans m1, (blk m4).trans m2, m3, m4⟩, fun e => ⟨(oth (by omega)).trans (h.t e).1, World.cell?_setCell_same _ _ _ (h.t e).2.1, (oth (by omega)).trans (h.t e).2.2.1, (oth (by omega)).trans (h.t e).2.2.2.1, (oth (by omega)).trans (h.t e).2.2.2.2⟩, fun e => absurd e (by simp only [h0]; omega), fun j hj => frz (h.fz j hj)⟩
theorem OA.set8 {w : World} {c : Nat → Nat} {y x : Nat} {r : Op} (h : OA w c y x r) (h0 : r.tw = 0) (v : Int) : OA (w.setCell ⟨y, 8, none⟩ (.int .i64 v)) c y x ⟨r.th, r.h, r.tw, r.tr, r.pc, r.hd, v, r.got, r.fl, r.e⟩ := by
  obtain ⟨m, m1, m2, m3, m4⟩ := h.mp
  exact ⟨(oth (by omega)).trans h.c0, (oth (by omega)).trans h.c1, (oth (by omega)).trans h.c2, (oth (by omega)).trans h.c3, (oth (by omega)).trans h.c4, ⟨m, (oth (by omega)).trans m1, (blk m4).trans m2, m3, m4⟩, fun e => ⟨(oth (by omega)).trans (h.t e).1, (oth (by omega)).trans (h.t e).2.1, World.cell?_setCell_same _ _ _ (h.t e).2.2.1, (oth (by omega)).trans (h.t e).2.2.2.1, (oth (by omega)).trans (h.t e).2.2.2.2⟩, fun e => absurd e (by simp only [h0]; omega), fun j hj => frz (h.fz j hj)⟩
theorem OA.set9 {w : World} {c : Nat → Nat} {y x : Nat} {r : Op} (h : OA w c y x r) (h0 : r.tw = 0) (v : Int) : OA (w.setCell ⟨y, 9, none⟩ (.int .i64 v)) c y x ⟨r.th, r.h, r.tw, r.tr, r.pc, r.hd, r.lk, v, r.fl, r.e⟩ := by
  obtain ⟨m, m1, m2, m3, m4⟩ := h.mp
  exact ⟨(oth (by omega)).trans h.c0, (oth (by omega)).trans h.c1, (oth (by omega)).trans h.c2, (oth (by omega)).trans h.c3, (oth (by omega)).trans h.c4, ⟨m, (oth (by omega)).trans m1, (blk m4).trans m2, m3, m4⟩, fun e => ⟨(oth (by omega)).trans (h.t e).1, (oth (by omega)).trans (h.t e).2.1, (oth (by omega)).trans (h.t e).2.2.1, World.cell?_setCell_same _ _ _ (h.t e).2.2.2.1, (oth (by omega)).trans (h.t e).2.2.2.2⟩, fun e => absurd e (by simp only [h0]; omega), fun j hj => frz (h.fz j hj)⟩
theorem OA.set10 {w : World} {c : Nat → Nat} {y x : Nat} {r : Op} (h : OA w c y x r) (h0 : r.tw = 0) (v : Int) : OA (w.setCell ⟨y, 10, none⟩ (.int .i64 v)) c y x ⟨r.th, r.h, r.tw, r.tr, r.pc, r.hd, r.lk, r.got, r.fl, v⟩ := by
  obtain ⟨m, m1, m2, m3, m4⟩ := h.mp
  exact ⟨(oth (by omega)).trans h.c0, (oth (by omega)).trans h.c1, (oth (by omega)).trans h.c2, (oth (by omega)).trans h.c3, (oth (by omega)).trans h.c4, ⟨m, (oth (by omega)).trans m1, (blk m4).trans m2, m3, m4⟩, fun e => ⟨(oth (by omega)).trans (h.t e).1, (oth (by omega)).trans (h.t e).2.1, (oth (by omega)).trans (h.t e).2.2.1, (oth (by omega)).trans (h.t e).2.2.2.1, World.cell?_setCell_same _ _ _ (h.t e).2.2.2.2⟩, fun e => absurd e (by simp only [h0]; omega), fun j hj => frz (h.fz j hj)⟩
/-- the pools of package pool at x: the memory at bm, the layout at bl, a row of n records at ta -/
structure PA (w : World) (x bm bl ta n : Nat) (S : Pm) : Prop where
  c0 : w.cell? ⟨x, 0, none⟩ = some (.pointer (some ⟨bm, 0, none⟩))
  c1 : w.cell? ⟨x, 1, none⟩ = some (.pointer (some ⟨bl, 0, none⟩))
  c2 : w.cell? ⟨x, 2, none⟩ = some (.slice (some ⟨ta, 0, none⟩) n n)
  r : ∀ t, t < n → w.cell? ⟨ta, t * 3, none⟩ = some (.bool (S.tk (t + 1))) ∧ w.cell? ⟨ta, t * 3 + 1, none⟩ = some (.bool (S.gv (t + 1))) ∧ w.cell? ⟨ta, t * 3 + 2, none⟩ = some (.int .i64 ((S.gn (t + 1) : Nat) : Int))
  f : ∀ j, w.frozen? ⟨ta, j, none⟩ = false
  lt : ta < w.heap.size
  ne : x ≠ ta
theorem PA.xlt {w : World} {x bm bl ta n : Nat} {S : Pm} (h : PA w x bm bl ta n S) : x < w.heap.size := World.block_lt_of_cell? w ⟨x, 0, none⟩ h.c0
theorem PA.keep {w w' : World} {x bm bl ta n : Nat} {S : Pm} (h : PA w x bm bl ta n S) (hx : w'.heap[x]? = w.heap[x]?) (hs : w.heap.size ≤ w'.heap.size) (ht : w'.heap[ta]? = w.heap[ta]?) {M : Wm} : PA w' x bm bl ta n ⟨M, S.tk, S.gv, S.gn⟩ := by
  have k : ∀ j, w'.cell? ⟨x, j, none⟩ = w.cell? ⟨x, j, none⟩ := fun j => World.cell?_of_block (a := ⟨x, j, none⟩) hx
  have kt : ∀ j, w'.cell? ⟨ta, j, none⟩ = w.cell? ⟨ta, j, none⟩ := fun j => World.cell?_of_block (a := ⟨ta, j, none⟩) ht
  exact ⟨(k _).trans h.c0, (k _).trans h.c1, (k _).trans h.c2, fun t hl => ⟨(kt _).trans (h.r t hl).1, (kt _).trans (h.r t hl).2.1, (kt _).trans (h.r t hl).2.2⟩, fun j => (World.frozen?_of_block (a := ⟨ta, j, none⟩) ht).trans (h.f j), Nat.lt_of_lt_of_le h.lt hs, h.ne⟩
theorem PA.fc {T : Nat → Prop} {w w' : World} {c c' : Nat → Nat} {x bm bl ta n : Nat} {S : Pm} (h : PA w x bm bl ta n S) (hf : Fc T w c w' c') (h1 : ¬ T (c x)) (h2 : ¬ T (c ta)) {M : Wm} : PA w' x bm bl ta n ⟨M, S.tk, S.gv, S.gn⟩ := h.keep (hf.keep h.xlt h1) hf.fr.size (hf.keep h.lt h2)
theorem PA.set_tk {w : World} {x bm bl ta n : Nat} {S : Pm} (h : PA w x bm bl ta n S) (t : Nat) (v : Bool) : PA (w.setCell ⟨ta, t * 3, none⟩ (.bool v)) x bm bl ta n ⟨S.M, set S.tk (t + 1) v, S.gv, S.gn⟩ :=
  ⟨(blkc h.ne).trans h.c0, (blkc h.ne).trans h.c1, (blkc h.ne).trans h.c2, fun k hk => ⟨by
      by_cases e : k = t
      · subst e; simp only [set_same]; exact World.cell?_setCell_same _ _ _ (h.r k hk).1
      · simp only [set_other (fun q => e (Nat.succ.inj q) : k + 1 ≠ t + 1)]; exact (oth (by omega)).trans (h.r k hk).1, (oth (by omega)).trans (h.r k hk).2.1, (oth (by omega)).trans (h.r k hk).2.2⟩, fun j => frz (h.f j), by simpa using h.lt, h.ne⟩
theorem PA.set_gv {w : World} {x bm bl ta n : Nat} {S : Pm} (h : PA w x bm bl ta n S) (t : Nat) (v : Bool) : PA (w.setCell ⟨ta, t * 3 + 1, none⟩ (.bool v)) x bm bl ta n ⟨S.M, S.tk, set S.gv (t + 1) v, S.gn⟩ :=
  ⟨(blkc h.ne).trans h.c0, (blkc h.ne).trans h.c1, (blkc h.ne).trans h.c2, fun k hk => ⟨(oth (by omega)).trans (h.r k hk).1, by
      by_cases e : k = t
      · subst e; simp only [set_same]; exact World.cell?_setCell_same _ _ _ (h.r k hk).2.1
      · simp only [set_other (fun q => e (Nat.succ.inj q) : k + 1 ≠ t + 1)]; exact (oth (by omega)).trans (h.r k hk).2.1, (oth (by omega)).trans (h.r k hk).2.2⟩, fun j => frz (h.f j), by simpa using h.lt, h.ne⟩
theorem PA.set_gn {w : World} {x bm bl ta n : Nat} {S : Pm} (h : PA w x bm bl ta n S) (t : Nat) (v : Nat) : PA (w.setCell ⟨ta, t * 3 + 2, none⟩ (.int .i64 ((v : Nat) : Int))) x bm bl ta n ⟨S.M, S.tk, S.gv, set S.gn (t + 1) v⟩ :=
  ⟨(blkc h.ne).trans h.c0, (blkc h.ne).trans h.c1, (blkc h.ne).trans h.c2, fun k hk => ⟨(oth (by omega)).trans (h.r k hk).1, (oth (by omega)).trans (h.r k hk).2.1, by
      by_cases e : k = t
      · subst e; simp only [set_same]; exact World.cell?_setCell_same _ _ _ (h.r k hk).2.2
      · simp only [set_other (fun q => e (Nat.succ.inj q) : k + 1 ≠ t + 1)]; exact (oth (by omega)).trans (h.r k hk).2.2⟩, fun j => frz (h.f j), by simpa using h.lt, h.ne⟩
/-- a layout that was made before all blocks of other colours than 0 -/
def LyC (w : World) (c : Nat → Nat) (bl : Nat) (f : Cf) (l : List Int) (g : Ge) : Prop := ∃ wl, LyAt wl bl f l g ∧ Below wl.heap.size wl w ∧ ∀ i, i < wl.heap.size → c i = 0
theorem LyC.at {w : World} {c : Nat → Nat} {bl : Nat} {f : Cf} {l : List Int} {g : Ge} (h : LyC w c bl f l g) : LyAt w bl f l g := by
  obtain ⟨wl, h1, h2, _⟩ := h
  exact h1.below h2
theorem LyC.fc {T : Nat → Prop} {w w' : World} {c c' : Nat → Nat} {bl : Nat} {f : Cf} {l : List Int} {g : Ge} (h : LyC w c bl f l g) (hf : Fc T w c w' c') (h1 : ¬ T 0) : LyC w' c' bl f l g := by
  obtain ⟨wl, a1, a2, a3⟩ := h
  exact ⟨wl, a1, a2.trans (hf.below a2.size a3 h1), hf.low a2.size a3⟩
/-- where a pool's parts lie -/
structure Kc where
  x : Nat
  bm : Nat
  bl : Nat
  ta : Nat
  f : Cf
  l : List Int
  g : Ge
/-- a pool and one operation on it -/
structure CA (K : Kc) (w : World) (c : Nat → Nat) (y : Nat) (S : Pm) (r : Op) : Prop where
  m : MC 106 w c 1 K.bm S.M
  p : PA w K.x K.bm K.bl K.ta (tot K.g.t 6) S
  ct : c K.ta = 5
  cx : c K.x = 7
  ly : LyC w c K.bl K.f K.l K.g
  ok : K.g.ok
  o : OA w c y K.x r
  cy : c y = 9
section
variable {K : Kc} {w : World} {c : Nat → Nat} {y : Nat} {S : Pm} {r : Op}
theorem CA.chg (h : CA K w c y S r) {T : Nat → Prop} {w1 : World} {c1 : Nat → Nat} (hf : Fc T w c w1 c1) (h0 : ¬ T 0) (h5 : ¬ T 5) (h7 : ¬ T 7) (h9 : ¬ T 9) {M : Wm} (hm : MC 106 w1 c1 1 K.bm M) : CA K w1 c1 y ⟨M, S.tk, S.gv, S.gn⟩ r :=
  ⟨hm, h.p.fc hf (by rw [h.cx]; exact h7) (by rw [h.ct]; exact h5), (hf.co _ h.p.lt).trans h.ct, (hf.co _ h.p.xlt).trans h.cx, h.ly.fc hf h0, h.ok, h.o.fc hf (by rw [h.cy]; exact h9) h7, (hf.co _ h.o.lt).trans h.cy⟩
theorem CA.below (h : CA K w c y S r) {w1 : World} (hb : Below w.heap.size w w1) : CA K w1 c y S r := h.chg (Fc.of_below (S := fun _ => False) hb) id id id id (h.m.keep (Fc.of_below (S := fun _ => False) hb) id)
theorem CA.drewN (h : CA K w c y S r) (m : Nat) : CA K (w.drewN m) c y S r := h.below (below_drewN (Below.refl _ _) m)
/-- what a call on the pool leaves -/
def Lf (K : Kc) (y : Nat) (S' : Pm) (r' : Op) (w : World) (c : Nat → Nat) (w' : World) : Prop := ∃ c', CA K w' c' y S' r' ∧ Fc (fun i => i = 1 ∨ i = 5 ∨ i = 9) w c w' c'
theorem CA.mem (h : CA K w c y S r) {w1 : World} {p : Nat} {q : Option Nat} {M : Wm} (hp : At 106 w K.bm p q S.M) (hc : ∀ i, Of K.bm p q i → c i = 1) (ha : After 106 K.bm p q M w w1) : Lf K y ⟨M, S.tk, S.gv, S.gn⟩ r w c w1 := by
  obtain ⟨h1, h2⟩ := MC.mem hp hc ha
  exact ⟨_, h.chg h2 (by omega) (by omega) (by omega) (by omega) h1, h2.mono fun i e => .inl e⟩
theorem CA.xy (h : CA K w c y S r) : K.x ≠ y := fun e => by
  have h1 := h.cx
  rw [e, h.cy] at h1
  omega
theorem CA.ty (h : CA K w c y S r) : K.ta ≠ y := fun e => by
  have h1 := h.ct
  rw [e, h.cy] at h1
  omega
theorem CA.opset (h : CA K w c y S r) {j : Nat} {v : Value} {r' : Op} (ho : OA (w.setCell ⟨y, j, none⟩ v) c y K.x r') : CA K (w.setCell ⟨y, j, none⟩ v) c y S r' ∧ Fc (fun i => i = 9) w c (w.setCell ⟨y, j, none⟩ v) c := by
  have hf : Fc (fun i => i = 9) w c (w.setCell ⟨y, j, none⟩ v) c := (Fc.id _ w c).set _ _ fun _ => h.cy
  exact ⟨⟨h.m.keep hf (by omega), h.p.fc hf (by rw [h.cx]; omega) (by rw [h.ct]; omega), h.ct, h.cx, h.ly.fc hf (by omega), h.ok, ho, h.cy⟩, hf⟩
theorem CA.rcset (h : CA K w c y S r) {j : Nat} {v : Value} {S' : Pm} (hM : S'.M = S.M) (hp : PA (w.setCell ⟨K.ta, j, none⟩ v) K.x K.bm K.bl K.ta (tot K.g.t 6) S') : CA K (w.setCell ⟨K.ta, j, none⟩ v) c y S' r ∧ Fc (fun i => i = 5) w c (w.setCell ⟨K.ta, j, none⟩ v) c := by
  have hf : Fc (fun i => i = 5) w c (w.setCell ⟨K.ta, j, none⟩ v) c := (Fc.id _ w c).set _ _ fun _ => h.ct
  exact ⟨⟨by rw [hM]; exact h.m.keep hf (by omega), hp, h.ct, h.cx, h.ly.fc hf (by omega), h.ok, h.o.fc hf (by rw [h.cy]; omega) (by omega), h.cy⟩, hf⟩
theorem Lf.of (h : CA K w c y S r) : Lf K y S r w c w := ⟨c, h, Fc.id _ _ _⟩
theorem Lf.trans {S1 S2 : Pm} {r1 r2 : Op} {w1 w2 : World} (h : Lf K y S1 r1 w c w1) (h2 : ∀ c1, CA K w1 c1 y S1 r1 → Lf K y S2 r2 w1 c1 w2) : Lf K y S2 r2 w c w2 := by
  obtain ⟨c1, a1, a2⟩ := h
  obtain ⟨c2, b1, b2⟩ := h2 c1 a1
  exact ⟨c2, b1, a2.trans b2⟩
theorem Lf.then {S1 : Pm} {r1 : Op} {w1 w2 : World} (h : Lf K y S1 r1 w c w1) (hb : Below w1.heap.size w1 w2) : Lf K y S1 r1 w c w2 := h.trans fun c1 a => ⟨c1, a.below hb, Fc.of_below hb⟩
theorem Lf.op {S1 : Pm} {r1 r2 : Op} {w1 : World} {j : Nat} {v : Value} (h : Lf K y S1 r1 w c w1) (ho : ∀ c1, OA w1 c1 y K.x r1 → OA (w1.setCell ⟨y, j, none⟩ v) c1 y K.x r2) : Lf K y S1 r2 w c (w1.setCell ⟨y, j, none⟩ v) := h.trans fun c1 a => ⟨c1, (a.opset (ho c1 a.o)).1, (a.opset (ho c1 a.o)).2.mono fun i e => .inr (.inr e)⟩
theorem Lf.rc {S1 S2 : Pm} {r1 : Op} {w1 : World} {j : Nat} {v : Value} (h : Lf K y S1 r1 w c w1) (hM : S2.M = S1.M) (ho : PA w1 K.x K.bm K.bl K.ta (tot K.g.t 6) S1 → PA (w1.setCell ⟨K.ta, j, none⟩ v) K.x K.bm K.bl K.ta (tot K.g.t 6) S2) : Lf K y S2 r1 w c (w1.setCell ⟨K.ta, j, none⟩ v) := h.trans fun c1 a => ⟨c1, (a.rcset hM (ho a.p)).1, (a.rcset hM (ho a.p)).2.mono fun i e => .inr (.inl e)⟩
end
end Po
end Go.Proofs.YtdkkpaofodicjaaGreat
