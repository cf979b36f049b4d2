/- Package layout: lay: contract of the translated code. No conditions beside those of the lemma. -/
import Derived.Test.YtjcbjbhlclajnaaLyF
import Derived.Deep.RegionHeld3
namespace Go.Proofs.Ytjcbjbhlclajnaa
open Go.RowKit Go.Sort
set_option linter.unusedVariables false
set_option linter.unusedSimpArgs false
set_option maxRecDepth 100000
namespace Ly
open Dm (RdK BdU dmB dmE dmN bel_alloc bel_trans cell_lt)
def z5 : Gx := (⟨0, 0, 0, 0⟩, 0)
/-- a layout of which only the configuration has been laid -/
structure Bz (w : World) (b : Nat) (f : Cf) : Prop where
  cf : CfB w b f
  pl : ∀ i, i < 10 → w.cell? ⟨b, 16 + i, none⟩ = some (.int .i64 0)
  gr : w.cell? ⟨b, 26, none⟩ = some (.slice none 0 0)
  lk : KG.At w b 27 z5
  hd : KG.At w b 32 z5
  tw : ∀ i, i < 6 → KG.At w b (37 + i * 5) z5
  fz : ∀ j, w.frozen? ⟨b, j, none⟩ = false
/-- groups and where they begin -/
def gxs : List G → Nat → List Gx
  | [], _ => []
  | g :: r, f => (g, f) :: gxs r (f + g.n * g.s)
def plN (g : Ge) : Nat → Nat
  | 0 => 0
  | 1 => pE g
  | 2 => pM g
  | 3 => pL g
  | 4 => pD g
  | 5 => pP g
  | 6 => pK g
  | 7 => pH g
  | 8 => pT g
  | 9 => pW g
  | _ => 0
/-- a layout in the block b -/
structure LyAt (w : World) (b : Nat) (f : Cf) (l : List Int) (g : Ge) : Prop where
  cf : CfB w b f
  pl : ∀ i, i < 10 → w.cell? ⟨b, 16 + i, none⟩ = some (.int .i64 (plN g i : Nat))
  gr : ∃ A c, w.cell? ⟨b, 26, none⟩ = some (.slice A 14 c) ∧ KG.Rd w A (gxs (gs g) 0)
  lk : KG.At w b 27 (⟨7, 1, tot g.t 6, 1⟩, pK g)
  hd : KG.At w b 32 (⟨8, 0, g.D, 7⟩, pH g)
  tw : ∀ i, i < 6 → KG.At w b (37 + i * 5) (tg g.t i, pT g + wds g.t i)
  cu : RdK .u64 w f.A l
  e : l.length = f.m
theorem LyAt.lt {w : World} {b : Nat} {f : Cf} {l : List Int} {g : Ge} (h : LyAt w b f l g) : b < w.heap.size := cell_lt h.cf.c0
theorem LyAt.below {w w' : World} {b : Nat} {f : Cf} {l : List Int} {g : Ge} (h : LyAt w b f l g) (hb : Below w.heap.size w w') : LyAt w' b f l g := by
  have k : ∀ j, w'.cell? ⟨b, j, none⟩ = w.cell? ⟨b, j, none⟩ := fun j => hb.cell (p := ⟨b, j, none⟩) h.lt
  refine ⟨h.cf.below hb, fun i hi => (k _).trans (h.pl i hi), ?_, at_keep h.lk fun j _ => k _, at_keep h.hd fun j _ => k _, fun i hi => at_keep (h.tw i hi) fun j _ => k _, h.cu.below hb, h.e⟩
  obtain ⟨A, c, h1, h2⟩ := h.gr
  exact ⟨A, c, (k _).trans h1, h2.below hb⟩
/-- the places while the first k have been written and cur words are laid -/
def pf (g : Ge) (k cur : Nat) : Nat → Int := fun i => if i = 9 then (cur : Int) else if i < k then ((plN g i : Nat) : Int) else 0
theorem pf_cur (g : Ge) (k P N : Nat) (i : Nat) : upd (pf g k P) 9 (N : Int) i = pf g k N i := by
  by_cases h : i = 9
  · subst h; simp [upd, pf]
  · simp [upd, pf, h]
theorem pf_set (g : Ge) {k : Nat} (hk : k < 9) (N : Nat) (i : Nat) : upd (pf g k N) k ((plN g k : Nat) : Int) i = pf g (k + 1) N i := by
  by_cases h : i = 9
  · subst h; simp [upd, pf]; omega
  · by_cases e : i = k
    · subst e; simp [upd, pf, h]
    · have e1 : (i < k + 1) = (i < k) := by apply propext; omega
      simp [upd, pf, h, e, e1]
theorem pf_step (g : Ge) {k : Nat} (hk : k < 9) (P N : Nat) (i : Nat) : upd (upd (pf g k P) 9 (N : Int)) k ((plN g k : Nat) : Int) i = pf g (k + 1) N i := by
  rw [show upd (pf g k P) 9 (N : Int) = pf g k N from funext (pf_cur g k P N)]
  exact pf_set g hk N i
def G1 (g : Ge) : List Gx := [(⟨1, 0, g.S, 1⟩, 0)]
def G2 (g : Ge) : List Gx := G1 g ++ [(⟨2, 0, 1, g.E⟩, pE g)]
def G3 (g : Ge) : List Gx := G2 g ++ [(⟨3, 0, 1, 1⟩, pM g)]
def G4 (g : Ge) : List Gx := G3 g ++ [(⟨4, 0, g.L, 3⟩, pL g)]
def G5 (g : Ge) : List Gx := G4 g ++ [(⟨5, 0, g.L, 1⟩, pD g)]
def G6 (g : Ge) : List Gx := G5 g ++ [(⟨6, 0, 6, 1⟩, pP g)]
def G7 (g : Ge) : List Gx := G6 g ++ [(⟨7, 1, tot g.t 6, 1⟩, pK g)]
def G8 (g : Ge) : List Gx := G7 g ++ [(⟨8, 0, g.D, 7⟩, pH g)]
def tx (g : Ge) (i : Nat) : Gx := (tg g.t i, pT g + wds g.t i)
def GT (g : Ge) (j : Nat) : List Gx := G8 g ++ (List.range j).map (tx g)
theorem GT_succ (g : Ge) (j : Nat) : GT g (j + 1) = GT g j ++ [tx g j] := by rw [GT, GT, List.range_succ, List.map_append, List.append_assoc]; rfl
theorem field_first (a1 a2 a3 a4 a5 : Value) (W : World) : (Instr.field 138 (.agg #[a1, a2, a3, a4, a5]) 4).run Try.prog W = .ok a5 W := by
  have hp : (part 3 #[a1, a2, a3, a4, a5] 4).run Try.prog W = .ok a5 W := run_part_plain W (by kernel_rfl) rfl
  simp [Instr.field, run_underlying Try.underlying138, asAgg, hp]
def t1 (g : Ge) (j : Nat) : Nat := 1 + tot g.t j
theorem pf_end (g : Ge) {i : Nat} (hi : i < 10) : pf g 9 (pW g) i = ((plN g i : Nat) : Int) := by
  by_cases h : i = 9
  · subst h; simp [pf, plN]
  · have h9 : i < 9 := by omega
    simp [pf, h, h9]
theorem gxs_GT (g : Ge) : gxs (gs g) 0 = GT g 6 := by
  simp only [gs, g0, tgs, GT, G8, G7, G6, G5, G4, G3, G2, G1, List.range_succ, List.range_zero, List.nil_append, List.cons_append, List.map_cons, List.map_nil, List.map_append, gxs, tg, tx, pE, pM, pL, pD, pP, pK, pH, pT, wds, tot, List.cons.injEq, Prod.mk.injEq, true_and, and_true, List.append_nil]
  refine ⟨?_, ?_, ?_, ?_, ?_, ?_, ?_, ?_, ?_, ?_, ?_, ?_, ?_⟩ <;> omega
theorem wr6 {j : Nat} (h : j < 6) : IntKind.i64.wrap (IntKind.i64.wrap (5 + (j : Int)) + 1) = ((6 + j : Nat) : Int) := by
  rcases (show j = 0 ∨ j = 1 ∨ j = 2 ∨ j = 3 ∨ j = 4 ∨ j = 5 by omega) with rfl | rfl | rfl | rfl | rfl | rfl <;> decide
theorem Ps.lk5 {w00 w : World} {N0 b bp bl bc base : Nat} {f : Cf} {p : Nat → Int} {gl : List Gx} {lk hd : Gx} {tw : Nat → Gx} (h : Ps w00 N0 b bp bl bc base f w p gl lk hd tw) (x : Gx) :
    Ps w00 N0 b bp bl bc base f (((((w.setCell ⟨b, 27, none⟩ (.int .u8 x.1.k)).setCell ⟨b, 28, none⟩ (.int .i64 (x.1.i : Nat))).setCell ⟨b, 29, none⟩ (.int .i64 (x.1.n : Nat))).setCell ⟨b, 30, none⟩ (.int .i64 (x.1.s : Nat))).setCell ⟨b, 31, none⟩ (.int .i64 (x.2 : Nat))) p gl x hd tw := h.setLk x
theorem Ps.hd5 {w00 w : World} {N0 b bp bl bc base : Nat} {f : Cf} {p : Nat → Int} {gl : List Gx} {lk hd : Gx} {tw : Nat → Gx} (h : Ps w00 N0 b bp bl bc base f w p gl lk hd tw) (x : Gx) :
    Ps w00 N0 b bp bl bc base f (((((w.setCell ⟨b, 32, none⟩ (.int .u8 x.1.k)).setCell ⟨b, 33, none⟩ (.int .i64 (x.1.i : Nat))).setCell ⟨b, 34, none⟩ (.int .i64 (x.1.n : Nat))).setCell ⟨b, 35, none⟩ (.int .i64 (x.1.s : Nat))).setCell ⟨b, 36, none⟩ (.int .i64 (x.2 : Nat))) p gl lk x tw := h.setHd x
theorem Ps.tw5 {w00 w : World} {N0 b bp bl bc base : Nat} {f : Cf} {p : Nat → Int} {gl : List Gx} {lk hd : Gx} {tw : Nat → Gx} (h : Ps w00 N0 b bp bl bc base f w p gl lk hd tw) {q : Nat} (hq : q < 6) (x : Gx) :
    Ps w00 N0 b bp bl bc base f (((((w.setCell ⟨b, 37 + q * 5, none⟩ (.int .u8 x.1.k)).setCell ⟨b, 37 + q * 5 + 1, none⟩ (.int .i64 (x.1.i : Nat))).setCell ⟨b, 37 + q * 5 + 2, none⟩ (.int .i64 (x.1.n : Nat))).setCell ⟨b, 37 + q * 5 + 3, none⟩ (.int .i64 (x.1.s : Nat))).setCell ⟨b, 37 + q * 5 + 4, none⟩ (.int .i64 (x.2 : Nat))) p gl lk hd (upd tw q x) := h.setTw hq x
def twf (g : Ge) (j : Nat) : Nat → Gx := fun i => if i < j then tx g i else z5
theorem twf_set (g : Ge) (j i : Nat) : upd (twf g j) j (tx g j) i = twf g (j + 1) i := by
  by_cases e : i = j
  · subst e; simp [upd, twf]
  · have e1 : (i < j + 1) = (i < j) := by apply propext; omega
    simp [upd, twf, e, e1]
theorem lay_end {w wr : World} {b bp bl bc base : Nat} {f : Cf} {l : List Int} {g : Ge} (h : Ps w b b bp bl bc base f wr (pf g 9 (pT g + wds g.t 6)) (GT g 6) (⟨7, 1, tot g.t 6, 1⟩, pK g) (⟨8, 0, g.D, 7⟩, pH g) (twf g 6))
    (hc : RdK .u64 w f.A l) (he : l.length = f.m) (hA : ∀ a, f.A = some a → a.block < b) : LyAt wr b f l g ∧ Below b w wr := by
  refine ⟨⟨h.cf, fun i hi => by rw [← pf_end g hi]; exact h.pl i hi, ?_, h.lk, h.hd, fun i hi => ?_, ?_, he⟩, h.bel⟩
  · obtain ⟨gv, h1, h2⟩ := h.gr
    obtain ⟨_, A, c, rfl, _, h3, _⟩ := KG.row h2
    refine ⟨A, c, h1, ?_⟩
    rw [gxs_GT]; exact h3
  · have := h.tw i hi
    rw [show twf g 6 i = tx g i by simp [twf, hi]] at this
    exact this
  · intro k hk
    obtain ⟨bb, o, ea, hcell⟩ := hc k hk
    exact ⟨bb, o, ea, (h.bel.cell (p := ⟨bb, o + k, none⟩) (by have := hA _ ea; exact this)).trans hcell⟩
/-- the numbers of a configuration -/
structure Nums (f : Cf) (g : Ge) : Prop where
  S : f.sl = g.S
  E : engW f = g.E
  L : f.lo = g.L
  t : ∀ i, i < 6 → f.t i = g.t i
  ok : g.ok
  bu : 0 ≤ f.bu ∧ f.bu ≤ 100000
theorem cf_1 (w : World) (o0 o2 : Obj) (f : Cf) (t : TypeId) : CfB (((w.alloc o0).alloc (.cells #[.int .i64 f.th, .int .i64 f.sl, .int .u8 f.en, .int .i64 f.bu, .int .u8 f.k, .int .i64 f.n, .slice f.A f.m f.c, .int .i64 (f.t 0), .int .i64 (f.t 1), .int .i64 (f.t 2), .int .i64 (f.t 3), .int .i64 (f.t 4), .int .i64 (f.t 5), .int .i64 f.lo, .int .i64 f.tr, .int .i64 f.ba] t)).alloc o2).drew (w.heap.size + 1) f := by
  have h := (CfB.made (w.alloc o0) f t).below (Om_drew (bel_alloc (Below.refl _ _) o2))
  simp only [World.size_alloc] at h
  exact h
theorem cf_2 (w : World) (o0 o1 : Obj) (f : Cf) (t : TypeId) : CfB (((w.alloc o0).alloc o1).alloc (.cells #[.int .i64 f.th, .int .i64 f.sl, .int .u8 f.en, .int .i64 f.bu, .int .u8 f.k, .int .i64 f.n, .slice f.A f.m f.c, .int .i64 (f.t 0), .int .i64 (f.t 1), .int .i64 (f.t 2), .int .i64 (f.t 3), .int .i64 (f.t 4), .int .i64 (f.t 5), .int .i64 f.lo, .int .i64 f.tr, .int .i64 f.ba] t)).drew (w.heap.size + 1 + 1) f := by
  have h := (CfB.made ((w.alloc o0).alloc o1) f t).below (Om_drew (Below.refl _ _))
  simp only [World.size_alloc] at h
  exact h
theorem one_0 (w : World) (v : Value) (t : TypeId) (o1 o2 : Obj) : (((w.alloc (.cells #[v] t)).alloc o1).alloc o2).drew.cell? ⟨w.heap.size, 0, none⟩ = some v :=
  ((Om_drew (bel_alloc (bel_alloc (Below.refl _ (w.alloc (.cells #[v] t))) o1) o2)).cell (p := ⟨w.heap.size, 0, none⟩) (by simp)).trans (by simp)
theorem one_1 (w : World) (v : Value) (t : TypeId) (o0 o2 : Obj) : (((w.alloc o0).alloc (.cells #[v] t)).alloc o2).drew.cell? ⟨w.heap.size + 1, 0, none⟩ = some v := by
  have h := ((Om_drew (bel_alloc (Below.refl _ ((w.alloc o0).alloc (.cells #[v] t))) o2)).cell (p := ⟨(w.alloc o0).heap.size, 0, none⟩) (by simp)).trans (World.cell?_alloc_new (w.alloc o0) #[v] t 0)
  simp only [World.size_alloc] at h
  exact h
theorem one_2 (w : World) (v : Value) (t : TypeId) (o0 o1 : Obj) : (((w.alloc o0).alloc o1).alloc (.cells #[v] t)).drew.cell? ⟨w.heap.size + 1 + 1, 0, none⟩ = some v := by
  have h := World.cell?_alloc_new ((w.alloc o0).alloc o1) #[v] t 0
  simp only [World.size_alloc] at h
  exact h
theorem bel_alloc' {n : Nat} {a w : World} (h : Below n a w) (o : Obj) (hs : n ≤ w.heap.size) : Below n a (w.alloc o) := h.alloc hs o
set_option maxRecDepth 100000 in
set_option maxHeartbeats 4000000 in
theorem lay_any (f : Cf) (l : List Int) (g : Ge) (b : Nat) (w : World) (h : Bz w b f) (hg : Nums f g) (hc : RdK .u64 w f.A l) (he : l.length = f.m) (hA : ∀ a, f.A = some a → a.block < b) :
    Calls Try.prog 67 #[.pointer (some ⟨b, 0, none⟩), .int .i64 (g.D : Nat)] w fun e w' => e = .returned (.tuple #[]) ∧ LyAt w' b f l g ∧ Below b w w' := by
  have H := Lib.hid h
  have HC := Lib.hid hc
  have HG := Lib.hid hg
  obtain ⟨x0, x1, x2, x3, x4, x5, x6, x7, x8, x9, x10, x11, x12, x13, x14, x15⟩ := h.cf
  have lt : b < w.heap.size := cell_lt x0
  clear h hc hg
  have HS := Lib.hid (show ∀ w', Below (w.heap.size + 1) (w.alloc (.cells #[.pointer (some ⟨b, 0, none⟩)] 60)) w' → w'.cell? ⟨w.heap.size, 0, none⟩ = some (.pointer (some ⟨b, 0, none⟩)) ∧ w'.cell? ⟨b, 0, none⟩ = some (.int .i64 f.th) ∧ w'.cell? ⟨b, 1, none⟩ = some (.int .i64 f.sl) ∧ w'.cell? ⟨b, 2, none⟩ = some (.int .u8 f.en) ∧ w'.cell? ⟨b, 3, none⟩ = some (.int .i64 f.bu) ∧ w'.cell? ⟨b, 4, none⟩ = some (.int .u8 f.k) ∧ w'.cell? ⟨b, 5, none⟩ = some (.int .i64 f.n) ∧ w'.cell? ⟨b, 6, none⟩ = some (.slice f.A f.m f.c) ∧ w'.cell? ⟨b, 7, none⟩ = some (.int .i64 (f.t 0)) ∧ w'.cell? ⟨b, 8, none⟩ = some (.int .i64 (f.t 1)) ∧ w'.cell? ⟨b, 9, none⟩ = some (.int .i64 (f.t 2)) ∧ w'.cell? ⟨b, 10, none⟩ = some (.int .i64 (f.t 3)) ∧ w'.cell? ⟨b, 11, none⟩ = some (.int .i64 (f.t 4)) ∧ w'.cell? ⟨b, 12, none⟩ = some (.int .i64 (f.t 5)) ∧ w'.cell? ⟨b, 13, none⟩ = some (.int .i64 f.lo) ∧ w'.cell? ⟨b, 14, none⟩ = some (.int .i64 f.tr) ∧ w'.cell? ⟨b, 15, none⟩ = some (.int .i64 f.ba) from fun w' hb => by
    have k : ∀ j, w'.cell? ⟨b, j, none⟩ = w.cell? ⟨b, j, none⟩ := fun j => (hb.cell (p := ⟨b, j, none⟩) (by show b < _; omega)).trans (World.cell?_alloc_lt w _ _ lt)
    exact ⟨(hb.cell (p := ⟨w.heap.size, 0, none⟩) (by show w.heap.size < _; omega)).trans (by simp), (k _).trans x0, (k _).trans x1, (k _).trans x2, (k _).trans x3, (k _).trans x4, (k _).trans x5, (k _).trans x6, (k _).trans x7, (k _).trans x8, (k _).trans x9, (k _).trans x10, (k _).trans x11, (k _).trans x12, (k _).trans x13, (k _).trans x14, (k _).trans x15⟩)
  have BRf := Lib.hid (show Below (w.heap.size + 1) (w.alloc (.cells #[.pointer (some ⟨b, 0, none⟩)] 60)) (w.alloc (.cells #[.pointer (some ⟨b, 0, none⟩)] 60)) from by have := Below.refl (w.heap.size + 1) (w.alloc (.cells #[.pointer (some ⟨b, 0, none⟩)] 60)); exact this)
  clear x0 x1 x2 x3 x4 x5 x6 x7 x8 x9 x10 x11 x12 x13 x14 x15
  go_enter Try.func67, Try.ntmps67
  go_wp2_with fail
  go_cut [4, 5] from 13 to 19 (fun s4 s5 wc => ∃ bc bp, s4 = .pointer (some ⟨bc, 0, none⟩) ∧ s5 = .pointer (some ⟨bp, 0, none⟩) ∧ w.heap.size < bc ∧ w.heap.size < bp ∧ bc < w.heap.size + 3 ∧ bp < w.heap.size + 3 ∧ CfB wc bc f ∧ wc.cell? ⟨bp, 0, none⟩ = some (.pointer (some ⟨b, 16, none⟩)) ∧ wc.cell? ⟨w.heap.size, 0, none⟩ = some (.pointer (some ⟨b, 0, none⟩)) ∧ Below w.heap.size w wc ∧ wc.heap.size = w.heap.size + 3)
  case first =>
    go_region_held3 (fun w' => w'.cell? ⟨w.heap.size, 0, none⟩ = some (.pointer (some ⟨b, 0, none⟩)) ∧ w'.cell? ⟨b, 0, none⟩ = some (.int .i64 f.th) ∧ w'.cell? ⟨b, 1, none⟩ = some (.int .i64 f.sl) ∧ w'.cell? ⟨b, 2, none⟩ = some (.int .u8 f.en) ∧ w'.cell? ⟨b, 3, none⟩ = some (.int .i64 f.bu) ∧ w'.cell? ⟨b, 4, none⟩ = some (.int .u8 f.k) ∧ w'.cell? ⟨b, 5, none⟩ = some (.int .i64 f.n) ∧ w'.cell? ⟨b, 6, none⟩ = some (.slice f.A f.m f.c) ∧ w'.cell? ⟨b, 7, none⟩ = some (.int .i64 (f.t 0)) ∧ w'.cell? ⟨b, 8, none⟩ = some (.int .i64 (f.t 1)) ∧ w'.cell? ⟨b, 9, none⟩ = some (.int .i64 (f.t 2)) ∧ w'.cell? ⟨b, 10, none⟩ = some (.int .i64 (f.t 3)) ∧ w'.cell? ⟨b, 11, none⟩ = some (.int .i64 (f.t 4)) ∧ w'.cell? ⟨b, 12, none⟩ = some (.int .i64 (f.t 5)) ∧ w'.cell? ⟨b, 13, none⟩ = some (.int .i64 f.lo) ∧ w'.cell? ⟨b, 14, none⟩ = some (.int .i64 f.tr) ∧ w'.cell? ⟨b, 15, none⟩ = some (.int .i64 f.ba)) ((refine HS.out _ ?_; (first | exact Om_drew BRf.out | exact Om_drew (bel_alloc' BRf.out _ (by simp)) | exact Om_drew (bel_alloc' (bel_alloc' BRf.out _ (by simp)) _ (by simp))))) (fail)
    all_goals (go_wp2_with fail)
    all_goals (go_meet)
    · exact ⟨_, _, rfl, rfl, by omega, by omega, by omega, by omega, cf_1 _ _ _ _ _, one_2 _ _ _ _ _, one_0 _ _ _ _ _, Om_drew (bel_alloc (bel_alloc (bel_alloc (Below.refl _ _) _) _) _), by show (((w.alloc _).alloc _).alloc _).heap.size = _; simp only [World.size_alloc]⟩
    · exact ⟨_, _, rfl, rfl, by omega, by omega, by omega, by omega, cf_2 _ _ _ _ _, one_1 _ _ _ _ _, one_0 _ _ _ _ _, Om_drew (bel_alloc (bel_alloc (bel_alloc (Below.refl _ _) _) _) _), by show (((w.alloc _).alloc _).alloc _).heap.size = _; simp only [World.size_alloc]⟩
  case rest =>
    obtain ⟨bc, bp, rfl, rfl, o1, o2, o3, o4, cc, xp, xl, bel, hsz⟩ := hcut
    have hz := H.out
    have PS0 : Ps w b b bp w.heap.size bc (w.heap.size + 3) f wc (fun _ => 0) [] z5 z5 (fun _ => z5) := by
      have k : ∀ j, wc.cell? ⟨b, j, none⟩ = w.cell? ⟨b, j, none⟩ := fun j => bel.cell (p := ⟨b, j, none⟩) lt
      exact ⟨hz.cf.below bel, fun i hi => (k _).trans (hz.pl i hi), at_keep hz.lk fun j _ => k _, at_keep hz.hd fun j _ => k _, fun i hi => at_keep (hz.tw i hi) fun j _ => k _, fun j => (bel.frozen (p := ⟨b, j, none⟩) lt).trans (hz.fz j), ⟨_, (k _).trans hz.gr, KG.nil _ _⟩, xp, xl, by omega, by omega, by omega, by omega, by omega, by omega, Nat.le_refl _, bel.mono (Nat.le_of_lt lt), by omega, by omega, cc⟩
    have PS := Lib.hid PS0
    clear PS0 hz xp xl bel HS BRf hsz
    obtain ⟨x0, x1, x2, x3, x4, x5, x6, x7, x8, x9, x10, x11, x12, x13, x14, x15⟩ := cc
    have T0 := Lib.hid (show ∀ i, i < 6 → f.t i = (g.t i : Int) ∧ tot g.t i + g.t i ≤ 1024 from fun i hi => ⟨HG.out.t i hi, by have := HG.out.ok.tt; have := tot_le g.t (i := i) (j := 6) hi; omega⟩)
    rw [HG.out.S] at x1
    rw [HG.out.L] at x13
    go_wp2_with fail
    go_loop [6, 22] (fun q i => ∃ j : Nat, j ≤ 6 ∧ i = .int .i64 j ∧ q = .int .i64 (tot g.t j : Nat)) (fun q i => (6 - intOf i).toNat)
    case atStart => exact ⟨0, Nat.zero_le _, rfl, rfl⟩
    case round =>
      obtain ⟨j, hj, rfl, rfl⟩ := hrel
      by_cases h6 : j < 6
      · have d0 : decide ((j : Int) < 6) = true := decide_eq_true (by omega)
        have hV := index_int (by omega) (six (t := f.t) (j := j) h6)
        obtain ⟨t1, t2⟩ := T0.out j h6
        rw [t1] at hV
        go_wp2_with fail
        go_round
        case rel => exact ⟨j + 1, by omega, by go_num, by rw [tot]; rfl⟩
        case measure => simp [intOf]; omega
      · obtain rfl : j = 6 := by omega
        clear hj h6
        have hfld := field_first
        have HT := Lib.hid HG.out.ok.tt
        have HK := Lib.hid HG.out.ok
        have PSa := Lib.hid (PS.out.congr (p' := pf g 0 0) (fun i hi => by by_cases h : i = 9 <;> simp [pf, h]) (tw' := twf g 0) (fun i hi => by simp [twf]))
        clear PS
        clear x0 x1 x2 x3 x4 x5 x6 x7 x8 x9 x10 x11 x12 x13 x14 x15
        go_wp2_with fail
        go_cut [] from 30 to 37 (fun wx => Ps w b b bp w.heap.size bc (w.heap.size + 3) f wx (pf g 1 (pE g)) (G1 g) z5 z5 (twf g 0))
        case first =>
          go_region_held3 (fun w' => w'.cell? ⟨bp, 0, none⟩ = some (.pointer (some ⟨b, 16, none⟩)) ∧ w'.cell? ⟨bc, 1, none⟩ = some (.int .i64 (g.S : Nat))) (first | exact ⟨(PSa.out.below (Om_drew (Below.refl _ _))).xp, by rw [← HG.out.S]; exact (PSa.out.below (Om_drew (Below.refl _ _))).cc.c1⟩ | exact ⟨ps.xp, by rw [← HG.out.S]; exact ps.cc.c1⟩ | exact ⟨(ps.setP (i := 0) (by omega) _).xp, by rw [← HG.out.S]; exact (ps.setP (i := 0) (by omega) _).cc.c1⟩) (first | (go_at_call 95; refine (place_any 1 0 g.S 1 (0) (PSa.out.below (Om_drew (Below.refl _ _))) (by first | rfl | simp [pf]) (by have := HT.out; have h1 := HK.out.s2; have h2 := HK.out.e2; have h3 := HK.out.l2; have h4 := HK.out.d2; (try simp only [pE, pM, pL, pD, pP, pK, pH, pT]); omega) (by simp)).mono ?_; rintro r wd ⟨rfl, ps⟩; have k := ps.pl 0 (by omega); have fk := ps.fz (16 + 0)))
          all_goals (go_wp2_with fail)
          all_goals (go_meet)
          all_goals (exact ((ps.setP (i := 0) (by omega) ((plN g 0 : Nat) : Int)).congr (fun i _ => by rw [show (pE g) = (0) + g.S * 1 by (try simp only [pE, pM, pL, pD, pP, pK, pH, pT]); (try omega)]; exact pf_step g (by omega) _ _ i) (fun i _ => rfl)))
        case rest =>
          have PSb := Lib.hid hcut
          clear hcut PSa
          go_wp2_with fail
          go_cut [] from 38 to 45 (fun wx => Ps w b b bp w.heap.size bc (w.heap.size + 3) f wx (pf g 2 (pM g)) (G2 g) z5 z5 (twf g 0))
          case first =>
            go_region_held3 (fun w' => w'.cell? ⟨bp, 0, none⟩ = some (.pointer (some ⟨b, 16, none⟩)) ∧ w'.cell? ⟨bc, 0, none⟩ = some (.int .i64 f.th) ∧ w'.cell? ⟨bc, 1, none⟩ = some (.int .i64 f.sl) ∧ w'.cell? ⟨bc, 2, none⟩ = some (.int .u8 f.en) ∧ w'.cell? ⟨bc, 3, none⟩ = some (.int .i64 f.bu) ∧ w'.cell? ⟨bc, 4, none⟩ = some (.int .u8 f.k) ∧ w'.cell? ⟨bc, 5, none⟩ = some (.int .i64 f.n) ∧ w'.cell? ⟨bc, 6, none⟩ = some (.slice f.A f.m f.c) ∧ w'.cell? ⟨bc, 7, none⟩ = some (.int .i64 (f.t 0)) ∧ w'.cell? ⟨bc, 8, none⟩ = some (.int .i64 (f.t 1)) ∧ w'.cell? ⟨bc, 9, none⟩ = some (.int .i64 (f.t 2)) ∧ w'.cell? ⟨bc, 10, none⟩ = some (.int .i64 (f.t 3)) ∧ w'.cell? ⟨bc, 11, none⟩ = some (.int .i64 (f.t 4)) ∧ w'.cell? ⟨bc, 12, none⟩ = some (.int .i64 (f.t 5)) ∧ w'.cell? ⟨bc, 13, none⟩ = some (.int .i64 f.lo) ∧ w'.cell? ⟨bc, 14, none⟩ = some (.int .i64 f.tr) ∧ w'.cell? ⟨bc, 15, none⟩ = some (.int .i64 f.ba)) (first | exact ⟨(PSb.out.below (Om_drew (Below.refl _ _))).xp, (PSb.out.below (Om_drew (Below.refl _ _))).cc.c0, (PSb.out.below (Om_drew (Below.refl _ _))).cc.c1, (PSb.out.below (Om_drew (Below.refl _ _))).cc.c2, (PSb.out.below (Om_drew (Below.refl _ _))).cc.c3, (PSb.out.below (Om_drew (Below.refl _ _))).cc.c4, (PSb.out.below (Om_drew (Below.refl _ _))).cc.c5, (PSb.out.below (Om_drew (Below.refl _ _))).cc.c6, (PSb.out.below (Om_drew (Below.refl _ _))).cc.c7, (PSb.out.below (Om_drew (Below.refl _ _))).cc.c8, (PSb.out.below (Om_drew (Below.refl _ _))).cc.c9, (PSb.out.below (Om_drew (Below.refl _ _))).cc.c10, (PSb.out.below (Om_drew (Below.refl _ _))).cc.c11, (PSb.out.below (Om_drew (Below.refl _ _))).cc.c12, (PSb.out.below (Om_drew (Below.refl _ _))).cc.c13, (PSb.out.below (Om_drew (Below.refl _ _))).cc.c14, (PSb.out.below (Om_drew (Below.refl _ _))).cc.c15⟩ | exact ⟨ps.xp, ps.cc.c0, ps.cc.c1, ps.cc.c2, ps.cc.c3, ps.cc.c4, ps.cc.c5, ps.cc.c6, ps.cc.c7, ps.cc.c8, ps.cc.c9, ps.cc.c10, ps.cc.c11, ps.cc.c12, ps.cc.c13, ps.cc.c14, ps.cc.c15⟩ | exact ⟨(ps.setP (i := 1) (by omega) _).xp, (ps.setP (i := 1) (by omega) _).cc.c0, (ps.setP (i := 1) (by omega) _).cc.c1, (ps.setP (i := 1) (by omega) _).cc.c2, (ps.setP (i := 1) (by omega) _).cc.c3, (ps.setP (i := 1) (by omega) _).cc.c4, (ps.setP (i := 1) (by omega) _).cc.c5, (ps.setP (i := 1) (by omega) _).cc.c6, (ps.setP (i := 1) (by omega) _).cc.c7, (ps.setP (i := 1) (by omega) _).cc.c8, (ps.setP (i := 1) (by omega) _).cc.c9, (ps.setP (i := 1) (by omega) _).cc.c10, (ps.setP (i := 1) (by omega) _).cc.c11, (ps.setP (i := 1) (by omega) _).cc.c12, (ps.setP (i := 1) (by omega) _).cc.c13, (ps.setP (i := 1) (by omega) _).cc.c14, (ps.setP (i := 1) (by omega) _).cc.c15⟩ | exact ⟨PSe.xp, PSe.cc.c0, PSe.cc.c1, PSe.cc.c2, PSe.cc.c3, PSe.cc.c4, PSe.cc.c5, PSe.cc.c6, PSe.cc.c7, PSe.cc.c8, PSe.cc.c9, PSe.cc.c10, PSe.cc.c11, PSe.cc.c12, PSe.cc.c13, PSe.cc.c14, PSe.cc.c15⟩) (first | (go_at_call 96; refine (engineWords_any f _ (by rw [HG.out.S]; have := HK.out.s2; omega) HG.out.bu).mono ?_; rintro r we ⟨rfl, be⟩; have PSe := (PSb.out.below (Om_drew (Below.refl _ _))).below be; rw [HG.out.E]) | (go_at_call 95; refine (place_any 2 0 1 g.E (pE g) PSe (by first | rfl | simp [pf]) (by have := HT.out; have h1 := HK.out.s2; have h2 := HK.out.e2; have h3 := HK.out.l2; have h4 := HK.out.d2; (try simp only [pE, pM, pL, pD, pP, pK, pH, pT]); omega) (by simp [G1])).mono ?_; rintro r wd ⟨rfl, ps⟩; have k := ps.pl 1 (by omega); have fk := ps.fz (16 + 1)))
            all_goals (go_wp2_with fail)
            all_goals (go_meet)
            all_goals (exact ((ps.setP (i := 1) (by omega) ((plN g 1 : Nat) : Int)).congr (fun i _ => by rw [show (pM g) = (pE g) + 1 * g.E by (try simp only [pE, pM, pL, pD, pP, pK, pH, pT]); (try omega)]; exact pf_step g (by omega) _ _ i) (fun i _ => rfl)))
          case rest =>
            have PSc := Lib.hid hcut
            clear hcut PSb
            go_wp2_with fail
            go_cut [] from 46 to 51 (fun wx => Ps w b b bp w.heap.size bc (w.heap.size + 3) f wx (pf g 3 (pL g)) (G3 g) z5 z5 (twf g 0))
            case first =>
              go_region_held3 (fun w' => w'.cell? ⟨bp, 0, none⟩ = some (.pointer (some ⟨b, 16, none⟩))) (first | exact (PSc.out.below (Om_drew (Below.refl _ _))).xp | exact ps.xp | exact (ps.setP (i := 2) (by omega) _).xp) (first | (go_at_call 95; refine (place_any 3 0 1 1 (pM g) (PSc.out.below (Om_drew (Below.refl _ _))) (by first | rfl | simp [pf]) (by have := HT.out; have h1 := HK.out.s2; have h2 := HK.out.e2; have h3 := HK.out.l2; have h4 := HK.out.d2; (try simp only [pE, pM, pL, pD, pP, pK, pH, pT]); omega) (by simp [G2, G1])).mono ?_; rintro r wd ⟨rfl, ps⟩; have k := ps.pl 2 (by omega); have fk := ps.fz (16 + 2)))
              all_goals (go_wp2_with fail)
              all_goals (go_meet)
              all_goals (exact ((ps.setP (i := 2) (by omega) ((plN g 2 : Nat) : Int)).congr (fun i _ => by rw [show (pL g) = (pM g) + 1 * 1 by (try simp only [pE, pM, pL, pD, pP, pK, pH, pT]); (try omega)]; exact pf_step g (by omega) _ _ i) (fun i _ => rfl)))
            case rest =>
              have PSd := Lib.hid hcut
              clear hcut PSc
              go_wp2_with fail
              go_cut [] from 52 to 59 (fun wx => Ps w b b bp w.heap.size bc (w.heap.size + 3) f wx (pf g 4 (pD g)) (G4 g) z5 z5 (twf g 0))
              case first =>
                go_region_held3 (fun w' => w'.cell? ⟨bp, 0, none⟩ = some (.pointer (some ⟨b, 16, none⟩)) ∧ w'.cell? ⟨bc, 13, none⟩ = some (.int .i64 (g.L : Nat))) (first | exact ⟨(PSd.out.below (Om_drew (Below.refl _ _))).xp, by rw [← HG.out.L]; exact (PSd.out.below (Om_drew (Below.refl _ _))).cc.c13⟩ | exact ⟨ps.xp, by rw [← HG.out.L]; exact ps.cc.c13⟩ | exact ⟨(ps.setP (i := 3) (by omega) _).xp, by rw [← HG.out.L]; exact (ps.setP (i := 3) (by omega) _).cc.c13⟩) (first | (go_at_call 95; refine (place_any 4 0 g.L 3 (pL g) (PSd.out.below (Om_drew (Below.refl _ _))) (by first | rfl | simp [pf]) (by have := HT.out; have h1 := HK.out.s2; have h2 := HK.out.e2; have h3 := HK.out.l2; have h4 := HK.out.d2; (try simp only [pE, pM, pL, pD, pP, pK, pH, pT]); omega) (by simp [G3, G2, G1])).mono ?_; rintro r wd ⟨rfl, ps⟩; have k := ps.pl 3 (by omega); have fk := ps.fz (16 + 3)))
                all_goals (go_wp2_with fail)
                all_goals (go_meet)
                all_goals (exact ((ps.setP (i := 3) (by omega) ((plN g 3 : Nat) : Int)).congr (fun i _ => by rw [show (pD g) = (pL g) + g.L * 3 by (try simp only [pE, pM, pL, pD, pP, pK, pH, pT]); (try omega)]; exact pf_step g (by omega) _ _ i) (fun i _ => rfl)))
              case rest =>
                have PSe := Lib.hid hcut
                clear hcut PSd
                go_wp2_with fail
                go_cut [] from 60 to 67 (fun wx => Ps w b b bp w.heap.size bc (w.heap.size + 3) f wx (pf g 5 (pP g)) (G5 g) z5 z5 (twf g 0))
                case first =>
                  go_region_held3 (fun w' => w'.cell? ⟨bp, 0, none⟩ = some (.pointer (some ⟨b, 16, none⟩)) ∧ w'.cell? ⟨bc, 13, none⟩ = some (.int .i64 (g.L : Nat))) (first | exact ⟨(PSe.out.below (Om_drew (Below.refl _ _))).xp, by rw [← HG.out.L]; exact (PSe.out.below (Om_drew (Below.refl _ _))).cc.c13⟩ | exact ⟨ps.xp, by rw [← HG.out.L]; exact ps.cc.c13⟩ | exact ⟨(ps.setP (i := 4) (by omega) _).xp, by rw [← HG.out.L]; exact (ps.setP (i := 4) (by omega) _).cc.c13⟩) (first | (go_at_call 95; refine (place_any 5 0 g.L 1 (pD g) (PSe.out.below (Om_drew (Below.refl _ _))) (by first | rfl | simp [pf]) (by have := HT.out; have h1 := HK.out.s2; have h2 := HK.out.e2; have h3 := HK.out.l2; have h4 := HK.out.d2; (try simp only [pE, pM, pL, pD, pP, pK, pH, pT]); omega) (by simp [G4, G3, G2, G1])).mono ?_; rintro r wd ⟨rfl, ps⟩; have k := ps.pl 4 (by omega); have fk := ps.fz (16 + 4)))
                  all_goals (go_wp2_with fail)
                  all_goals (go_meet)
                  all_goals (exact ((ps.setP (i := 4) (by omega) ((plN g 4 : Nat) : Int)).congr (fun i _ => by rw [show (pP g) = (pD g) + g.L * 1 by (try simp only [pE, pM, pL, pD, pP, pK, pH, pT]); (try omega)]; exact pf_step g (by omega) _ _ i) (fun i _ => rfl)))
                case rest =>
                  have PSf := Lib.hid hcut
                  clear hcut PSe
                  go_wp2_with fail
                  go_cut [] from 68 to 73 (fun wx => Ps w b b bp w.heap.size bc (w.heap.size + 3) f wx (pf g 6 (pK g)) (G6 g) z5 z5 (twf g 0))
                  case first =>
                    go_region_held3 (fun w' => w'.cell? ⟨bp, 0, none⟩ = some (.pointer (some ⟨b, 16, none⟩))) (first | exact (PSf.out.below (Om_drew (Below.refl _ _))).xp | exact ps.xp | exact (ps.setP (i := 5) (by omega) _).xp) (first | (go_at_call 95; refine (place_any 6 0 6 1 (pP g) (PSf.out.below (Om_drew (Below.refl _ _))) (by first | rfl | simp [pf]) (by have := HT.out; have h1 := HK.out.s2; have h2 := HK.out.e2; have h3 := HK.out.l2; have h4 := HK.out.d2; (try simp only [pE, pM, pL, pD, pP, pK, pH, pT]); omega) (by simp [G5, G4, G3, G2, G1])).mono ?_; rintro r wd ⟨rfl, ps⟩; have k := ps.pl 5 (by omega); have fk := ps.fz (16 + 5)))
                    all_goals (go_wp2_with fail)
                    all_goals (go_meet)
                    all_goals (exact ((ps.setP (i := 5) (by omega) ((plN g 5 : Nat) : Int)).congr (fun i _ => by rw [show (pK g) = (pP g) + 6 * 1 by (try simp only [pE, pM, pL, pD, pP, pK, pH, pT]); (try omega)]; exact pf_step g (by omega) _ _ i) (fun i _ => rfl)))
                  case rest =>
                    have PSg := Lib.hid hcut
                    clear hcut PSf
                    go_wp2_with fail
                    go_cut [] from 74 to 79 (fun wx => Ps w b b bp w.heap.size bc (w.heap.size + 3) f wx (pf g 6 (pH g)) (G7 g) (⟨7, 1, tot g.t 6, 1⟩, pK g) z5 (twf g 0))
                    case first =>
                      go_region_held3 (fun w' => w'.cell? ⟨w.heap.size, 0, none⟩ = some (.pointer (some ⟨b, 0, none⟩))) (first | with_reducible exact (PSg.out.below (Om_drew (Below.refl _ _))).xl | with_reducible exact ps.xl | exact (ps.lk5 (⟨7, 1, tot g.t 6, 1⟩, pK g)).xl) (first | (go_at_call 95; refine (place_any 7 1 (tot g.t 6) 1 (pK g) (PSg.out.below (Om_drew (Below.refl _ _))) (by first | rfl | simp [pf]) (by have := HT.out; have h1 := HK.out.s2; have h2 := HK.out.e2; have h3 := HK.out.l2; have h4 := HK.out.d2; (try simp only [pE, pM, pL, pD, pP, pK, pH, pT]); omega) (by simp [G6, G5, G4, G3, G2, G1])).mono ?_; rintro r wd ⟨rfl, ps⟩; have k0 := ps.lk 0 _ rfl; have k1 := ps.lk 1 _ rfl; have k2 := ps.lk 2 _ rfl; have k3 := ps.lk 3 _ rfl; have k4 := ps.lk 4 _ rfl; have f0 := ps.fz 27; have f1 := ps.fz 28; have f2 := ps.fz 29; have f3 := ps.fz 30; have f4 := ps.fz 31))
                      all_goals (go_wp2_with fail)
                      all_goals (go_meet)
                      all_goals (exact (ps.lk5 (⟨7, 1, tot g.t 6, 1⟩, pK g)).congr (fun i _ => by rw [show (pH g) = (pK g) + (tot g.t 6) * 1 by (try simp only [pE, pM, pL, pD, pP, pK, pH, pT]); (try omega)]; exact pf_cur g _ _ _ i) (fun i _ => rfl))
                    case rest =>
                      have PSh := Lib.hid hcut
                      clear hcut PSg
                      have c0 := PSh.out.lk 4 _ rfl
                      have d0 := PSh.out.pl 6 (by omega)
                      have e0 := PSh.out.fz (16 + 6)
                      have xp := PSh.out.xp
                      have xl := PSh.out.xl
                      go_wp2_with fail
                      go_cut [] from 80 to 87 (fun wx => Ps w b b bp w.heap.size bc (w.heap.size + 3) f wx (pf g 7 (pH g)) (G7 g) (⟨7, 1, tot g.t 6, 1⟩, pK g) z5 (twf g 0))
                      case first =>
                        go_region
                        all_goals (go_wp2_with fail)
                        all_goals (go_meet)
                        all_goals (exact ((PSh.out.below (Om_drew (Below.refl _ _))).setP (i := 6) (by omega) ((plN g 6 : Nat) : Int)).congr (fun i _ => pf_set g (by omega) _ i) (fun i _ => rfl))
                      case rest =>
                        have PSi := Lib.hid hcut
                        clear hcut PSh c0 d0 e0 xp xl
                        go_wp2_with fail
                        go_cut [] from 88 to 93 (fun wx => Ps w b b bp w.heap.size bc (w.heap.size + 3) f wx (pf g 7 (pT g)) (G8 g) (⟨7, 1, tot g.t 6, 1⟩, pK g) (⟨8, 0, g.D, 7⟩, pH g) (twf g 0))
                        case first =>
                          go_region_held3 (fun w' => w'.cell? ⟨w.heap.size, 0, none⟩ = some (.pointer (some ⟨b, 0, none⟩))) (first | with_reducible exact (PSi.out.below (Om_drew (Below.refl _ _))).xl | with_reducible exact ps.xl | exact (ps.hd5 (⟨8, 0, g.D, 7⟩, pH g)).xl) (first | (go_at_call 95; refine (place_any 8 0 (g.D) 7 (pH g) (PSi.out.below (Om_drew (Below.refl _ _))) (by first | rfl | simp [pf]) (by have := HT.out; have h1 := HK.out.s2; have h2 := HK.out.e2; have h3 := HK.out.l2; have h4 := HK.out.d2; (try simp only [pE, pM, pL, pD, pP, pK, pH, pT]); omega) (by simp [G7, G6, G5, G4, G3, G2, G1])).mono ?_; rintro r wd ⟨rfl, ps⟩; have k0 := ps.hd 0 _ rfl; have k1 := ps.hd 1 _ rfl; have k2 := ps.hd 2 _ rfl; have k3 := ps.hd 3 _ rfl; have k4 := ps.hd 4 _ rfl; have f0 := ps.fz 32; have f1 := ps.fz 33; have f2 := ps.fz 34; have f3 := ps.fz 35; have f4 := ps.fz 36))
                          all_goals (go_wp2_with fail)
                          all_goals (go_meet)
                          all_goals (exact (ps.hd5 (⟨8, 0, g.D, 7⟩, pH g)).congr (fun i _ => by rw [show (pT g) = (pH g) + (g.D) * 7 by (try simp only [pE, pM, pL, pD, pP, pK, pH, pT]); (try omega)]; exact pf_cur g _ _ _ i) (fun i _ => rfl))
                        case rest =>
                          have PSj := Lib.hid hcut
                          clear hcut PSi
                          have c0 := PSj.out.hd 4 _ rfl
                          have d0 := PSj.out.pl 7 (by omega)
                          have e0 := PSj.out.fz (16 + 7)
                          have xp := PSj.out.xp
                          have xl := PSj.out.xl
                          go_wp2_with fail
                          go_cut [] from 94 to 101 (fun wx => Ps w b b bp w.heap.size bc (w.heap.size + 3) f wx (pf g 8 (pT g)) (G8 g) (⟨7, 1, tot g.t 6, 1⟩, pK g) (⟨8, 0, g.D, 7⟩, pH g) (twf g 0))
                          case first =>
                            go_region
                            all_goals (go_wp2_with fail)
                            all_goals (go_meet)
                            all_goals (exact ((PSj.out.below (Om_drew (Below.refl _ _))).setP (i := 7) (by omega) ((plN g 7 : Nat) : Int)).congr (fun i _ => pf_set g (by omega) _ i) (fun i _ => rfl))
                          case rest =>
                            have PSk := Lib.hid hcut
                            clear hcut PSj c0 d0 e0 xp xl
                            have c0 := PSk.out.pl 9 (by omega)
                            have d0 := PSk.out.pl 8 (by omega)
                            have e0 := PSk.out.fz (16 + 8)
                            have xp := PSk.out.xp
                            have xl := PSk.out.xl
                            go_wp2_with fail
                            go_cut [] from 102 to 108 (fun wx => Ps w b b bp w.heap.size bc (w.heap.size + 3) f wx (pf g 9 (pT g)) (G8 g) (⟨7, 1, tot g.t 6, 1⟩, pK g) (⟨8, 0, g.D, 7⟩, pH g) (twf g 0))
                            case first =>
                              go_region
                              all_goals (go_wp2_with fail)
                              all_goals (go_meet)
                              all_goals (exact ((PSk.out.below (Om_drew (Below.refl _ _))).setP (i := 8) (by omega) ((plN g 8 : Nat) : Int)).congr (fun i _ => pf_set g (by omega) _ i) (fun i _ => rfl))
                            case rest =>
                              have PSl := Lib.hid hcut
                              clear hcut PSk c0 d0 e0 xp xl
                              have qcc := PSl.out.cc
                              obtain ⟨-, -, -, -, -, -, -, x7, x8, x9, x10, x11, x12, -, -, -⟩ := qcc
                              go_wp2_with fail
                              go_loopw [10, 111] (fun q i wr => ∃ j : Nat, j ≤ 6 ∧ q = .int .i64 (t1 g j : Nat) ∧ i = .int .i64 j ∧ Ps w b b bp w.heap.size bc (w.heap.size + 3) f wr (pf g 9 (pT g + wds g.t j)) (GT g j) (⟨7, 1, tot g.t 6, 1⟩, pK g) (⟨8, 0, g.D, 7⟩, pH g) (twf g j)) (fun q i _ => (6 - intOf i).toNat)
                              case atStart => exact ⟨0, Nat.zero_le _, rfl, rfl, by have h := PSl.out; rw [show G8 g = GT g 0 by simp [GT]] at h; exact h⟩
                              case round =>
                                clear PSl x7 x8 x9 x10 x11 x12
                                obtain ⟨j, hj, rfl, rfl, ps0⟩ := hrel
                                have PSm := Lib.hid ps0
                                clear ps0
                                by_cases h6 : j < 6
                                · have d0 : decide ((j : Int) < 6) = true := decide_eq_true (by omega)
                                  have hV := index_int (by omega) (six (t := f.t) (j := j) h6)
                                  obtain ⟨t1j, t2j⟩ := T0.out j h6
                                  rw [t1j] at hV
                                  clear t1j
                                  have j6 : (j : Int) < 6 := by omega
                                  have ht1 : ((t1 g j : Nat) : Int) ≤ 1025 := by simp only [t1]; omega
                                  have hgt : ((g.t j : Nat) : Int) ≤ 1024 := by omega
                                  have HW6 := Lib.hid (show IntKind.i64.wrap (IntKind.i64.wrap (5 + (j : Int)) + 1) = ((6 + j : Nat) : Int) from wr6 h6)
                                  have hw := wds_le g.t (i := j) (j := 6) h6
                                  have hw6 := wds_tot g.t 6 (Nat.le_refl _)
                                  have hbnd : pT g + wds g.t j + g.t j * (6 + j) ≤ 100000 := by have := HT.out; have h1 := HK.out.s2; have h2 := HK.out.e2; have h3 := HK.out.l2; have h4 := HK.out.d2; simp only [pT]; omega
                                  have HBN := Lib.hid hbnd
                                  clear hbnd hw hw6
                                  go_wp2_with fail
                                  go_cut [] from 115 to 126 (fun wx => Ps w b b bp w.heap.size bc (w.heap.size + 3) f wx (pf g 9 (pT g + wds g.t (j + 1))) (GT g (j + 1)) (⟨7, 1, tot g.t 6, 1⟩, pK g) (⟨8, 0, g.D, 7⟩, pH g) (twf g (j + 1)))
                                  case first =>
                                    go_region_held3 (fun w' => w'.cell? ⟨w.heap.size, 0, none⟩ = some (.pointer (some ⟨b, 0, none⟩))) (first | with_reducible exact (PSm.out.below (Om_drew (Below.refl _ _))).xl | with_reducible exact ps.xl | exact (ps.tw5 h6 (tx g j)).xl) (first | (go_at_call 95; rw [HW6.out]; refine (place_any 9 (t1 g j) (g.t j) (6 + j) (pT g + wds g.t j) (PSm.out.below (Om_drew (Below.refl _ _))) (by simp [pf]) HBN.out (by simp [GT, G8, G7, G6, G5, G4, G3, G2, G1]; omega)).mono ?_; rintro r wd ⟨rfl, ps⟩; have k0 := ps.tw j h6 0 _ rfl; have k1 := ps.tw j h6 1 _ rfl; have k2 := ps.tw j h6 2 _ rfl; have k3 := ps.tw j h6 3 _ rfl; have k4 := ps.tw j h6 4 _ rfl; rw [Nat.add_zero] at k0; have f0 := ps.fz (37 + j * 5); have f1 := ps.fz (37 + j * 5 + 1); have f2 := ps.fz (37 + j * 5 + 2); have f3 := ps.fz (37 + j * 5 + 3); have f4 := ps.fz (37 + j * 5 + 4)))
                                    all_goals (go_wp2_with fail)
                                    all_goals (go_meet)
                                    all_goals (rw [GT_succ]; exact (ps.tw5 h6 (tx g j)).congr (fun i _ => by rw [show pT g + wds g.t (j + 1) = pT g + wds g.t j + g.t j * (6 + j) by rw [wds]; omega]; exact pf_cur g _ _ _ i) (fun i _ => twf_set g j i))
                                  case rest =>
                                    have PSn := Lib.hid hcut
                                    clear hcut PSm
                                    go_wp2_with fail
                                    go_roundw
                                    case rel => exact ⟨j + 1, by omega, by rw [show ((t1 g (j + 1) : Nat) : Int) = (t1 g j : Nat) + (g.t j : Nat) by simp only [t1, tot]; omega], by go_num, PSn.out⟩
                                    case measure => simp [intOf]; omega
                                · obtain rfl : j = 6 := by omega
                                  have d0 : decide (((6 : Nat) : Int) < 6) = false := by decide
                                  go_wp2
                                  go_end0
                                  exact ⟨rfl, lay_end PSm.out HC.out he hA⟩
end Ly
end Go.Proofs.Ytjcbjbhlclajnaa
