/- A new memory and its towers: New of package tower and of the reference, stores; what holds of both. Conditions: those of each contract. -/
import Derived.Test.YtjcbjbhlclajnaaTwA
import Derived.Test.YtjcbjbhlclajnaaPsF
import Derived.Test.YtjcbjbhlclajnaaLyJ
import Derived.Test.YtjcbjbhlclajnaaLyIn
import Derived.Test.YtjcbjbhlclajnaaLrN
import Derived.Test.YtjcbjbhlclajnaaLrI
import Derived.Test.YtjcbjbhlclajnaaWdR
namespace Go.Proofs.Ytjcbjbhlclajnaa
open Go.RowKit Go.Sort
set_option linter.unusedVariables false
set_option linter.unusedSimpArgs false
set_option maxRecDepth 100000
namespace Tw
open Wd
open Po (Fc MC up up_lt up_ge up_of)
open Ly (Ge tot pk pW nxO wdO ad tg gs InT Cf LyAt I64 KI RAt okB geo)
open Dm (addr_lit info_parts spot_none RdK flatU infoU bel_alloc bel_trans own_keep below_drewN)
def cfgV (f : Cf) : Value := .agg #[.int .i64 f.th, .int .i64 f.sl, .int .u8 f.en, .int .i64 f.bu, .int .u8 f.k, .int .i64 f.n, .slice f.A f.m f.c, .int .i64 (f.t 0), .int .i64 (f.t 1), .int .i64 (f.t 2), .int .i64 (f.t 3), .int .i64 (f.t 4), .int .i64 (f.t 5), .int .i64 f.lo, .int .i64 f.tr, .int .i64 f.ba]
/-- a valid configuration without cuts -/
structure Gd (f : Cf) : Prop where
  bd : f.Bd []
  ok : okB f [] = true
theorem Gd.gok {f : Cf} (h : Gd f) : (geo f []).ok := (Ly.nums h.ok).ok
theorem Gd.w0 {f : Cf} (h : Gd f) : 0 < pW (geo f []) := by have := h.gok.s1; unfold pW Ly.pT; omega
theorem Gd.w1 {f : Cf} (h : Gd f) : pW (geo f []) ≤ 65536 := by have := Ly.pW_20 h.gok; omega
theorem ini_bd (g : Ge) (ok : g.ok) : BdW (Ly.ini g) := fun x hx => by
  unfold Ly.ini at hx
  rw [List.mem_map] at hx
  obtain ⟨a, _, rfl⟩ := hx
  have := Ly.st_bd g ok 6 (tot g.t 6) a
  omega
theorem newL {f : Cf} (h : Gd f) (w : World) : Calls Try.prog 33 #[cfgV f] w fun e w' => ∃ b f', e = .returned (.tuple #[.pointer (some ⟨b, 0, none⟩), .int .i64 0]) ∧ LyAt w' b f' [] (geo f []) ∧ Below w.heap.size w w' := by
  refine (Ly.new_any f [] w h.bd (fun k hk => (by simp at hk))).mono ?_
  intro e w' hp
  unfold Ly.NewPost at hp
  rw [if_pos h.ok] at hp
  obtain ⟨b, A, c, rfl, _, hl, _, _, hb⟩ := hp
  exact ⟨b, _, rfl, hl, hb⟩
theorem newLR {f : Cf} (h : Gd f) (w : World) : Calls Try.prog 59 #[cfgV f] w fun e w' => ∃ b, e = .returned (.tuple #[.pointer (some ⟨b, 0, none⟩), .int .i64 0]) ∧ RAt w' b (geo f []) ∧ Below w.heap.size w w' := by
  refine (Ly.newR_any f [] w h.bd (fun k hk => (by simp at hk))).mono ?_
  rintro e w' hp
  unfold Ly.NewRPost at hp
  rw [if_pos h.ok] at hp
  obtain ⟨b, rfl, _, hr, hb⟩ := hp
  exact ⟨b, rfl, hr, hb⟩
theorem row_rd {g : Ge} {w : World} {b base : Nat} (hr : w.ownsRow base 27 1 (.slice (some ⟨b, 0, none⟩) (pW g) (pW g)) (pW g) ((Ly.ini g).map (Value.int .u64))) : RdK .u64 w (some ⟨b, 0, none⟩) (Ly.ini g) := fun k hk => by
  have hl := Ly.ini_len g
  refine ⟨b, 0, rfl, ?_⟩
  rw [Nat.zero_add, hr.cellAt k (by omega)]
  rw [List.getElem?_map, List.getD_eq_getElem?_getD, List.getElem?_eq_getElem hk]
  rfl
theorem newM {g : Ge} (ok : g.ok) (h0 : 0 < pW g) (h1 : pW g ≤ 65536) {w : World} {b : Nat} {base : Nat} (hr : w.ownsRow base 27 1 (.slice (some ⟨b, 0, none⟩) (pW g) (pW g)) (pW g) ((Ly.ini g).map (Value.int .u64))) : Calls Try.prog 34 #[.slice (some ⟨b, 0, none⟩) (pW g) (pW g)] w fun e w' => ∃ bm p, e = .returned (.tuple #[.pointer (some ⟨bm, 0, none⟩), .int .i64 0]) ∧ At 155 w' bm p none ⟨Ly.ini g, []⟩ ∧ w.heap.size ≤ bm ∧ w.heap.size ≤ p ∧ Below w.heap.size w w' := by
  have hl := Ly.ini_len g
  refine (Wd.new_any (some ⟨b, 0, none⟩) (pW g) (pW g) (Ly.ini g) w hl (by unfold maxLen; omega) (row_rd hr) (ini_bd g ok)).mono ?_
  rintro e w' (⟨h, _⟩ | ⟨_, bm, p, rfl, ha, hbm, hp, hb⟩)
  · exact absurd (by rw [hl]; unfold newE; rw [if_neg (by omega), if_neg (by omega)]) h
  · exact ⟨bm, p, rfl, ha, hbm, hp, hb⟩
theorem newMR {g : Ge} (ok : g.ok) (h0 : 0 < pW g) (h1 : pW g ≤ 65536) {w : World} {b : Nat} {base : Nat} (hr : w.ownsRow base 27 1 (.slice (some ⟨b, 0, none⟩) (pW g) (pW g)) (pW g) ((Ly.ini g).map (Value.int .u64))) : Calls Try.prog 60 #[.slice (some ⟨b, 0, none⟩) (pW g) (pW g)] w fun e w' => ∃ bm p, e = .returned (.tuple #[.pointer (some ⟨bm, 0, none⟩), .int .i64 0]) ∧ At 27 w' bm p none ⟨Ly.ini g, []⟩ ∧ w.heap.size ≤ bm ∧ w.heap.size ≤ p ∧ Below w.heap.size w w' := by
  have hl := Ly.ini_len g
  refine (Wd.newR_any (some ⟨b, 0, none⟩) (pW g) (pW g) (Ly.ini g) w hl (by unfold maxLen; omega) (row_rd hr) (fun e => by cases e) (ini_bd g ok)).mono ?_
  rintro e w' (⟨h, _⟩ | ⟨_, bm, p, rfl, ha, hbm, hp, hb⟩)
  · exact absurd (by rw [hl]; unfold newE; rw [if_neg (by omega), if_neg (by omega)]) h
  · exact ⟨bm, p, rfl, ha, hbm, hp, hb⟩
theorem field_pl4 (a0 a1 a2 a3 a4 a5 a6 a7 a8 a9 : Value) (W : World) : (Instr.field 71 (.agg #[a0, a1, a2, a3, a4, a5, a6, a7, a8, a9]) 4).run Try.prog W = .ok a4 W := by
  have hp : (part 3 #[a0, a1, a2, a3, a4, a5, a6, a7, a8, a9] 4).run Try.prog W = .ok a4 W := run_part_plain W (by kernel_rfl) rfl
  simp [Instr.field, run_underlying Try.underlying71, asAgg, hp]
theorem field_pl9 (a0 a1 a2 a3 a4 a5 a6 a7 a8 a9 : Value) (W : World) : (Instr.field 71 (.agg #[a0, a1, a2, a3, a4, a5, a6, a7, a8, a9]) 9).run Try.prog W = .ok a9 W := by
  have hp : (part 3 #[a0, a1, a2, a3, a4, a5, a6, a7, a8, a9] 9).run Try.prog W = .ok a9 W := run_part_plain W (by kernel_rfl) rfl
  simp [Instr.field, run_underlying Try.underlying71, asAgg, hp]
set_option maxHeartbeats 2000000 in
/-- tower.New -/
theorem newT {w : World} {bm bl p : Nat} {q : Option Nat} {M : Wm} {f : Cf} {l : List Int} {g : Ge} (h : At 155 w bm p q M) (hl : LyAt w bl f l g) (ok : g.ok) (hn : M.W.length = pW g) : Calls Try.prog 18 #[.pointer (some ⟨bm, 0, none⟩), .pointer (some ⟨bl, 0, none⟩)] w fun e w' =>
    ∃ x, w.heap.size ≤ x ∧ e = .returned (.tuple #[.pointer (some ⟨x, 0, none⟩), .int .i64 0]) ∧ Tt w' x bm p q bl f l g M ∧ Below w.heap.size w w' := by
  have hT : ∀ W, Below w.heap.size w W → Tt (W.alloc (.cells #[.pointer (some ⟨bm, 0, none⟩), .pointer (some ⟨bl, 0, none⟩)] 110)) W.heap.size bm p q bl f l g M := fun W hb => by
    have hb2 := hb.trans ((bel_alloc (Below.refl W.heap.size W) (.cells #[.pointer (some ⟨bm, 0, none⟩), .pointer (some ⟨bl, 0, none⟩)] 110)).mono hb.size)
    exact ⟨World.cell?_alloc_new _ _ _ _, World.cell?_alloc_new _ _ _ _, h.below hb2, hl.below hb2, ok, hn⟩
  have CW := Lib.hid (words_any bm p q M w h)
  have CP := fun W (hb : Below w.heap.size w W) => Lib.hid (Ly.places_any (hl.below hb))
  have HN := Lib.hid hn
  have HT := Lib.hid hT
  have hf := field_pl9
  have hN : ((pW g : Int) != (pW g : Int)) = false := by simp
  clear hT h hl hn
  go_enter Try.func18, Try.ntmps18
  go_wp2_with fail
  refine CW.out.mono ?_
  rintro r1 W1 ⟨⟨v, rfl, hr⟩, hb1⟩
  obtain ⟨A, c, rfl⟩ : ∃ A c, v = .slice A (pW g) c := by
    rw [← HN.out]
    rcases hr.2 with ⟨rfl, e⟩ | ⟨gg, cap, cur, rfl, _⟩
    · rw [e]; exact ⟨_, _, rfl⟩
    · exact ⟨_, _, rfl⟩
  have CP1 := CP W1 hb1
  unfold Ly.plV at CP1
  rw [show Ly.plN g 9 = pW g from rfl] at CP1
  have HB1 := Lib.hid hb1
  clear hr hb1 CP
  go_wp2_with fail
  refine CP1.out.mono ?_
  rintro r1 W2 ⟨rfl, hb2⟩
  have HB2 := Lib.hid (HB1.out.trans (hb2.mono HB1.out.size))
  clear hb2
  go_wp2
  go_ret2
  exact ⟨_, HB2.out.size, rfl, HT.out W2 HB2.out, bel_alloc HB2.out _⟩
/-- leapfrogref15.New -/
theorem newTR {w : World} {bm bl p : Nat} {q : Option Nat} {M : Wm} {g : Ge} (h : At 27 w bm p q M) (hl : RAt w bl g) (hn : M.W.length = pW g) : Calls Try.prog 62 #[.pointer (some ⟨bm, 0, none⟩), .pointer (some ⟨bl, 0, none⟩)] w fun e w' =>
    ∃ x, e = .returned (.tuple #[.pointer (some ⟨x, 0, none⟩), .int .i64 0]) ∧ Below w.heap.size w w' := by
  obtain ⟨c, v, rfl, h⟩ := h
  have c0 := h.c0
  have c9 := hl.pl 9 (by omega)
  rw [show Ly.plN g 9 = pW g from rfl, show 16 + 9 = 25 from rfl] at c9
  rw [hn] at c0
  have hN : ((pW g : Int) != (pW g : Int)) = false := by simp
  clear h hl hn
  go_enter Try.func62, Try.ntmps62
  go_wp2_with fail
  go_quiet (fail)
  go_wp2
  go_ret2
  exact ⟨_, rfl, bel_alloc (below_drewN (Below.refl _ _) _) _⟩
/-- a layout that lies below -/
def LyC (w : World) (c : Nat → Nat) (bl : Nat) (f : Cf) (l : List Int) (g : Ge) : Prop := ∃ wl, LyAt wl bl f l g ∧ Below wl.heap.size wl w ∧ ∀ i, i < wl.heap.size → c i = 0
theorem LyC.at {w : World} {c : Nat → Nat} {bl : Nat} {f : Cf} {l : List Int} {g : Ge} (h : LyC w c bl f l g) : LyAt w bl f l g := by
  obtain ⟨wl, h1, h2, _⟩ := h
  exact h1.below h2
theorem LyC.fc {T : Nat → Prop} {w w' : World} {c c' : Nat → Nat} {bl : Nat} {f : Cf} {l : List Int} {g : Ge} (h : LyC w c bl f l g) (hf : Fc T w c w' c') (h1 : ¬ T 0) : LyC w' c' bl f l g := by
  obtain ⟨wl, a1, a2, a3⟩ := h
  exact ⟨wl, a1, a2.trans (hf.below a2.size a3 h1), hf.low a2.size a3⟩
/-- the towers of a memory, by colours: 0 layout, 1 memory, 7 towers -/
structure Bn (w : World) (c : Nat → Nat) (x bm bl : Nat) (f : Cf) (l : List Int) (g : Ge) (M : Wm) : Prop where
  c0 : w.cell? ⟨x, 0, none⟩ = some (.pointer (some ⟨bm, 0, none⟩))
  c1 : w.cell? ⟨x, 1, none⟩ = some (.pointer (some ⟨bl, 0, none⟩))
  cx : c x = 7
  mc : MC 155 w c 1 bm M
  ly : LyC w c bl f l g
  ok : g.ok
  n : M.W.length = pW g
section
variable {w : World} {c : Nat → Nat} {x bm bl : Nat} {f : Cf} {l : List Int} {g : Ge} {M : Wm}
theorem Bn.lt (h : Bn w c x bm bl f l g M) : x < w.heap.size := World.block_lt_of_cell? w _ h.c0
theorem Bn.fc (h : Bn w c x bm bl f l g M) {T : Nat → Prop} {w1 : World} {c1 : Nat → Nat} (hf : Fc T w c w1 c1) (h0 : ¬ T 0) (h1 : ¬ T 1) (h7 : ¬ T 7) : Bn w1 c1 x bm bl f l g M := by
  have k := hf.keep h.lt (by rw [h.cx]; exact h7)
  exact ⟨(World.cell?_of_block (a := ⟨x, 0, none⟩) k).trans h.c0, (World.cell?_of_block (a := ⟨x, 1, none⟩) k).trans h.c1, (hf.co _ h.lt).trans h.cx, h.mc.keep hf h1, h.ly.fc hf h0, h.ok, h.n⟩
theorem Bn.below (h : Bn w c x bm bl f l g M) {w1 : World} (hb : Below w.heap.size w w1) : Bn w1 c x bm bl f l g M := h.fc (Fc.of_below (S := fun _ => False) hb) id id id
theorem Bn.tt (h : Bn w c x bm bl f l g M) : ∃ p q, Tt w x bm p q bl f l g M := by
  obtain ⟨p, q, h1, _⟩ := h.mc
  exact ⟨p, q, h.c0, h.c1, h1, h.ly.at, h.ok, h.n⟩
theorem Bn.bd (h : Bn w c x bm bl f l g M) : BdW M.W := by
  obtain ⟨p, q, h1⟩ := h.tt
  exact h1.bd
theorem stor_len (M : Wm) (t a v : Int) : (M.stor t a v).W.length = M.W.length := Wm.len_put ..
theorem stor_log (M : Wm) (t a v : Int) : (M.stor t a v).L.length = M.L.length + 1 := by simp [Wm.stor, Wm.put]
/-- a store to a word that is there -/
theorem Bn.store (h : Bn w c x bm bl f l g M) (hL : M.L.length ≤ 50000) (t v : Int) (a : Nat) (ht : 0 ≤ t ∧ t < 64) (ha : a < pW g) (v0 : 0 ≤ v) (v1 : v ≤ 18446744073709551615) : Calls Try.prog 23 #[.pointer (some ⟨bm, 0, none⟩), .int .i64 t, .int .i64 (a : Int), .int .u64 v] w fun e w' => e = .returned (.int .i64 0) ∧ ∃ c', Bn w' c' x bm bl f l g (M.stor t (a : Int) v) ∧ Fc (fun i => i = 1) w c w' c' := by
  obtain ⟨p, q, h1, h2⟩ := h.mc
  have he : M.err t (a : Int) = 0 := by
    have := h.n
    unfold Wm.err
    rw [if_pos ht, if_pos (by omega)]
  refine (store_any bm p q M t (a : Int) v w h1 hL v0 v1).mono ?_
  rintro e w' ⟨rfl, hA⟩
  rw [he, Wm.after_zero] at hA
  obtain ⟨m1, m2⟩ := MC.mem h1 h2 hA
  refine ⟨by rw [he], _, ?_, m2⟩
  have k := m2.keep h.lt (by rw [h.cx]; omega)
  exact ⟨(World.cell?_of_block (a := ⟨x, 0, none⟩) k).trans h.c0, (World.cell?_of_block (a := ⟨x, 1, none⟩) k).trans h.c1, (m2.co _ h.lt).trans h.cx, m1, h.ly.fc m2 (by omega), h.ok, by rw [stor_len]; exact h.n⟩
end
/-- a store of the reference's -/
theorem storeMR {w : World} {c : Nat → Nat} {bm : Nat} {M : Wm} (h : MC 27 w c 2 bm M) (hL : M.L.length ≤ 50000) (t v : Int) (a : Nat) (ht : 0 ≤ t ∧ t < 64) (ha : a < M.W.length) (v0 : 0 ≤ v) (v1 : v ≤ 18446744073709551615) : Calls Try.prog 63 #[.pointer (some ⟨bm, 0, none⟩), .int .i64 t, .int .i64 (a : Int), .int .u64 v] w fun e w' => e = .returned (.int .i64 0) ∧ ∃ c', MC 27 w' c' 2 bm (M.stor t (a : Int) v) ∧ Fc (fun i => i = 2) w c w' c' := by
  obtain ⟨p, q, h1, h2⟩ := h
  have he : M.err t (a : Int) = 0 := by
    unfold Wm.err
    rw [if_pos ht, if_pos (by omega)]
  refine (storeR_any bm p q M t (a : Int) v w h1 hL v0 v1).mono ?_
  rintro e w' ⟨rfl, hA⟩
  rw [he, Wm.after_zero] at hA
  obtain ⟨m1, m2⟩ := MC.mem h1 h2 hA
  exact ⟨by rw [he], _, m1, m2⟩
/-- the towers and both memories of a new store, in one colouring -/
theorem Bn.made {w2 w4 w6 w7 : World} {bl bm p bw pw x : Nat} {f : Cf} {l : List Int} {g : Ge} {M : Wm} (hl : LyAt w2 bl f l g) (b24 : Below w2.heap.size w2 w4) (hm : At 155 w4 bm p none M) (h1 : w2.heap.size ≤ bm) (h2 : w2.heap.size ≤ p)
    (b46 : Below w4.heap.size w4 w6) (hw : At 27 w6 bw pw none M) (h3 : w4.heap.size ≤ bw) (h4 : w4.heap.size ≤ pw) (b67 : Below w6.heap.size w6 w7) (hx : w6.heap.size ≤ x) (ht : Tt w7 x bm p none bl f l g M) :
    ∃ c, Bn w7 c x bm bl f l g M ∧ MC 27 w7 c 2 bw M ∧ ∀ i, i < w2.heap.size → c i = 0 := by
  have lb : bm < w4.heap.size := hm.lt bm (.inl rfl)
  have lp : p < w4.heap.size := hm.lt p (.inr (.inl rfl))
  have lbw : bw < w6.heap.size := hw.lt bw (.inl rfl)
  have lpw : pw < w6.heap.size := hw.lt pw (.inr (.inl rfl))
  have s24 := b24.size
  have s46 := b46.size
  have s67 := b67.size
  obtain ⟨c, hc⟩ : ∃ c : Nat → Nat, c = fun i => if i < w2.heap.size then 0 else if i = bm ∨ i = p then 1 else if i = bw ∨ i = pw then 2 else 7 := ⟨_, rfl⟩
  have c0 : ∀ i, i < w2.heap.size → c i = 0 := fun i hi => by rw [hc]; exact if_pos hi
  have c1 : ∀ i, w2.heap.size ≤ i → (i = bm ∨ i = p) → c i = 1 := fun i hi e => by rw [hc]; show (if _ then _ else _) = _; rw [if_neg (by omega), if_pos e]
  have c2 : ∀ i, (i = bw ∨ i = pw) → c i = 2 := fun i e => by rw [hc]; show (if _ then _ else _) = _; rw [if_neg (by omega), if_neg (by omega), if_pos e]
  have c7 : c x = 7 := by rw [hc]; show (if _ then _ else _) = _; rw [if_neg (by omega), if_neg (by omega), if_neg (by omega)]
  have b27 : Below w2.heap.size w2 w7 := b24.trans ((b46.trans (b67.mono s46)).mono s24)
  refine ⟨c, ⟨ht.c0, ht.c1, c7, ⟨p, none, ht.m, fun i hi => ?_⟩, ⟨w2, hl, b27, c0⟩, ht.ok, ht.n⟩, ⟨pw, none, hw.below b67, fun i hi => ?_⟩, c0⟩
  · rcases hi with e | e | e
    · have e' : i = bm := e
      exact c1 i (by omega) (.inl e')
    · have e' : i = p := e
      exact c1 i (by omega) (.inr e')
    · cases e
  · rcases hi with e | e | e
    · exact c2 i (.inl e)
    · exact c2 i (.inr e)
    · cases e
end Tw
end Go.Proofs.Ytjcbjbhlclajnaa
