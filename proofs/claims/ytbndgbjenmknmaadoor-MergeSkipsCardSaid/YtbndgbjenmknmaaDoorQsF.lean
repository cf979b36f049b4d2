/- sort.order2_func, median_func, medianAdjacent_func, choosePivot_func over a row of candidates, 'less' a bound method: contracts of the translated code. Conditions: at most 64 candidates. -/
import Derived.Test.YtbndgbjenmknmaaDoorQsE
namespace Go.Proofs.YtbndgbjenmknmaaDoor
open Go.RowKit Go.Sort Go.Shelf Go.Lib
set_option linter.unusedVariables false
set_option linter.unusedSimpArgs false
namespace Hq
open Om (bel_alloc below_drewN)
/-- the row is as it was; the count at sp has grown by at most m -/
structure Cnt (w0 w : World) (g n : Nat) (f : Nat → Cd) (sp : Nat) (s m : Int) (w' : World) : Prop where
  rw : Rw w0 g n f w'
  fr : Fr (fun k => k = sp ∨ k = g) w w'
  cl : ∃ s' : Int, w'.cell? ⟨sp, 0, none⟩ = some (.int .i64 s') ∧ 0 ≤ s' ∧ s' ≤ s + m
  fz : w'.frozen? ⟨sp, 0, none⟩ = false
def OrP (w0 w : World) (g n : Nat) (f : Nat → Cd) (sp : Nat) (s : Int) (a b : Nat) (e : Ending) (w' : World) : Prop := ∃ x y : Nat, e = .returned (.tuple #[.int .i64 x, .int .i64 y]) ∧ (x = a ∧ y = b ∨ x = b ∧ y = a) ∧ Cnt w0 w g n f sp s 1 w'
set_option maxRecDepth 100000 in
set_option maxHeartbeats 4000000 in
theorem order_any (g n c a b sf sp : Nat) (sb : Array Value) (f : Nat → Cd) (s : Int) (w0 w : World) (h : Rw w0 g n f w) (hn : n ≤ 64) (ha : a < n) (hb : b < n) (h0 : w0.heap.size ≤ sp) (hc : w.cell? ⟨sp, 0, none⟩ = some (.int .i64 s)) (hf : w.frozen? ⟨sp, 0, none⟩ = false) (s0 : 0 ≤ s) (s1 : s ≤ 1000) :
    Calls Tryd.prog 81 #[.agg #[lsV g n c, swV sf sb], .int .i64 a, .int .i64 b, .pointer (some ⟨sp, 0, none⟩)] w fun e w' => OrP w0 w g n f sp s a b e w' := by
  have hg := h.1
  have hsp : sp < w.heap.size := World.block_lt_of_cell? w _ hc
  have h1 := h.alloc (.cells #[lsV g n c, swV sf sb] 102)
  have B1 : Below w.heap.size w (w.alloc (.cells #[lsV g n c, swV sf sb] 102)) := bel_alloc (Below.refl _ _) _
  have hc1 := (B1.cell (p := ⟨sp, 0, none⟩) hsp).trans hc
  have hf1 := (B1.frozen (p := ⟨sp, 0, none⟩) hsp).trans hf
  have CL := h1.less (c := c) hn hb ha
  have hls : lsV g n c = .func (.func 32) #[.slice (some ⟨g, 0, none⟩) n c] #[] := rfl
  have hsw : swV sf sb = .func (.func sf) #[] sb := rfl
  rw [hls, hsw] at h1 B1 CL hc1 hf1
  rw [hls, hsw]
  have H1 := Lib.hid h1
  have HB := Lib.hid B1
  clear hls hsw h1 h hc hf B1
  by_cases hlt : (f b).k < (f a).k
  · rw [decide_eq_true hlt] at CL
    have CL := Lib.hid CL
    clear hlt
    go_enter Tryd.func81, Tryd.ntmps81
    go_wp2_with fail
    refine CL.out.mono ?_
    rintro r w1 ⟨rfl, d, rfl⟩
    clear CL
    have HR := Lib.hid (H1.out.drewN d)
    have HF := Lib.hid ((Fr.of_below (B := fun k => k = sp ∨ k = g) HB.out).drewN d)
    clear H1 HB
    have hc2 : ((w.alloc (.cells #[.func (.func 32) #[.slice (some ⟨g, 0, none⟩) n c] #[], .func (.func sf) #[] sb] 102)).drewN d).cell? ⟨sp, 0, none⟩ = some (.int .i64 s) := hc1
    have hf2 : ((w.alloc (.cells #[.func (.func 32) #[.slice (some ⟨g, 0, none⟩) n c] #[], .func (.func sf) #[] sb] 102)).drewN d).frozen? ⟨sp, 0, none⟩ = false := hf1
    generalize (w.alloc (.cells #[.func (.func 32) #[.slice (some ⟨g, 0, none⟩) n c] #[], .func (.func sf) #[] sb] 102)).drewN d = w2 at *
    go_wp2
    go_ret2
    exact ⟨b, a, rfl, .inr ⟨rfl, rfl⟩, HR.out.set sp 0 _ h0, HF.out.set _ _ (.inl (.inl rfl)), ⟨s + 1, World.cell?_setCell_same _ _ _ hc2, by omega, by omega⟩, by rw [World.frozen?_setCell]; exact hf2⟩
  · rw [decide_eq_false hlt] at CL
    have CL := Lib.hid CL
    clear hlt
    go_enter Tryd.func81, Tryd.ntmps81
    go_wp2_with fail
    refine CL.out.mono ?_
    rintro r w1 ⟨rfl, d, rfl⟩
    go_wp2
    go_ret2
    exact ⟨a, b, rfl, .inl ⟨rfl, rfl⟩, H1.out.drewN d, (Fr.of_below HB.out).drewN d, ⟨s, hc1, by omega, by omega⟩, hf1⟩
def MeP (w0 w : World) (g n : Nat) (f : Nat → Cd) (sp : Nat) (s : Int) (a b c : Nat) (e : Ending) (w' : World) : Prop := ∃ x : Nat, e = .returned (.int .i64 x) ∧ (x = a ∨ x = b ∨ x = c) ∧ Cnt w0 w g n f sp s 3 w'
set_option maxRecDepth 100000 in
set_option maxHeartbeats 4000000 in
theorem median_any (g n c a b d sf sp : Nat) (sb : Array Value) (f : Nat → Cd) (s : Int) (w0 w : World) (h : Rw w0 g n f w) (hn : n ≤ 64) (ha : a < n) (hb : b < n) (hd : d < n) (h0 : w0.heap.size ≤ sp) (hgs : w0.heap.size ≤ w.heap.size) (hc : w.cell? ⟨sp, 0, none⟩ = some (.int .i64 s)) (hf : w.frozen? ⟨sp, 0, none⟩ = false) (s0 : 0 ≤ s) (s1 : s ≤ 900) :
    Calls Tryd.prog 80 #[.agg #[lsV g n c, swV sf sb], .int .i64 a, .int .i64 b, .int .i64 d, .pointer (some ⟨sp, 0, none⟩)] w fun e w' => MeP w0 w g n f sp s a b d e w' := by
  have hg := h.1
  have hsp : sp < w.heap.size := World.block_lt_of_cell? w _ hc
  have OR := fun a b s w h ha hb hc hf s0 s1 => order_any g n c a b sf sp sb f s w0 w h hn ha hb h0 hc hf s0 s1
  have h1 := h.alloc (.cells #[lsV g n c, swV sf sb] 102)
  have B1 : Below w.heap.size w (w.alloc (.cells #[lsV g n c, swV sf sb] 102)) := bel_alloc (Below.refl _ _) _
  have hc1 := (B1.cell (p := ⟨sp, 0, none⟩) hsp).trans hc
  have hf1 := (B1.frozen (p := ⟨sp, 0, none⟩) hsp).trans hf
  have k0 : (w.alloc (.cells #[lsV g n c, swV sf sb] 102)).cell? ⟨w.heap.size, 0, none⟩ = some (lsV g n c) := by simp
  have k1 : (w.alloc (.cells #[lsV g n c, swV sf sb] 102)).cell? ⟨w.heap.size, 1, none⟩ = some (swV sf sb) := by simp
  have hsz : (w.alloc (.cells #[lsV g n c, swV sf sb] 102)).heap.size = w.heap.size + 1 := by simp
  obtain ⟨W, hW⟩ : ∃ W, W = w.alloc (.cells #[lsV g n c, swV sf sb] 102) := ⟨_, rfl⟩
  have HW := Lib.hid hW
  rw [← hW] at h1 B1 hc1 hf1 k0 k1 hsz
  clear hW
  have C1 := Lib.hid (OR a b s W h1 ha hb hc1 hf1 s0 (by omega))
  generalize lsV g n c = lsv at *
  generalize swV sf sb = swv at *
  have HB := Lib.hid B1
  clear B1
  have far : ∀ {u v : World} {k o : Nat} {x : Value}, Fr (fun k => k = sp ∨ k = g) u v → u.cell? ⟨k, o, none⟩ = some x → k ≠ sp → k ≠ g → v.cell? ⟨k, o, none⟩ = some x := fun hfr hx h1 h2 =>
    (World.cell?_of_block (a := ⟨_, _, none⟩) (hfr.block _ (World.block_lt_of_cell? _ _ hx) (fun e => by rcases e with e | e; exact h1 e; exact h2 e))).trans hx
  have ne1 : w.heap.size ≠ sp := by omega
  have ne2 : w.heap.size ≠ g := by omega
  go_enter Tryd.func80, Tryd.ntmps80
  go_wp2_with fail
  rw [← HW.out]
  refine C1.out.mono ?_
  rintro r w1 ⟨x, y, rfl, hxy, ct⟩
  obtain ⟨s2, hc2, p2, q2⟩ := ct.cl
  have hx : x < n := by rcases hxy with ⟨h, _⟩ | ⟨h, _⟩ <;> omega
  have hy : y < n := by rcases hxy with ⟨_, h⟩ | ⟨_, h⟩ <;> omega
  have k0 := far ct.fr k0 ne1 ne2
  have k1 := far ct.fr k1 ne1 ne2
  have C2 := Lib.hid (OR y d s2 w1 ct.rw hy hd hc2 ct.fz p2 (by omega))
  have HXY := Lib.hid hxy
  have F1 := Lib.hid ct.fr
  clear C1 ct hc2 hxy hc1 hf1
  go_wp2_with fail
  refine C2.out.mono ?_
  rintro r w2 ⟨x2, y2, rfl, hxy, ct⟩
  obtain ⟨s3, hc2, p3, q3⟩ := ct.cl
  have hx2 : x2 < n := by rcases hxy with ⟨h, _⟩ | ⟨h, _⟩ <;> omega
  have k0 := far ct.fr k0 ne1 ne2
  have k1 := far ct.fr k1 ne1 ne2
  have C3 := Lib.hid (OR x x2 s3 w2 ct.rw hx hx2 hc2 ct.fz p3 (by omega))
  have HXY2 := Lib.hid hxy
  have F2 := Lib.hid ct.fr
  clear C2 ct hc2 hxy
  go_wp2_with fail
  refine C3.out.mono ?_
  rintro r w3 ⟨x3, y3, rfl, hxy, ct⟩
  obtain ⟨s4, hc2, p4, q4⟩ := ct.cl
  have HXY3 := Lib.hid hxy
  have CT := Lib.hid ct
  have HC4 := Lib.hid hc2
  clear C3 ct hc2 hxy
  go_wp2
  go_ret
  refine ⟨y3, rfl, ?_, CT.out.rw, ((Fr.of_below HB.out).trans F1.out fun _ _ h => h).trans (F2.out.trans CT.out.fr fun _ _ h => h) fun _ _ h => h, ⟨s4, HC4.out, p4, by omega⟩, CT.out.fz⟩
  rcases HXY.out with ⟨e1, e2⟩ | ⟨e1, e2⟩ <;> rcases HXY2.out with ⟨e3, e4⟩ | ⟨e3, e4⟩ <;> rcases HXY3.out with ⟨e5, e6⟩ | ⟨e5, e6⟩ <;> omega
set_option maxRecDepth 100000 in
set_option maxHeartbeats 4000000 in
theorem medAdj_any (g n c a sf sp : Nat) (sb : Array Value) (f : Nat → Cd) (s : Int) (w0 w : World) (h : Rw w0 g n f w) (hn : n ≤ 64) (h1 : 1 ≤ a) (h2 : a + 1 < n) (h0 : w0.heap.size ≤ sp) (hc : w.cell? ⟨sp, 0, none⟩ = some (.int .i64 s)) (hf : w.frozen? ⟨sp, 0, none⟩ = false) (s0 : 0 ≤ s) (s1 : s ≤ 900) :
    Calls Tryd.prog 79 #[.agg #[lsV g n c, swV sf sb], .int .i64 a, .pointer (some ⟨sp, 0, none⟩)] w fun e w' => MeP w0 w g n f sp s (a - 1) a (a + 1) e w' := by
  have hsp : sp < w.heap.size := World.block_lt_of_cell? w _ hc
  have hg := h.1
  have hr := h.alloc (.cells #[lsV g n c, swV sf sb] 102)
  have B1 : Below w.heap.size w (w.alloc (.cells #[lsV g n c, swV sf sb] 102)) := bel_alloc (Below.refl _ _) _
  have hc1 := (B1.cell (p := ⟨sp, 0, none⟩) hsp).trans hc
  have hf1 := (B1.frozen (p := ⟨sp, 0, none⟩) hsp).trans hf
  have C := median_any g n c (a - 1) a (a + 1) sf sp sb f s w0 _ hr hn (by omega) (by omega) h2 h0 hr.le hc1 hf1 s0 s1
  rw [show ((a - 1 : Nat) : Int) = (a : Int) - 1 by omega, show ((a + 1 : Nat) : Int) = (a : Int) + 1 by omega] at C
  have C := Lib.hid C
  have HB := Lib.hid B1
  clear hr B1 hc1 hf1 h
  generalize lsV g n c = lsv at *
  generalize swV sf sb = swv at *
  go_enter Tryd.func79, Tryd.ntmps79
  go_wp2_with fail
  refine C.out.mono ?_
  rintro r w1 ⟨x, rfl, hx, ct⟩
  have CT := Lib.hid ct
  have HX := Lib.hid hx
  clear ct hx
  go_wp2
  go_ret
  exact ⟨x, rfl, HX.out, CT.out.rw, (Fr.of_below HB.out).trans CT.out.fr fun _ _ h => h, CT.out.cl, CT.out.fz⟩
def ChP (w0 w : World) (g n : Nat) (f : Nat → Cd) (a b : Nat) (e : Ending) (w' : World) : Prop := ∃ (x : Nat) (h : Int), e = .returned (.tuple #[.int .i64 x, .int .i64 h]) ∧ a ≤ x ∧ x < b ∧ (h = 0 ∨ h = 1 ∨ h = 2) ∧ Rw w g n f w'
set_option maxRecDepth 100000 in
set_option maxHeartbeats 8000000 in
theorem choose_any (g n c a b sf : Nat) (sb : Array Value) (f : Nat → Cd) (w : World) (h : Rw w g n f w) (hn : n ≤ 64) (hab : a + 8 ≤ b) (hb : b ≤ n) :
    Calls Tryd.prog 69 #[.agg #[lsV g n c, swV sf sb], .int .i64 a, .int .i64 b] w fun e w' => ChP w w g n f a b e w' := by
  obtain ⟨L, hL⟩ : ∃ L, b = a + L := ⟨b - a, by omega⟩
  have eL : (b : Int) - (a : Int) = (L : Int) := by omega
  obtain ⟨Q, hQ⟩ : ∃ Q, Q = L / 4 := ⟨_, rfl⟩
  have eQ : (L : Int).tdiv 4 = (Q : Int) := by rw [Int.tdiv_eq_ediv_of_nonneg (by omega)]; omega
  have eQ2 : (L : Int) / 4 = (Q : Int) := by omega
  have q1 : 2 ≤ Q := by omega
  have q2 : Q * 4 ≤ L := by omega
  have q3 : a + L ≤ n := by omega
  have qh : 50 ≤ L → 12 ≤ Q := by omega
  have hL2 : L ≤ 64 := by omega
  have HLb := Lib.hid hL
  clear hQ hL
  have hg := h.1
  obtain ⟨W, hW⟩ : ∃ W, W = (w.alloc (.cells #[lsV g n c, swV sf sb] 102)).alloc (.cells #[.int .i64 0] 3) := ⟨_, rfl⟩
  have hr : Rw w g n f W := by rw [hW]; exact (h.alloc _).alloc _
  have k0 : W.cell? ⟨w.heap.size, 0, none⟩ = some (lsV g n c) := by rw [hW]; simp
  have k1 : W.cell? ⟨w.heap.size, 1, none⟩ = some (swV sf sb) := by rw [hW]; simp
  have c0 : W.cell? ⟨w.heap.size + 1, 0, none⟩ = some (.int .i64 0) := by rw [hW]; simp
  have z0 : W.frozen? ⟨w.heap.size + 1, 0, none⟩ = false := by rw [hW]; simp
  have HW := Lib.hid hW
  clear hW
  have ME := fun x y z s W h hx hy hz hc hf s0 s1 => median_any g n c x y z sf (w.heap.size + 1) sb f s w W h hn hx hy hz (by omega) h.le hc hf s0 s1
  have MA := fun x s W h h1 h2 hc hf s0 s1 => medAdj_any g n c x sf (w.heap.size + 1) sb f s w W h hn h1 h2 (by omega) hc hf s0 s1
  generalize lsV g n c = lsv at *
  generalize swV sf sb = swv at *
  have far : ∀ {u v : World} {k o : Nat} {x : Value}, Fr (fun k => k = w.heap.size + 1 ∨ k = g) u v → u.cell? ⟨k, o, none⟩ = some x → k ≠ w.heap.size + 1 → k ≠ g → v.cell? ⟨k, o, none⟩ = some x := fun hfr hx h1 h2 =>
    (World.cell?_of_block (a := ⟨_, _, none⟩) (hfr.block _ (World.block_lt_of_cell? _ _ hx) (fun e => by rcases e with e | e; exact h1 e; exact h2 e))).trans hx
  have ne1 : w.heap.size ≠ w.heap.size + 1 := by omega
  have ne2 : w.heap.size ≠ g := by omega
  have HR := Lib.hid hr
  clear hr
  by_cases h50 : 50 ≤ L
  · have t0 : decide (8 ≤ (L : Int)) = true := decide_eq_true (by omega)
    have t1 : decide (50 ≤ (L : Int)) = true := decide_eq_true (by omega)
    have q12 := qh h50
    have C := MA (a + Q) 0 W HR.out (by omega) (by omega) c0 z0 (by omega) (by omega)
    rw [show ((a + Q : Nat) : Int) = (a : Int) + (Q : Int) by omega] at C
    have C := Lib.hid C
    go_enter Tryd.func69, Tryd.ntmps69
    go_wp2_with fail
    rw [← HW.out]
    refine C.out.mono ?_
    rintro r w1 ⟨x1, rfl, hx1, ct⟩
    have k0 := far ct.fr k0 ne1 ne2
    have k1 := far ct.fr k1 ne1 ne2
    have R1 := Lib.hid ct.rw
    have Z1 := Lib.hid ct.fz
    obtain ⟨s1, hs1, p1, q1⟩ := ct.cl
    have b1 : a + 1 ≤ x1 + 0 ∧ x1 + 2 ≤ a + L := by omega
    clear ct C hx1 c0
    have C := MA (a + Q * 2) s1 w1 R1.out (by omega) (by omega) hs1 Z1.out p1 (by omega)
    rw [show ((a + Q * 2 : Nat) : Int) = (a : Int) + (Q : Int) * 2 by omega] at C
    have C := Lib.hid C
    go_wp2_with fail
    refine C.out.mono ?_
    rintro r w2 ⟨x2, rfl, hx2, ct⟩
    have k0 := far ct.fr k0 ne1 ne2
    have k1 := far ct.fr k1 ne1 ne2
    have R2 := Lib.hid ct.rw
    have Z2 := Lib.hid ct.fz
    obtain ⟨s2, hs2, p2, q2⟩ := ct.cl
    have b2 : a + 1 ≤ x2 + 0 ∧ x2 + 2 ≤ a + L := by omega
    clear ct C hx2 hs1
    have C := MA (a + Q * 3) s2 w2 R2.out (by omega) (by omega) hs2 Z2.out p2 (by omega)
    rw [show ((a + Q * 3 : Nat) : Int) = (a : Int) + (Q : Int) * 3 by omega] at C
    have C := Lib.hid C
    go_wp2_with fail
    refine C.out.mono ?_
    rintro r w3 ⟨x3, rfl, hx3, ct⟩
    have k0 := far ct.fr k0 ne1 ne2
    have k1 := far ct.fr k1 ne1 ne2
    have R3 := Lib.hid ct.rw
    have Z3 := Lib.hid ct.fz
    obtain ⟨s3, hs3, p3, q3⟩ := ct.cl
    have b3 : a + 1 ≤ x3 + 0 ∧ x3 + 2 ≤ a + L := by omega
    clear ct C hx3 hs2
    have C := Lib.hid (ME x1 x2 x3 s3 w3 R3.out (by omega) (by omega) (by omega) hs3 Z3.out p3 (by omega))
    go_wp2_with fail
    refine C.out.mono ?_
    rintro r w4 ⟨x, rfl, hx, ct⟩
    obtain ⟨s9, hs9, s90, s91⟩ := ct.cl
    have HX := Lib.hid (show a ≤ x ∧ x < b from by have := HLb.out; omega)
    have HRW := Lib.hid ct.rw
    clear ct hx
    by_cases e0 : s9 = 0
    · subst e0
      go_wp2
      go_ret2
      exact ⟨x, 1, rfl, HX.out.1, HX.out.2, .inr (.inl rfl), HRW.out⟩
    · by_cases e12 : s9 = 12
      · subst e12
        go_wp2
        go_ret2
        exact ⟨x, 2, rfl, HX.out.1, HX.out.2, .inr (.inr rfl), HRW.out⟩
      · have t3 : (s9 == 0) = false := beq_eq_false_iff_ne.2 e0
        have t4 : (s9 == 12) = false := beq_eq_false_iff_ne.2 e12
        clear e0 e12
        go_wp2
        go_ret2
        exact ⟨x, 0, rfl, HX.out.1, HX.out.2, .inl rfl, HRW.out⟩
  · have t0 : decide (8 ≤ (L : Int)) = true := decide_eq_true (by omega)
    have t1 : decide (50 ≤ (L : Int)) = false := decide_eq_false (by omega)
    have C := ME (a + Q) (a + Q * 2) (a + Q * 3) 0 W HR.out (by omega) (by omega) (by omega) c0 z0 (by omega) (by omega)
    rw [show ((a + Q : Nat) : Int) = (a : Int) + (Q : Int) by omega, show ((a + Q * 2 : Nat) : Int) = (a : Int) + (Q : Int) * 2 by omega, show ((a + Q * 3 : Nat) : Int) = (a : Int) + (Q : Int) * 3 by omega] at C
    have C := Lib.hid C
    go_enter Tryd.func69, Tryd.ntmps69
    go_wp2_with fail
    rw [← HW.out]
    refine C.out.mono ?_
    rintro r w1 ⟨x, rfl, hx, ct⟩
    obtain ⟨s9, hs9, s90, s91⟩ := ct.cl
    have HX := Lib.hid (show a ≤ x ∧ x < b from by have := HLb.out; omega)
    have HRW := Lib.hid ct.rw
    clear ct hx
    by_cases e0 : s9 = 0
    · subst e0
      go_wp2
      go_ret2
      exact ⟨x, 1, rfl, HX.out.1, HX.out.2, .inr (.inl rfl), HRW.out⟩
    · by_cases e12 : s9 = 12
      · subst e12
        go_wp2
        go_ret2
        exact ⟨x, 2, rfl, HX.out.1, HX.out.2, .inr (.inr rfl), HRW.out⟩
      · have t3 : (s9 == 0) = false := beq_eq_false_iff_ne.2 e0
        have t4 : (s9 == 12) = false := beq_eq_false_iff_ne.2 e12
        clear e0 e12
        go_wp2
        go_ret2
        exact ⟨x, 0, rfl, HX.out.1, HX.out.2, .inl rfl, HRW.out⟩
end Hq
end Go.Proofs.YtbndgbjenmknmaaDoor
