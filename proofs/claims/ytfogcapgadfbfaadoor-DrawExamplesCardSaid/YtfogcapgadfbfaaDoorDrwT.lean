/- Tally of package draw and of leapfrogref04, and leapfroglaw04.known: contracts of the translated code. Conditions: the bounds of each argument's kind; Tz for known. -/
import Derived.Test.YtfogcapgadfbfaaDoorDrwH
namespace Go.Proofs.YtfogcapgadfbfaaDoor
open Go.RowKit Go.Sort
set_option linter.unusedVariables false
set_option linter.unusedSimpArgs false
namespace Dr
open Dm
/-- a row of 6 ints in the block b -/
def Ar (w : World) (b : Nat) (f : Nat → Int) : Prop := ∀ k, k < 6 → w.cell? ⟨b, k, none⟩ = some (.int .i64 (f k)) ∧ w.frozen? ⟨b, k, none⟩ = false
theorem Ar.set {w : World} {b r : Nat} {f : Nat → Int} (h : Ar w b f) (hr : r < 6) (v : Int) : Ar (w.setCell ⟨b, r, none⟩ (.int .i64 v)) b (fun k => if k = r then v else f k) := fun k hk => by
  refine ⟨?_, by rw [World.frozen?_setCell]; exact (h k hk).2⟩
  by_cases e : k = r
  · subst e
    rw [World.cell?_setCell_same _ _ _ (h k hk).1]
    simp
  · rw [World.cell?_setCell_other _ _ _ _ (fun e' => e (by cases e'; rfl)), (h k hk).1]
    simp [e]
theorem Ar.other {w : World} {b b' r : Nat} {f : Nat → Int} (h : Ar w b f) (hb : b ≠ b') (v : Value) : Ar (w.setCell ⟨b', r, none⟩ v) b f := fun k hk =>
  ⟨by rw [World.cell?_setCell_other _ _ _ _ (fun e => hb (by cases e; rfl)), (h k hk).1], by rw [World.frozen?_setCell]; exact (h k hk).2⟩
theorem Ar.congr {w : World} {b : Nat} {f g : Nat → Int} (h : Ar w b f) (e : ∀ k, k < 6 → f k = g k) : Ar w b g := fun k hk => by rw [← e k hk]; exact h k hk
theorem Ar.below {n₀ : Nat} {w w' : World} {b : Nat} {f : Nat → Int} (h : Ar w b f) (hb : Below n₀ w w') (hlt : b < n₀) : Ar w' b f := fun k hk =>
  ⟨(hb.cell (p := ⟨b, k, none⟩) hlt).trans (h k hk).1, (hb.frozen (p := ⟨b, k, none⟩) hlt).trans (h k hk).2⟩
theorem ar_new (w : World) (t : TypeId) (x0 x1 x2 x3 x4 x5 : Int) (f : Nat → Int) (e0 : f 0 = x0) (e1 : f 1 = x1) (e2 : f 2 = x2) (e3 : f 3 = x3) (e4 : f 4 = x4) (e5 : f 5 = x5) : Ar (w.alloc (.cells #[.int .i64 x0, .int .i64 x1, .int .i64 x2, .int .i64 x3, .int .i64 x4, .int .i64 x5] t)) w.heap.size f := fun k hk => by
  refine ⟨?_, World.frozen?_alloc_new _ _ _ _⟩
  rw [World.cell?_alloc_new]
  subst e0 e1 e2 e3 e4 e5
  rcases k with _ | _ | _ | _ | _ | _ | k
  all_goals first | rfl | omega
/-- six ints stored into the block b -/
def put6 (w : World) (b : Nat) (x0 x1 x2 x3 x4 x5 : Int) : World :=
  (((((w.setCell ⟨b, 0, none⟩ (.int .i64 x0)).setCell ⟨b, 1, none⟩ (.int .i64 x1)).setCell ⟨b, 2, none⟩ (.int .i64 x2)).setCell ⟨b, 3, none⟩ (.int .i64 x3)).setCell ⟨b, 4, none⟩ (.int .i64 x4)).setCell ⟨b, 5, none⟩ (.int .i64 x5)
theorem put6_ar {w : World} {b : Nat} {f : Nat → Int} (h : Ar w b f) (x0 x1 x2 x3 x4 x5 : Int) (g : Nat → Int) (e0 : g 0 = x0) (e1 : g 1 = x1) (e2 : g 2 = x2) (e3 : g 3 = x3) (e4 : g 4 = x4) (e5 : g 5 = x5) : Ar (put6 w b x0 x1 x2 x3 x4 x5) b g :=
  ((((((h.set (r := 0) (by omega) x0).set (r := 1) (by omega) x1).set (r := 2) (by omega) x2).set (r := 3) (by omega) x3).set (r := 4) (by omega) x4).set (r := 5) (by omega) x5).congr fun k hk => by
    rcases (show k = 0 ∨ k = 1 ∨ k = 2 ∨ k = 3 ∨ k = 4 ∨ k = 5 by omega) with rfl | rfl | rfl | rfl | rfl | rfl <;> simp [*]
theorem put6_bel {W w : World} {b : Nat} (h : Below W.heap.size W w) (hb : W.heap.size ≤ b) (x0 x1 x2 x3 x4 x5 : Int) : Below W.heap.size W (put6 w b x0 x1 x2 x3 x4 x5) :=
  (((((h.setCell (p := ⟨b, 0, none⟩) hb _).setCell (p := ⟨b, 1, none⟩) hb _).setCell (p := ⟨b, 2, none⟩) hb _).setCell (p := ⟨b, 3, none⟩) hb _).setCell (p := ⟨b, 4, none⟩) hb _).setCell (p := ⟨b, 5, none⟩) hb _
/-- the cells of a row of 6 ints -/
theorem Ar.cells {w : World} {b : Nat} {f : Nat → Int} (h : Ar w b f) : w.cell? ⟨b, 0, none⟩ = some (.int .i64 (f 0)) ∧ w.cell? ⟨b, 1, none⟩ = some (.int .i64 (f 1)) ∧ w.cell? ⟨b, 2, none⟩ = some (.int .i64 (f 2)) ∧ w.cell? ⟨b, 3, none⟩ = some (.int .i64 (f 3)) ∧ w.cell? ⟨b, 4, none⟩ = some (.int .i64 (f 4)) ∧ w.cell? ⟨b, 5, none⟩ = some (.int .i64 (f 5)) :=
  ⟨(h 0 (by omega)).1, (h 1 (by omega)).1, (h 2 (by omega)).1, (h 3 (by omega)).1, (h 4 (by omega)).1, (h 5 (by omega)).1⟩
theorem Ar.free {w : World} {b : Nat} {f : Nat → Int} (h : Ar w b f) : w.frozen? ⟨b, 0, none⟩ = false ∧ w.frozen? ⟨b, 1, none⟩ = false ∧ w.frozen? ⟨b, 2, none⟩ = false ∧ w.frozen? ⟨b, 3, none⟩ = false ∧ w.frozen? ⟨b, 4, none⟩ = false ∧ w.frozen? ⟨b, 5, none⟩ = false :=
  ⟨(h 0 (by omega)).2, (h 1 (by omega)).2, (h 2 (by omega)).2, (h 3 (by omega)).2, (h 4 (by omega)).2, (h 5 (by omega)).2⟩
def tlV (l : List Int) : Value := if okT l l.length = true then .tuple #[.agg #[.int .i64 (cn l 1 l.length : Nat), .int .i64 (cn l 2 l.length : Nat), .int .i64 (cn l 3 l.length : Nat), .int .i64 (cn l 4 l.length : Nat), .int .i64 (cn l 5 l.length : Nat), .int .i64 (cn l 6 l.length : Nat)], .int .i64 0]
  else .tuple #[.agg #[.int .i64 0, .int .i64 0, .int .i64 0, .int .i64 0, .int .i64 0, .int .i64 0], .int .i64 3]
set_option maxHeartbeats 1000000 in
theorem tally_any (A : Option Addr) (m c : Nat) (l : List Int) (w : World) (hm : l.length = m) (hx : m ≤ maxLen) (hr : RdK .i64 w A l) (hd : BdI l) :
    Calls Tryd.prog 18 #[.slice A m c] w fun e w' => e = .returned (tlV l) ∧ Below w.heap.size w w' := by
  unfold maxLen at hx
  have HR := Lib.hid hr; clear hr
  have HD := Lib.hid hd; clear hd
  have HM := Lib.hid hm; clear hm
  go_enter Tryd.func18, Tryd.ntmps18
  go_wp2
  have z0 : Ar ((w.alloc (.cells #[.int .i64 0, .int .i64 0, .int .i64 0, .int .i64 0, .int .i64 0, .int .i64 0] 32)).alloc (.cells #[.int .i64 0, .int .i64 0, .int .i64 0, .int .i64 0, .int .i64 0, .int .i64 0] 32)) w.heap.size (fun _ => 0) := fun k hk => by
    rw [World.cell?_alloc_lt _ _ _ (by simp), World.frozen?_alloc_old _ _ _ (by simp)]
    exact ar_new w _ 0 0 0 0 0 0 (fun _ => 0) rfl rfl rfl rfl rfl rfl k hk
  have z1 : Ar ((w.alloc (.cells #[.int .i64 0, .int .i64 0, .int .i64 0, .int .i64 0, .int .i64 0, .int .i64 0] 32)).alloc (.cells #[.int .i64 0, .int .i64 0, .int .i64 0, .int .i64 0, .int .i64 0, .int .i64 0] 32)) (w.heap.size + 1) (fun k => (cn l ((k + 1 : Nat) : Int) 0 : Nat)) := by
    have := ar_new (w.alloc (.cells #[.int .i64 0, .int .i64 0, .int .i64 0, .int .i64 0, .int .i64 0, .int .i64 0] 32)) 32 0 0 0 0 0 0 (fun k => (cn l ((k + 1 : Nat) : Int) 0 : Nat)) rfl rfl rfl rfl rfl rfl
    rw [World.size_alloc] at this
    exact this
  have b0 : Below w.heap.size w ((w.alloc (.cells #[.int .i64 0, .int .i64 0, .int .i64 0, .int .i64 0, .int .i64 0, .int .i64 0] 32)).alloc (.cells #[.int .i64 0, .int .i64 0, .int .i64 0, .int .i64 0, .int .i64 0, .int .i64 0] 32)) := bel_alloc (bel_alloc (Below.refl _ _) _) _
  generalize (w.alloc (.cells #[.int .i64 0, .int .i64 0, .int .i64 0, .int .i64 0, .int .i64 0, .int .i64 0] 32)).alloc (.cells #[.int .i64 0, .int .i64 0, .int .i64 0, .int .i64 0, .int .i64 0, .int .i64 0] 32) = w3 at *
  go_loopw [9] (fun i wr => ∃ j : Nat, j ≤ m ∧ i = .int .i64 j ∧ okT l j = true ∧ Ar wr w.heap.size (fun _ => 0) ∧ Ar wr (w.heap.size + 1) (fun k => (cn l ((k + 1 : Nat) : Int) j : Nat)) ∧ Below w.heap.size w wr) (fun i _ => (m - intOf i).toNat)
  case atStart => exact ⟨0, Nat.zero_le _, rfl, rfl, z0, z1, b0⟩
  case round =>
    clear z0 z1 b0
    obtain ⟨j, hj, rfl, ho, y0, y1, bel⟩ := hrel
    by_cases hlt : j < m
    · have u0 : decide ((j : Int) < m) = true := decide_eq_true (by omega)
      obtain ⟨x0, x1⟩ := HD.out j (by have := HM.out; omega)
      obtain ⟨b, o, rfl, g0⟩ := (HR.out.below bel) j (by have := HM.out; omega)
      by_cases hin : 1 ≤ l.getD j 0 ∧ l.getD j 0 ≤ 6
      · have HO := Lib.hid (show okT l (j + 1) = true by rw [okT, ho, decide_eq_true hin]; rfl)
        obtain ⟨r, hr⟩ := Int.eq_ofNat_of_zero_le (show 0 ≤ l.getD j 0 - 1 by omega)
        have hx1 : l.getD j 0 = (r : Int) + 1 := by omega
        have hr6 : r < 6 := by omega
        have HC := Lib.hid (show ∀ k, cn l ((k + 1 : Nat) : Int) (j + 1) = cn l ((k + 1 : Nat) : Int) j + if k = r then 1 else 0 from fun k => by
          rw [cn, hx1]
          by_cases e : k = r
          · rw [if_pos e, if_pos (by omega)]
          · rw [if_neg e, if_neg (by omega)])
        have hcl := cn_le l ((r + 1 : Nat) : Int) j
        have c0 : wr.cell? ⟨w.heap.size + 1, r, none⟩ = some (.int .i64 (cn l ((r + 1 : Nat) : Int) j : Nat)) := (y1 r hr6).1
        have f0 := (y1 r hr6).2
        rw [hx1] at g0
        clear hx1 hr hin x0 x1 ho
        have Y0 := Lib.hid y0
        have Y1 := Lib.hid y1
        clear y0 y1
        generalize hq : cn l ((r + 1 : Nat) : Int) j = q at c0 hcl
        have HQ := Lib.hid hq; clear hq
        have r6 : (r : Int) < 6 := by omega
        have v0 : decide ((r : Int) + 1 < 1) = false := decide_eq_false (by omega)
        have v1 : decide (6 < (r : Int) + 1) = false := decide_eq_false (by omega)
        go_wp2
        go_roundw
        case rel =>
          refine ⟨j + 1, by omega, by go_num, HO.out, Y0.out.other (by omega) _, (Y1.out.set hr6 ((q : Int) + 1)).congr fun k hk => ?_, bel.setCell (p := ⟨w.heap.size + 1, r, none⟩) (Nat.le_succ _) _⟩
          rw [HC.out k]
          by_cases e : k = r
          · subst e; rw [if_pos rfl, if_pos rfl, HQ.out]; omega
          · rw [if_neg e, if_neg e]; rfl
        case measure => simp [intOf]; omega
      · have HO := Lib.hid (okT_no (n := l.length) (by have := HM.out; omega) hin)
        have HV := Lib.hid (show tlV l = .tuple #[.agg #[.int .i64 0, .int .i64 0, .int .i64 0, .int .i64 0, .int .i64 0, .int .i64 0], .int .i64 3] by unfold tlV; rw [HO.out]; rfl)
        obtain ⟨c0, c1, c2, c3, c4, c5⟩ := y0.cells
        obtain ⟨f0, f1, f2, f3, f4, f5⟩ := y0.free
        have Y0 := Lib.hid y0
        clear y0 y1 ho
        generalize l.getD j 0 = x at *
        by_cases hx1 : x < 1
        · have v0 : decide (x < 1) = true := decide_eq_true hx1
          go_wp2
          change bodyPost _ _ _ _ _ (put6 wr w.heap.size 0 0 0 0 0 0)
          have P := put6_ar Y0.out 0 0 0 0 0 0 (fun _ => 0) rfl rfl rfl rfl rfl rfl
          have B := put6_bel bel (Nat.le_refl _) 0 0 0 0 0 0
          generalize put6 wr w.heap.size 0 0 0 0 0 0 = w4 at P B ⊢
          obtain ⟨e0, e1, e2, e3, e4, e5⟩ := P.cells
          exact bodyPost_ret (v := .tuple #[.agg #[.int .i64 0, .int .i64 0, .int .i64 0, .int .i64 0, .int .i64 0, .int .i64 0], .int .i64 3]) (by simp [results, Tryd.results18, go_sem, e0, e1, e2, e3, e4, e5]) rfl ⟨by rw [HV.out], B⟩
        · have v0 : decide (6 < x) = true := decide_eq_true (by omega)
          go_wp2
          change bodyPost _ _ _ _ _ (put6 wr w.heap.size 0 0 0 0 0 0)
          have P := put6_ar Y0.out 0 0 0 0 0 0 (fun _ => 0) rfl rfl rfl rfl rfl rfl
          have B := put6_bel bel (Nat.le_refl _) 0 0 0 0 0 0
          generalize put6 wr w.heap.size 0 0 0 0 0 0 = w4 at P B ⊢
          obtain ⟨e0, e1, e2, e3, e4, e5⟩ := P.cells
          exact bodyPost_ret (v := .tuple #[.agg #[.int .i64 0, .int .i64 0, .int .i64 0, .int .i64 0, .int .i64 0, .int .i64 0], .int .i64 3]) (by simp [results, Tryd.results18, go_sem, e0, e1, e2, e3, e4, e5]) rfl ⟨by rw [HV.out], B⟩
    · obtain rfl : j = m := by omega
      have u0 : decide ((j : Int) < j) = false := decide_eq_false (by omega)
      obtain ⟨c0, c1, c2, c3, c4, c5⟩ := y0.cells
      obtain ⟨f0, f1, f2, f3, f4, f5⟩ := y0.free
      have d0 : wr.cell? ⟨w.heap.size + 1, 0, none⟩ = some (.int .i64 (cn l 1 j : Nat)) := (y1 0 (by omega)).1
      have d1 : wr.cell? ⟨w.heap.size + 1, 1, none⟩ = some (.int .i64 (cn l 2 j : Nat)) := (y1 1 (by omega)).1
      have d2 : wr.cell? ⟨w.heap.size + 1, 2, none⟩ = some (.int .i64 (cn l 3 j : Nat)) := (y1 2 (by omega)).1
      have d3 : wr.cell? ⟨w.heap.size + 1, 3, none⟩ = some (.int .i64 (cn l 4 j : Nat)) := (y1 3 (by omega)).1
      have d4 : wr.cell? ⟨w.heap.size + 1, 4, none⟩ = some (.int .i64 (cn l 5 j : Nat)) := (y1 4 (by omega)).1
      have d5 : wr.cell? ⟨w.heap.size + 1, 5, none⟩ = some (.int .i64 (cn l 6 j : Nat)) := (y1 5 (by omega)).1
      have HV := Lib.hid (show tlV l = .tuple #[.agg #[.int .i64 (cn l 1 j : Nat), .int .i64 (cn l 2 j : Nat), .int .i64 (cn l 3 j : Nat), .int .i64 (cn l 4 j : Nat), .int .i64 (cn l 5 j : Nat), .int .i64 (cn l 6 j : Nat)], .int .i64 0] by unfold tlV; rw [HM.out, ho]; rfl)
      have Y0 := Lib.hid y0
      clear y0 y1 ho
      generalize cn l 1 j = q0 at *
      generalize cn l 2 j = q1 at *
      generalize cn l 3 j = q2 at *
      generalize cn l 4 j = q3 at *
      generalize cn l 5 j = q4 at *
      generalize cn l 6 j = q5 at *
      go_wp2
      change bodyPost _ _ _ _ _ (put6 wr w.heap.size q0 q1 q2 q3 q4 q5)
      have P := put6_ar Y0.out q0 q1 q2 q3 q4 q5 (fun k => if k = 0 then q0 else if k = 1 then q1 else if k = 2 then q2 else if k = 3 then q3 else if k = 4 then q4 else q5) rfl rfl rfl rfl rfl rfl
      have B := put6_bel bel (Nat.le_refl _) q0 q1 q2 q3 q4 q5
      generalize put6 wr w.heap.size q0 q1 q2 q3 q4 q5 = w4 at P B ⊢
      obtain ⟨e0, e1, e2, e3, e4, e5⟩ := P.cells
      simp at e0 e1 e2 e3 e4 e5
      exact bodyPost_ret (v := .tuple #[.agg #[.int .i64 q0, .int .i64 q1, .int .i64 q2, .int .i64 q3, .int .i64 q4, .int .i64 q5], .int .i64 0]) (by simp [results, Tryd.results18, go_sem, e0, e1, e2, e3, e4, e5]) rfl ⟨by rw [HV.out], B⟩
set_option maxHeartbeats 1000000 in
theorem tallyR_any (A : Option Addr) (m c : Nat) (l : List Int) (w : World) (hm : l.length = m) (hx : m ≤ maxLen) (hr : RdK .i64 w A l) (hd : BdI l) :
    Calls Tryd.prog 19 #[.slice A m c] w fun e w' => e = .returned (tlV l) ∧ Below w.heap.size w w' := by
  unfold maxLen at hx
  have HR := Lib.hid hr; clear hr
  have HD := Lib.hid hd; clear hd
  have HM := Lib.hid hm; clear hm
  go_enter Tryd.func19, Tryd.ntmps19
  go_wp2
  have z0 : Ar ((w.alloc (.cells #[.int .i64 0, .int .i64 0, .int .i64 0, .int .i64 0, .int .i64 0, .int .i64 0] 32)).alloc (.cells #[.int .i64 0, .int .i64 0, .int .i64 0, .int .i64 0, .int .i64 0, .int .i64 0] 32)) w.heap.size (fun _ => 0) := fun k hk => by
    rw [World.cell?_alloc_lt _ _ _ (by simp), World.frozen?_alloc_old _ _ _ (by simp)]
    exact ar_new w _ 0 0 0 0 0 0 (fun _ => 0) rfl rfl rfl rfl rfl rfl k hk
  have z1 : Ar ((w.alloc (.cells #[.int .i64 0, .int .i64 0, .int .i64 0, .int .i64 0, .int .i64 0, .int .i64 0] 32)).alloc (.cells #[.int .i64 0, .int .i64 0, .int .i64 0, .int .i64 0, .int .i64 0, .int .i64 0] 32)) (w.heap.size + 1) (fun k => (cn l ((k + 1 : Nat) : Int) 0 : Nat)) := by
    have := ar_new (w.alloc (.cells #[.int .i64 0, .int .i64 0, .int .i64 0, .int .i64 0, .int .i64 0, .int .i64 0] 32)) 32 0 0 0 0 0 0 (fun k => (cn l ((k + 1 : Nat) : Int) 0 : Nat)) rfl rfl rfl rfl rfl rfl
    rw [World.size_alloc] at this
    exact this
  have b0 : Below w.heap.size w ((w.alloc (.cells #[.int .i64 0, .int .i64 0, .int .i64 0, .int .i64 0, .int .i64 0, .int .i64 0] 32)).alloc (.cells #[.int .i64 0, .int .i64 0, .int .i64 0, .int .i64 0, .int .i64 0, .int .i64 0] 32)) := bel_alloc (bel_alloc (Below.refl _ _) _) _
  generalize (w.alloc (.cells #[.int .i64 0, .int .i64 0, .int .i64 0, .int .i64 0, .int .i64 0, .int .i64 0] 32)).alloc (.cells #[.int .i64 0, .int .i64 0, .int .i64 0, .int .i64 0, .int .i64 0, .int .i64 0] 32) = w3 at *
  go_loopw [5] (fun i wr => ∃ j : Nat, j ≤ m ∧ i = .int .i64 j ∧ okT l j = true ∧ Ar wr w.heap.size (fun _ => 0) ∧ Ar wr (w.heap.size + 1) (fun k => (cn l ((k + 1 : Nat) : Int) j : Nat)) ∧ Below w.heap.size w wr) (fun i _ => (m - intOf i).toNat)
  case atStart => exact ⟨0, Nat.zero_le _, rfl, rfl, z0, z1, b0⟩
  case round =>
    clear z0 z1 b0
    obtain ⟨j, hj, rfl, ho, y0, y1, bel⟩ := hrel
    by_cases hlt : j < m
    · have u0 : decide ((j : Int) < m) = true := decide_eq_true (by omega)
      obtain ⟨x0, x1⟩ := HD.out j (by have := HM.out; omega)
      obtain ⟨b, o, rfl, g0⟩ := (HR.out.below bel) j (by have := HM.out; omega)
      by_cases hin : 1 ≤ l.getD j 0 ∧ l.getD j 0 ≤ 6
      · have HO := Lib.hid (show okT l (j + 1) = true by rw [okT, ho, decide_eq_true hin]; rfl)
        obtain ⟨r, hr⟩ := Int.eq_ofNat_of_zero_le (show 0 ≤ l.getD j 0 - 1 by omega)
        have hx1 : l.getD j 0 = (r : Int) + 1 := by omega
        have hr6 : r < 6 := by omega
        have HC := Lib.hid (show ∀ k, cn l ((k + 1 : Nat) : Int) (j + 1) = cn l ((k + 1 : Nat) : Int) j + if k = r then 1 else 0 from fun k => by
          rw [cn, hx1]
          by_cases e : k = r
          · rw [if_pos e, if_pos (by omega)]
          · rw [if_neg e, if_neg (by omega)])
        have hcl := cn_le l ((r + 1 : Nat) : Int) j
        have c0 : wr.cell? ⟨w.heap.size + 1, r, none⟩ = some (.int .i64 (cn l ((r + 1 : Nat) : Int) j : Nat)) := (y1 r hr6).1
        have f0 := (y1 r hr6).2
        rw [hx1] at g0
        clear hx1 hr hin x0 x1 ho
        have Y0 := Lib.hid y0
        have Y1 := Lib.hid y1
        clear y0 y1
        generalize hq : cn l ((r + 1 : Nat) : Int) j = q at c0 hcl
        have HQ := Lib.hid hq; clear hq
        have r6 : (r : Int) < 6 := by omega
        have v0 : decide ((r : Int) + 1 < 1) = false := decide_eq_false (by omega)
        have v1 : decide (6 < (r : Int) + 1) = false := decide_eq_false (by omega)
        go_wp2
        go_roundw
        case rel =>
          refine ⟨j + 1, by omega, by go_num, HO.out, Y0.out.other (by omega) _, (Y1.out.set hr6 ((q : Int) + 1)).congr fun k hk => ?_, bel.setCell (p := ⟨w.heap.size + 1, r, none⟩) (Nat.le_succ _) _⟩
          rw [HC.out k]
          by_cases e : k = r
          · subst e; rw [if_pos rfl, if_pos rfl, HQ.out]; omega
          · rw [if_neg e, if_neg e]; rfl
        case measure => simp [intOf]; omega
      · have HO := Lib.hid (okT_no (n := l.length) (by have := HM.out; omega) hin)
        have HV := Lib.hid (show tlV l = .tuple #[.agg #[.int .i64 0, .int .i64 0, .int .i64 0, .int .i64 0, .int .i64 0, .int .i64 0], .int .i64 3] by unfold tlV; rw [HO.out]; rfl)
        obtain ⟨c0, c1, c2, c3, c4, c5⟩ := y0.cells
        obtain ⟨f0, f1, f2, f3, f4, f5⟩ := y0.free
        have Y0 := Lib.hid y0
        clear y0 y1 ho
        generalize l.getD j 0 = x at *
        by_cases hx1 : x < 1
        · have v0 : decide (x < 1) = true := decide_eq_true hx1
          go_wp2
          change bodyPost _ _ _ _ _ (put6 wr w.heap.size 0 0 0 0 0 0)
          have P := put6_ar Y0.out 0 0 0 0 0 0 (fun _ => 0) rfl rfl rfl rfl rfl rfl
          have B := put6_bel bel (Nat.le_refl _) 0 0 0 0 0 0
          generalize put6 wr w.heap.size 0 0 0 0 0 0 = w4 at P B ⊢
          obtain ⟨e0, e1, e2, e3, e4, e5⟩ := P.cells
          exact bodyPost_ret (v := .tuple #[.agg #[.int .i64 0, .int .i64 0, .int .i64 0, .int .i64 0, .int .i64 0, .int .i64 0], .int .i64 3]) (by simp [results, Tryd.results19, go_sem, e0, e1, e2, e3, e4, e5]) rfl ⟨by rw [HV.out], B⟩
        · have v0 : decide (6 < x) = true := decide_eq_true (by omega)
          go_wp2
          change bodyPost _ _ _ _ _ (put6 wr w.heap.size 0 0 0 0 0 0)
          have P := put6_ar Y0.out 0 0 0 0 0 0 (fun _ => 0) rfl rfl rfl rfl rfl rfl
          have B := put6_bel bel (Nat.le_refl _) 0 0 0 0 0 0
          generalize put6 wr w.heap.size 0 0 0 0 0 0 = w4 at P B ⊢
          obtain ⟨e0, e1, e2, e3, e4, e5⟩ := P.cells
          exact bodyPost_ret (v := .tuple #[.agg #[.int .i64 0, .int .i64 0, .int .i64 0, .int .i64 0, .int .i64 0, .int .i64 0], .int .i64 3]) (by simp [results, Tryd.results19, go_sem, e0, e1, e2, e3, e4, e5]) rfl ⟨by rw [HV.out], B⟩
    · obtain rfl : j = m := by omega
      have u0 : decide ((j : Int) < j) = false := decide_eq_false (by omega)
      obtain ⟨c0, c1, c2, c3, c4, c5⟩ := y0.cells
      obtain ⟨f0, f1, f2, f3, f4, f5⟩ := y0.free
      have d0 : wr.cell? ⟨w.heap.size + 1, 0, none⟩ = some (.int .i64 (cn l 1 j : Nat)) := (y1 0 (by omega)).1
      have d1 : wr.cell? ⟨w.heap.size + 1, 1, none⟩ = some (.int .i64 (cn l 2 j : Nat)) := (y1 1 (by omega)).1
      have d2 : wr.cell? ⟨w.heap.size + 1, 2, none⟩ = some (.int .i64 (cn l 3 j : Nat)) := (y1 2 (by omega)).1
      have d3 : wr.cell? ⟨w.heap.size + 1, 3, none⟩ = some (.int .i64 (cn l 4 j : Nat)) := (y1 3 (by omega)).1
      have d4 : wr.cell? ⟨w.heap.size + 1, 4, none⟩ = some (.int .i64 (cn l 5 j : Nat)) := (y1 4 (by omega)).1
      have d5 : wr.cell? ⟨w.heap.size + 1, 5, none⟩ = some (.int .i64 (cn l 6 j : Nat)) := (y1 5 (by omega)).1
      have HV := Lib.hid (show tlV l = .tuple #[.agg #[.int .i64 (cn l 1 j : Nat), .int .i64 (cn l 2 j : Nat), .int .i64 (cn l 3 j : Nat), .int .i64 (cn l 4 j : Nat), .int .i64 (cn l 5 j : Nat), .int .i64 (cn l 6 j : Nat)], .int .i64 0] by unfold tlV; rw [HM.out, ho]; rfl)
      have Y0 := Lib.hid y0
      clear y0 y1 ho
      generalize cn l 1 j = q0 at *
      generalize cn l 2 j = q1 at *
      generalize cn l 3 j = q2 at *
      generalize cn l 4 j = q3 at *
      generalize cn l 5 j = q4 at *
      generalize cn l 6 j = q5 at *
      go_wp2
      change bodyPost _ _ _ _ _ (put6 wr w.heap.size q0 q1 q2 q3 q4 q5)
      have P := put6_ar Y0.out q0 q1 q2 q3 q4 q5 (fun k => if k = 0 then q0 else if k = 1 then q1 else if k = 2 then q2 else if k = 3 then q3 else if k = 4 then q4 else q5) rfl rfl rfl rfl rfl rfl
      have B := put6_bel bel (Nat.le_refl _) q0 q1 q2 q3 q4 q5
      generalize put6 wr w.heap.size q0 q1 q2 q3 q4 q5 = w4 at P B ⊢
      obtain ⟨e0, e1, e2, e3, e4, e5⟩ := P.cells
      simp at e0 e1 e2 e3 e4 e5
      exact bodyPost_ret (v := .tuple #[.agg #[.int .i64 q0, .int .i64 q1, .int .i64 q2, .int .i64 q3, .int .i64 q4, .int .i64 q5], .int .i64 0]) (by simp [results, Tryd.results19, go_sem, e0, e1, e2, e3, e4, e5]) rfl ⟨by rw [HV.out], B⟩
theorem tlV_one (x : Int) (q1 q2 q3 q4 q5 q6 : Nat) (hx : 1 ≤ x ∧ x ≤ 6) (h1 : cn [x] 1 1 = q1) (h2 : cn [x] 2 1 = q2) (h3 : cn [x] 3 1 = q3) (h4 : cn [x] 4 1 = q4) (h5 : cn [x] 5 1 = q5) (h6 : cn [x] 6 1 = q6) : tlV [x] = .tuple #[.agg #[.int .i64 q1, .int .i64 q2, .int .i64 q3, .int .i64 q4, .int .i64 q5, .int .i64 q6], .int .i64 0] := by
  have e : okT [x] [x].length = true := by simp [okT, hx]
  subst h1 h2 h3 h4 h5 h6
  unfold tlV
  rw [if_pos e]; rfl
theorem known_any (w : World) (hT : Tz w) : Calls Tryd.prog 17 #[] w fun e w' => e = .returned (.bool true) ∧ Below w.heap.size w w' := by
  have HT := Lib.hid hT; clear hT
  have HV := Lib.hid (tlV_one 2 0 1 0 0 0 0 (by omega) rfl rfl rfl rfl rfl rfl)
  have H1 : ((hgt 3 : Nat) : Int) = 3 := by decide +kernel
  have H2 : ((mixN 0 (ix 0) : Nat) : Int) = 16294208416658607535 := by decide +kernel
  have CH : ∀ W, Tz W → Hid (Calls Tryd.prog 10 #[.int .u64 3] W fun e w' => e = .returned (.int .i64 3) ∧ W = w') := fun W h => Lib.hid (by rw [← H1]; exact height_any 3 (by decide) W h)
  have CM : ∀ W, Hid (Calls Tryd.prog 12 #[.int .u64 0, .int .i64 0] W fun e w' => e = .returned (.int .u64 16294208416658607535) ∧ W = w') := fun W => Lib.hid (by rw [← H2]; exact mix_any 0 0 (by decide) (by omega) (by omega) W)
  clear H1 H2
  have b0 : Below w.heap.size w (w.alloc (.cells #[.int .i64 2] 3)) := bel_alloc (Below.refl _ _) _
  have CT := Lib.hid (tally_any (some ⟨w.heap.size, 0, none⟩) 1 1 [2] (w.alloc (.cells #[.int .i64 2] 3)) rfl (by unfold maxLen; omega) (fun k hk => ⟨w.heap.size, 0, rfl, by
    obtain rfl : k = 0 := by simpa using hk
    simp⟩) (fun k hk => by
    obtain rfl : k = 0 := by simpa using hk
    simp))
  go_enter Tryd.func17, Tryd.ntmps17
  go_wp2_with fail
  refine CT.out.mono ?_
  rw [HV.out]
  rintro r w1 ⟨rfl, b1⟩
  have bw := bel_trans b0 b1
  have b2 := bel_alloc bw (.cells #[.int .i64 0, .int .i64 1, .int .i64 0, .int .i64 0, .int .i64 0, .int .i64 0] 32)
  go_wp2_with fail
  refine (CH _ (HT.out.below b2)).out.mono ?_
  rintro r w2 ⟨rfl, rfl⟩
  go_wp2_with fail
  refine (CM _).out.mono ?_
  rintro r w2 ⟨rfl, rfl⟩
  go_wp2
  go_ret
  exact ⟨rfl, b2⟩
end Dr
end Go.Proofs.YtfogcapgadfbfaaDoor
