/- The pools and operations of leapfrogref14 in memory; Next, Result, Gen, Take: contracts of the translated code. Conditions: the bounds of each number's kind. (Made ahead in round 13; written by tools/mk14r.py.) -/
import Derived.Test.YtdkkpaofodicjaaGreatPoU
import Derived.Test.YtdkkpaofodicjaaGreatWdF
import Derived.Test.YtdkkpaofodicjaaGreatField
import Derived.Deep.RegionHeld3
namespace Go.Proofs.YtdkkpaofodicjaaGreat
open Go.RowKit Go.Sort
set_option linter.unusedVariables false
set_option linter.unusedSimpArgs false
set_option maxRecDepth 100000
namespace Po
open Wd
/-- an operation of the reference at y, on the pool at x -/
structure OR (w : World) (y x : Nat) (r : Op) : Prop where
  c0 : w.cell? ⟨y, 0, none⟩ = some (.pointer (some ⟨x, 0, none⟩))
  c1 : w.cell? ⟨y, 1, none⟩ = some (.int .i64 ((r.th : Nat) : Int))
  c2 : w.cell? ⟨y, 2, none⟩ = some (.int .i64 ((r.h + 1 : Nat) : Int))
  c3 : w.cell? ⟨y, 3, none⟩ = some (.int .i64 ((r.tw : Nat) : Int))
  c4 : w.cell? ⟨y, 4, none⟩ = some (.int .i64 ((r.tr : Nat) : Int))
  c5 : w.cell? ⟨y, 5, none⟩ = some (.int .u8 ((r.pc : Nat) : Int))
  c6 : w.cell? ⟨y, 6, none⟩ = some (.int .u64 r.hd)
  c7 : w.cell? ⟨y, 7, none⟩ = some (.int .u64 r.lk)
  c8 : w.cell? ⟨y, 8, none⟩ = some (.int .i64 r.got)
  c9 : w.cell? ⟨y, 9, none⟩ = some (.int .i64 ((r.fl : Nat) : Int))
  c10 : w.cell? ⟨y, 10, none⟩ = some (.int .i64 r.e)
  fz : ∀ j, j < 11 → w.frozen? ⟨y, j, none⟩ = false
theorem OR.lt {w : World} {y x : Nat} {r : Op} (h : OR w y x r) : y < w.heap.size := World.block_lt_of_cell? w ⟨y, 0, none⟩ h.c0
theorem OR.keep {w w' : World} {y x : Nat} {r : Op} (h : OR w y x r) (hb : w'.heap[y]? = w.heap[y]?) : OR w' y x r := by
  have k : ∀ j, w'.cell? ⟨y, j, none⟩ = w.cell? ⟨y, j, none⟩ := fun j => World.cell?_of_block (a := ⟨y, j, none⟩) hb
  exact ⟨(k _).trans h.c0, (k _).trans h.c1, (k _).trans h.c2, (k _).trans h.c3, (k _).trans h.c4, (k _).trans h.c5, (k _).trans h.c6, (k _).trans h.c7, (k _).trans h.c8, (k _).trans h.c9, (k _).trans h.c10, fun j hj => (World.frozen?_of_block (a := ⟨y, j, none⟩) hb).trans (h.fz j hj)⟩
theorem OR.set5 {w : World} {y x : Nat} {r : Op} (h : OR w y x r) (v : Nat) : OR (w.setCell ⟨y, 5, none⟩ (.int .u8 ((v : Nat) : Int))) y x ⟨r.th, r.h, r.tw, r.tr, v, r.hd, r.lk, r.got, r.fl, r.e⟩ :=
  ⟨(oth (by omega)).trans h.c0, (oth (by omega)).trans h.c1, (oth (by omega)).trans h.c2, (oth (by omega)).trans h.c3, (oth (by omega)).trans h.c4, World.cell?_setCell_same _ _ _ h.c5, (oth (by omega)).trans h.c6, (oth (by omega)).trans h.c7, (oth (by omega)).trans h.c8, (oth (by omega)).trans h.c9, (oth (by omega)).trans h.c10, fun j hj => frz (h.fz j hj)⟩
theorem OR.set6 {w : World} {y x : Nat} {r : Op} (h : OR w y x r) (v : Int) : OR (w.setCell ⟨y, 6, none⟩ (.int .u64 v)) y x ⟨r.th, r.h, r.tw, r.tr, r.pc, v, r.lk, r.got, r.fl, r.e⟩ :=
  ⟨(oth (by omega)).trans h.c0, (oth (by omega)).trans h.c1, (oth (by omega)).trans h.c2, (oth (by omega)).trans h.c3, (oth (by omega)).trans h.c4, (oth (by omega)).trans h.c5, World.cell?_setCell_same _ _ _ h.c6, (oth (by omega)).trans h.c7, (oth (by omega)).trans h.c8, (oth (by omega)).trans h.c9, (oth (by omega)).trans h.c10, fun j hj => frz (h.fz j hj)⟩
theorem OR.set7 {w : World} {y x : Nat} {r : Op} (h : OR w y x r) (v : Int) : OR (w.setCell ⟨y, 7, none⟩ (.int .u64 v)) y x ⟨r.th, r.h, r.tw, r.tr, r.pc, r.hd, v, r.got, r.fl, r.e⟩ :=
  ⟨(oth (by omega)).trans h.c0, (oth (by omega)).trans h.c1, (oth (by omega)).trans h.c2, (oth (by omega)).trans h.c3, (oth (by omega)).trans h.c4, (oth (by omega)).trans h.c5, (oth (by omega)).trans h.c6, World.cell?_setCell_same _ _ _ h.c7, (oth (by omega)).trans h.c8, (oth (by omega)).trans h.c9, (oth (by omega)).trans h.c10, fun j hj => frz (h.fz j hj)⟩
theorem OR.set8 {w : World} {y x : Nat} {r : Op} (h : OR w y x r) (v : Int) : OR (w.setCell ⟨y, 8, none⟩ (.int .i64 v)) y x ⟨r.th, r.h, r.tw, r.tr, r.pc, r.hd, r.lk, v, r.fl, r.e⟩ :=
  ⟨(oth (by omega)).trans h.c0, (oth (by omega)).trans h.c1, (oth (by omega)).trans h.c2, (oth (by omega)).trans h.c3, (oth (by omega)).trans h.c4, (oth (by omega)).trans h.c5, (oth (by omega)).trans h.c6, (oth (by omega)).trans h.c7, World.cell?_setCell_same _ _ _ h.c8, (oth (by omega)).trans h.c9, (oth (by omega)).trans h.c10, fun j hj => frz (h.fz j hj)⟩
theorem OR.set9 {w : World} {y x : Nat} {r : Op} (h : OR w y x r) (v : Nat) : OR (w.setCell ⟨y, 9, none⟩ (.int .i64 ((v : Nat) : Int))) y x ⟨r.th, r.h, r.tw, r.tr, r.pc, r.hd, r.lk, r.got, v, r.e⟩ :=
  ⟨(oth (by omega)).trans h.c0, (oth (by omega)).trans h.c1, (oth (by omega)).trans h.c2, (oth (by omega)).trans h.c3, (oth (by omega)).trans h.c4, (oth (by omega)).trans h.c5, (oth (by omega)).trans h.c6, (oth (by omega)).trans h.c7, (oth (by omega)).trans h.c8, World.cell?_setCell_same _ _ _ h.c9, (oth (by omega)).trans h.c10, fun j hj => frz (h.fz j hj)⟩
theorem OR.set10 {w : World} {y x : Nat} {r : Op} (h : OR w y x r) (v : Int) : OR (w.setCell ⟨y, 10, none⟩ (.int .i64 v)) y x ⟨r.th, r.h, r.tw, r.tr, r.pc, r.hd, r.lk, r.got, r.fl, v⟩ :=
  ⟨(oth (by omega)).trans h.c0, (oth (by omega)).trans h.c1, (oth (by omega)).trans h.c2, (oth (by omega)).trans h.c3, (oth (by omega)).trans h.c4, (oth (by omega)).trans h.c5, (oth (by omega)).trans h.c6, (oth (by omega)).trans h.c7, (oth (by omega)).trans h.c8, (oth (by omega)).trans h.c9, World.cell?_setCell_same _ _ _ h.c10, fun j hj => frz (h.fz j hj)⟩
/-- the pools of the reference at x: the memory at bm, the layout at bl, three rows of n + 1 -/
structure PR (w : World) (x bm bl ta ga na n : Nat) (S : Pm) : Prop where
  c0 : w.cell? ⟨x, 0, none⟩ = some (.pointer (some ⟨bm, 0, none⟩))
  c1 : w.cell? ⟨x, 1, none⟩ = some (.pointer (some ⟨bl, 0, none⟩))
  c2 : w.cell? ⟨x, 2, none⟩ = some (.slice (some ⟨ta, 0, none⟩) (n + 1) (n + 1))
  c3 : w.cell? ⟨x, 3, none⟩ = some (.slice (some ⟨ga, 0, none⟩) (n + 1) (n + 1))
  c4 : w.cell? ⟨x, 4, none⟩ = some (.slice (some ⟨na, 0, none⟩) (n + 1) (n + 1))
  t : ∀ t, t ≤ n → w.cell? ⟨ta, t, none⟩ = some (.bool (S.tk t)) ∧ w.frozen? ⟨ta, t, none⟩ = false
  g : ∀ t, t ≤ n → w.cell? ⟨ga, t, none⟩ = some (.bool (S.gv t)) ∧ w.frozen? ⟨ga, t, none⟩ = false
  q : ∀ t, t ≤ n → w.cell? ⟨na, t, none⟩ = some (.int .i64 ((S.gn t : Nat) : Int)) ∧ w.frozen? ⟨na, t, none⟩ = false
  d1 : ta ≠ ga
  d2 : ta ≠ na
  d3 : ga ≠ na
  d4 : x ≠ ta
  d5 : x ≠ ga
  d6 : x ≠ na
theorem PR.lt {w : World} {x bm bl ta ga na n : Nat} {S : Pm} (h : PR w x bm bl ta ga na n S) : x < w.heap.size ∧ ta < w.heap.size ∧ ga < w.heap.size ∧ na < w.heap.size :=
  ⟨World.block_lt_of_cell? w ⟨x, 0, none⟩ h.c0, World.block_lt_of_cell? w ⟨ta, 0, none⟩ (h.t 0 (Nat.zero_le _)).1, World.block_lt_of_cell? w ⟨ga, 0, none⟩ (h.g 0 (Nat.zero_le _)).1, World.block_lt_of_cell? w ⟨na, 0, none⟩ (h.q 0 (Nat.zero_le _)).1⟩
theorem PR.keep {w w' : World} {x bm bl ta ga na n : Nat} {S : Pm} (h : PR w x bm bl ta ga na n S) (hb : ∀ i, i = x ∨ i = ta ∨ i = ga ∨ i = na → w'.heap[i]? = w.heap[i]?) {M : Wm} : PR w' x bm bl ta ga na n ⟨M, S.tk, S.gv, S.gn⟩ := by
  have k : ∀ i j, i = x ∨ i = ta ∨ i = ga ∨ i = na → w'.cell? ⟨i, j, none⟩ = w.cell? ⟨i, j, none⟩ := fun i j hi => World.cell?_of_block (a := ⟨i, j, none⟩) (hb i hi)
  have f : ∀ i j, i = x ∨ i = ta ∨ i = ga ∨ i = na → w'.frozen? ⟨i, j, none⟩ = w.frozen? ⟨i, j, none⟩ := fun i j hi => World.frozen?_of_block (a := ⟨i, j, none⟩) (hb i hi)
  exact ⟨(k x _ (.inl rfl)).trans h.c0, (k x _ (.inl rfl)).trans h.c1, (k x _ (.inl rfl)).trans h.c2, (k x _ (.inl rfl)).trans h.c3, (k x _ (.inl rfl)).trans h.c4,
    fun t ht => ⟨(k ta _ (.inr (.inl rfl))).trans (h.t t ht).1, (f ta _ (.inr (.inl rfl))).trans (h.t t ht).2⟩,
    fun t ht => ⟨(k ga _ (.inr (.inr (.inl rfl)))).trans (h.g t ht).1, (f ga _ (.inr (.inr (.inl rfl)))).trans (h.g t ht).2⟩,
    fun t ht => ⟨(k na _ (.inr (.inr (.inr rfl)))).trans (h.q t ht).1, (f na _ (.inr (.inr (.inr rfl)))).trans (h.q t ht).2⟩, h.d1, h.d2, h.d3, h.d4, h.d5, h.d6⟩
theorem PR.set_tk {w : World} {x bm bl ta ga na n : Nat} {S : Pm} (h : PR w x bm bl ta ga na n S) {t : Nat} (ht : t ≤ n) (v : Bool) : PR (w.setCell ⟨ta, t, none⟩ (.bool v)) x bm bl ta ga na n ⟨S.M, set S.tk t v, S.gv, S.gn⟩ :=
  ⟨(blkc h.d4).trans h.c0, (blkc h.d4).trans h.c1, (blkc h.d4).trans h.c2, (blkc h.d4).trans h.c3, (blkc h.d4).trans h.c4,
    fun k hk => ⟨by
      by_cases e : k = t
      · subst e; simp only [set_same]; exact World.cell?_setCell_same _ _ _ (h.t k hk).1
      · simp only [set_other e]; exact (oth (fun q => e q.symm)).trans (h.t k hk).1, frz (h.t k hk).2⟩,
    fun k hk => ⟨(blkc (h.d1.symm)).trans (h.g k hk).1, frz (h.g k hk).2⟩,
    fun k hk => ⟨(blkc (h.d2.symm)).trans (h.q k hk).1, frz (h.q k hk).2⟩, h.d1, h.d2, h.d3, h.d4, h.d5, h.d6⟩
theorem PR.set_gv {w : World} {x bm bl ta ga na n : Nat} {S : Pm} (h : PR w x bm bl ta ga na n S) {t : Nat} (ht : t ≤ n) (v : Bool) : PR (w.setCell ⟨ga, t, none⟩ (.bool v)) x bm bl ta ga na n ⟨S.M, S.tk, set S.gv t v, S.gn⟩ :=
  ⟨(blkc h.d5).trans h.c0, (blkc h.d5).trans h.c1, (blkc h.d5).trans h.c2, (blkc h.d5).trans h.c3, (blkc h.d5).trans h.c4,
    fun k hk => ⟨(blkc (h.d1)).trans (h.t k hk).1, frz (h.t k hk).2⟩,
    fun k hk => ⟨by
      by_cases e : k = t
      · subst e; simp only [set_same]; exact World.cell?_setCell_same _ _ _ (h.g k hk).1
      · simp only [set_other e]; exact (oth (fun q => e q.symm)).trans (h.g k hk).1, frz (h.g k hk).2⟩,
    fun k hk => ⟨(blkc (h.d3.symm)).trans (h.q k hk).1, frz (h.q k hk).2⟩, h.d1, h.d2, h.d3, h.d4, h.d5, h.d6⟩
theorem PR.set_gn {w : World} {x bm bl ta ga na n : Nat} {S : Pm} (h : PR w x bm bl ta ga na n S) {t : Nat} (ht : t ≤ n) (v : Nat) : PR (w.setCell ⟨na, t, none⟩ (.int .i64 ((v : Nat) : Int))) x bm bl ta ga na n ⟨S.M, S.tk, S.gv, set S.gn t v⟩ :=
  ⟨(blkc h.d6).trans h.c0, (blkc h.d6).trans h.c1, (blkc h.d6).trans h.c2, (blkc h.d6).trans h.c3, (blkc h.d6).trans h.c4,
    fun k hk => ⟨(blkc (h.d2)).trans (h.t k hk).1, frz (h.t k hk).2⟩,
    fun k hk => ⟨(blkc (h.d3)).trans (h.g k hk).1, frz (h.g k hk).2⟩,
    fun k hk => ⟨by
      by_cases e : k = t
      · subst e; simp only [set_same]; exact World.cell?_setCell_same _ _ _ (h.q k hk).1
      · simp only [set_other e]; exact (oth (fun q => e q.symm)).trans (h.q k hk).1, frz (h.q k hk).2⟩, h.d1, h.d2, h.d3, h.d4, h.d5, h.d6⟩
/-! ### Next, Result, Gen -/
theorem nextR_any {w : World} {y x : Nat} {r : Op} (h : OR w y x r) : Calls Tryz.prog 55 #[.pointer (some ⟨y, 0, none⟩)] w fun e w' => e = .returned (.int .u8 ((r.pc : Nat) : Int)) ∧ w' = w := by
  have c5 := h.c5
  clear h
  generalize ((r.pc : Nat) : Int) = pc at *
  go_enter Tryz.func55, Tryz.ntmps55
  go_wp2
  go_ret
  exact ⟨rfl, rfl⟩
theorem resR_run {w : World} {y x : Nat} {r : Op} (h : OR w y x r) (hp : r.pc ≠ 0) : Calls Tryz.prog 60 #[.pointer (some ⟨y, 0, none⟩)] w fun e w' => e = .returned (.tuple #[.int .i64 0, .int .i64 0, .int .i64 8]) ∧ w' = w := by
  have c5 := h.c5
  have hz : ((r.pc : Nat) : Int) ≠ 0 := by omega
  clear h
  generalize ((r.pc : Nat) : Int) = pc at *
  have t0 : (pc != 0) = true := by simp [hz]
  have t1 : (pc == 0) = false := by simp [hz]
  have t2 : decide (pc = 0) = false := decide_eq_false hz
  clear hz hp
  go_enter Tryz.func60, Tryz.ntmps60
  go_wp2
  go_ret3
  exact ⟨rfl, rfl⟩
theorem resR_end {w : World} {y x : Nat} {r : Op} (h : OR w y x r) (hp : r.pc = 0) : Calls Tryz.prog 60 #[.pointer (some ⟨y, 0, none⟩)] w fun e w' => e = .returned (.tuple #[.int .i64 r.got, .int .i64 ((r.fl : Nat) : Int), .int .i64 r.e]) ∧ Below w.heap.size w w' := by
  have c5 := h.c5
  have c8 := h.c8
  have c9 := h.c9
  have c10 := h.c10
  rw [hp] at c5
  clear h hp
  generalize ((r.fl : Nat) : Int) = fl at *
  go_enter Tryz.func60, Tryz.ntmps60
  go_wp2_with fail
  go_region
  all_goals
    go_wp2
    go_ret3
    exact ⟨rfl, bel_drew (Below.refl _ _)⟩
/-! ### Take -/
def TkP (x : Nat) (t h m : Int) (w : World) (e : Ending) (w' : World) : Prop :=
  (tkE t h m ≠ 0 ∧ e = .returned (.tuple #[.pointer none, .int .i64 (tkE t h m)]) ∧ w' = w) ∨
  (tkE t h m = 0 ∧ ∃ a b d : Nat, t = (a : Int) ∧ h = ((b + 1 : Nat) : Int) ∧ m = (d : Int) ∧ a < 64 ∧ b < 6 ∧ d ≤ 255 ∧ e = .returned (.tuple #[.pointer (some ⟨w.heap.size, 0, none⟩), .int .i64 0]) ∧ OR w' w.heap.size x ⟨a, b, 0, d, 4, 0, 0, 0, 0, 0⟩ ∧ Below w.heap.size w w')
set_option maxHeartbeats 1000000 in
theorem takeR_any (x : Nat) (t h m : Int) (w : World) : Calls Tryz.prog 15 #[.pointer (some ⟨x, 0, none⟩), .int .i64 t, .int .i64 h, .int .i64 m] w (TkP x t h m w) := by
  unfold TkP
  have CT := thread_any t w
  by_cases h1 : 0 ≤ t ∧ t < 64
  · rw [decide_eq_true h1] at CT
    replace CT := Lib.hid CT
    by_cases h3 : m < 0
    · have e : tkE t h m = 2 := if_neg (fun e => by omega)
      rw [e]
      have t3 : decide (m < 0) = true := decide_eq_true h3
      clear h1 h3 e
      go_enter Tryz.func15, Tryz.ntmps15
      go_wp2_with fail
      refine CT.out.mono ?_
      rintro r w1 ⟨rfl, rfl⟩
      go_wp2
      go_ret2
      exact .inl ⟨by decide, rfl, rfl⟩
    have t3 : decide (m < 0) = false := decide_eq_false h3
    by_cases h4 : 255 < m
    · have e : tkE t h m = 2 := if_neg (fun e => by omega)
      rw [e]
      have t4 : decide (255 < m) = true := decide_eq_true h4
      clear h1 h3 h4 e
      go_enter Tryz.func15, Tryz.ntmps15
      go_wp2_with fail
      refine CT.out.mono ?_
      rintro r w1 ⟨rfl, rfl⟩
      go_wp2
      go_ret2
      exact .inl ⟨by decide, rfl, rfl⟩
    have t4 : decide (255 < m) = false := decide_eq_false h4
    by_cases h5 : h < 1
    · have e : tkE t h m = 3 := by unfold tkE; rw [if_pos (by omega), if_neg (by omega)]
      rw [e]
      have t5 : decide (h < 1) = true := decide_eq_true h5
      clear h1 h3 h4 h5 e
      go_enter Tryz.func15, Tryz.ntmps15
      go_wp2_with fail
      refine CT.out.mono ?_
      rintro r w1 ⟨rfl, rfl⟩
      go_wp2
      go_ret2
      exact .inl ⟨by decide, rfl, rfl⟩
    have t5 : decide (h < 1) = false := decide_eq_false h5
    by_cases h6 : 6 < h
    · have e : tkE t h m = 3 := by unfold tkE; rw [if_pos (by omega), if_neg (by omega)]
      rw [e]
      have t6 : decide (6 < h) = true := decide_eq_true h6
      clear h1 h3 h4 h5 h6 e
      go_enter Tryz.func15, Tryz.ntmps15
      go_wp2_with fail
      refine CT.out.mono ?_
      rintro r w1 ⟨rfl, rfl⟩
      go_wp2
      go_ret2
      exact .inl ⟨by decide, rfl, rfl⟩
    have t6 : decide (6 < h) = false := decide_eq_false h6
    have e : tkE t h m = 0 := by unfold tkE; rw [if_pos (by omega), if_pos (by omega)]
    rw [e]
    have HX := Lib.hid (show ∃ a b d : Nat, t = (a : Int) ∧ h = ((b + 1 : Nat) : Int) ∧ m = (d : Int) ∧ a < 64 ∧ b < 6 ∧ d ≤ 255 from ⟨t.toNat, (h - 1).toNat, m.toNat, by omega, by omega, by omega, by omega, by omega, by omega⟩)
    clear h1 h3 h4 h5 h6 e
    go_enter Tryz.func15, Tryz.ntmps15
    go_wp2_with fail
    refine CT.out.mono ?_
    rintro r w1 ⟨rfl, rfl⟩
    go_wp2
    go_ret2
    obtain ⟨a, b, d, ha, hb, hd, h7, h8, h9⟩ := HX.out
    refine .inr ⟨trivial, a, b, d, ha, hb, hd, h7, h8, h9, rfl, ?_, bel_new (Below.refl _ _) _⟩
    subst ha hb hd
    exact ⟨by simp, by simp, by simp, by simp, by simp, by simp, by simp, by simp, by simp, by simp, by simp, fun j hj => by simp⟩
  · have e : tkE t h m = 2 := if_neg (fun e => h1 e.1)
    rw [e]
    rw [decide_eq_false h1] at CT
    replace CT := Lib.hid CT
    clear h1 e
    go_enter Tryz.func15, Tryz.ntmps15
    go_wp2_with fail
    refine CT.out.mono ?_
    rintro r w1 ⟨rfl, rfl⟩
    go_wp2
    go_ret2
    exact .inl ⟨by decide, rfl, rfl⟩
end Po
end Go.Proofs.YtdkkpaofodicjaaGreat
