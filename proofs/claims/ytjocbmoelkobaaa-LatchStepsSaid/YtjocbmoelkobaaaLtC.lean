/- An operation that locks in memory, of package latch and of the reference; mark, under, end, fail, check, Next, Result of package latch: contracts of the translated code. Conditions: the bounds of each number's kind. -/
import Derived.Test.YtjocbmoelkobaaaLtM
namespace Go.Proofs.Ytjocbmoelkobaaa
open Go.RowKit Go.Sort
set_option linter.unusedVariables false
set_option linter.unusedSimpArgs false
namespace Lt
open Wd
open Dm (addr_lit info_parts spot_none RdK flatU infoU bel_alloc bel_trans own_keep below_drewN)
/-- what the next step does: the method value, or nil -/
def stV (x : Nat) (ov : Bool) : Value := if ov = true then .nilFunc else .func (.func 27) #[.pointer (some ⟨x, 0, none⟩)] #[]
/-- at x lies the operation L of package latch on the memory at b -/
structure LAt (w : World) (x b : Nat) (L : Lk) : Prop where
  c0 : w.cell? ⟨x, 0, none⟩ = some (.int .i64 L.n)
  c1 : w.cell? ⟨x, 1, none⟩ = some (.int .i64 L.m)
  c2 : w.cell? ⟨x, 2, none⟩ = some (.pointer (some ⟨b, 0, none⟩))
  c3 : w.cell? ⟨x, 3, none⟩ = some (.int .i64 L.t)
  c4 : w.cell? ⟨x, 4, none⟩ = some (.int .i64 L.a)
  c5 : w.cell? ⟨x, 5, none⟩ = some (stV x L.ov)
  c6 : w.cell? ⟨x, 6, none⟩ = some (.int .i64 L.e)
  f0 : w.frozen? ⟨x, 0, none⟩ = false
  f5 : w.frozen? ⟨x, 5, none⟩ = false
  f6 : w.frozen? ⟨x, 6, none⟩ = false
/-- at x lies the operation L of the reference on the memory at b -/
structure RAt (w : World) (x b : Nat) (L : Lk) : Prop where
  c0 : w.cell? ⟨x, 0, none⟩ = some (.pointer (some ⟨b, 0, none⟩))
  c1 : w.cell? ⟨x, 1, none⟩ = some (.int .i64 L.t)
  c2 : w.cell? ⟨x, 2, none⟩ = some (.int .i64 L.a)
  c3 : w.cell? ⟨x, 3, none⟩ = some (.int .i64 L.m)
  c4 : w.cell? ⟨x, 4, none⟩ = some (.int .i64 L.n)
  c5 : w.cell? ⟨x, 5, none⟩ = some (.bool L.ov)
  c6 : w.cell? ⟨x, 6, none⟩ = some (.int .i64 L.e)
  f4 : w.frozen? ⟨x, 4, none⟩ = false
  f5 : w.frozen? ⟨x, 5, none⟩ = false
  f6 : w.frozen? ⟨x, 6, none⟩ = false
theorem LAt.lt {w : World} {x b : Nat} {L : Lk} (h : LAt w x b L) : x < w.heap.size := World.block_lt_of_cell? w ⟨x, 0, none⟩ h.c0
theorem RAt.lt {w : World} {x b : Nat} {L : Lk} (h : RAt w x b L) : x < w.heap.size := World.block_lt_of_cell? w ⟨x, 0, none⟩ h.c0
theorem LAt.keep {w w' : World} {x b : Nat} {L : Lk} (h : LAt w x b L) (hb : w'.heap[x]? = w.heap[x]?) : LAt w' x b L := by
  have k : ∀ j, w'.cell? ⟨x, j, none⟩ = w.cell? ⟨x, j, none⟩ := fun j => World.cell?_of_block (a := ⟨x, j, none⟩) hb
  have f : ∀ j, w'.frozen? ⟨x, j, none⟩ = w.frozen? ⟨x, j, none⟩ := fun j => World.frozen?_of_block (a := ⟨x, j, none⟩) hb
  exact ⟨(k _).trans h.c0, (k _).trans h.c1, (k _).trans h.c2, (k _).trans h.c3, (k _).trans h.c4, (k _).trans h.c5, (k _).trans h.c6, (f _).trans h.f0, (f _).trans h.f5, (f _).trans h.f6⟩
theorem RAt.keep {w w' : World} {x b : Nat} {L : Lk} (h : RAt w x b L) (hb : w'.heap[x]? = w.heap[x]?) : RAt w' x b L := by
  have k : ∀ j, w'.cell? ⟨x, j, none⟩ = w.cell? ⟨x, j, none⟩ := fun j => World.cell?_of_block (a := ⟨x, j, none⟩) hb
  have f : ∀ j, w'.frozen? ⟨x, j, none⟩ = w.frozen? ⟨x, j, none⟩ := fun j => World.frozen?_of_block (a := ⟨x, j, none⟩) hb
  exact ⟨(k _).trans h.c0, (k _).trans h.c1, (k _).trans h.c2, (k _).trans h.c3, (k _).trans h.c4, (k _).trans h.c5, (k _).trans h.c6, (f _).trans h.f4, (f _).trans h.f5, (f _).trans h.f6⟩
theorem LAt.below {w w' : World} {x b : Nat} {L : Lk} (h : LAt w x b L) (hb : Below w.heap.size w w') : LAt w' x b L := h.keep (hb.block x h.lt)
theorem RAt.below {w w' : World} {x b : Nat} {L : Lk} (h : RAt w x b L) (hb : Below w.heap.size w w') : RAt w' x b L := h.keep (hb.block x h.lt)
theorem oth {w : World} {x i j : Nat} {v : Value} (h : i ≠ j) : (w.setCell ⟨x, i, none⟩ v).cell? ⟨x, j, none⟩ = w.cell? ⟨x, j, none⟩ := World.cell?_setCell_other _ _ _ _ (by first | (simp; omega) | simp [h] | simp [Ne.symm h])
theorem frz {w : World} {a b : Addr} {v : Value} {r : Bool} (h : w.frozen? b = r) : (w.setCell a v).frozen? b = r := by rw [World.frozen?_setCell]; exact h
theorem LAt.setN {w : World} {x b : Nat} {L : Lk} (h : LAt w x b L) (n : Int) : LAt (w.setCell ⟨x, 0, none⟩ (.int .i64 n)) x b ⟨L.t, L.a, L.m, n, L.ov, L.e⟩ :=
  ⟨World.cell?_setCell_same _ _ _ h.c0, (oth (by omega)).trans h.c1, (oth (by omega)).trans h.c2, (oth (by omega)).trans h.c3, (oth (by omega)).trans h.c4, (oth (by omega)).trans h.c5, (oth (by omega)).trans h.c6, frz h.f0, frz h.f5, frz h.f6⟩
theorem LAt.setS {w : World} {x b : Nat} {L : Lk} (h : LAt w x b L) (ov : Bool) : LAt (w.setCell ⟨x, 5, none⟩ (stV x ov)) x b ⟨L.t, L.a, L.m, L.n, ov, L.e⟩ :=
  ⟨(oth (by omega)).trans h.c0, (oth (by omega)).trans h.c1, (oth (by omega)).trans h.c2, (oth (by omega)).trans h.c3, (oth (by omega)).trans h.c4, World.cell?_setCell_same _ _ _ h.c5, (oth (by omega)).trans h.c6, frz h.f0, frz h.f5, frz h.f6⟩
theorem LAt.setE {w : World} {x b : Nat} {L : Lk} (h : LAt w x b L) (n : Int) : LAt (w.setCell ⟨x, 6, none⟩ (.int .i64 n)) x b ⟨L.t, L.a, L.m, L.n, L.ov, n⟩ :=
  ⟨(oth (by omega)).trans h.c0, (oth (by omega)).trans h.c1, (oth (by omega)).trans h.c2, (oth (by omega)).trans h.c3, (oth (by omega)).trans h.c4, (oth (by omega)).trans h.c5, World.cell?_setCell_same _ _ _ h.c6, frz h.f0, frz h.f5, frz h.f6⟩
theorem RAt.setN {w : World} {x b : Nat} {L : Lk} (h : RAt w x b L) (n : Int) : RAt (w.setCell ⟨x, 4, none⟩ (.int .i64 n)) x b ⟨L.t, L.a, L.m, n, L.ov, L.e⟩ :=
  ⟨(oth (by omega)).trans h.c0, (oth (by omega)).trans h.c1, (oth (by omega)).trans h.c2, (oth (by omega)).trans h.c3, World.cell?_setCell_same _ _ _ h.c4, (oth (by omega)).trans h.c5, (oth (by omega)).trans h.c6, frz h.f4, frz h.f5, frz h.f6⟩
theorem RAt.setS {w : World} {x b : Nat} {L : Lk} (h : RAt w x b L) (ov : Bool) : RAt (w.setCell ⟨x, 5, none⟩ (.bool ov)) x b ⟨L.t, L.a, L.m, L.n, ov, L.e⟩ :=
  ⟨(oth (by omega)).trans h.c0, (oth (by omega)).trans h.c1, (oth (by omega)).trans h.c2, (oth (by omega)).trans h.c3, (oth (by omega)).trans h.c4, World.cell?_setCell_same _ _ _ h.c5, (oth (by omega)).trans h.c6, frz h.f4, frz h.f5, frz h.f6⟩
theorem RAt.setE {w : World} {x b : Nat} {L : Lk} (h : RAt w x b L) (n : Int) : RAt (w.setCell ⟨x, 6, none⟩ (.int .i64 n)) x b ⟨L.t, L.a, L.m, L.n, L.ov, n⟩ :=
  ⟨(oth (by omega)).trans h.c0, (oth (by omega)).trans h.c1, (oth (by omega)).trans h.c2, (oth (by omega)).trans h.c3, (oth (by omega)).trans h.c4, (oth (by omega)).trans h.c5, World.cell?_setCell_same _ _ _ h.c6, frz h.f4, frz h.f5, frz h.f6⟩
/-! ### mark, under, Next, Result -/
set_option maxRecDepth 100000 in
theorem mark_any (t : Int) (w : World) (h0 : 0 ≤ t) (h1 : t < 64) : Calls Try.prog 29 #[.int .i64 t] w fun e w' => e = .returned (.int .u64 (t + 1)) ∧ w' = w := by
  have e1 : IntKind.u64.wrap t = t := by rw [IntKind.wrap_u64]; omega
  have e2 : IntKind.u64.wrap (t + 1) = t + 1 := by rw [IntKind.wrap_u64]; omega
  go_enter Try.func29, Try.ntmps29
  go_wp2
  go_ret
  exact ⟨rfl, rfl⟩
set_option maxRecDepth 100000 in
theorem under_nil (w : World) : Calls Try.prog 32 #[.pointer none] w fun e w' => e = .returned (.bool false) ∧ w' = w := by
  go_enter Try.func32, Try.ntmps32
  go_wp2
  go_ret
  exact ⟨rfl, rfl⟩
theorem neq_fn (x : Nat) (w : World) : (binOp .neq 56 (.func (.func 27) #[.pointer (some ⟨x, 0, none⟩)] #[]) .nilFunc).run Try.prog w = .ok (.bool true) w := by kernel_rfl
theorem neq_no (w : World) : (binOp .neq 56 .nilFunc .nilFunc).run Try.prog w = .ok (.bool false) w := by kernel_rfl
set_option maxRecDepth 100000 in
theorem under_any (x b : Nat) (L : Lk) (w : World) (h : LAt w x b L) : Calls Try.prog 32 #[.pointer (some ⟨x, 0, none⟩)] w fun e w' => e = .returned (.bool (!L.ov)) ∧ w' = w := by
  have c5 := h.c5
  clear h
  unfold stV at c5
  obtain ⟨ov, ho⟩ : ∃ ov, L.ov = ov := ⟨_, rfl⟩
  rw [ho] at c5 ⊢
  cases ov
  · rw [if_neg (by simp)] at c5
    have q := neq_fn x w
    go_enter Try.func32, Try.ntmps32
    go_wp2
    go_ret
    exact ⟨rfl, rfl⟩
  · rw [if_pos rfl] at c5
    have q := neq_no w
    go_enter Try.func32, Try.ntmps32
    go_wp2
    go_ret
    exact ⟨rfl, rfl⟩
set_option maxRecDepth 100000 in
theorem next_nil (w : World) : Calls Try.prog 15 #[.pointer none] w fun e w' => e = .returned (.int .u8 0) ∧ w' = w := by
  have C := Lib.hid (under_nil w)
  go_enter Try.func15, Try.ntmps15
  go_wp2_with fail
  refine C.out.mono ?_
  rintro r w1 ⟨rfl, rfl⟩
  go_wp2
  go_ret
  exact ⟨rfl, rfl⟩
set_option maxRecDepth 100000 in
theorem next_any (x b : Nat) (L : Lk) (w : World) (h : LAt w x b L) : Calls Try.prog 15 #[.pointer (some ⟨x, 0, none⟩)] w fun e w' => e = .returned (.int .u8 L.pc) ∧ w' = w := by
  have C := under_any x b L w h
  clear h
  unfold Lk.pc
  obtain ⟨ov, ho⟩ : ∃ ov, L.ov = ov := ⟨_, rfl⟩
  rw [ho] at C ⊢
  replace C := Lib.hid C
  cases ov
  all_goals
    go_enter Try.func15, Try.ntmps15
    go_wp2_with fail
    refine C.out.mono ?_
    rintro r w1 ⟨rfl, rfl⟩
    go_wp2
    go_ret
    exact ⟨rfl, rfl⟩
set_option maxRecDepth 100000 in
theorem result_nil (w : World) : Calls Try.prog 18 #[.pointer none] w fun e w' => e = .returned (.tuple #[.int .i64 0, .int .i64 1]) ∧ w' = w := by
  go_enter Try.func18, Try.ntmps18
  go_wp2
  go_ret2
  exact ⟨rfl, rfl⟩
set_option maxRecDepth 100000 in
theorem result_any (x b : Nat) (L : Lk) (w : World) (h : LAt w x b L) : Calls Try.prog 18 #[.pointer (some ⟨x, 0, none⟩)] w fun e w' => e = .returned (.tuple #[.int .i64 L.n, .int .i64 L.res]) ∧ Below w.heap.size w w' := by
  have C := under_any x b L w h
  have c0 := h.c0
  have c6 := h.c6
  clear h
  unfold Lk.res
  obtain ⟨ov, ho⟩ : ∃ ov, L.ov = ov := ⟨_, rfl⟩
  rw [ho] at C ⊢
  replace C := Lib.hid C
  cases ov
  · rw [if_neg (by simp)]
    go_enter Try.func18, Try.ntmps18
    go_wp2_with fail
    refine C.out.mono ?_
    rintro r w1 ⟨rfl, rfl⟩
    go_wp2
    go_ret2
    exact ⟨rfl, Below.refl _ _⟩
  · rw [if_pos rfl]
    go_enter Try.func18, Try.ntmps18
    go_wp2_with fail
    refine C.out.mono ?_
    rintro r w1 ⟨rfl, rfl⟩
    go_wp2_with fail
    go_region
    all_goals
      go_wp2
      go_ret2
      exact ⟨rfl, below_drewN (Below.refl _ _) 1⟩
/-! ### end, fail -/
theorem sto_nil (a : Addr) (w : World) : (store a .nilFunc).run Try.prog w = stored Try.prog w a .nilFunc .plain := run_store Try.prog w a _ .plain rfl
theorem sto_fn (a : Addr) (f : Fn) (x y : Array Value) (w : World) : (store a (.func f x y)).run Try.prog w = stored Try.prog w a (.func f x y) .plain := run_store Try.prog w a _ .plain rfl
theorem end_any (x b : Nat) (L : Lk) (k : Int) (w : World) (h : LAt w x b L) : Calls Try.prog 39 #[.pointer (some ⟨x, 0, none⟩), .int .i64 k] w fun e w' => e = .returned (.bool true) ∧ LAt w' x b ⟨L.t, L.a, L.m, L.n, true, k⟩ ∧ Fr (fun i => i = x) w w' := by
  have c5 := h.c5
  have c6 := h.c6
  have f5 := h.f5
  have f6 := h.f6
  have g5 : (w.setCell ⟨x, 6, none⟩ (.int .i64 k)).cell? ⟨x, 5, none⟩ = some (stV x L.ov) := by rw [World.cell?_setCell_other _ _ _ _ (by simp)]; exact c5
  have z5 : (w.setCell ⟨x, 6, none⟩ (.int .i64 k)).frozen? ⟨x, 5, none⟩ = false := by rw [World.frozen?_setCell]; exact f5
  have sn := sto_nil
  have H := Lib.hid h
  clear h
  go_enter Try.func39, Try.ntmps39
  go_wp2
  go_ret
  exact ⟨rfl, (H.out.setE k).setS true, Fr.set (S := fun i => i = x) (Fr.set (S := fun i => i = x) (Fr.of_below (Below.refl _ w)) _ _ rfl) _ _ rfl⟩
set_option maxRecDepth 100000 in
theorem fail_any (x b : Nat) (L : Lk) (w : World) (h : LAt w x b L) (h0 : 0 ≤ L.n) (h1 : L.n ≤ 1000000) : Calls Try.prog 40 #[.pointer (some ⟨x, 0, none⟩)] w fun e w' => e = .returned (.bool (decide (L.n + 1 = L.m))) ∧ LAt w' x b ⟨L.t, L.a, L.m, L.n + 1, L.ov, L.e⟩ ∧ Fr (fun i => i = x) w w' := by
  have c0 := h.c0
  have c1 := h.c1
  have f0 := h.f0
  have e1 : IntKind.i64.wrap (L.n + 1) = L.n + 1 := IntWalk.i64_in _ (by omega)
  have k0 : (w.setCell ⟨x, 0, none⟩ (.int .i64 (L.n + 1))).cell? ⟨x, 0, none⟩ = some (.int .i64 (L.n + 1)) := World.cell?_setCell_same _ _ _ h.c0
  have k1 : (w.setCell ⟨x, 0, none⟩ (.int .i64 (L.n + 1))).cell? ⟨x, 1, none⟩ = some (.int .i64 L.m) := by rw [World.cell?_setCell_other _ _ _ _ (by simp)]; exact c1
  have HR := Lib.hid (show ∀ W, W = (w.setCell ⟨x, 0, none⟩ (.int .i64 (L.n + 1))).drew → LAt W x b ⟨L.t, L.a, L.m, L.n + 1, L.ov, L.e⟩ ∧ Fr (fun i => i = x) w W from fun W e => by
    subst e
    exact ⟨LAt.below (w := w.setCell ⟨x, 0, none⟩ (.int .i64 (L.n + 1))) (h.setN _) (below_drewN (Below.refl _ _) 1), Fr.trans (Fr.set (S := fun i => i = x) (Fr.of_below (Below.refl _ w)) ⟨x, 0, none⟩ (.int .i64 (L.n + 1)) rfl) (Fr.of_below (S := fun i => i = x) (below_drewN (Below.refl _ _) 1)) fun _ _ e => e⟩)
  clear h
  by_cases hm : L.n + 1 = L.m
  · rw [decide_eq_true hm]
    have t0 : (L.n + 1 == L.m) = true := by simp [hm]
    have t1 : decide (L.n + 1 = L.m) = true := decide_eq_true hm
    clear hm
    go_enter Try.func40, Try.ntmps40
    go_wp2_with fail
    go_region
    all_goals
      go_wp2
      go_ret
      exact ⟨rfl, HR.out _ rfl⟩
  · rw [decide_eq_false hm]
    have t0 : (L.n + 1 == L.m) = false := by simp [hm]
    have t1 : decide (L.n + 1 = L.m) = false := decide_eq_false hm
    clear hm
    go_enter Try.func40, Try.ntmps40
    go_wp2_with fail
    go_region
    all_goals
      go_wp2
      go_ret
      exact ⟨rfl, HR.out _ rfl⟩
/-! ### check -/
theorem check_nil (t a m : Int) (w : World) : Calls Try.prog 26 #[.pointer none, .int .i64 t, .int .i64 a, .int .i64 m] w fun e w' => e = .returned (.int .i64 1) ∧ w' = w := by
  go_enter Try.func26, Try.ntmps26
  go_wp2
  go_ret
  exact ⟨rfl, rfl⟩
set_option maxRecDepth 100000 in
theorem check_any (b p : Nat) (q : Option Nat) (M : Wm) (t a m : Int) (w : World) (h : At 73 w b p q M) : Calls Try.prog 26 #[.pointer (some ⟨b, 0, none⟩), .int .i64 t, .int .i64 a, .int .i64 m] w fun e w' => e = .returned (.int .i64 (lkE M t a m)) ∧ w' = w := by
  have C := peek_any b p q M a w h
  clear h
  unfold peekT at C
  unfold lkE
  by_cases h1 : t < 0
  · rw [if_neg (fun e => by omega)]
    have t1 : decide (t < 0) = true := decide_eq_true h1
    clear h1
    go_enter Try.func26, Try.ntmps26
    go_wp2
    go_ret
    exact ⟨rfl, rfl⟩
  have t1 : decide (t < 0) = false := decide_eq_false h1
  by_cases h2 : 64 ≤ t
  · rw [if_neg (fun e => by omega)]
    have t2 : decide (64 ≤ t) = true := decide_eq_true h2
    clear h1 h2
    go_enter Try.func26, Try.ntmps26
    go_wp2
    go_ret
    exact ⟨rfl, rfl⟩
  have t2 : decide (64 ≤ t) = false := decide_eq_false h2
  by_cases h3 : m < 0
  · rw [if_neg (fun e => by omega)]
    have t3 : decide (m < 0) = true := decide_eq_true h3
    clear h1 h2 h3
    go_enter Try.func26, Try.ntmps26
    go_wp2
    go_ret
    exact ⟨rfl, rfl⟩
  have t3 : decide (m < 0) = false := decide_eq_false h3
  by_cases h4 : 255 < m
  · rw [if_neg (fun e => by omega)]
    have t4 : decide (255 < m) = true := decide_eq_true h4
    clear h1 h2 h3 h4
    go_enter Try.func26, Try.ntmps26
    go_wp2
    go_ret
    exact ⟨rfl, rfl⟩
  have t4 : decide (255 < m) = false := decide_eq_false h4
  rw [if_pos (show (0 ≤ t ∧ t < 64) ∧ 0 ≤ m ∧ m ≤ 255 by omega)]
  clear h1 h2 h3 h4
  by_cases h5 : 0 ≤ a ∧ a < M.W.length
  · rw [if_pos h5, decide_eq_true h5] at C
    rw [if_pos h5]
    replace C := Lib.hid C
    clear h5
    go_enter Try.func26, Try.ntmps26
    go_wp2_with fail
    refine C.out.mono ?_
    rintro r w1 ⟨rfl, rfl⟩
    go_wp2
    go_ret
    exact ⟨rfl, rfl⟩
  · rw [if_neg h5, decide_eq_false h5] at C
    rw [if_neg h5]
    replace C := Lib.hid C
    clear h5
    go_enter Try.func26, Try.ntmps26
    go_wp2_with fail
    refine C.out.mono ?_
    rintro r w1 ⟨rfl, rfl⟩
    go_wp2
    go_ret
    exact ⟨rfl, rfl⟩
end Lt
end Go.Proofs.Ytjocbmoelkobaaa
