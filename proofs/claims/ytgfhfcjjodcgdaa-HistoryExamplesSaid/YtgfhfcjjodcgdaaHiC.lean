/- Package history: the small functions (isAnswered, Before, ending, takes, ends, the closures of Pending and Effects), and those of the reference and the laws: contracts of the translated code. Conditions: those of each lemma. Written by tools/mk12c.py. -/
import Derived.Test.YtgfhfcjjodcgdaaHiL
namespace Go.Proofs.Ytgfhfcjjodcgdaa
open Go.RowKit Go.Sort
set_option linter.unusedVariables false
set_option linter.unusedSimpArgs false
namespace Hi
def ansB (x : C) : Bool := decide (0 ≤ x.a)
theorem bel_bel {w W w1 : World} (h : Below w.heap.size w W) (h1 : Below W.heap.size W w1) : Below w.heap.size w w1 := h.trans (h1.mono h.size)
theorem isAns_any (x : C) (w : World) : Calls Try.prog 39 #[.agg #[.int .i64 x.t, .int .i64 x.i, .int .u8 x.k, .int .u64 x.p0, .int .u64 x.p1, .int .u64 x.p2, .int .u64 x.p3, .int .u64 x.p4, .int .u64 x.p5, .int .i64 x.v, .int .i64 x.u, .int .i64 x.a, .int .i64 x.s, .int .i64 x.re, .bool x.rf, .int .u64 x.rk, .int .u64 x.rv, .int .i64 x.rc]] w fun e w' => e = .returned (.bool (ansB x)) ∧ Below w.heap.size w w' := by
  obtain ⟨r, hr⟩ : ∃ r, ansB x = r := ⟨_, rfl⟩
  have HV := Lib.hid (show decide (0 ≤ x.a) = r from hr)
  rw [hr]
  clear hr
  go_enter Try.func39, Try.ntmps39
  go_wp2
  go_ret
  exact ⟨ret_eq (congrArg Value.bool HV.out), bel_alloc (Below.refl _ _) _⟩
theorem pend_any (x : C) (w : World) : Calls Try.prog 38 #[.agg #[.int .i64 x.t, .int .i64 x.i, .int .u8 x.k, .int .u64 x.p0, .int .u64 x.p1, .int .u64 x.p2, .int .u64 x.p3, .int .u64 x.p4, .int .u64 x.p5, .int .i64 x.v, .int .i64 x.u, .int .i64 x.a, .int .i64 x.s, .int .i64 x.re, .bool x.rf, .int .u64 x.rk, .int .u64 x.rv, .int .i64 x.rc]] w fun e w' => e = .returned (.bool (!ansB x)) ∧ Below w.heap.size w w' := by
  obtain ⟨r, hr⟩ : ∃ r, ansB x = r := ⟨_, rfl⟩
  have CI := fun (W : World) => Lib.hid (isAns_any x W)
  rw [hr] at CI ⊢
  clear hr
  go_enter Try.func38, Try.ntmps38
  go_wp2_with (refine ld rfl (.tmp 1) rfl _ _ rfl x (KC.at_new w x) ?_)
  refine (CI _).out.mono ?_
  rintro e w1 ⟨rfl, b1⟩
  go_wp2
  go_ret
  exact ⟨rfl, bel_bel (bel_alloc (Below.refl _ _) _) b1⟩
theorem took_any (x : C) (w : World) : Calls Try.prog 40 #[.agg #[.int .i64 x.t, .int .i64 x.i, .int .u8 x.k, .int .u64 x.p0, .int .u64 x.p1, .int .u64 x.p2, .int .u64 x.p3, .int .u64 x.p4, .int .u64 x.p5, .int .i64 x.v, .int .i64 x.u, .int .i64 x.a, .int .i64 x.s, .int .i64 x.re, .bool x.rf, .int .u64 x.rk, .int .u64 x.rv, .int .i64 x.rc]] w fun e w' => e = .returned (.bool (decide (0 ≤ x.u))) ∧ Below w.heap.size w w' := by
  go_enter Try.func40, Try.ntmps40
  go_wp2
  go_ret
  exact ⟨rfl, bel_alloc (Below.refl _ _) _⟩
theorem cells_two (w : World) (x y : C) : ∀ {w1 : World}, Below ((w.alloc (.cells #[.int .i64 x.t, .int .i64 x.i, .int .u8 x.k, .int .u64 x.p0, .int .u64 x.p1, .int .u64 x.p2, .int .u64 x.p3, .int .u64 x.p4, .int .u64 x.p5, .int .i64 x.v, .int .i64 x.u, .int .i64 x.a, .int .i64 x.s, .int .i64 x.re, .bool x.rf, .int .u64 x.rk, .int .u64 x.rv, .int .i64 x.rc] 47)).alloc (.cells #[.int .i64 y.t, .int .i64 y.i, .int .u8 y.k, .int .u64 y.p0, .int .u64 y.p1, .int .u64 y.p2, .int .u64 y.p3, .int .u64 y.p4, .int .u64 y.p5, .int .i64 y.v, .int .i64 y.u, .int .i64 y.a, .int .i64 y.s, .int .i64 y.re, .bool y.rf, .int .u64 y.rk, .int .u64 y.rv, .int .i64 y.rc] 47)).heap.size ((w.alloc (.cells #[.int .i64 x.t, .int .i64 x.i, .int .u8 x.k, .int .u64 x.p0, .int .u64 x.p1, .int .u64 x.p2, .int .u64 x.p3, .int .u64 x.p4, .int .u64 x.p5, .int .i64 x.v, .int .i64 x.u, .int .i64 x.a, .int .i64 x.s, .int .i64 x.re, .bool x.rf, .int .u64 x.rk, .int .u64 x.rv, .int .i64 x.rc] 47)).alloc (.cells #[.int .i64 y.t, .int .i64 y.i, .int .u8 y.k, .int .u64 y.p0, .int .u64 y.p1, .int .u64 y.p2, .int .u64 y.p3, .int .u64 y.p4, .int .u64 y.p5, .int .i64 y.v, .int .i64 y.u, .int .i64 y.a, .int .i64 y.s, .int .i64 y.re, .bool y.rf, .int .u64 y.rk, .int .u64 y.rv, .int .i64 y.rc] 47)) w1 → KC.At w1 w.heap.size 0 x ∧ KC.At w1 (w.heap.size + 1) 0 y := fun hb => by
  have h1 := KC.at_new w x
  have h2 := KC.at_new (w.alloc (.cells #[.int .i64 x.t, .int .i64 x.i, .int .u8 x.k, .int .u64 x.p0, .int .u64 x.p1, .int .u64 x.p2, .int .u64 x.p3, .int .u64 x.p4, .int .u64 x.p5, .int .i64 x.v, .int .i64 x.u, .int .i64 x.a, .int .i64 x.s, .int .i64 x.re, .bool x.rf, .int .u64 x.rk, .int .u64 x.rv, .int .i64 x.rc] 47)) y
  rw [World.size_alloc] at h2
  exact ⟨(h1.alloc _).bel hb (by simp; omega), h2.bel hb (by simp)⟩
theorem before_any (x y : C) (w : World) : Calls Try.prog 30 #[.agg #[.int .i64 x.t, .int .i64 x.i, .int .u8 x.k, .int .u64 x.p0, .int .u64 x.p1, .int .u64 x.p2, .int .u64 x.p3, .int .u64 x.p4, .int .u64 x.p5, .int .i64 x.v, .int .i64 x.u, .int .i64 x.a, .int .i64 x.s, .int .i64 x.re, .bool x.rf, .int .u64 x.rk, .int .u64 x.rv, .int .i64 x.rc], .agg #[.int .i64 y.t, .int .i64 y.i, .int .u8 y.k, .int .u64 y.p0, .int .u64 y.p1, .int .u64 y.p2, .int .u64 y.p3, .int .u64 y.p4, .int .u64 y.p5, .int .i64 y.v, .int .i64 y.u, .int .i64 y.a, .int .i64 y.s, .int .i64 y.re, .bool y.rf, .int .u64 y.rk, .int .u64 y.rv, .int .i64 y.rc]] w fun e w' => e = .returned (.bool (bfr x y)) ∧ Below w.heap.size w w' := by
  obtain ⟨r, hr⟩ : ∃ r, bfr x y = r := ⟨_, rfl⟩
  rw [hr]
  have HR := Lib.hid hr
  clear hr
  have CI := fun (W : World) => Lib.hid (isAns_any x W)
  have B0 := Lib.hid (bel_alloc (bel_alloc (Below.refl w.heap.size w) (.cells #[.int .i64 x.t, .int .i64 x.i, .int .u8 x.k, .int .u64 x.p0, .int .u64 x.p1, .int .u64 x.p2, .int .u64 x.p3, .int .u64 x.p4, .int .u64 x.p5, .int .i64 x.v, .int .i64 x.u, .int .i64 x.a, .int .i64 x.s, .int .i64 x.re, .bool x.rf, .int .u64 x.rk, .int .u64 x.rv, .int .i64 x.rc] 47)) (.cells #[.int .i64 y.t, .int .i64 y.i, .int .u8 y.k, .int .u64 y.p0, .int .u64 y.p1, .int .u64 y.p2, .int .u64 y.p3, .int .u64 y.p4, .int .u64 y.p5, .int .i64 y.v, .int .i64 y.u, .int .i64 y.a, .int .i64 y.s, .int .i64 y.re, .bool y.rf, .int .u64 y.rk, .int .u64 y.rv, .int .i64 y.rc] 47))
  have C2 := fun w1 h => Lib.hid (cells_two w x y (w1 := w1) h)
  have L1 := Lib.hid ((KC.at_new w x).alloc (.cells #[.int .i64 y.t, .int .i64 y.i, .int .u8 y.k, .int .u64 y.p0, .int .u64 y.p1, .int .u64 y.p2, .int .u64 y.p3, .int .u64 y.p4, .int .u64 y.p5, .int .i64 y.v, .int .i64 y.u, .int .i64 y.a, .int .i64 y.s, .int .i64 y.re, .bool y.rf, .int .u64 y.rk, .int .u64 y.rv, .int .i64 y.rc] 47))
  by_cases h0 : 0 ≤ x.a
  · have d0 : ansB x = true := decide_eq_true h0
    rw [d0] at CI
    by_cases h1 : x.a < y.v
    all_goals
      first | (have d1 := decide_eq_false h1) | (have d1 := decide_eq_true h1)
      have HV := Lib.hid (show r = decide (x.a < y.v) by rw [← HR.out, bfr, decide_eq_true h0]; rfl)
      rw [d1] at HV
      clear d0 h0 HR
      go_enter Try.func30, Try.ntmps30
      go_wp2_with (refine ld rfl (.tmp 2) rfl _ _ rfl x L1.out ?_)
      refine (CI _).out.mono ?_
      rintro e w1 ⟨rfl, b1⟩
      obtain ⟨q1, q2⟩ := (C2 _ b1).out
      have e1 := q1 11 _ rfl
      have e2 := q2 9 _ rfl
      simp only [Nat.zero_add] at e1 e2
      have b1' := Lib.hid b1
      clear b1 q1 q2
      go_wp2
      go_ret
      exact ⟨by rw [HV.out]; first | done | rfl, bel_bel B0.out b1'.out⟩
  · have d0 : ansB x = false := decide_eq_false h0
    rw [d0] at CI
    have HV := Lib.hid (show r = false by rw [← HR.out, bfr, decide_eq_false h0]; rfl)
    clear d0 h0 HR
    go_enter Try.func30, Try.ntmps30
    go_wp2_with (refine ld rfl (.tmp 2) rfl _ _ rfl x L1.out ?_)
    refine (CI _).out.mono ?_
    rintro e w1 ⟨rfl, b1⟩
    have b1' := Lib.hid b1
    clear b1
    go_wp2
    go_ret
    exact ⟨by rw [HV.out]; first | done | rfl, bel_bel B0.out b1'.out⟩
theorem rbefore_any (x y : C) (w : World) : Calls Try.prog 49 #[.agg #[.int .i64 x.t, .int .i64 x.i, .int .u8 x.k, .int .u64 x.p0, .int .u64 x.p1, .int .u64 x.p2, .int .u64 x.p3, .int .u64 x.p4, .int .u64 x.p5, .int .i64 x.v, .int .i64 x.u, .int .i64 x.a, .int .i64 x.s, .int .i64 x.re, .bool x.rf, .int .u64 x.rk, .int .u64 x.rv, .int .i64 x.rc], .agg #[.int .i64 y.t, .int .i64 y.i, .int .u8 y.k, .int .u64 y.p0, .int .u64 y.p1, .int .u64 y.p2, .int .u64 y.p3, .int .u64 y.p4, .int .u64 y.p5, .int .i64 y.v, .int .i64 y.u, .int .i64 y.a, .int .i64 y.s, .int .i64 y.re, .bool y.rf, .int .u64 y.rk, .int .u64 y.rv, .int .i64 y.rc]] w fun e w' => e = .returned (.bool (bfr x y)) ∧ Below w.heap.size w w' := by
  obtain ⟨r, hr⟩ : ∃ r, bfr x y = r := ⟨_, rfl⟩
  rw [hr]
  have HR := Lib.hid hr
  clear hr
  by_cases h0 : 0 ≤ x.a
  · have d0 := decide_eq_true h0
    by_cases h1 : x.a < y.v
    all_goals
      first | (have d1 := decide_eq_false h1) | (have d1 := decide_eq_true h1)
      have HV := Lib.hid (show r = decide (x.a < y.v) by rw [← HR.out, bfr, decide_eq_true h0]; rfl)
      rw [d1] at HV
      clear h0 HR
      go_enter Try.func49, Try.ntmps49
      go_wp2
      go_ret
      exact ⟨by rw [HV.out]; first | done | rfl, bel_alloc (bel_alloc (Below.refl _ _) _) _⟩
  · have d0 := decide_eq_false h0
    have HV := Lib.hid (show r = false by rw [← HR.out, bfr, decide_eq_false h0]; rfl)
    clear h0 HR
    go_enter Try.func49, Try.ntmps49
    go_wp2
    go_ret
    exact ⟨by rw [HV.out]; first | done | rfl, bel_alloc (bel_alloc (Below.refl _ _) _) _⟩
theorem ending_any (x : C) (w : World) : Calls Try.prog 64 #[.agg #[.int .i64 x.t, .int .i64 x.i, .int .u8 x.k, .int .u64 x.p0, .int .u64 x.p1, .int .u64 x.p2, .int .u64 x.p3, .int .u64 x.p4, .int .u64 x.p5, .int .i64 x.v, .int .i64 x.u, .int .i64 x.a, .int .i64 x.s, .int .i64 x.re, .bool x.rf, .int .u64 x.rk, .int .u64 x.rv, .int .i64 x.rc]] w fun e w' => e = .returned (.int .i64 (endV x)) ∧ Below w.heap.size w w' := by
  have CI := fun (W : World) => Lib.hid (isAns_any x W)
  have L1 := Lib.hid (KC.at_new w x)
  obtain ⟨r, hr⟩ : ∃ r, endV x = r := ⟨_, rfl⟩
  rw [hr]
  by_cases h0 : 0 ≤ x.a
  · have d0 : ansB x = true := decide_eq_true h0
    rw [d0] at CI
    have HV := Lib.hid (show r = x.a by rw [← hr, endV, if_pos h0])
    clear d0 h0 hr
    go_enter Try.func64, Try.ntmps64
    go_wp2_with (refine ld rfl (.tmp 1) rfl _ _ rfl x L1.out ?_)
    refine (CI _).out.mono ?_
    rintro e w1 ⟨rfl, b1⟩
    have e1 := (L1.out.bel b1 (by simp)) 11 _ rfl
    simp only [Nat.zero_add] at e1
    have b1' := Lib.hid b1
    clear b1
    go_wp2
    go_ret
    exact ⟨by rw [HV.out]; first | done | rfl, bel_bel (bel_alloc (Below.refl _ _) _) b1'.out⟩
  · have d0 : ansB x = false := decide_eq_false h0
    rw [d0] at CI
    have HV := Lib.hid (show r = 9223372036854775807 by rw [← hr, endV, if_neg h0]; rfl)
    clear d0 h0 hr
    go_enter Try.func64, Try.ntmps64
    go_wp2_with (refine ld rfl (.tmp 1) rfl _ _ rfl x L1.out ?_)
    refine (CI _).out.mono ?_
    rintro e w1 ⟨rfl, b1⟩
    have b1' := Lib.hid b1
    clear b1
    go_wp2
    go_ret
    exact ⟨by rw [HV.out]; first | done | rfl, bel_bel (bel_alloc (Below.refl _ _) _) b1'.out⟩
/-- a call whose conditions are looked at: the call, and where the past lies -/
theorem takes_any (x : C) (P : Option Addr) (w : World) : Calls Try.prog 51 #[.agg #[.int .i64 x.t, .int .i64 x.i, .int .u8 x.k, .int .u64 x.p0, .int .u64 x.p1, .int .u64 x.p2, .int .u64 x.p3, .int .u64 x.p4, .int .u64 x.p5, .int .i64 x.v, .int .i64 x.u, .int .i64 x.a, .int .i64 x.s, .int .i64 x.re, .bool x.rf, .int .u64 x.rk, .int .u64 x.rv, .int .i64 x.rc, .pointer P]] w fun e w' => e = .returned (.bool (takeB x)) ∧ Below w.heap.size w w' := by
  obtain ⟨r, hr⟩ : ∃ r, takeB x = r := ⟨_, rfl⟩
  rw [hr]
  have HR := Lib.hid hr
  clear hr
  by_cases h0 : x.u = -1
  · have d0 : (x.u == -1) = true := by simpa using h0
    have HV := Lib.hid (show r = true by rw [← HR.out, takeB, decide_eq_true h0]; rfl)
    clear h0 HR
    go_enter Try.func51, Try.ntmps51
    go_wp2
    go_ret
    exact ⟨by rw [HV.out]; first | done | rfl, bel_alloc (Below.refl _ _) _⟩
  · have d0 : (x.u == -1) = false := by simpa using h0
    have HV := Lib.hid (show r = decide (x.v ≤ x.u) by rw [← HR.out, takeB, decide_eq_false h0]; rfl)
    clear h0 HR
    by_cases h1 : x.v ≤ x.u
    all_goals
      first | (have d1 := decide_eq_false h1) | (have d1 := decide_eq_true h1)
      rw [d1] at HV
      go_enter Try.func51, Try.ntmps51
      go_wp2
      go_ret
      exact ⟨by rw [HV.out]; first | done | rfl, bel_alloc (Below.refl _ _) _⟩
theorem eqR (re rk rv rc : Int) (rf : Bool) (w : World) : (Op.equalIn 10000 45 (.agg #[.int .i64 re, .bool rf, .int .u64 rk, .int .u64 rv, .int .i64 rc]) (.agg #[.int .i64 0, .bool false, .int .u64 0, .int .u64 0, .int .i64 0])).run Try.prog w = .ok (decide (re = 0) && (!rf && (decide (rk = 0) && (decide (rv = 0) && decide (rc = 0))))) w := by
  have u3 := Try.underlying41
  have a3 := Try.isAgg41
  have z3 := Try.sizeOf41
  have u4 := Try.underlying4
  have a4 := Try.isAgg4
  have z4 := Try.sizeOf4
  have u5 := Try.underlying24
  have a5 := Try.isAgg24
  have z5 := Try.sizeOf24
  have u6 := Try.underlying3
  have a6 := Try.isAgg3
  have z6 := Try.sizeOf3
  have hS : Try.prog.underlying 45 = some (.struct (Try.prog.fieldsOf 45)) := by kernel_rfl
  have hp : Try.prog.stoodInHeld 45 = false := by kernel_rfl
  rw [show (10000 : Nat) = 9999 + 1 from rfl, run_equalIn_agg w 9999 45 _ _ hS hp]
  simp only [Program.fieldsOf, Try.underlying45]
  go_simp
  by_cases h1 : re = 0 <;> cases rf <;> by_cases h2 : rk = 0 <;> by_cases h3 : rv = 0 <;> by_cases h4 : rc = 0 <;> simp [h1, h2, h3, h4]
theorem guardR : Try.prog.eqGuardType Try.prog.depth 45 = false := by kernel_rfl
attribute [local go_sem] guardR
theorem endB_val {x : C} (ha : ¬ x.a < 0) (h1 : 0 ≤ x.u) (h2 : x.u ≤ x.a) (h3 : 1 ≤ x.s) (h4 : x.s - 1 ≤ x.a - x.v) : endB x = (decide (x.a = x.v) || decide (2 ≤ x.s)) := by
  unfold endB
  rw [if_neg ha, decide_eq_true h1, decide_eq_true h2, decide_eq_true h3, decide_eq_true h4]; rfl
theorem ends_any (x : C) (P : Option Addr) (w : World) (hb : Bd1 x) (h0 : 0 ≤ x.v) : Calls Try.prog 52 #[.agg #[.int .i64 x.t, .int .i64 x.i, .int .u8 x.k, .int .u64 x.p0, .int .u64 x.p1, .int .u64 x.p2, .int .u64 x.p3, .int .u64 x.p4, .int .u64 x.p5, .int .i64 x.v, .int .i64 x.u, .int .i64 x.a, .int .i64 x.s, .int .i64 x.re, .bool x.rf, .int .u64 x.rk, .int .u64 x.rv, .int .i64 x.rc, .pointer P]] w fun e w' => e = .returned (.bool (endB x)) ∧ Below w.heap.size w w' := by
  obtain ⟨r, hr⟩ : ∃ r, endB x = r := ⟨_, rfl⟩
  rw [hr]
  have HR := Lib.hid hr
  clear hr
  have ba := hb.a
  have bs := hb.s
  have bv := hb.v
  unfold I64 at ba bs bv
  clear hb
  have ER := fun W => eqR x.re x.rk x.rv x.rc x.rf W
  by_cases ha : x.a < 0
  · have d0 := decide_eq_true ha
    clear ba bs bv
    by_cases h1 : x.a = -1
    · have d1 : (x.a == -1) = true := by simpa using h1
      by_cases h2 : x.s = 0
      · have d2 : (x.s == 0) = true := by simpa using h2
        have hz : r = rz x := by rw [← HR.out, endB, if_pos ha, decide_eq_true h1, decide_eq_true h2]; rfl
        have ER' : ∀ W, (Op.equalIn 10000 45 (.agg #[.int .i64 x.re, .bool x.rf, .int .u64 x.rk, .int .u64 x.rv, .int .i64 x.rc]) (.agg #[.int .i64 0, .bool false, .int .u64 0, .int .u64 0, .int .i64 0])).run Try.prog W = .ok r W := fun W => by rw [hz]; exact ER W
        clear ER ha h1 h2 HR hz h0
        go_enter Try.func52, Try.ntmps52
        go_wp2
        go_ret
        exact ⟨by first | done | rfl, bel_alloc (Below.refl _ _) _⟩
      · have d2 : (x.s == 0) = false := by simpa using h2
        clear ER
        have HV := Lib.hid (show r = false by rw [← HR.out]; simp [endB, ha, h2])
        clear HR ha h1 h2 h0
        go_enter Try.func52, Try.ntmps52
        go_wp2
        go_ret
        exact ⟨by rw [HV.out]; first | done | rfl, bel_alloc (Below.refl _ _) _⟩
    · have d1 : (x.a == -1) = false := by simpa using h1
      clear ER
      have HV := Lib.hid (show r = false by rw [← HR.out]; simp [endB, ha, h1])
      clear HR ha h1 h0
      go_enter Try.func52, Try.ntmps52
      go_wp2
      go_ret
      exact ⟨by rw [HV.out]; first | done | rfl, bel_alloc (Below.refl _ _) _⟩
  · have d0 := decide_eq_false ha
    have ha' : 0 ≤ x.a := by omega
    clear ER
    by_cases h1 : x.u < 0
    · have d1 := decide_eq_true h1
      have HV := Lib.hid (show r = false by rw [← HR.out]; simp [endB, ha]; omega)
      clear HR ha h1
      go_enter Try.func52, Try.ntmps52
      go_wp2
      go_ret
      exact ⟨by rw [HV.out]; first | done | rfl, bel_alloc (Below.refl _ _) _⟩
    · have d1 := decide_eq_false h1
      have h1' : 0 ≤ x.u := by omega
      by_cases h2 : x.a < x.u
      · have d2 := decide_eq_true h2
        have HV := Lib.hid (show r = false by rw [← HR.out]; simp [endB, ha]; omega)
        clear HR ha h1
        go_enter Try.func52, Try.ntmps52
        go_wp2
        go_ret
        exact ⟨by rw [HV.out]; first | done | rfl, bel_alloc (Below.refl _ _) _⟩
      · have d2 := decide_eq_false h2
        have h2' : x.u ≤ x.a := by omega
        by_cases h3 : x.s < 1
        · have d3 := decide_eq_true h3
          have HV := Lib.hid (show r = false by rw [← HR.out]; simp [endB, ha]; omega)
          clear HR ha h1 h2
          go_enter Try.func52, Try.ntmps52
          go_wp2
          go_ret
          exact ⟨by rw [HV.out]; first | done | rfl, bel_alloc (Below.refl _ _) _⟩
        · have d3 := decide_eq_false h3
          have h3' : 1 ≤ x.s := by omega
          by_cases h4 : x.s - 1 ≤ x.a - x.v
          · have d4 := decide_eq_true h4
            have d4' : decide (x.a - x.v < x.s - 1) = false := decide_eq_false (by omega)
            have hv := endB_val ha h1' h2' h3' h4
            rw [HR.out] at hv
            have HX := Lib.hid hv
            clear hv HR ha h1 h2 h3
            by_cases h5 : 1 < x.s
            · have d5 := decide_eq_true h5
              have HV := Lib.hid (show r = true by rw [HX.out, decide_eq_true (show 2 ≤ x.s by omega)]; simp)
              clear HX h4
              go_enter Try.func52, Try.ntmps52
              go_wp2
              go_ret
              exact ⟨by rw [HV.out]; first | done | rfl, bel_alloc (Below.refl _ _) _⟩
            · have d5 := decide_eq_false h5
              by_cases h6 : x.a = x.v
              · have d6 : (x.a - x.v == 0) = true := by simp; omega
                have HV := Lib.hid (show r = true by rw [HX.out, decide_eq_true h6]; rfl)
                clear HX h4 h5 h6
                go_enter Try.func52, Try.ntmps52
                go_wp2
                go_ret
                exact ⟨by rw [HV.out]; first | done | rfl, bel_alloc (Below.refl _ _) _⟩
              · have d6 : (x.a - x.v == 0) = false := by simp; omega
                have HV := Lib.hid (show r = false by rw [HX.out, decide_eq_false h6, decide_eq_false (show ¬ 2 ≤ x.s by omega)]; rfl)
                clear HX h4 h5 h6
                go_enter Try.func52, Try.ntmps52
                go_wp2
                go_ret
                exact ⟨by rw [HV.out]; first | done | rfl, bel_alloc (Below.refl _ _) _⟩
          · have d4 := decide_eq_false h4
            have d4' : decide (x.a - x.v < x.s - 1) = true := decide_eq_true (by omega)
            have HV := Lib.hid (show r = false by rw [← HR.out]; simp [endB, ha]; omega)
            clear HR ha h1 h2 h3
            go_enter Try.func52, Try.ntmps52
            go_wp2
            go_ret
            exact ⟨by rw [HV.out]; first | done | rfl, bel_alloc (Below.refl _ _) _⟩
theorem answered_any (x : C) (w : World) (hb : Bd1 x) (h0 : 0 ≤ x.v) : Calls Try.prog 58 #[.agg #[.int .i64 x.t, .int .i64 x.i, .int .u8 x.k, .int .u64 x.p0, .int .u64 x.p1, .int .u64 x.p2, .int .u64 x.p3, .int .u64 x.p4, .int .u64 x.p5, .int .i64 x.v, .int .i64 x.u, .int .i64 x.a, .int .i64 x.s, .int .i64 x.re, .bool x.rf, .int .u64 x.rk, .int .u64 x.rv, .int .i64 x.rc]] w fun e w' => e = .returned (.bool (endB x)) ∧ Below w.heap.size w w' := by
  obtain ⟨r, hr⟩ : ∃ r, endB x = r := ⟨_, rfl⟩
  rw [hr]
  have HR := Lib.hid hr
  clear hr
  have ba := hb.a
  have bs := hb.s
  have bv := hb.v
  unfold I64 at ba bs bv
  clear hb
  have ER := fun W => eqR x.re x.rk x.rv x.rc x.rf W
  by_cases ha : x.a < 0
  · have d0 := decide_eq_true ha
    clear ba bs bv
    by_cases h1 : x.a = -1
    · have d1 : (x.a == -1) = true := by simpa using h1
      by_cases h2 : x.s = 0
      · have d2 : (x.s == 0) = true := by simpa using h2
        have hz : r = rz x := by rw [← HR.out, endB, if_pos ha, decide_eq_true h1, decide_eq_true h2]; rfl
        have ER' : ∀ W, (Op.equalIn 10000 45 (.agg #[.int .i64 x.re, .bool x.rf, .int .u64 x.rk, .int .u64 x.rv, .int .i64 x.rc]) (.agg #[.int .i64 0, .bool false, .int .u64 0, .int .u64 0, .int .i64 0])).run Try.prog W = .ok r W := fun W => by rw [hz]; exact ER W
        clear ER ha h1 h2 HR hz h0
        go_enter Try.func58, Try.ntmps58
        go_wp2
        go_ret
        exact ⟨by first | done | rfl, bel_alloc (Below.refl _ _) _⟩
      · have d2 : (x.s == 0) = false := by simpa using h2
        clear ER
        have HV := Lib.hid (show r = false by rw [← HR.out]; simp [endB, ha, h2])
        clear HR ha h1 h2 h0
        go_enter Try.func58, Try.ntmps58
        go_wp2
        go_ret
        exact ⟨by rw [HV.out]; first | done | rfl, bel_alloc (Below.refl _ _) _⟩
    · have d1 : (x.a == -1) = false := by simpa using h1
      clear ER
      have HV := Lib.hid (show r = false by rw [← HR.out]; simp [endB, ha, h1])
      clear HR ha h1 h0
      go_enter Try.func58, Try.ntmps58
      go_wp2
      go_ret
      exact ⟨by rw [HV.out]; first | done | rfl, bel_alloc (Below.refl _ _) _⟩
  · have d0 := decide_eq_false ha
    have ha' : 0 ≤ x.a := by omega
    clear ER
    by_cases h1 : x.u < 0
    · have d1 := decide_eq_true h1
      have HV := Lib.hid (show r = false by rw [← HR.out]; simp [endB, ha]; omega)
      clear HR ha h1
      go_enter Try.func58, Try.ntmps58
      go_wp2
      go_ret
      exact ⟨by rw [HV.out]; first | done | rfl, bel_alloc (Below.refl _ _) _⟩
    · have d1 := decide_eq_false h1
      have h1' : 0 ≤ x.u := by omega
      by_cases h2 : x.a < x.u
      · have d2 := decide_eq_true h2
        have HV := Lib.hid (show r = false by rw [← HR.out]; simp [endB, ha]; omega)
        clear HR ha h1
        go_enter Try.func58, Try.ntmps58
        go_wp2
        go_ret
        exact ⟨by rw [HV.out]; first | done | rfl, bel_alloc (Below.refl _ _) _⟩
      · have d2 := decide_eq_false h2
        have h2' : x.u ≤ x.a := by omega
        by_cases h3 : x.s < 1
        · have d3 := decide_eq_true h3
          have HV := Lib.hid (show r = false by rw [← HR.out]; simp [endB, ha]; omega)
          clear HR ha h1 h2
          go_enter Try.func58, Try.ntmps58
          go_wp2
          go_ret
          exact ⟨by rw [HV.out]; first | done | rfl, bel_alloc (Below.refl _ _) _⟩
        · have d3 := decide_eq_false h3
          have h3' : 1 ≤ x.s := by omega
          by_cases h4 : x.s - 1 ≤ x.a - x.v
          · have d4 := decide_eq_true h4
            have d4' : decide (x.a - x.v < x.s - 1) = false := decide_eq_false (by omega)
            have hv := endB_val ha h1' h2' h3' h4
            rw [HR.out] at hv
            have HX := Lib.hid hv
            clear hv HR ha h1 h2 h3
            by_cases h5 : x.a = x.v
            · have d5 : (x.a == x.v) = true := by simpa using h5
              have HV := Lib.hid (show r = true by rw [HX.out, decide_eq_true h5]; rfl)
              clear HX h4 h5
              go_enter Try.func58, Try.ntmps58
              go_wp2
              go_ret
              exact ⟨by rw [HV.out]; first | done | rfl, bel_alloc (Below.refl _ _) _⟩
            · have d5 : (x.a == x.v) = false := by simpa using h5
              by_cases h6 : 2 ≤ x.s
              all_goals
                first | (have d6 := decide_eq_false h6) | (have d6 := decide_eq_true h6)
                have HV := Lib.hid (show r = decide (2 ≤ x.s) by rw [HX.out, decide_eq_false h5]; rfl)
                rw [d6] at HV
                clear HX h4 h5
                go_enter Try.func58, Try.ntmps58
                go_wp2
                go_ret
                exact ⟨by rw [HV.out]; first | done | rfl, bel_alloc (Below.refl _ _) _⟩
          · have d4 := decide_eq_false h4
            have d4' : decide (x.a - x.v < x.s - 1) = true := decide_eq_true (by omega)
            have HV := Lib.hid (show r = false by rw [← HR.out]; simp [endB, ha]; omega)
            clear HR ha h1 h2 h3
            go_enter Try.func58, Try.ntmps58
            go_wp2
            go_ret
            exact ⟨by rw [HV.out]; first | done | rfl, bel_alloc (Below.refl _ _) _⟩
theorem yes_any (b : Bool) (n : Int) (w : World) : Calls Try.prog 29 #[.bool b, .int .i64 n] w fun e w' => e = .returned (.bool (b && (n == 0))) ∧ w = w' := by
  cases b
  all_goals
    go_enter Try.func29, Try.ntmps29
    go_wp2
    go_ret
    exact ⟨by simp, rfl⟩
theorem no_any (b : Bool) (n m : Int) (w : World) : Calls Try.prog 45 #[.bool b, .int .i64 n, .int .i64 m] w fun e w' => e = .returned (.bool (!b && (n == m))) ∧ w = w' := by
  cases b
  all_goals
    go_enter Try.func45, Try.ntmps45
    go_wp2
    go_ret
    exact ⟨by simp, rfl⟩
end Hi
end Go.Proofs.Ytgfhfcjjodcgdaa
