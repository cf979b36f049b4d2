/- leapfrogkit: EqualCalls, EqualInts, CopyCalls, CopyInts; leapfroglaw12: few, example: contracts of the translated code. Conditions: those of each lemma. -/
import Derived.Test.YtgfhfcjjodcgdaaHiRa
namespace Go.Proofs.Ytgfhfcjjodcgdaa
open Go.RowKit Go.Shelf Go.Sort
set_option linter.unusedVariables false
set_option linter.unusedSimpArgs false
namespace Hi
theorem bdI (a b : Int) : (a == b) = decide (a = b) := by by_cases h : a = b <;> simp [h]
theorem bdB (a b : Bool) : (a == b) = decide (a = b) := by cases a <;> cases b <;> rfl
theorem eqF_step {P : Program} {d : Nat} {xs ys : Array Value} {f : Field} {fs : List Field} {a b : Value} {r r' : Bool} (w : World) (hn : f.name ≠ "_") (p1 : (part f.type xs f.offset).run P w = .ok a w) (p2 : (part f.type ys f.offset).run P w = .ok b w)
    (p3 : (Op.equalIn d f.type a b).run P w = .ok r w) (h' : (Op.eqFields d xs ys fs).run P w = .ok r' w) : (Op.eqFields d xs ys (f :: fs)).run P w = .ok (r && r') w := by
  simp only [Op.eqFields, hn, ne_eq, not_false_eq_true, if_true, Sem.run_bind, p1, p2, p3, Result.andThen_ok]
  cases r
  · simp
  · simpa using h'
set_option maxRecDepth 100000
set_option maxHeartbeats 2000000
theorem eqOp (x y : C) (w : World) : (Op.equalIn 9999 43 (.agg #[.int .u8 x.k, .int .u64 x.p0, .int .u64 x.p1, .int .u64 x.p2, .int .u64 x.p3, .int .u64 x.p4, .int .u64 x.p5]) (.agg #[.int .u8 y.k, .int .u64 y.p0, .int .u64 y.p1, .int .u64 y.p2, .int .u64 y.p3, .int .u64 y.p4, .int .u64 y.p5])).run Try.prog w = .ok (decide (x.k = y.k) && (decide (x.p0 = y.p0) && (decide (x.p1 = y.p1) && (decide (x.p2 = y.p2) && (decide (x.p3 = y.p3) && (decide (x.p4 = y.p4) && (decide (x.p5 = y.p5) && true))))))) w := by
  have u3 := Try.underlying41
  have a3 := Try.isAgg41
  have z3 := Try.sizeOf41
  have u4 := Try.underlying4
  have a4 := Try.isAgg4
  have z4 := Try.sizeOf4
  have u5 := Try.underlying24
  have a5 := Try.isAgg24
  have z5 := Try.sizeOf24
  have u6 := Try.underlying3
  have a6 := Try.isAgg3
  have z6 := Try.sizeOf3
  have u7 := Try.underlying5
  have a7 := Try.isAgg5
  have z7 := Try.sizeOf5
  have hS : Try.prog.underlying 43 = some (.struct (Try.prog.fieldsOf 43)) := by kernel_rfl
  have hp : Try.prog.stoodInHeld 43 = false := by kernel_rfl
  rw [show (9999 : Nat) = 9998 + 1 from rfl, run_equalIn_agg w 9998 43 _ _ hS hp]
  simp only [Program.fieldsOf, Try.underlying43]
  refine eqF_step w (by decide) (a := .int .u8 x.k) (b := .int .u8 y.k) (by go_simp) (by go_simp) (by go_simp; all_goals (first | exact bdI _ _ | exact bdB _ _)) ?_
  refine eqF_step w (by decide) (a := .int .u64 x.p0) (b := .int .u64 y.p0) (by go_simp) (by go_simp) (by go_simp; all_goals (first | exact bdI _ _ | exact bdB _ _)) ?_
  refine eqF_step w (by decide) (a := .int .u64 x.p1) (b := .int .u64 y.p1) (by go_simp) (by go_simp) (by go_simp; all_goals (first | exact bdI _ _ | exact bdB _ _)) ?_
  refine eqF_step w (by decide) (a := .int .u64 x.p2) (b := .int .u64 y.p2) (by go_simp) (by go_simp) (by go_simp; all_goals (first | exact bdI _ _ | exact bdB _ _)) ?_
  refine eqF_step w (by decide) (a := .int .u64 x.p3) (b := .int .u64 y.p3) (by go_simp) (by go_simp) (by go_simp; all_goals (first | exact bdI _ _ | exact bdB _ _)) ?_
  refine eqF_step w (by decide) (a := .int .u64 x.p4) (b := .int .u64 y.p4) (by go_simp) (by go_simp) (by go_simp; all_goals (first | exact bdI _ _ | exact bdB _ _)) ?_
  refine eqF_step w (by decide) (a := .int .u64 x.p5) (b := .int .u64 y.p5) (by go_simp) (by go_simp) (by go_simp; all_goals (first | exact bdI _ _ | exact bdB _ _)) ?_
  simp [Op.eqFields]
theorem eqRes (x y : C) (w : World) : (Op.equalIn 9999 45 (.agg #[.int .i64 x.re, .bool x.rf, .int .u64 x.rk, .int .u64 x.rv, .int .i64 x.rc]) (.agg #[.int .i64 y.re, .bool y.rf, .int .u64 y.rk, .int .u64 y.rv, .int .i64 y.rc])).run Try.prog w = .ok (decide (x.re = y.re) && (decide (x.rf = y.rf) && (decide (x.rk = y.rk) && (decide (x.rv = y.rv) && (decide (x.rc = y.rc) && true))))) w := by
  have u3 := Try.underlying41
  have a3 := Try.isAgg41
  have z3 := Try.sizeOf41
  have u4 := Try.underlying4
  have a4 := Try.isAgg4
  have z4 := Try.sizeOf4
  have u5 := Try.underlying24
  have a5 := Try.isAgg24
  have z5 := Try.sizeOf24
  have u6 := Try.underlying3
  have a6 := Try.isAgg3
  have z6 := Try.sizeOf3
  have u7 := Try.underlying5
  have a7 := Try.isAgg5
  have z7 := Try.sizeOf5
  have hS : Try.prog.underlying 45 = some (.struct (Try.prog.fieldsOf 45)) := by kernel_rfl
  have hp : Try.prog.stoodInHeld 45 = false := by kernel_rfl
  rw [show (9999 : Nat) = 9998 + 1 from rfl, run_equalIn_agg w 9998 45 _ _ hS hp]
  simp only [Program.fieldsOf, Try.underlying45]
  refine eqF_step w (by decide) (a := .int .i64 x.re) (b := .int .i64 y.re) (by go_simp) (by go_simp) (by go_simp; all_goals (first | exact bdI _ _ | exact bdB _ _)) ?_
  refine eqF_step w (by decide) (a := .bool x.rf) (b := .bool y.rf) (by go_simp) (by go_simp) (by go_simp; all_goals (first | exact bdI _ _ | exact bdB _ _)) ?_
  refine eqF_step w (by decide) (a := .int .u64 x.rk) (b := .int .u64 y.rk) (by go_simp) (by go_simp) (by go_simp; all_goals (first | exact bdI _ _ | exact bdB _ _)) ?_
  refine eqF_step w (by decide) (a := .int .u64 x.rv) (b := .int .u64 y.rv) (by go_simp) (by go_simp) (by go_simp; all_goals (first | exact bdI _ _ | exact bdB _ _)) ?_
  refine eqF_step w (by decide) (a := .int .i64 x.rc) (b := .int .i64 y.rc) (by go_simp) (by go_simp) (by go_simp; all_goals (first | exact bdI _ _ | exact bdB _ _)) ?_
  simp [Op.eqFields]
theorem eqC (x y : C) (w : World) : (Op.equalIn 10000 47 (.agg #[.int .i64 x.t, .int .i64 x.i, .int .u8 x.k, .int .u64 x.p0, .int .u64 x.p1, .int .u64 x.p2, .int .u64 x.p3, .int .u64 x.p4, .int .u64 x.p5, .int .i64 x.v, .int .i64 x.u, .int .i64 x.a, .int .i64 x.s, .int .i64 x.re, .bool x.rf, .int .u64 x.rk, .int .u64 x.rv, .int .i64 x.rc]) (.agg #[.int .i64 y.t, .int .i64 y.i, .int .u8 y.k, .int .u64 y.p0, .int .u64 y.p1, .int .u64 y.p2, .int .u64 y.p3, .int .u64 y.p4, .int .u64 y.p5, .int .i64 y.v, .int .i64 y.u, .int .i64 y.a, .int .i64 y.s, .int .i64 y.re, .bool y.rf, .int .u64 y.rk, .int .u64 y.rv, .int .i64 y.rc])).run Try.prog w = .ok (decide (x = y)) w := by
  have u3 := Try.underlying41
  have a3 := Try.isAgg41
  have z3 := Try.sizeOf41
  have u4 := Try.underlying4
  have a4 := Try.isAgg4
  have z4 := Try.sizeOf4
  have u5 := Try.underlying24
  have a5 := Try.isAgg24
  have z5 := Try.sizeOf24
  have u6 := Try.underlying3
  have a6 := Try.isAgg3
  have z6 := Try.sizeOf3
  have u7 := Try.underlying5
  have a7 := Try.isAgg5
  have z7 := Try.sizeOf5
  have hS : Try.prog.underlying 47 = some (.struct (Try.prog.fieldsOf 47)) := by kernel_rfl
  have hp : Try.prog.stoodInHeld 47 = false := by kernel_rfl
  have aR := Try.isAgg45
  have zR := Try.sizeOf45
  have uR := Try.underlying45
  have aO := Try.isAgg43
  have zO := Try.sizeOf43
  have uO := Try.underlying43
  have E : (decide (x = y)) = (decide (x.t = y.t) && (decide (x.i = y.i) && ((decide (x.k = y.k) && (decide (x.p0 = y.p0) && (decide (x.p1 = y.p1) && (decide (x.p2 = y.p2) && (decide (x.p3 = y.p3) && (decide (x.p4 = y.p4) && (decide (x.p5 = y.p5) && true))))))) && (decide (x.v = y.v) && (decide (x.u = y.u) && (decide (x.a = y.a) && (decide (x.s = y.s) && ((decide (x.re = y.re) && (decide (x.rf = y.rf) && (decide (x.rk = y.rk) && (decide (x.rv = y.rv) && (decide (x.rc = y.rc) && true))))) && true)))))))) := by
    obtain ⟨q1, q2, q3, q4, q5, q6, q7, q8, q9, q10, q11, q12, q13, q14, q15, q16, q17, q18⟩ := x
    obtain ⟨r1, r2, r3, r4, r5, r6, r7, r8, r9, r10, r11, r12, r13, r14, r15, r16, r17, r18⟩ := y
    rw [Bool.eq_iff_iff]
    simp only [decide_eq_true_eq, C.mk.injEq, Bool.and_eq_true, Bool.and_true, and_assoc]
  rw [E]
  rw [show (10000 : Nat) = 9999 + 1 from rfl, run_equalIn_agg w 9999 47 _ _ hS hp]
  simp only [Program.fieldsOf, Try.underlying47]
  refine eqF_step w (by decide) (a := .int .i64 x.t) (b := .int .i64 y.t) (by go_simp) (by go_simp) (by go_simp; all_goals (first | exact bdI _ _ | exact bdB _ _)) ?_
  refine eqF_step w (by decide) (a := .int .i64 x.i) (b := .int .i64 y.i) (by go_simp) (by go_simp) (by go_simp; all_goals (first | exact bdI _ _ | exact bdB _ _)) ?_
  refine eqF_step w (by decide) (a := .agg #[.int .u8 x.k, .int .u64 x.p0, .int .u64 x.p1, .int .u64 x.p2, .int .u64 x.p3, .int .u64 x.p4, .int .u64 x.p5]) (b := .agg #[.int .u8 y.k, .int .u64 y.p0, .int .u64 y.p1, .int .u64 y.p2, .int .u64 y.p3, .int .u64 y.p4, .int .u64 y.p5]) (by go_simp) (by go_simp) (eqOp x y w) ?_
  refine eqF_step w (by decide) (a := .int .i64 x.v) (b := .int .i64 y.v) (by go_simp) (by go_simp) (by go_simp; all_goals (first | exact bdI _ _ | exact bdB _ _)) ?_
  refine eqF_step w (by decide) (a := .int .i64 x.u) (b := .int .i64 y.u) (by go_simp) (by go_simp) (by go_simp; all_goals (first | exact bdI _ _ | exact bdB _ _)) ?_
  refine eqF_step w (by decide) (a := .int .i64 x.a) (b := .int .i64 y.a) (by go_simp) (by go_simp) (by go_simp; all_goals (first | exact bdI _ _ | exact bdB _ _)) ?_
  refine eqF_step w (by decide) (a := .int .i64 x.s) (b := .int .i64 y.s) (by go_simp) (by go_simp) (by go_simp; all_goals (first | exact bdI _ _ | exact bdB _ _)) ?_
  refine eqF_step w (by decide) (a := .agg #[.int .i64 x.re, .bool x.rf, .int .u64 x.rk, .int .u64 x.rv, .int .i64 x.rc]) (b := .agg #[.int .i64 y.re, .bool y.rf, .int .u64 y.rk, .int .u64 y.rv, .int .i64 y.rc]) (by go_simp) (by go_simp) (eqRes x y w) ?_
  simp [Op.eqFields]
theorem guardC : Try.prog.eqGuardType Try.prog.depth 47 = false := by kernel_rfl
attribute [local go_sem] guardC
theorem ext_get {α : Type} {l m : List α} {n : Nat} (hl : l.length = n) (hm : m.length = n) (h : ∀ t, t < n → l[t]? = m[t]?) : l = m := by
  apply List.ext_getElem?
  intro i
  by_cases hi : i < n
  · exact h i hi
  · rw [List.getElem?_eq_none (by omega), List.getElem?_eq_none (by omega)]
theorem get_some {α : Type} {l : List α} {j : Nat} (h : j < l.length) : ∃ x, l[j]? = some x := ⟨_, List.getElem?_eq_getElem h⟩
theorem equC (A B : Option Addr) (m c q d : Nat) (l r : List C) (w : World) (hm : l.length = m) (hq : r.length = q) (hx : m ≤ 100000) (hy : q ≤ 100000) (hl : KC.Rd w A l) (hr : KC.Rd w B r) :
    Calls Try.prog 21 #[.slice A m c, .slice B q d] w fun e w' => e = .returned (.bool (decide (l = r))) ∧ Below w.heap.size w w' := by
  have HL := Lib.hid hl; clear hl
  have HR := Lib.hid hr; clear hr
  have HM := Lib.hid hm; clear hm
  have HQ := Lib.hid hq; clear hq
  by_cases hmq : m = q
  · subst hmq
    have t0 : ((m : Int) != m) = false := by simp
    go_enter Try.func21, Try.ntmps21
    go_wp2
    go_loopw [5] (fun i wr => ∃ j : Nat, j ≤ m ∧ i = .int .i64 j ∧ (∀ t : Nat, t < j → l[t]? = r[t]?) ∧ Below w.heap.size w wr) (fun i _ => (m - intOf i).toNat)
    case atStart => exact ⟨0, Nat.zero_le _, rfl, fun t h => absurd h (Nat.not_lt_zero _), Below.refl _ _⟩
    case round =>
      obtain ⟨j, hj, rfl, hE, bel⟩ := hrel
      have HE := Lib.hid hE; clear hE
      by_cases hlt : j < m
      · obtain ⟨x, hx⟩ := get_some (show j < l.length by rw [HM.out]; exact hlt)
        obtain ⟨y, hy⟩ := get_some (show j < r.length by rw [HQ.out]; exact hlt)
        obtain ⟨b, o, rfl, g⟩ := (HL.out.below bel) j x hx
        obtain ⟨b', o', rfl, k⟩ := (HR.out.below bel) j y hy
        rw [show KC.sz = 18 from rfl] at g k
        have GX := Lib.hid g
        have GY := Lib.hid k
        have t1 : decide ((j : Int) < m) = true := by simp; omega
        have hji : (j : Int) < m := by omega
        have ER := fun W => eqC x y W
        clear g k
        by_cases hxy : x = y
        · have HN := Lib.hid (show ∀ t : Nat, t < j + 1 → l[t]? = r[t]? from fun t ht => by
            by_cases h : t < j
            · exact HE.out t h
            · obtain rfl : t = j := by omega
              rw [hx, hy, hxy])
          rw [decide_eq_true hxy] at ER
          clear hx hy hxy
          go_wp2
          refine wp_region_quiet_below (by kernel_rfl) (by kernel_rfl) ?_
          repeat (first | (go_big_quiet_want; refine ldQ (.tmp 19) rfl b (o + j * 18) rfl x (at_regrown GX.out) ?_; go_simp; go_big_quiet_on) | (go_big_quiet_want; refine ldQ (.tmp 23) rfl b' (o' + j * 18) rfl y (at_regrown GY.out) ?_; go_simp; go_big_quiet_on) | quiet_step (fail))
          refine wpQuiet_nil ?_
          rintro w' ⟨q, rfl⟩
          go_wp2
          go_roundw
          case rel => exact ⟨j + 1, by omega, by go_num, HN.out, bel_bel bel (below_regrown _ _ _)⟩
          case measure => simp [intOf]; omega
        · have HN := Lib.hid (show ¬ l = r from fun h => hxy (by rw [h, hy] at hx; exact (Option.some.inj hx).symm))
          rw [decide_eq_false hxy] at ER
          clear hx hy hxy
          go_wp2
          refine wp_region_quiet_below (by kernel_rfl) (by kernel_rfl) ?_
          repeat (first | (go_big_quiet_want; refine ldQ (.tmp 19) rfl b (o + j * 18) rfl x (at_regrown GX.out) ?_; go_simp; go_big_quiet_on) | (go_big_quiet_want; refine ldQ (.tmp 23) rfl b' (o' + j * 18) rfl y (at_regrown GY.out) ?_; go_simp; go_big_quiet_on) | quiet_step (fail))
          refine wpQuiet_nil ?_
          rintro w' ⟨q, rfl⟩
          go_wp2
          go_ret
          exact ⟨ret_eq (congrArg Value.bool (decide_eq_false HN.out).symm), bel_bel bel (below_regrown _ _ _)⟩
      · obtain rfl : j = m := by omega
        have HN := Lib.hid (show l = r from ext_get HM.out HQ.out HE.out)
        have t1 : decide ((j : Int) < j) = false := by simp
        go_wp2
        go_ret
        exact ⟨ret_eq (congrArg Value.bool (decide_eq_true HN.out).symm), bel⟩
  · have HN := Lib.hid (show ¬ l = r from fun h => hmq (by rw [← HM.out, ← HQ.out, h]))
    have t0 : ((m : Int) != q) = true := by simp; omega
    go_enter Try.func21, Try.ntmps21
    go_wp2
    go_ret
    exact ⟨ret_eq (congrArg Value.bool (decide_eq_false HN.out).symm), Below.refl _ _⟩
theorem equI (A B : Option Addr) (m c q d : Nat) (l r : List Int) (w : World) (hm : l.length = m) (hq : r.length = q) (hx : m ≤ 100000) (hy : q ≤ 100000) (hl : KI.Rd w A l) (hr : KI.Rd w B r) :
    Calls Try.prog 22 #[.slice A m c, .slice B q d] w fun e w' => e = .returned (.bool (decide (l = r))) ∧ Below w.heap.size w w' := by
  have HL := Lib.hid hl; clear hl
  have HR := Lib.hid hr; clear hr
  have HM := Lib.hid hm; clear hm
  have HQ := Lib.hid hq; clear hq
  by_cases hmq : m = q
  · subst hmq
    have t0 : ((m : Int) != m) = false := by simp
    go_enter Try.func22, Try.ntmps22
    go_wp2
    go_loopw [5] (fun i wr => ∃ j : Nat, j ≤ m ∧ i = .int .i64 j ∧ (∀ t : Nat, t < j → l[t]? = r[t]?) ∧ Below w.heap.size w wr) (fun i _ => (m - intOf i).toNat)
    case atStart => exact ⟨0, Nat.zero_le _, rfl, fun t h => absurd h (Nat.not_lt_zero _), Below.refl _ _⟩
    case round =>
      obtain ⟨j, hj, rfl, hE, bel⟩ := hrel
      have HE := Lib.hid hE; clear hE
      by_cases hlt : j < m
      · obtain ⟨x, hx⟩ := get_some (show j < l.length by rw [HM.out]; exact hlt)
        obtain ⟨y, hy⟩ := get_some (show j < r.length by rw [HQ.out]; exact hlt)
        obtain ⟨b, o, rfl, g⟩ := (HL.out.below bel) j x hx
        obtain ⟨b', o', rfl, k⟩ := (HR.out.below bel) j y hy
        have g0 : wr.cell? ⟨b, o + j, none⟩ = some (.int .i64 x) := by have := g 0 _ rfl; rwa [show o + j * KI.sz + 0 = o + j by show o + j * 1 + 0 = o + j; omega] at this
        have k0 : wr.cell? ⟨b', o' + j, none⟩ = some (.int .i64 y) := by have := k 0 _ rfl; rwa [show o' + j * KI.sz + 0 = o' + j by show o' + j * 1 + 0 = o' + j; omega] at this
        have t1 : decide ((j : Int) < m) = true := by simp; omega
        have hji : (j : Int) < m := by omega
        clear g k
        by_cases hxy : x = y
        · have HN := Lib.hid (show ∀ t : Nat, t < j + 1 → l[t]? = r[t]? from fun t ht => by
            by_cases h : t < j
            · exact HE.out t h
            · obtain rfl : t = j := by omega
              rw [hx, hy, hxy])
          have t2 : (x != y) = false := by simp [hxy]
          have t3 : (x == y) = true := by simp [hxy]
          clear hx hy hxy
          go_wp2
          go_quiet (fail)
          go_wp2
          go_roundw
          case rel => exact ⟨j + 1, by omega, by go_num, HN.out, bel_drawN bel _⟩
          case measure => simp [intOf]; omega
        · have HN := Lib.hid (show ¬ l = r from fun h => hxy (by rw [h, hy] at hx; exact (Option.some.inj hx).symm))
          have t2 : (x != y) = true := by simp [hxy]
          have t3 : (x == y) = false := by simp [hxy]
          clear hx hy hxy
          go_wp2
          go_quiet (fail)
          go_wp2
          go_ret
          exact ⟨ret_eq (congrArg Value.bool (decide_eq_false HN.out).symm), bel_drawN bel _⟩
      · obtain rfl : j = m := by omega
        have HN := Lib.hid (show l = r from ext_get HM.out HQ.out HE.out)
        have t1 : decide ((j : Int) < j) = false := by simp
        go_wp2
        go_ret
        exact ⟨ret_eq (congrArg Value.bool (decide_eq_true HN.out).symm), bel⟩
  · have HN := Lib.hid (show ¬ l = r from fun h => hmq (by rw [← HM.out, ← HQ.out, h]))
    have t0 : ((m : Int) != q) = true := by simp; omega
    go_enter Try.func22, Try.ntmps22
    go_wp2
    go_ret
    exact ⟨ret_eq (congrArg Value.bool (decide_eq_false HN.out).symm), Below.refl _ _⟩
theorem equC_same (A B : Option Addr) (m c d : Nat) (l : List C) (w : World) (hm : l.length = m) (hx : m ≤ 100000) (hl : KC.Rd w A l) (hr : KC.Rd w B l) :
    Calls Try.prog 21 #[.slice A m c, .slice B m d] w fun e w' => e = .returned (.bool true) ∧ Below w.heap.size w w' := by
  have h := equC A B m c m d l l w hm hm hx hx hl hr
  rw [decide_eq_true rfl] at h
  exact h
theorem equI_same (A B : Option Addr) (m c d : Nat) (l : List Int) (w : World) (hm : l.length = m) (hx : m ≤ 100000) (hl : KI.Rd w A l) (hr : KI.Rd w B l) :
    Calls Try.prog 22 #[.slice A m c, .slice B m d] w fun e w' => e = .returned (.bool true) ∧ Below w.heap.size w w' := by
  have h := equI A B m c m d l l w hm hm hx hx hl hr
  rw [decide_eq_true rfl] at h
  exact h
theorem copyC_any (A : Option Addr) (n c : Nat) (l : List C) (w : World) (hl : l.length = n) (hx : n ≤ 1000) (hr : KC.Rd w A l) (hnil : A = none → c = 0) :
    Calls Try.prog 31 #[.slice A n c] w (RoPost KC l w) := by
  have HL := Lib.hid hl
  have HR := Lib.hid hr
  have HN := Lib.hid hnil
  clear hl hr hnil
  go_enter Try.func31, Try.ntmps31
  go_wp2_with (at_builtin; refine KC.appAll rfl (.const (.slice none 0 0)) (.tmp 3) rfl w w.heap.size 0 (.slice none 0 0) [] A n c l rfl rfl (KC.nil _ _) HL.out HR.out HN.out (by omega) (Nat.le_refl _) ?_; intro v1 w1 h1 b1)
  go_ret
  refine ⟨v1, rfl, ?_, b1⟩
  rw [HL.out]
  rw [Nat.zero_add, List.nil_append] at h1
  exact h1
theorem copyI_any (A : Option Addr) (n c : Nat) (l : List Int) (w : World) (hl : l.length = n) (hx : n ≤ 1000) (hr : KI.Rd w A l) (hnil : A = none → c = 0) :
    Calls Try.prog 24 #[.slice A n c] w (RoPost KI l w) := by
  have HL := Lib.hid hl
  have HR := Lib.hid hr
  have HN := Lib.hid hnil
  clear hl hr hnil
  go_enter Try.func24, Try.ntmps24
  go_wp2_with (at_builtin; refine KI.appAll rfl (.const (.slice none 0 0)) (.tmp 3) rfl w w.heap.size 0 (.slice none 0 0) [] A n c l rfl rfl (KI.nil _ _) HL.out HR.out HN.out (by omega) (Nat.le_refl _) ?_; intro v1 w1 h1 b1)
  go_ret
  refine ⟨v1, rfl, ?_, b1⟩
  rw [HL.out]
  rw [Nat.zero_add, List.nil_append] at h1
  exact h1
def fewL (l : List C) : List C := l.take 40
theorem fewL_len (l : List C) : (fewL l).length = min l.length 40 := by unfold fewL; rw [List.length_take, Nat.min_comm]
theorem few_len (l : List C) : (fewL l).length ≤ 40 := by rw [fewL_len]; omega
theorem fewL_bd {l : List C} (h : Bd l) : Bd (fewL l) := h.take 40
theorem take_rd {α : Type} {K : Kd α} {w : World} {A : Option Addr} {l : List α} (h : K.Rd w A l) (k : Nat) : K.Rd w A (l.take k) := fun i x hi => h i x (by
  rw [List.getElem?_take] at hi
  split at hi
  · exact hi
  · cases hi)
set_option maxHeartbeats 1000000 in
theorem few_any (A : Option Addr) (n c : Nat) (l : List C) (w : World) (hl : l.length = n) (hx : n ≤ maxLen) (hnc : n ≤ c) (hc : c ≤ maxLen) (hr : KC.Rd w A l) (hnil : A = none → c = 0) :
    Calls Try.prog 10 #[.slice A n c] w (RoPost KC (fewL l) w) := by
  unfold maxLen at hx hc
  by_cases hn : n ≤ 40
  · have hF : fewL l = l := List.take_of_length_le (by omega)
    have CC := Lib.hid (copyC_any A n c l w hl (by omega) hr hnil)
    rw [hF]
    have d0 : (if (40 : Int) < n then (40 : Int) else n) = n := if_neg (by omega)
    have d1 : min (n : Int) 40 = n := by omega
    have d2 : decide ((40 : Int) < n) = false := decide_eq_false (by omega)
    clear hl hr hnil hF
    go_enter Try.func10, Try.ntmps10
    go_wp2_with fail
    refine CC.out.mono ?_
    rintro e w1 ⟨v, rfl, ow, b1⟩
    go_wp2
    go_ret
    exact ⟨v, rfl, ow, b1⟩
  · have h80 : (fewL l).length = 40 := by rw [fewL_len]; omega
    have hne : A = none → c = 0 := hnil
    have CC := Lib.hid (copyC_any A 40 c (fewL l) w h80 (by omega) (take_rd hr 40) hnil)
    have d0 : (if (40 : Int) < n then (40 : Int) else n) = 40 := if_pos (by omega)
    have d1 : min (n : Int) 40 = 40 := by omega
    have d2 : decide ((40 : Int) < n) = true := decide_eq_true (by omega)
    have d3 : (40 : Int) < n := by omega
    have d4 : (40 : Int) ≤ c := by omega
    obtain ⟨b, o, rfl⟩ : ∃ b o, A = some ⟨b, o, none⟩ := by
      obtain ⟨b, o, e, _⟩ := KC.at_ hr (show 0 < l.length by omega)
      exact ⟨b, o, e⟩
    have d5 : 40 ≤ c := by omega
    clear hl hr hnil hne h80
    go_enter Try.func10, Try.ntmps10
    go_wp2_with fail
    refine CC.out.mono ?_
    rintro e w1 ⟨v, rfl, ow, b1⟩
    go_wp2
    go_ret
    exact ⟨v, rfl, ow, b1⟩
end Hi
end Go.Proofs.Ytgfhfcjjodcgdaa
