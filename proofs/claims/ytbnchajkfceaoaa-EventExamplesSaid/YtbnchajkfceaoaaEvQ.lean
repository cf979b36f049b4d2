/- leapfrogkit: EqualSections, EqualWaits, EqualEvents, CopyEvents; leapfroglaw11: few, example: contracts of the translated code. Conditions: those of each lemma. Written by tools/mk11eq.py. -/
import Derived.Test.YtbnchajkfceaoaaEvI
namespace Go.Proofs.Ytbnchajkfceaoaa
open Go.RowKit Go.Sort
set_option linter.unusedVariables false
set_option linter.unusedSimpArgs false
namespace Ev
theorem ext_get {α : Type} {l m : List α} {n : Nat} (hl : l.length = n) (hm : m.length = n) (h : ∀ t, t < n → l[t]? = m[t]?) : l = m := by
  apply List.ext_getElem?
  intro i
  by_cases hi : i < n
  · exact h i hi
  · rw [List.getElem?_eq_none (by omega), List.getElem?_eq_none (by omega)]
theorem get_some {α : Type} {l : List α} {j : Nat} (h : j < l.length) : ∃ x, l[j]? = some x := ⟨_, List.getElem?_eq_getElem h⟩
/-- '==' of two elements -/
theorem eqS (x y : I) (w : World) : (Op.equalIn 10000 41 (.agg #[.int .i64 x.t, .int .u64 x.v, .int .i64 x.a, .int .i64 x.b]) (.agg #[.int .i64 y.t, .int .u64 y.v, .int .i64 y.a, .int .i64 y.b])).run Try.prog w = .ok (decide (x = y)) w := by
  have u3 := Try.underlying39
  have a3 := Try.isAgg39
  have z3 := Try.sizeOf39
  have u5 := Try.underlying5
  have a5 := Try.isAgg5
  have z5 := Try.sizeOf5
  have u6 := Try.underlying3
  have a6 := Try.isAgg3
  have z6 := Try.sizeOf3
  have hS : Try.prog.underlying 41 = some (.struct (Try.prog.fieldsOf 41)) := by kernel_rfl
  have hp : Try.prog.stoodInHeld 41 = false := by kernel_rfl
  rw [show (10000 : Nat) = 9999 + 1 from rfl, run_equalIn_agg w 9999 41 _ _ hS hp]
  simp only [Program.fieldsOf, Try.underlying41]
  go_simp
  obtain ⟨p, q, r, s⟩ := x
  obtain ⟨p', q', r', s'⟩ := y
  simp only [I.mk.injEq]
  by_cases h1 : p = p' <;> by_cases h2 : q = q' <;> by_cases h3 : r = r' <;> by_cases h4 : s = s' <;> simp [h1, h2, h3, h4]
theorem guardS : Try.prog.eqGuardType Try.prog.depth 41 = false := by kernel_rfl
attribute [local go_sem] guardS
set_option maxRecDepth 100000 in
set_option maxHeartbeats 1000000 in
theorem equS (A B : Option Addr) (m c q d : Nat) (l r : List I) (w : World) (hm : l.length = m) (hq : r.length = q) (hx : m ≤ 100000) (hy : q ≤ 100000) (hl : KS.Rd w A l) (hr : KS.Rd w B r) :
    Calls Try.prog 16 #[.slice A m c, .slice B q d] w fun e w' => e = .returned (.bool (decide (l = r))) ∧ Below w.heap.size w w' := by
  have HL := Lib.hid hl; clear hl
  have HR := Lib.hid hr; clear hr
  have HM := Lib.hid hm; clear hm
  have HQ := Lib.hid hq; clear hq
  by_cases hmq : m = q
  · subst hmq
    have t0 : ((m : Int) != m) = false := by simp
    go_enter Try.func16, Try.ntmps16
    go_wp2
    go_loopw [5] (fun i wr => ∃ j : Nat, j ≤ m ∧ i = .int .i64 j ∧ (∀ t : Nat, t < j → l[t]? = r[t]?) ∧ Below w.heap.size w wr) (fun i _ => (m - intOf i).toNat)
    case atStart => exact ⟨0, Nat.zero_le _, rfl, fun t h => absurd h (Nat.not_lt_zero _), Below.refl _ _⟩
    case round =>
      obtain ⟨j, hj, rfl, hE, bel⟩ := hrel
      have HE := Lib.hid hE; clear hE
      by_cases hlt : j < m
      · obtain ⟨x, hx⟩ := get_some (show j < l.length by rw [HM.out]; exact hlt)
        obtain ⟨y, hy⟩ := get_some (show j < r.length by rw [HQ.out]; exact hlt)
        obtain ⟨b, o, rfl, g⟩ := (HL.out.below bel) j x hx
        obtain ⟨b', o', rfl, k⟩ := (HR.out.below bel) j y hy
        obtain ⟨g0, g1, g2, g3⟩ := KS.cells g
        obtain ⟨k0, k1, k2, k3⟩ := KS.cells k
        simp only [show KS.sz = 4 from rfl] at g0 g1 g2 g3 k0 k1 k2 k3
        have t1 : decide ((j : Int) < m) = true := by simp; omega
        have hji : (j : Int) < m := by omega
        have ER := fun W => eqS x y W
        clear g k
        by_cases hxy : x = y
        · have HN := Lib.hid (show ∀ t : Nat, t < j + 1 → l[t]? = r[t]? from fun t ht => by
            by_cases h : t < j
            · exact HE.out t h
            · obtain rfl : t = j := by omega
              rw [hx, hy, hxy])
          rw [decide_eq_true hxy] at ER
          clear hx hy hxy
          go_wp2
          go_quiet (fail)
          go_wp2
          go_roundw
          case rel => exact ⟨j + 1, by omega, by go_num, HN.out, bel_drawN bel _⟩
          case measure => simp [intOf]; omega
        · have HN := Lib.hid (show ¬ l = r from fun h => hxy (by rw [h, hy] at hx; exact (Option.some.inj hx).symm))
          rw [decide_eq_false hxy] at ER
          clear hx hy hxy
          go_wp2
          go_quiet (fail)
          go_wp2
          go_ret
          exact ⟨ret_eq (congrArg Value.bool (decide_eq_false HN.out).symm), bel_drawN bel _⟩
      · obtain rfl : j = m := by omega
        have HN := Lib.hid (show l = r from ext_get HM.out HQ.out HE.out)
        have t1 : decide ((j : Int) < j) = false := by simp
        go_wp2
        go_ret
        exact ⟨ret_eq (congrArg Value.bool (decide_eq_true HN.out).symm), bel⟩
  · have HN := Lib.hid (show ¬ l = r from fun h => hmq (by rw [← HM.out, ← HQ.out, h]))
    have t0 : ((m : Int) != q) = true := by simp; omega
    go_enter Try.func16, Try.ntmps16
    go_wp2
    go_ret
    exact ⟨ret_eq (congrArg Value.bool (decide_eq_false HN.out).symm), Below.refl _ _⟩
theorem equS_same (A B : Option Addr) (m c d : Nat) (l : List I) (w : World) (hm : l.length = m) (hx : m ≤ 100000) (hl : KS.Rd w A l) (hr : KS.Rd w B l) :
    Calls Try.prog 16 #[.slice A m c, .slice B m d] w fun e w' => e = .returned (.bool true) ∧ Below w.heap.size w w' := by
  have h := equS A B m c m d l l w hm hm hx hx hl hr
  rw [decide_eq_true rfl] at h
  exact h
/-- '==' of two elements -/
theorem eqW (x y : I) (w : World) : (Op.equalIn 10000 43 (.agg #[.int .i64 x.t, .int .u64 x.v, .int .i64 x.a, .int .i64 x.b]) (.agg #[.int .i64 y.t, .int .u64 y.v, .int .i64 y.a, .int .i64 y.b])).run Try.prog w = .ok (decide (x = y)) w := by
  have u3 := Try.underlying39
  have a3 := Try.isAgg39
  have z3 := Try.sizeOf39
  have u5 := Try.underlying5
  have a5 := Try.isAgg5
  have z5 := Try.sizeOf5
  have u6 := Try.underlying3
  have a6 := Try.isAgg3
  have z6 := Try.sizeOf3
  have hS : Try.prog.underlying 43 = some (.struct (Try.prog.fieldsOf 43)) := by kernel_rfl
  have hp : Try.prog.stoodInHeld 43 = false := by kernel_rfl
  rw [show (10000 : Nat) = 9999 + 1 from rfl, run_equalIn_agg w 9999 43 _ _ hS hp]
  simp only [Program.fieldsOf, Try.underlying43]
  go_simp
  obtain ⟨p, q, r, s⟩ := x
  obtain ⟨p', q', r', s'⟩ := y
  simp only [I.mk.injEq]
  by_cases h1 : p = p' <;> by_cases h2 : q = q' <;> by_cases h3 : r = r' <;> by_cases h4 : s = s' <;> simp [h1, h2, h3, h4]
theorem guardW : Try.prog.eqGuardType Try.prog.depth 43 = false := by kernel_rfl
attribute [local go_sem] guardW
set_option maxRecDepth 100000 in
set_option maxHeartbeats 1000000 in
theorem equW (A B : Option Addr) (m c q d : Nat) (l r : List I) (w : World) (hm : l.length = m) (hq : r.length = q) (hx : m ≤ 100000) (hy : q ≤ 100000) (hl : KW.Rd w A l) (hr : KW.Rd w B r) :
    Calls Try.prog 17 #[.slice A m c, .slice B q d] w fun e w' => e = .returned (.bool (decide (l = r))) ∧ Below w.heap.size w w' := by
  have HL := Lib.hid hl; clear hl
  have HR := Lib.hid hr; clear hr
  have HM := Lib.hid hm; clear hm
  have HQ := Lib.hid hq; clear hq
  by_cases hmq : m = q
  · subst hmq
    have t0 : ((m : Int) != m) = false := by simp
    go_enter Try.func17, Try.ntmps17
    go_wp2
    go_loopw [5] (fun i wr => ∃ j : Nat, j ≤ m ∧ i = .int .i64 j ∧ (∀ t : Nat, t < j → l[t]? = r[t]?) ∧ Below w.heap.size w wr) (fun i _ => (m - intOf i).toNat)
    case atStart => exact ⟨0, Nat.zero_le _, rfl, fun t h => absurd h (Nat.not_lt_zero _), Below.refl _ _⟩
    case round =>
      obtain ⟨j, hj, rfl, hE, bel⟩ := hrel
      have HE := Lib.hid hE; clear hE
      by_cases hlt : j < m
      · obtain ⟨x, hx⟩ := get_some (show j < l.length by rw [HM.out]; exact hlt)
        obtain ⟨y, hy⟩ := get_some (show j < r.length by rw [HQ.out]; exact hlt)
        obtain ⟨b, o, rfl, g⟩ := (HL.out.below bel) j x hx
        obtain ⟨b', o', rfl, k⟩ := (HR.out.below bel) j y hy
        obtain ⟨g0, g1, g2, g3⟩ := KW.cells g
        obtain ⟨k0, k1, k2, k3⟩ := KW.cells k
        simp only [show KW.sz = 4 from rfl] at g0 g1 g2 g3 k0 k1 k2 k3
        have t1 : decide ((j : Int) < m) = true := by simp; omega
        have hji : (j : Int) < m := by omega
        have ER := fun W => eqW x y W
        clear g k
        by_cases hxy : x = y
        · have HN := Lib.hid (show ∀ t : Nat, t < j + 1 → l[t]? = r[t]? from fun t ht => by
            by_cases h : t < j
            · exact HE.out t h
            · obtain rfl : t = j := by omega
              rw [hx, hy, hxy])
          rw [decide_eq_true hxy] at ER
          clear hx hy hxy
          go_wp2
          go_quiet (fail)
          go_wp2
          go_roundw
          case rel => exact ⟨j + 1, by omega, by go_num, HN.out, bel_drawN bel _⟩
          case measure => simp [intOf]; omega
        · have HN := Lib.hid (show ¬ l = r from fun h => hxy (by rw [h, hy] at hx; exact (Option.some.inj hx).symm))
          rw [decide_eq_false hxy] at ER
          clear hx hy hxy
          go_wp2
          go_quiet (fail)
          go_wp2
          go_ret
          exact ⟨ret_eq (congrArg Value.bool (decide_eq_false HN.out).symm), bel_drawN bel _⟩
      · obtain rfl : j = m := by omega
        have HN := Lib.hid (show l = r from ext_get HM.out HQ.out HE.out)
        have t1 : decide ((j : Int) < j) = false := by simp
        go_wp2
        go_ret
        exact ⟨ret_eq (congrArg Value.bool (decide_eq_true HN.out).symm), bel⟩
  · have HN := Lib.hid (show ¬ l = r from fun h => hmq (by rw [← HM.out, ← HQ.out, h]))
    have t0 : ((m : Int) != q) = true := by simp; omega
    go_enter Try.func17, Try.ntmps17
    go_wp2
    go_ret
    exact ⟨ret_eq (congrArg Value.bool (decide_eq_false HN.out).symm), Below.refl _ _⟩
theorem equW_same (A B : Option Addr) (m c d : Nat) (l : List I) (w : World) (hm : l.length = m) (hx : m ≤ 100000) (hl : KW.Rd w A l) (hr : KW.Rd w B l) :
    Calls Try.prog 17 #[.slice A m c, .slice B m d] w fun e w' => e = .returned (.bool true) ∧ Below w.heap.size w w' := by
  have h := equW A B m c m d l l w hm hm hx hx hl hr
  rw [decide_eq_true rfl] at h
  exact h
/-- '==' of two elements -/
theorem eqE (x y : E) (w : World) : (Op.equalIn 10000 57 (.agg #[.int .i64 x.s, .int .i64 x.t, .int .u8 x.k, .int .u64 x.v]) (.agg #[.int .i64 y.s, .int .i64 y.t, .int .u8 y.k, .int .u64 y.v])).run Try.prog w = .ok (decide (x = y)) w := by
  have u3 := Try.underlying39
  have a3 := Try.isAgg39
  have z3 := Try.sizeOf39
  have u5 := Try.underlying5
  have a5 := Try.isAgg5
  have z5 := Try.sizeOf5
  have u6 := Try.underlying3
  have a6 := Try.isAgg3
  have z6 := Try.sizeOf3
  have hS : Try.prog.underlying 57 = some (.struct (Try.prog.fieldsOf 57)) := by kernel_rfl
  have hp : Try.prog.stoodInHeld 57 = false := by kernel_rfl
  rw [show (10000 : Nat) = 9999 + 1 from rfl, run_equalIn_agg w 9999 57 _ _ hS hp]
  simp only [Program.fieldsOf, Try.underlying57]
  go_simp
  obtain ⟨p, q, r, s⟩ := x
  obtain ⟨p', q', r', s'⟩ := y
  simp only [E.mk.injEq]
  by_cases h1 : p = p' <;> by_cases h2 : q = q' <;> by_cases h3 : r = r' <;> by_cases h4 : s = s' <;> simp [h1, h2, h3, h4]
theorem guardE : Try.prog.eqGuardType Try.prog.depth 57 = false := by kernel_rfl
attribute [local go_sem] guardE
set_option maxRecDepth 100000 in
set_option maxHeartbeats 1000000 in
theorem equE (A B : Option Addr) (m c q d : Nat) (l r : List E) (w : World) (hm : l.length = m) (hq : r.length = q) (hx : m ≤ 100000) (hy : q ≤ 100000) (hl : KE.Rd w A l) (hr : KE.Rd w B r) :
    Calls Try.prog 18 #[.slice A m c, .slice B q d] w fun e w' => e = .returned (.bool (decide (l = r))) ∧ Below w.heap.size w w' := by
  have HL := Lib.hid hl; clear hl
  have HR := Lib.hid hr; clear hr
  have HM := Lib.hid hm; clear hm
  have HQ := Lib.hid hq; clear hq
  by_cases hmq : m = q
  · subst hmq
    have t0 : ((m : Int) != m) = false := by simp
    go_enter Try.func18, Try.ntmps18
    go_wp2
    go_loopw [5] (fun i wr => ∃ j : Nat, j ≤ m ∧ i = .int .i64 j ∧ (∀ t : Nat, t < j → l[t]? = r[t]?) ∧ Below w.heap.size w wr) (fun i _ => (m - intOf i).toNat)
    case atStart => exact ⟨0, Nat.zero_le _, rfl, fun t h => absurd h (Nat.not_lt_zero _), Below.refl _ _⟩
    case round =>
      obtain ⟨j, hj, rfl, hE, bel⟩ := hrel
      have HE := Lib.hid hE; clear hE
      by_cases hlt : j < m
      · obtain ⟨x, hx⟩ := get_some (show j < l.length by rw [HM.out]; exact hlt)
        obtain ⟨y, hy⟩ := get_some (show j < r.length by rw [HQ.out]; exact hlt)
        obtain ⟨b, o, rfl, g⟩ := (HL.out.below bel) j x hx
        obtain ⟨b', o', rfl, k⟩ := (HR.out.below bel) j y hy
        obtain ⟨g0, g1, g2, g3⟩ := KE.cells g
        obtain ⟨k0, k1, k2, k3⟩ := KE.cells k
        simp only [show KE.sz = 4 from rfl] at g0 g1 g2 g3 k0 k1 k2 k3
        have t1 : decide ((j : Int) < m) = true := by simp; omega
        have hji : (j : Int) < m := by omega
        have ER := fun W => eqE x y W
        clear g k
        by_cases hxy : x = y
        · have HN := Lib.hid (show ∀ t : Nat, t < j + 1 → l[t]? = r[t]? from fun t ht => by
            by_cases h : t < j
            · exact HE.out t h
            · obtain rfl : t = j := by omega
              rw [hx, hy, hxy])
          rw [decide_eq_true hxy] at ER
          clear hx hy hxy
          go_wp2
          go_quiet (fail)
          go_wp2
          go_roundw
          case rel => exact ⟨j + 1, by omega, by go_num, HN.out, bel_drawN bel _⟩
          case measure => simp [intOf]; omega
        · have HN := Lib.hid (show ¬ l = r from fun h => hxy (by rw [h, hy] at hx; exact (Option.some.inj hx).symm))
          rw [decide_eq_false hxy] at ER
          clear hx hy hxy
          go_wp2
          go_quiet (fail)
          go_wp2
          go_ret
          exact ⟨ret_eq (congrArg Value.bool (decide_eq_false HN.out).symm), bel_drawN bel _⟩
      · obtain rfl : j = m := by omega
        have HN := Lib.hid (show l = r from ext_get HM.out HQ.out HE.out)
        have t1 : decide ((j : Int) < j) = false := by simp
        go_wp2
        go_ret
        exact ⟨ret_eq (congrArg Value.bool (decide_eq_true HN.out).symm), bel⟩
  · have HN := Lib.hid (show ¬ l = r from fun h => hmq (by rw [← HM.out, ← HQ.out, h]))
    have t0 : ((m : Int) != q) = true := by simp; omega
    go_enter Try.func18, Try.ntmps18
    go_wp2
    go_ret
    exact ⟨ret_eq (congrArg Value.bool (decide_eq_false HN.out).symm), Below.refl _ _⟩
theorem equE_same (A B : Option Addr) (m c d : Nat) (l : List E) (w : World) (hm : l.length = m) (hx : m ≤ 100000) (hl : KE.Rd w A l) (hr : KE.Rd w B l) :
    Calls Try.prog 18 #[.slice A m c, .slice B m d] w fun e w' => e = .returned (.bool true) ∧ Below w.heap.size w w' := by
  have h := equE A B m c m d l l w hm hm hx hx hl hr
  rw [decide_eq_true rfl] at h
  exact h
theorem copyE_any (A : Option Addr) (n c : Nat) (l : List E) (w : World) (hl : l.length = n) (hx : n ≤ 1000) (hr : KE.Rd w A l) (hnil : A = none → c = 0) :
    Calls Try.prog 29 #[.slice A n c] w (RoPost KE l w) := by
  have HL := Lib.hid hl
  have HR := Lib.hid hr
  have HN := Lib.hid hnil
  clear hl hr hnil
  go_enter Try.func29, Try.ntmps29
  go_wp2_with (at_builtin; refine KE.appAll rfl (.const (.slice none 0 0)) (.tmp 3) rfl w w.heap.size 0 (.slice none 0 0) [] A n c l rfl rfl (KE.nil _ _) HL.out HR.out HN.out (by omega) (Nat.le_refl _) ?_; intro v1 w1 h1 b1)
  go_ret
  refine ⟨v1, rfl, ?_, b1⟩
  rw [HL.out]
  rw [Nat.zero_add, List.nil_append] at h1
  exact h1
def fewL (l : List E) : List E := l.take 80
theorem fewL_len (l : List E) : (fewL l).length = min l.length 80 := by unfold fewL; rw [List.length_take, Nat.min_comm]
theorem few_len (l : List E) : (fewL l).length ≤ 80 := by rw [fewL_len]; omega
theorem take_rd {w : World} {A : Option Addr} {l : List E} (h : KE.Rd w A l) (k : Nat) : KE.Rd w A (l.take k) := fun i x hi => h i x (by
  rw [List.getElem?_take] at hi
  split at hi
  · exact hi
  · cases hi)
set_option maxHeartbeats 1000000 in
theorem few_any (A : Option Addr) (n c : Nat) (l : List E) (w : World) (hl : l.length = n) (hx : n ≤ maxLen) (hnc : n ≤ c) (hc : c ≤ maxLen) (hr : KE.Rd w A l) (hnil : A = none → c = 0) :
    Calls Try.prog 9 #[.slice A n c] w (RoPost KE (fewL l) w) := by
  unfold maxLen at hx hc
  by_cases hn : n ≤ 80
  · have hF : fewL l = l := List.take_of_length_le (by omega)
    have CC := Lib.hid (copyE_any A n c l w hl (by omega) hr hnil)
    rw [hF]
    have d0 : (if (80 : Int) < n then (80 : Int) else n) = n := if_neg (by omega)
    have d1 : min (n : Int) 80 = n := by omega
    have d2 : decide ((80 : Int) < n) = false := decide_eq_false (by omega)
    clear hl hr hnil hF
    go_enter Try.func9, Try.ntmps9
    go_wp2_with fail
    refine CC.out.mono ?_
    rintro e w1 ⟨v, rfl, ow, b1⟩
    go_wp2
    go_ret
    exact ⟨v, rfl, ow, b1⟩
  · have h80 : (fewL l).length = 80 := by rw [fewL_len]; omega
    have hne : A = none → c = 0 := hnil
    have CC := Lib.hid (copyE_any A 80 c (fewL l) w h80 (by omega) (take_rd hr 80) hnil)
    have d0 : (if (80 : Int) < n then (80 : Int) else n) = 80 := if_pos (by omega)
    have d1 : min (n : Int) 80 = 80 := by omega
    have d2 : decide ((80 : Int) < n) = true := decide_eq_true (by omega)
    have d3 : (80 : Int) < n := by omega
    have d4 : (80 : Int) ≤ c := by omega
    obtain ⟨b, o, rfl⟩ : ∃ b o, A = some ⟨b, o, none⟩ := by
      obtain ⟨b, o, e, _⟩ := KE.at_ hr (show 0 < l.length by omega)
      exact ⟨b, o, e⟩
    have d5 : 80 ≤ c := by omega
    clear hl hr hnil hne h80
    go_enter Try.func9, Try.ntmps9
    go_wp2_with fail
    refine CC.out.mono ?_
    rintro e w1 ⟨v, rfl, ow, b1⟩
    go_wp2
    go_ret
    exact ⟨v, rfl, ow, b1⟩
/-- the events of the chapter's examples -/
def xE : List E := [⟨1, 0, 1, 3⟩, ⟨2, 1, 3, 8⟩, ⟨4, 0, 2, 3⟩, ⟨5, 1, 4, 8⟩, ⟨7, 1, 3, 1⟩, ⟨7, 1, 4, 1⟩]
theorem example_any (w : World) : Calls Try.prog 28 #[] w (fun e w' => e = .returned (.slice (some ⟨w.heap.size, 0, none⟩) 6 6) ∧ w'.ownsRow w.heap.size KE.E KE.sz (.slice (some ⟨w.heap.size, 0, none⟩) 6 6) xE.length (KE.flat xE) ∧ Below w.heap.size w w') := by
  go_enter Try.func28, Try.ntmps28
  go_wp2
  go_ret
  refine ⟨rfl, ?_, bel_alloc (Below.refl _ _) _⟩
  exact World.ownsRow_lit w #[.int .i64 1, .int .i64 0, .int .u8 1, .int .u64 3, .int .i64 2, .int .i64 1, .int .u8 3, .int .u64 8, .int .i64 4, .int .i64 0, .int .u8 2, .int .u64 3, .int .i64 5, .int .i64 1, .int .u8 4, .int .u64 8, .int .i64 7, .int .i64 1, .int .u8 3, .int .u64 1, .int .i64 7, .int .i64 1, .int .u8 4, .int .u64 1] 6 (Nat.le_refl _) (by unfold maxLen; omega) rfl
end Ev
end Go.Proofs.Ytbnchajkfceaoaa
