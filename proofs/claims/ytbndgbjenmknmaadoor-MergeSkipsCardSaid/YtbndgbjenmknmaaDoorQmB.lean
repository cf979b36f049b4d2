/- The search for an equal key among the candidates (slices.ContainsFunc with a bound method): contracts of the translated code. Conditions: the bounds of each number's kind. -/
import Derived.Test.YtbndgbjenmknmaaDoorQmA
namespace Go.Proofs.YtbndgbjenmknmaaDoor
open Go.RowKit Go.Sort
set_option linter.unusedVariables false
set_option linter.unusedSimpArgs false
namespace Hq
open Om (bel_alloc below_drewN)
def RdC (w : World) (A : Option Addr) (n : Nat) (a : Nat → Cd) : Prop := ∀ k, k < n → ∃ q, A = some ⟨q, 0, none⟩ ∧ w.cell? ⟨q, k * 3, none⟩ = some (.int .u64 (a k).k) ∧ w.cell? ⟨q, k * 3 + 1, none⟩ = some (.int .u64 (a k).v) ∧ w.cell? ⟨q, k * 3 + 2, none⟩ = some (.int .i64 (a k).l)
theorem RdC.below {w w' : World} {A : Option Addr} {n : Nat} {a : Nat → Cd} (h : RdC w A n a) (hb : Below w.heap.size w w') : RdC w' A n a := fun k hk => by
  obtain ⟨q, e, c0, c1, c2⟩ := h k hk
  have hq := World.block_lt_of_cell? w _ c0
  exact ⟨q, e, (hb.cell (p := ⟨q, k * 3, none⟩) hq).trans c0, (hb.cell (p := ⟨q, k * 3 + 1, none⟩) hq).trans c1, (hb.cell (p := ⟨q, k * 3 + 2, none⟩) hq).trans c2⟩
theorem Q0.rd {w : World} {b n : Nat} {v : Value} {a : Nat → Cd} (h : Q0 w b n v a) : ∃ A c, v = .slice A n c ∧ RdC w A n a ∧ n ≤ c ∧ (A = none → c = 0) := by
  rcases h.form with ⟨rfl, rfl⟩ | ⟨q, c, rfl, hq⟩
  · exact ⟨none, 0, rfl, fun k hk => absurd hk (Nat.not_lt_zero _), Nat.le_refl _, fun _ => rfl⟩
  · exact ⟨_, c, rfl, fun k hk => ⟨q, rfl, hq.cs k hk⟩, hq.nc, fun e => by cases e⟩
theorem collides_any (x y : Cd) (w : World) :
    Calls Tryd.prog 37 #[agg x, agg y] w fun e w' => e = .returned (.bool (x.k == y.k)) ∧ Below w.heap.size w w' := by
  have B0 := fun o1 o2 => bel_alloc (bel_alloc (Below.refl w.heap.size w) o1) o2
  unfold agg
  go_enter Tryd.func37, Tryd.ntmps37
  go_wp2
  go_ret
  exact ⟨rfl, B0 _ _⟩
/-- the candidate's own method, bound to it -/
def bnd (x : Cd) : Value := .func (.func 37) #[agg x] #[]
set_option maxRecDepth 100000 in
set_option maxHeartbeats 2000000 in
theorem index_no (A : Option Addr) (n c : Nat) (a : Nat → Cd) (x : Cd) (w : World) (hn : n ≤ 64) (hr : RdC w A n a) (hx : ∀ k, k < n → x.k ≠ (a k).k) :
    Calls Tryd.prog 51 #[.slice A n c, bnd x] w fun e w' => e = .returned (.int .i64 (-1)) ∧ Below w.heap.size w w' := by
  have HR := Lib.hid hr
  have HX := Lib.hid hx
  clear hr hx
  unfold bnd
  go_enter Tryd.func51, Tryd.ntmps51
  go_wp2
  go_loopw [8] (fun i wr => ∃ k : Nat, k ≤ n ∧ i = .int .i64 k ∧ Below w.heap.size w wr) (fun i _ => (64 - intOf i).toNat)
  case atStart => exact ⟨0, Nat.zero_le _, rfl, Below.refl _ _⟩
  case round =>
    obtain ⟨k, hk, rfl, bel⟩ := hrel
    by_cases hlt : k < n
    · obtain ⟨q, rfl, c0, c1, c2⟩ := (HR.out.below bel) k hlt
      have t0 : decide ((k : Int) < n) = true := decide_eq_true (by omega)
      have CC := collides_any x (a k) wr
      rw [beq_eq_false_iff_ne.2 (HX.out k hlt)] at CC
      have CC := Lib.hid CC
      unfold agg at CC
      unfold agg
      go_wp2_with fail
      refine CC.out.mono ?_
      rintro r w1 ⟨rfl, b1⟩
      have bel := bel.trans (b1.mono bel.size)
      clear CC
      go_wp2
      go_roundw
      case rel => exact ⟨k + 1, by omega, by go_num, bel⟩
      case measure => simp [intOf]; omega
    · have t0 : decide ((k : Int) < n) = false := decide_eq_false (by omega)
      go_wp2
      go_ret
      exact ⟨rfl, bel⟩
set_option maxRecDepth 100000 in
set_option maxHeartbeats 2000000 in
theorem index_yes (A : Option Addr) (n c j : Nat) (a : Nat → Cd) (x : Cd) (w : World) (hn : n ≤ 64) (hr : RdC w A n a) (hj : j < n) (hx : ∀ k, k < j → x.k ≠ (a k).k) (he : x.k = (a j).k) :
    Calls Tryd.prog 51 #[.slice A n c, bnd x] w fun e w' => e = .returned (.int .i64 j) ∧ Below w.heap.size w w' := by
  have HR := Lib.hid hr
  have HX := Lib.hid hx
  have HE := Lib.hid he
  clear hr hx he
  unfold bnd
  go_enter Tryd.func51, Tryd.ntmps51
  go_wp2
  go_loopw [8] (fun i wr => ∃ k : Nat, k ≤ j ∧ i = .int .i64 k ∧ Below w.heap.size w wr) (fun i _ => (64 - intOf i).toNat)
  case atStart => exact ⟨0, Nat.zero_le _, rfl, Below.refl _ _⟩
  case round =>
    obtain ⟨k, hk, rfl, bel⟩ := hrel
    obtain ⟨q, rfl, c0, c1, c2⟩ := (HR.out.below bel) k (by omega)
    have t0 : decide ((k : Int) < n) = true := decide_eq_true (by omega)
    have CC := collides_any x (a k) wr
    by_cases hlt : k < j
    · rw [beq_eq_false_iff_ne.2 (HX.out k hlt)] at CC
      have CC := Lib.hid CC
      unfold agg at CC
      unfold agg
      go_wp2_with fail
      refine CC.out.mono ?_
      rintro r w1 ⟨rfl, b1⟩
      have bel := bel.trans (b1.mono bel.size)
      clear CC
      go_wp2
      go_roundw
      case rel => exact ⟨k + 1, by omega, by go_num, bel⟩
      case measure => simp [intOf]; omega
    · obtain rfl : k = j := by omega
      rw [HE.out, beq_self_eq_true] at CC
      have CC := Lib.hid CC
      unfold agg at CC
      unfold agg
      go_wp2_with fail
      refine CC.out.mono ?_
      rintro r w1 ⟨rfl, b1⟩
      have bel := bel.trans (b1.mono bel.size)
      clear CC
      go_wp2
      go_ret
      exact ⟨rfl, bel⟩
theorem first_ex {P : Nat → Prop} : ∀ n, (∃ k, k < n ∧ P k) → ∃ j, j < n ∧ P j ∧ ∀ k, k < j → ¬ P k
  | 0, ⟨k, h, _⟩ => absurd h (Nat.not_lt_zero _)
  | n + 1, ⟨k, h, hp⟩ => by
    by_cases he : ∃ k, k < n ∧ P k
    · obtain ⟨j, h1, h2, h3⟩ := first_ex n he
      exact ⟨j, by omega, h2, h3⟩
    · have : k = n := Classical.byContradiction fun hn => he ⟨k, by omega, hp⟩
      subst this
      exact ⟨k, by omega, hp, fun i hi h => he ⟨i, hi, h⟩⟩
theorem contains_no (A : Option Addr) (n c : Nat) (a : Nat → Cd) (x : Cd) (w : World) (hn : n ≤ 64) (hr : RdC w A n a) (hx : ∀ k, k < n → x.k ≠ (a k).k) :
    Calls Tryd.prog 36 #[.slice A n c, bnd x] w fun e w' => e = .returned (.bool false) ∧ Below w.heap.size w w' := by
  have C := Lib.hid (index_no A n c a x w hn hr hx)
  clear hr hx
  generalize bnd x = f at *
  go_enter Tryd.func36, Tryd.ntmps36
  go_wp2_with fail
  refine C.out.mono ?_
  rintro r w1 ⟨rfl, b1⟩
  go_wp2
  go_ret
  exact ⟨rfl, b1⟩
theorem contains_yes (A : Option Addr) (n c : Nat) (a : Nat → Cd) (x : Cd) (w : World) (hn : n ≤ 64) (hr : RdC w A n a) (hx : ∃ k, k < n ∧ x.k = (a k).k) :
    Calls Tryd.prog 36 #[.slice A n c, bnd x] w fun e w' => e = .returned (.bool true) ∧ Below w.heap.size w w' := by
  obtain ⟨j, hj, he, hf⟩ := first_ex n hx
  have C := Lib.hid (index_yes A n c j a x w hn hr hj hf he)
  clear hr hx hf he
  generalize bnd x = f at *
  have t0 : decide (0 ≤ (j : Int)) = true := decide_eq_true (by omega)
  go_enter Tryd.func36, Tryd.ntmps36
  go_wp2_with fail
  refine C.out.mono ?_
  rintro r w1 ⟨rfl, b1⟩
  go_wp2
  go_ret
  exact ⟨rfl, b1⟩
end Hq
end Go.Proofs.YtbndgbjenmknmaaDoor
