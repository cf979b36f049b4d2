/- Check of leapfrogref06 (written by tools/mk6chk.py): contract of the translated code. Conditions: at most 5000 changes. -/
import Derived.Test.YtbdllakbkienoaaPlC
import Derived.Deep.CutBlock
import Derived.Deep.CutRange
namespace Go.Proofs.Ytbdllakbkienoaa
open Go.RowKit Go.Sort
set_option linter.unusedVariables false
set_option linter.unusedSimpArgs false
namespace Pl
open Om (addr_lit bel_alloc bel_trans below_drewN ret_eq)
def eT (b : Bool) : Value := .int .i64 (if b then 0 else 2)
/-- the first j changes are in order -/
structure Gd (l : List Rc) (j : Nat) : Prop where
  one : ∀ (t : Nat) x, t < j → l[t]? = some x → okR x
  two : ∀ (t : Nat) x y, t + 1 < j → l[t]? = some x → l[t + 1]? = some y → x.k < y.k
theorem Gd.zero (l : List Rc) : Gd l 0 := ⟨fun t x h => absurd h (Nat.not_lt_zero _), fun t x y h => absurd h (Nat.not_lt_zero _)⟩
theorem Gd.next {l : List Rc} {j : Nat} {x : Rc} (h : Gd l j) (hx : l[j]? = some x) (ho : okR x) (hp : ∀ (i : Nat) y, i + 1 = j → l[i]? = some y → y.k < x.k) : Gd l (j + 1) := by
  refine ⟨fun t z ht hz => ?_, fun t z z' ht hz hz' => ?_⟩
  · by_cases e : t < j
    · exact h.one t z e hz
    · obtain rfl : t = j := by omega
      rw [hx] at hz; cases hz; exact ho
  · by_cases e : t + 1 < j
    · exact h.two t z z' e hz hz'
    · obtain rfl : t + 1 = j := by omega
      rw [hx] at hz'; cases hz'; exact hp t z rfl hz
theorem Gd.all {l : List Rc} {n : Nat} (hn : l.length = n) (h : Gd l n) : chk l := by
  refine ⟨fun x hx => ?_, fun j x y hx hy => h.two j x y ?_ hx hy⟩
  · obtain ⟨t, ht⟩ := List.mem_iff_getElem?.1 hx
    exact h.one t x (by have := (List.getElem?_eq_some_iff.1 ht).1; omega) ht
  · have := (List.getElem?_eq_some_iff.1 hy).1; omega
theorem bad_one {l : List Rc} {b : Bool} {j : Nat} {x : Rc} (hb : b = true ↔ chk l) (hx : l[j]? = some x) (h : ¬ okR x) : b = false := by
  cases b with
  | false => rfl
  | true => exact absurd ((hb.1 rfl).1 x (List.mem_of_getElem? hx)) h
theorem bad_two {l : List Rc} {b : Bool} {j : Nat} {x y : Rc} (hb : b = true ↔ chk l) (hy : l[j]? = some y) (hx : l[j + 1]? = some x) (h : ¬ y.k < x.k) : b = false := by
  cases b with
  | false => rfl
  | true => exact absurd ((hb.1 rfl).2 j y x hy hx) h
set_option maxRecDepth 100000 in
set_option maxHeartbeats 4000000 in
theorem checkR_any (A : Option Addr) (n c : Nat) (l : List Rc) (w : World) (hn : l.length = n) (hs : n ≤ 5000) (hr : Rd w A l) (b : Bool) (hb : b = true ↔ chk l) :
    Calls Try.prog 21 #[.slice A n c] w fun e w' => e = .returned (eT b) ∧ Below w.heap.size w w' := by
  have HR := Lib.hid hr; clear hr
  have HL := Lib.hid hn; clear hn
  have HB := Lib.hid hb; clear hb
  go_enter Try.func21, Try.ntmps21
  go_wp2
  go_loopw [3] (fun i wr => ∃ j : Nat, j ≤ n ∧ i = .int .i64 j ∧ Gd l j ∧ Below w.heap.size w wr) (fun i _ => (n - intOf i).toNat)
  case atStart => exact ⟨0, Nat.zero_le _, rfl, Gd.zero l, Below.refl _ _⟩
  case round =>
    obtain ⟨j, hj, rfl, hG, bel⟩ := hrel
    have HG := Lib.hid hG; clear hG
    by_cases hlt : j < n
    · obtain ⟨x, hx, _⟩ := getElem?_lt HL.out hlt
      have HX := Lib.hid hx
      obtain ⟨b1, o, eA, g0, g1, g2, g3, g4⟩ := (HR.out.below bel) j x hx
      subst eA
      have u0 : decide ((j : Int) < n) = true := decide_eq_true (by omega)
      have hji : (j : Int) < n := by omega
      clear hx
      go_upto_region 5 with fail
      have ba := bel_alloc (Below.refl wr.heap.size wr) (.cells #[.int .u64 x.k, .bool x.w, .int .u64 x.o, .bool x.i, .int .u64 x.n] 45)
      have bel2 := bel_trans bel ba
      have p0 : (wr.alloc (.cells #[.int .u64 x.k, .bool x.w, .int .u64 x.o, .bool x.i, .int .u64 x.n] 45)).cell? ⟨wr.heap.size, 0, none⟩ = some (.int .u64 x.k) := by simp
      have p1 : (wr.alloc (.cells #[.int .u64 x.k, .bool x.w, .int .u64 x.o, .bool x.i, .int .u64 x.n] 45)).cell? ⟨wr.heap.size, 1, none⟩ = some (.bool x.w) := by simp
      have p2 : (wr.alloc (.cells #[.int .u64 x.k, .bool x.w, .int .u64 x.o, .bool x.i, .int .u64 x.n] 45)).cell? ⟨wr.heap.size, 2, none⟩ = some (.int .u64 x.o) := by simp
      have p3 : (wr.alloc (.cells #[.int .u64 x.k, .bool x.w, .int .u64 x.o, .bool x.i, .int .u64 x.n] 45)).cell? ⟨wr.heap.size, 3, none⟩ = some (.bool x.i) := by simp
      have p4 : (wr.alloc (.cells #[.int .u64 x.k, .bool x.w, .int .u64 x.o, .bool x.i, .int .u64 x.n] 45)).cell? ⟨wr.heap.size, 4, none⟩ = some (.int .u64 x.n) := by simp
      generalize wr.alloc (.cells #[.int .u64 x.k, .bool x.w, .int .u64 x.o, .bool x.i, .int .u64 x.n] 45) = W5 at *
      generalize wr.heap.size = p at *
      clear g0 g1 g2 g3 g4 ba bel
      obtain ⟨xk, xw, xo, xi, xn⟩ := x
      simp only at p0 p1 p2 p3 p4
      cases j with
      | zero =>
        cases xw <;> cases xi
        · -- absent before and after
          have HN := Lib.hid (show b = false from bad_one HB.out HX.out (fun h => by simp [okR] at h))
          go_wp2
          go_quiet (fail)
          go_wp2
          go_ret
          exact ⟨by rw [HN.out]; rfl, below_drewN bel2 _⟩
        · by_cases ho : xo = 0
          · have t2 : (xo != 0) = false := by simp [ho]
            have HN := Lib.hid (HG.out.next HX.out (show okR ⟨xk, false, xo, true, xn⟩ from ⟨.inr rfl, fun _ => ho, fun h => by cases h⟩) (fun i y h => by omega))
            go_wp2
            go_quiet (fail)
            go_wp2
            go_roundw
            case rel => exact ⟨_, by omega, by go_num, HN.out, below_drewN bel2 _⟩
            case measure => simp [intOf]; omega
          · have t2 : (xo != 0) = true := by simp [ho]
            have HN := Lib.hid (show b = false from bad_one HB.out HX.out (fun h => ho (h.2.1 rfl)))
            go_wp2
            go_quiet (fail)
            go_wp2
            go_ret
            exact ⟨by rw [HN.out]; rfl, below_drewN bel2 _⟩
        · by_cases ho : xn = 0
          · have t2 : (xn != 0) = false := by simp [ho]
            have HN := Lib.hid (HG.out.next HX.out (show okR ⟨xk, true, xo, false, xn⟩ from ⟨.inl rfl, (fun h => by cases h), fun _ => ho⟩) (fun i y h => by omega))
            go_wp2
            go_quiet (fail)
            go_wp2
            go_roundw
            case rel => exact ⟨_, by omega, by go_num, HN.out, below_drewN bel2 _⟩
            case measure => simp [intOf]; omega
          · have t2 : (xn != 0) = true := by simp [ho]
            have HN := Lib.hid (show b = false from bad_one HB.out HX.out (fun h => ho (h.2.2 rfl)))
            go_wp2
            go_quiet (fail)
            go_wp2
            go_ret
            exact ⟨by rw [HN.out]; rfl, below_drewN bel2 _⟩
        · -- both
          have HN := Lib.hid (HG.out.next HX.out (show okR ⟨xk, true, xo, true, xn⟩ from ⟨.inl rfl, (fun h => by cases h), fun h => by cases h⟩) (fun i y h => by omega))
          go_wp2
          go_quiet (fail)
          go_wp2
          go_roundw
          case rel => exact ⟨_, by omega, by go_num, HN.out, below_drewN bel2 _⟩
          case measure => simp [intOf]; omega
      | succ i =>
        obtain ⟨y, hy, _⟩ := getElem?_lt HL.out (show i < n by omega)
        have HY := Lib.hid hy
        obtain ⟨b2, o2, eA, q0, _, _, _, _⟩ := (HR.out.below bel2) i y hy
        cases eA
        clear hy
        have u1 : decide ((0 : Int) < (i : Int) + 1) = true := decide_eq_true (by omega)
        have e1 : IntKind.i64.wrap ((i : Int) + 1 - 1) = i := by rw [IntWalk.i64_in _ (by omega)]; omega
        by_cases hk : y.k < xk
        · have t1 : decide (xk ≤ y.k) = false := decide_eq_false (by omega)
          cases xw <;> cases xi
          · -- absent before and after
            have HN := Lib.hid (show b = false from bad_one HB.out HX.out (fun h => by simp [okR] at h))
            go_wp2
            go_quiet (fail)
            go_wp2
            go_ret
            exact ⟨by rw [HN.out]; rfl, below_drewN bel2 _⟩
          · by_cases ho : xo = 0
            · have t2 : (xo != 0) = false := by simp [ho]
              have HN := Lib.hid (HG.out.next HX.out (show okR ⟨xk, false, xo, true, xn⟩ from ⟨.inr rfl, fun _ => ho, fun h => by cases h⟩) (fun i2 y2 h h2 => by cases h; rw [HY.out] at h2; cases h2; exact hk))
              go_wp2
              go_quiet (fail)
              go_wp2
              go_roundw
              case rel => exact ⟨_, by omega, by go_num, HN.out, below_drewN bel2 _⟩
              case measure => simp [intOf]; omega
            · have t2 : (xo != 0) = true := by simp [ho]
              have HN := Lib.hid (show b = false from bad_one HB.out HX.out (fun h => ho (h.2.1 rfl)))
              go_wp2
              go_quiet (fail)
              go_wp2
              go_ret
              exact ⟨by rw [HN.out]; rfl, below_drewN bel2 _⟩
          · by_cases ho : xn = 0
            · have t2 : (xn != 0) = false := by simp [ho]
              have HN := Lib.hid (HG.out.next HX.out (show okR ⟨xk, true, xo, false, xn⟩ from ⟨.inl rfl, (fun h => by cases h), fun _ => ho⟩) (fun i2 y2 h h2 => by cases h; rw [HY.out] at h2; cases h2; exact hk))
              go_wp2
              go_quiet (fail)
              go_wp2
              go_roundw
              case rel => exact ⟨_, by omega, by go_num, HN.out, below_drewN bel2 _⟩
              case measure => simp [intOf]; omega
            · have t2 : (xn != 0) = true := by simp [ho]
              have HN := Lib.hid (show b = false from bad_one HB.out HX.out (fun h => ho (h.2.2 rfl)))
              go_wp2
              go_quiet (fail)
              go_wp2
              go_ret
              exact ⟨by rw [HN.out]; rfl, below_drewN bel2 _⟩
          · -- both
            have HN := Lib.hid (HG.out.next HX.out (show okR ⟨xk, true, xo, true, xn⟩ from ⟨.inl rfl, (fun h => by cases h), fun h => by cases h⟩) (fun i2 y2 h h2 => by cases h; rw [HY.out] at h2; cases h2; exact hk))
            go_wp2
            go_quiet (fail)
            go_wp2
            go_roundw
            case rel => exact ⟨_, by omega, by go_num, HN.out, below_drewN bel2 _⟩
            case measure => simp [intOf]; omega
        · have t1 : decide (xk ≤ y.k) = true := decide_eq_true (by omega)
          have HN := Lib.hid (show b = false from bad_two HB.out HY.out HX.out hk)
          clear hk
          go_wp2
          go_quiet (fail)
          go_wp2
          go_ret
          exact ⟨by rw [HN.out]; rfl, below_drewN bel2 _⟩
    · obtain rfl : j = n := by omega
      have u0 : decide ((j : Int) < j) = false := decide_eq_false (by omega)
      have HN := Lib.hid (show b = true from HB.out.2 (HG.out.all HL.out))
      go_wp2
      go_ret
      exact ⟨by rw [HN.out]; rfl, bel⟩
end Pl
end Go.Proofs.Ytbdllakbkienoaa
