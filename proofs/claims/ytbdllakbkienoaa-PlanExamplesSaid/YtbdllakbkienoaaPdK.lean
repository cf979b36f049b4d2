/- Check of package plan: contract of the translated code. Conditions: at most 5000 changes. -/
import Derived.Test.YtbdllakbkienoaaPdH
import Derived.Deep.CutBlock
import Derived.Deep.CutRange
namespace Go.Proofs.Ytbdllakbkienoaa
open Go.RowKit Go.Sort
set_option linter.unusedVariables false
set_option linter.unusedSimpArgs false
namespace Pl
open Om (addr_lit bel_alloc bel_trans below_drewN ret_eq)
set_option maxRecDepth 100000 in
set_option maxHeartbeats 4000000 in
theorem checkP_any (A : Option Addr) (n c : Nat) (l : List Rc) (w : World) (hn : l.length = n) (hs : n ≤ 5000) (hr : Rd w A l) (b : Bool) (hb : b = true ↔ chk l) :
    Calls Try.prog 20 #[.slice A n c] w fun e w' => e = .returned (eT b) ∧ Below w.heap.size w w' := by
  have HR := Lib.hid hr; clear hr
  have HL := Lib.hid hn; clear hn
  have HB := Lib.hid hb; clear hb
  go_enter Try.func20, Try.ntmps20
  go_wp2
  go_loopw [7] (fun i wr => ∃ j : Nat, j ≤ n ∧ i = .int .i64 j ∧ Gd l j ∧ Below w.heap.size w wr) (fun i _ => (n - intOf i).toNat)
  case atStart => exact ⟨0, Nat.zero_le _, rfl, Gd.zero l, Below.refl _ _⟩
  case round =>
    obtain ⟨j, hj, rfl, hG, bel⟩ := hrel
    have HG := Lib.hid hG; clear hG
    by_cases hlt : j < n
    · obtain ⟨x, hx, _⟩ := getElem?_lt HL.out hlt
      have HX := Lib.hid hx
      obtain ⟨b1, o, eA, g0, g1, g2, g3, g4⟩ := (HR.out.below bel) j x hx
      subst eA
      have u0 : decide ((j : Int) < n) = true := decide_eq_true (by omega)
      have hji : (j : Int) < n := by omega
      clear hx
      go_upto_region 4 with fail
      have ba := bel_alloc (Below.refl wr.heap.size wr) (.cells #[.int .u64 x.k, .bool x.w, .int .u64 x.o, .bool x.i, .int .u64 x.n] 45)
      have bel2 := bel_trans bel ba
      have p0 : (wr.alloc (.cells #[.int .u64 x.k, .bool x.w, .int .u64 x.o, .bool x.i, .int .u64 x.n] 45)).cell? ⟨wr.heap.size, 0, none⟩ = some (.int .u64 x.k) := by simp
      have p1 : (wr.alloc (.cells #[.int .u64 x.k, .bool x.w, .int .u64 x.o, .bool x.i, .int .u64 x.n] 45)).cell? ⟨wr.heap.size, 1, none⟩ = some (.bool x.w) := by simp
      have p2 : (wr.alloc (.cells #[.int .u64 x.k, .bool x.w, .int .u64 x.o, .bool x.i, .int .u64 x.n] 45)).cell? ⟨wr.heap.size, 2, none⟩ = some (.int .u64 x.o) := by simp
      have p3 : (wr.alloc (.cells #[.int .u64 x.k, .bool x.w, .int .u64 x.o, .bool x.i, .int .u64 x.n] 45)).cell? ⟨wr.heap.size, 3, none⟩ = some (.bool x.i) := by simp
      have p4 : (wr.alloc (.cells #[.int .u64 x.k, .bool x.w, .int .u64 x.o, .bool x.i, .int .u64 x.n] 45)).cell? ⟨wr.heap.size, 4, none⟩ = some (.int .u64 x.n) := by simp
      generalize wr.alloc (.cells #[.int .u64 x.k, .bool x.w, .int .u64 x.o, .bool x.i, .int .u64 x.n] 45) = W5 at *
      generalize wr.heap.size = p at *
      clear g0 g1 g2 g3 g4 ba bel
      obtain ⟨ok, hok⟩ : ∃ ok : Bool, ok = true ↔ okR x := ⟨@decide (okR x) (Classical.propDecidable _), by simp⟩
      have CI := fun W => Lib.hid (isCh_any x W ok hok)
      unfold cV at CI
      have HO := Lib.hid hok; clear hok
      cases j with
      | zero =>
        cases ok with
        | true =>
          have HN := Lib.hid (HG.out.next HX.out (HO.out.1 rfl) (fun i y h => by omega))
          have k0 := cell_regrown p0
          have k1 := cell_regrown p1
          have k2 := cell_regrown p2
          have k3 := cell_regrown p3
          have k4 := cell_regrown p4
          go_wp2
          refine wp_region_quiet_below (by kernel_rfl) (by kernel_rfl) ?_
          repeat (go_big_quiet_step ((go_at_call 54; exact Calls.regrown_of (CI _).out)))
          refine wpQuiet_nil ?_
          intro _ hw'
          obtain ⟨⟨dq, osq⟩, hw''⟩ := hw'
          subst hw''
          have b6 := bel_trans bel2 (below_regrown W5 dq osq)
          show Exit.then _ _ Exit.normal _ (grow (redrawn W5 dq) osq)
          generalize grow (redrawn W5 dq) osq = W6 at *
          clear k0 k1 k2 k3 k4 p0 p1 p2 p3 p4 bel2
          go_wp2
          go_roundw
          case rel => exact ⟨_, by omega, by go_num, HN.out, b6⟩
          case measure => simp [intOf]; omega
        | false =>
          have HN := Lib.hid (show b = false from bad_one HB.out HX.out (fun h => by have := HO.out.2 h; cases this))
          have k0 := cell_regrown p0
          have k1 := cell_regrown p1
          have k2 := cell_regrown p2
          have k3 := cell_regrown p3
          have k4 := cell_regrown p4
          go_wp2
          refine wp_region_quiet_below (by kernel_rfl) (by kernel_rfl) ?_
          repeat (go_big_quiet_step ((go_at_call 54; exact Calls.regrown_of (CI _).out)))
          refine wpQuiet_nil ?_
          intro _ hw'
          obtain ⟨⟨dq, osq⟩, hw''⟩ := hw'
          subst hw''
          have b6 := bel_trans bel2 (below_regrown W5 dq osq)
          show Exit.then _ _ Exit.normal _ (grow (redrawn W5 dq) osq)
          generalize grow (redrawn W5 dq) osq = W6 at *
          clear k0 k1 k2 k3 k4 p0 p1 p2 p3 p4 bel2
          go_wp2
          go_ret
          exact ⟨by rw [HN.out]; rfl, b6⟩
      | succ i =>
        obtain ⟨y, hy, _⟩ := getElem?_lt HL.out (show i < n by omega)
        have HY := Lib.hid hy
        obtain ⟨b2, o2, eA, q0, _, _, _, _⟩ := (HR.out.below bel2) i y hy
        cases eA
        clear hy
        have u1 : decide ((0 : Int) < (i : Int) + 1) = true := decide_eq_true (by omega)
        have e1 : IntKind.i64.wrap ((i : Int) + 1 - 1) = i := by rw [IntWalk.i64_in _ (by omega)]; omega
        by_cases hk : y.k < x.k
        · have t1 : decide (x.k ≤ y.k) = false := decide_eq_false (by omega)
          cases ok with
          | true =>
            have HN := Lib.hid (HG.out.next HX.out (HO.out.1 rfl) (fun i2 y2 h h2 => by cases h; rw [HY.out] at h2; cases h2; exact hk))
            have q1 := cell_regrown q0
            have k0 := cell_regrown p0
            have k1 := cell_regrown p1
            have k2 := cell_regrown p2
            have k3 := cell_regrown p3
            have k4 := cell_regrown p4
            go_wp2
            refine wp_region_quiet_below (by kernel_rfl) (by kernel_rfl) ?_
            repeat (go_big_quiet_step ((go_at_call 54; exact Calls.regrown_of (CI _).out)))
            refine wpQuiet_nil ?_
            intro _ hw'
            obtain ⟨⟨dq, osq⟩, hw''⟩ := hw'
            subst hw''
            have b6 := bel_trans bel2 (below_regrown W5 dq osq)
            show Exit.then _ _ Exit.normal _ (grow (redrawn W5 dq) osq)
            generalize grow (redrawn W5 dq) osq = W6 at *
            clear q1 q0 k0 k1 k2 k3 k4 p0 p1 p2 p3 p4 bel2
            go_wp2
            go_roundw
            case rel => exact ⟨_, by omega, by go_num, HN.out, b6⟩
            case measure => simp [intOf]; omega
          | false =>
            have HN := Lib.hid (show b = false from bad_one HB.out HX.out (fun h => by have := HO.out.2 h; cases this))
            have q1 := cell_regrown q0
            have k0 := cell_regrown p0
            have k1 := cell_regrown p1
            have k2 := cell_regrown p2
            have k3 := cell_regrown p3
            have k4 := cell_regrown p4
            go_wp2
            refine wp_region_quiet_below (by kernel_rfl) (by kernel_rfl) ?_
            repeat (go_big_quiet_step ((go_at_call 54; exact Calls.regrown_of (CI _).out)))
            refine wpQuiet_nil ?_
            intro _ hw'
            obtain ⟨⟨dq, osq⟩, hw''⟩ := hw'
            subst hw''
            have b6 := bel_trans bel2 (below_regrown W5 dq osq)
            show Exit.then _ _ Exit.normal _ (grow (redrawn W5 dq) osq)
            generalize grow (redrawn W5 dq) osq = W6 at *
            clear q1 q0 k0 k1 k2 k3 k4 p0 p1 p2 p3 p4 bel2
            go_wp2
            go_ret
            exact ⟨by rw [HN.out]; rfl, b6⟩
        · have t1 : decide (x.k ≤ y.k) = true := decide_eq_true (by omega)
          have HN := Lib.hid (show b = false from bad_two HB.out HY.out HX.out hk)
          clear hk
          go_wp2
          go_quiet (fail)
          go_wp2
          go_ret
          exact ⟨by rw [HN.out]; rfl, below_drewN bel2 _⟩
    · obtain rfl : j = n := by omega
      have u0 : decide ((j : Int) < j) = false := decide_eq_false (by omega)
      have HN := Lib.hid (show b = true from HB.out.2 (HG.out.all HL.out))
      go_wp2
      go_ret
      exact ⟨by rw [HN.out]; rfl, bel⟩
end Pl
end Go.Proofs.Ytbdllakbkienoaa
