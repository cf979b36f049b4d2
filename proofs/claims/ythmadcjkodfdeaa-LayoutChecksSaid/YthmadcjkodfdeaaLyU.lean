/- leapfrogkit: EqualUints; EqualDomain and EqualConfig of equal ones: contracts of the translated code. Conditions: those of each lemma. Written by tools/mk9eq.py. -/
import Derived.Test.YthmadcjkodfdeaaLyX
namespace Go.Proofs.Ythmadcjkodfdeaa
open Go.RowKit Go.Sort
set_option linter.unusedVariables false
set_option linter.unusedSimpArgs false
attribute [local go_sem] Ly.eq6 Ly.guard6
namespace Ly
open Dm (RdK bel_alloc bel_trans cell_lt)
theorem ret_eq' {a b : Value} (h : a = b) : Ending.returned a = .returned b := by rw [h]
theorem ext_getD {l r : List Int} {n : Nat} (hl : l.length = n) (hr : r.length = n) (h : ∀ t, t < n → l.getD t 0 = r.getD t 0) : l = r := by
  refine List.ext_getElem (hl.trans hr.symm) fun t a b => ?_
  have := h t (by omega)
  rw [List.getD_eq_getElem?_getD, List.getD_eq_getElem?_getD, List.getElem?_eq_getElem a, List.getElem?_eq_getElem b] at this
  exact this
set_option maxRecDepth 100000 in
set_option maxHeartbeats 1000000 in
theorem equ_any (A B : Option Addr) (m c q d : Nat) (l r : List Int) (w : World) (hm : l.length = m) (hq : r.length = q) (hx : m ≤ 100000) (hy : q ≤ 100000) (hl : RdK .u64 w A l) (hr : RdK .u64 w B r) :
    Calls Try.prog 30 #[.slice A m c, .slice B q d] w fun e w' => e = .returned (.bool (decide (l = r))) ∧ Below w.heap.size w w' := by
  have HL := Lib.hid hl; clear hl
  have HR := Lib.hid hr; clear hr
  have HM := Lib.hid hm; clear hm
  have HQ := Lib.hid hq; clear hq
  by_cases hmq : m = q
  · subst hmq
    have t0 : ((m : Int) != m) = false := by simp
    go_enter Try.func30, Try.ntmps30
    go_wp2
    go_loopw [5] (fun i wr => ∃ j : Nat, j ≤ m ∧ i = .int .i64 j ∧ (∀ t : Nat, t < j → l.getD t 0 = r.getD t 0) ∧ Below w.heap.size w wr) (fun i _ => (m - intOf i).toNat)
    case atStart => exact ⟨0, Nat.zero_le _, rfl, fun t h => absurd h (Nat.not_lt_zero _), Below.refl _ _⟩
    case round =>
      obtain ⟨j, hj, rfl, hE, bel⟩ := hrel
      have HE := Lib.hid hE; clear hE
      by_cases hlt : j < m
      · obtain ⟨b, o, rfl, g0⟩ := (HL.out.below bel) j (by rw [HM.out]; exact hlt)
        obtain ⟨b', o', rfl, k0⟩ := (HR.out.below bel) j (by rw [HQ.out]; exact hlt)
        obtain ⟨x, hx⟩ : ∃ x, l.getD j 0 = x := ⟨_, rfl⟩
        obtain ⟨y, hy⟩ : ∃ y, r.getD j 0 = y := ⟨_, rfl⟩
        rw [hx] at g0
        rw [hy] at k0
        have t1 : decide ((j : Int) < m) = true := by simp; omega
        have hji : (j : Int) < m := by omega
        by_cases hxy : x = y
        · have HN := Lib.hid (show ∀ t : Nat, t < j + 1 → l.getD t 0 = r.getD t 0 from fun t ht => by
            by_cases h : t < j
            · exact HE.out t h
            · obtain rfl : t = j := by omega
              rw [hx, hy, hxy])
          have t2 : (x != y) = false := by simp [hxy]
          have t3 : (x == y) = true := by simp [hxy]
          clear hx hy hxy
          go_wp2
          go_quiet (fail)
          go_wp2
          go_roundw
          case rel => exact ⟨j + 1, by omega, by go_num, HN.out, below_drewN bel _⟩
          case measure => simp [intOf]; omega
        · have HN := Lib.hid (show ¬ l = r from fun h => hxy (by rw [← hx, ← hy, h]))
          have t2 : (x != y) = true := by simp [hxy]
          have t3 : (x == y) = false := by simp [hxy]
          clear hx hy hxy
          go_wp2
          go_quiet (fail)
          go_wp2
          go_ret
          exact ⟨ret_eq' (congrArg Value.bool (decide_eq_false HN.out).symm), below_drewN bel _⟩
      · obtain rfl : j = m := by omega
        have HN := Lib.hid (show l = r from ext_getD HM.out HQ.out HE.out)
        have t1 : decide ((j : Int) < j) = false := by simp
        go_wp2
        go_ret
        exact ⟨ret_eq' (congrArg Value.bool (decide_eq_true HN.out).symm), bel⟩
  · have HN := Lib.hid (show ¬ l = r from fun h => hmq (by rw [← HM.out, ← HQ.out, h]))
    have t0 : ((m : Int) != q) = true := by simp; omega
    go_enter Try.func30, Try.ntmps30
    go_wp2
    go_ret
    exact ⟨ret_eq' (congrArg Value.bool (decide_eq_false HN.out).symm), Below.refl _ _⟩
theorem equ_same (A B : Option Addr) (m c d : Nat) (l : List Int) (w : World) (hm : l.length = m) (hx : m ≤ 100000) (hl : RdK .u64 w A l) (hr : RdK .u64 w B l) :
    Calls Try.prog 30 #[.slice A m c, .slice B m d] w fun e w' => e = .returned (.bool true) ∧ Below w.heap.size w w' :=
  (equ_any A B m c m d l l w hm hm hx hx hl hr).mono fun e w' ⟨h1, h2⟩ => ⟨by rw [h1]; simp, h2⟩
theorem eqdom_same (k n : Int) (A B : Option Addr) (m c d : Nat) (l : List Int) (w : World) (hm : l.length = m) (hx : m ≤ 100000) (hl : RdK .u64 w A l) (hr : RdK .u64 w B l) :
    Calls Try.prog 41 #[.agg #[.int .u8 k, .int .i64 n, .slice A m c], .agg #[.int .u8 k, .int .i64 n, .slice B m d]] w fun e w' => e = .returned (.bool true) ∧ Below w.heap.size w w' := by
  have HL := Lib.hid hl
  have HR := Lib.hid hr
  have HM := Lib.hid hm
  clear hl hr hm
  go_enter Try.func41, Try.ntmps41
  go_wp2_with fail
  refine (equ_same A B m c d l _ HM.out hx (HL.out.below (bel_alloc (bel_alloc (Below.refl _ _) _) _)) (HR.out.below (bel_alloc (bel_alloc (Below.refl _ _) _) _))).mono ?_
  rintro r w2 ⟨rfl, b2⟩
  have B2 := Lib.hid (b2.mono (show w.heap.size ≤ _ by simp only [World.size_alloc]; omega))
  clear b2
  go_wp2
  go_ret
  exact ⟨rfl, (bel_alloc (bel_alloc (Below.refl w.heap.size w) _) _).trans B2.out⟩
set_option maxRecDepth 100000 in
set_option maxHeartbeats 4000000 in
theorem eqcfg_same (f : Cf) (A B : Option Addr) (m c d : Nat) (l : List Int) (w : World) (hm : l.length = m) (hx : m ≤ 100000) (hl : RdK .u64 w A l) (hr : RdK .u64 w B l) :
    Calls Try.prog 16 #[.agg #[.int .i64 f.th, .int .i64 f.sl, .int .u8 f.en, .int .i64 f.bu, .int .u8 f.k, .int .i64 f.n, .slice A m c, .int .i64 (f.t 0), .int .i64 (f.t 1), .int .i64 (f.t 2), .int .i64 (f.t 3), .int .i64 (f.t 4), .int .i64 (f.t 5), .int .i64 f.lo, .int .i64 f.tr, .int .i64 f.ba], .agg #[.int .i64 f.th, .int .i64 f.sl, .int .u8 f.en, .int .i64 f.bu, .int .u8 f.k, .int .i64 f.n, .slice B m d, .int .i64 (f.t 0), .int .i64 (f.t 1), .int .i64 (f.t 2), .int .i64 (f.t 3), .int .i64 (f.t 4), .int .i64 (f.t 5), .int .i64 f.lo, .int .i64 f.tr, .int .i64 f.ba]] w fun e w' => e = .returned (.bool true) ∧ Below w.heap.size w w' := by
  have HL := Lib.hid hl
  have HR := Lib.hid hr
  have HM := Lib.hid hm
  clear hl hr hm
  go_enter Try.func16, Try.ntmps16
  have hA := heap_new w (.cells #[.int .i64 f.th, .int .i64 f.sl, .int .u8 f.en, .int .i64 f.bu, .int .u8 f.k, .int .i64 f.n, .slice A m c, .int .i64 (f.t 0), .int .i64 (f.t 1), .int .i64 (f.t 2), .int .i64 (f.t 3), .int .i64 (f.t 4), .int .i64 (f.t 5), .int .i64 f.lo, .int .i64 f.tr, .int .i64 f.ba] 27)
  have hB := heap_new (w.alloc (.cells #[.int .i64 f.th, .int .i64 f.sl, .int .u8 f.en, .int .i64 f.bu, .int .u8 f.k, .int .i64 f.n, .slice A m c, .int .i64 (f.t 0), .int .i64 (f.t 1), .int .i64 (f.t 2), .int .i64 (f.t 3), .int .i64 (f.t 4), .int .i64 (f.t 5), .int .i64 f.lo, .int .i64 f.tr, .int .i64 f.ba] 27)) (.cells #[.int .i64 f.th, .int .i64 f.sl, .int .u8 f.en, .int .i64 f.bu, .int .u8 f.k, .int .i64 f.n, .slice B m d, .int .i64 (f.t 0), .int .i64 (f.t 1), .int .i64 (f.t 2), .int .i64 (f.t 3), .int .i64 (f.t 4), .int .i64 (f.t 5), .int .i64 f.lo, .int .i64 f.tr, .int .i64 f.ba] 27)
  rw [World.size_alloc] at hB
  have HA := Lib.hid ((Below.heap_alloc (w.alloc (.cells #[.int .i64 f.th, .int .i64 f.sl, .int .u8 f.en, .int .i64 f.bu, .int .u8 f.k, .int .i64 f.n, .slice A m c, .int .i64 (f.t 0), .int .i64 (f.t 1), .int .i64 (f.t 2), .int .i64 (f.t 3), .int .i64 (f.t 4), .int .i64 (f.t 5), .int .i64 f.lo, .int .i64 f.tr, .int .i64 f.ba] 27)) (.cells #[.int .i64 f.th, .int .i64 f.sl, .int .u8 f.en, .int .i64 f.bu, .int .u8 f.k, .int .i64 f.n, .slice B m d, .int .i64 (f.t 0), .int .i64 (f.t 1), .int .i64 (f.t 2), .int .i64 (f.t 3), .int .i64 (f.t 4), .int .i64 (f.t 5), .int .i64 f.lo, .int .i64 f.tr, .int .i64 f.ba] 27) w.heap.size (by simp)).trans hA)
  have HB := Lib.hid hB
  clear hA hB
  go_wp2_with fail
  refine (eqdom_same f.k f.n A B m c d l _ HM.out hx (HL.out.below (bel_alloc (bel_alloc (Below.refl _ _) _) _)) (HR.out.below (bel_alloc (bel_alloc (Below.refl _ _) _) _))).mono ?_
  rintro r w2 ⟨rfl, b2⟩
  have kA := (b2.block w.heap.size (by simp only [World.size_alloc]; omega)).trans HA.out
  have kB := (b2.block (w.heap.size + 1) (by simp only [World.size_alloc]; omega)).trans HB.out
  have B2 := Lib.hid ((bel_alloc (bel_alloc (Below.refl w.heap.size w) _) _).trans (b2.mono (show w.heap.size ≤ _ by simp only [World.size_alloc]; omega)))
  have qa7 := cell_of (j := 7) kA rfl
  have qb7 := cell_of (j := 7) kB rfl
  have qa8 := cell_of (j := 8) kA rfl
  have qb8 := cell_of (j := 8) kB rfl
  have qa9 := cell_of (j := 9) kA rfl
  have qb9 := cell_of (j := 9) kB rfl
  have qa10 := cell_of (j := 10) kA rfl
  have qb10 := cell_of (j := 10) kB rfl
  have qa11 := cell_of (j := 11) kA rfl
  have qb11 := cell_of (j := 11) kB rfl
  have qa12 := cell_of (j := 12) kA rfl
  have qb12 := cell_of (j := 12) kB rfl
  have qa13 := cell_of (j := 13) kA rfl
  have qb13 := cell_of (j := 13) kB rfl
  have qa14 := cell_of (j := 14) kA rfl
  have qb14 := cell_of (j := 14) kB rfl
  have qa15 := cell_of (j := 15) kA rfl
  have qb15 := cell_of (j := 15) kB rfl
  clear kA kB b2 HA HB HL HR HM
  go_wp2
  go_ret
  exact ⟨rfl, B2.out⟩
end Ly
end Go.Proofs.Ythmadcjkodfdeaa
