/- leapfrogref12: steps, last, place, meet: contracts of the translated code. Conditions: those of each lemma. Written by tools/mk12v.py. -/
import Derived.Test.YtgfhfcjjodcgdaaHiR
namespace Go.Proofs.Ytgfhfcjjodcgdaa
open Go.RowKit Go.Shelf Go.Sort
set_option linter.unusedVariables false
set_option linter.unusedSimpArgs false
namespace Hi
def st3 (x : C) : List Int := [x.v, x.u, x.a]
def stK (x : C) (k : Nat) : List Int := ((st3 x).take k).filter fun s => decide (0 ≤ s)
theorem stK_all (x : C) : stK x 3 = stp x := rfl
theorem stK_next {x : C} {k : Nat} (h : k < 3) : stK x (k + 1) = if 0 ≤ (st3 x).getD k 0 then stK x k ++ [(st3 x).getD k 0] else stK x k := by
  unfold stK
  rw [take_get (d := 0) (show k < (st3 x).length from h), List.filter_append]
  by_cases h0 : 0 ≤ (st3 x).getD k 0
  · rw [if_pos h0, List.filter_cons_of_pos (by simpa using h0)]; simp
  · rw [if_neg h0, List.filter_cons_of_neg (by simpa using h0)]; simp
theorem stK_len (x : C) (k : Nat) : (stK x k).length ≤ 3 := by
  unfold stK
  refine Nat.le_trans (List.length_filter_le _ _) ?_
  rw [List.length_take]; simp [st3]; omega
theorem row3 (W : World) (x : C) : KI.Rd (W.alloc (.cells #[.int .i64 x.v, .int .i64 x.u, .int .i64 x.a] 3)) (some ⟨W.heap.size, 0, none⟩) (st3 x) := fun i y hi => by
  refine ⟨W.heap.size, 0, rfl, fun j u hj => ?_⟩
  have hi3 : i < 3 := (List.getElem?_eq_some_iff.1 hi).1
  have hj1 : j < 1 := (List.getElem?_eq_some_iff.1 hj).1
  obtain rfl : j = 0 := by omega
  have hu : u = .int .i64 y := by
    have : (some (Value.int .i64 y)) = some u := hj
    injection this with this; exact this.symm
  subst hu
  rw [World.cell?_alloc_new]
  match i, hi3, hi with
  | 0, _, h => cases h; rfl
  | 1, _, h => cases h; rfl
  | 2, _, h => cases h; rfl
set_option maxRecDepth 100000 in
set_option maxHeartbeats 1000000 in
theorem rsteps_any (x : C) (w : World) : Calls Try.prog 67 #[.agg #[.int .i64 x.t, .int .i64 x.i, .int .u8 x.k, .int .u64 x.p0, .int .u64 x.p1, .int .u64 x.p2, .int .u64 x.p3, .int .u64 x.p4, .int .u64 x.p5, .int .i64 x.v, .int .i64 x.u, .int .i64 x.a, .int .i64 x.s, .int .i64 x.re, .bool x.rf, .int .u64 x.rk, .int .u64 x.rv, .int .i64 x.rc]] w (RoPost KI (stp x) w) := by
  have B0 := Lib.hid (bel_alloc (bel_alloc (Below.refl w.heap.size w) (.cells #[.int .i64 x.t, .int .i64 x.i, .int .u8 x.k, .int .u64 x.p0, .int .u64 x.p1, .int .u64 x.p2, .int .u64 x.p3, .int .u64 x.p4, .int .u64 x.p5, .int .i64 x.v, .int .i64 x.u, .int .i64 x.a, .int .i64 x.s, .int .i64 x.re, .bool x.rf, .int .u64 x.rk, .int .u64 x.rv, .int .i64 x.rc] 47)) (.cells #[.int .i64 x.v, .int .i64 x.u, .int .i64 x.a] 3))
  have R0 := Lib.hid (row3 (w.alloc (.cells #[.int .i64 x.t, .int .i64 x.i, .int .u8 x.k, .int .u64 x.p0, .int .u64 x.p1, .int .u64 x.p2, .int .u64 x.p3, .int .u64 x.p4, .int .u64 x.p5, .int .i64 x.v, .int .i64 x.u, .int .i64 x.a, .int .i64 x.s, .int .i64 x.re, .bool x.rf, .int .u64 x.rk, .int .u64 x.rv, .int .i64 x.rc] 47)) x)
  rw [World.size_alloc] at R0
  have SA := Lib.hid (stK_all x)
  go_enter Try.func67, Try.ntmps67
  go_wp2_with fail
  obtain ⟨W0, hW0⟩ : ∃ W0 : World, W0 = (w.alloc (.cells #[.int .i64 x.t, .int .i64 x.i, .int .u8 x.k, .int .u64 x.p0, .int .u64 x.p1, .int .u64 x.p2, .int .u64 x.p3, .int .u64 x.p4, .int .u64 x.p5, .int .i64 x.v, .int .i64 x.u, .int .i64 x.a, .int .i64 x.s, .int .i64 x.re, .bool x.rf, .int .u64 x.rk, .int .u64 x.rv, .int .i64 x.rc] 47)).alloc (.cells #[.int .i64 x.v, .int .i64 x.u, .int .i64 x.a] 3) := ⟨_, rfl⟩
  rw [← hW0] at B0 R0 ⊢
  clear hW0
  go_loopw [4, 5] (fun q i wr => ∃ (k : Nat), k ≤ 3 ∧ i = .int .i64 k ∧ wr.ownsRow W0.heap.size KI.E KI.sz q (stK x k).length (KI.flat (stK x k)) ∧ Below W0.heap.size W0 wr) (fun q i _ => 3 - (intOf i).toNat)
  case atStart => exact ⟨0, Nat.zero_le _, rfl, KI.nil _ _, Below.refl _ _⟩
  case round =>
    obtain ⟨j, hj, rfl, ow, bel⟩ := hrel
    obtain ⟨wq, rfl⟩ : ∃ wq : World, wq = wr := ⟨_, rfl⟩
    by_cases hlt : j < 3
    · have d0 : decide ((j : Int) < 3) = true := decide_eq_true (by omega)
      have j1 : (j : Int) < 3 := by omega
      obtain ⟨b, o, eA, c0⟩ := KI.at_ (R0.out.below bel) (show j < (st3 x).length from hlt)
      injection eA with eA
      injection eA with e1 e2 e3
      subst e1 e2
      have HN := Lib.hid (stK_next (x := x) hlt)
      have hlen := stK_len x j
      obtain ⟨z, hz⟩ : ∃ z, (st3 x).getD j 0 = z := ⟨_, rfl⟩
      rw [hz] at c0 HN
      obtain ⟨L, hL⟩ : ∃ L, stK x j = L := ⟨_, rfl⟩
      rw [hL] at ow HN hlen
      rw [Nat.zero_add] at c0
      have OW := Lib.hid ow
      clear hL ow hz
      by_cases hv : 0 ≤ z
      · have d2 : decide (z ≥ 0) = true := decide_eq_true hv
        rw [if_pos hv] at HN
        clear hv
        go_wp2_with (at_builtin; refine KI.app rfl (.tmp 24) (.tmp 29) rfl wq W0.heap.size _ L z #[.int .i64 z] rfl rfl rfl OW.out (by omega) bel.size ?_; intro v4 w4 h1 b4 _)
        go_roundw
        case rel => exact ⟨j + 1, by omega, by go_num, by rw [HN.out]; exact h1, bel.trans b4⟩
        case measure => simp [intOf]; omega
      · have d2 : decide (z ≥ 0) = false := decide_eq_false hv
        rw [if_neg hv] at HN
        clear hv
        go_wp2_with fail
        go_roundw
        case rel => exact ⟨j + 1, by omega, by go_num, by rw [HN.out]; exact OW.out, bel⟩
        case measure => simp [intOf]; omega
    · obtain rfl : j = 3 := by omega
      have d0 : decide (((3 : Nat) : Int) < 3) = false := by decide
      rw [SA.out] at ow
      have OW := Lib.hid ow
      clear ow
      go_wp2
      go_ret
      exact ⟨_, rfl, row_base OW.out B0.out.size, bel_bel B0.out bel⟩
/-- the index of the last call of a thread among the first ones -/
def LastP (t : Int) (l : List C) (i : Nat) (at_ : Int) : Prop := (at_ = -1 ∧ ofT t (l.take i) = []) ∨ ∃ k : Nat, at_ = (k : Int) ∧ k < i ∧ (ofT t (l.take i)).getLast? = some (l.getD k c0)
theorem LastP.zero (t : Int) (l : List C) : LastP t l 0 (-1) := .inl ⟨rfl, by simp [ofT]⟩
theorem LastP.no {t : Int} {l : List C} {i : Nat} {a : Int} (h : LastP t l i a) (hi : i < l.length) (ht : (l.getD i c0).t ≠ t) : LastP t l (i + 1) a := by
  have : ofT t (l.take (i + 1)) = ofT t (l.take i) := by rw [take_get (d := c0) hi, ofT_snoc, if_neg ht]
  rcases h with ⟨h1, h2⟩ | ⟨k, h1, h2, h3⟩
  · exact .inl ⟨h1, by rw [this, h2]⟩
  · exact .inr ⟨k, h1, by omega, by rw [this, h3]⟩
theorem LastP.yes {t : Int} {l : List C} {i : Nat} (hi : i < l.length) (ht : (l.getD i c0).t = t) : LastP t l (i + 1) (i : Int) := by
  have : ofT t (l.take (i + 1)) = ofT t (l.take i) ++ [l.getD i c0] := by rw [take_get (d := c0) hi, ofT_snoc, if_pos ht]
  exact .inr ⟨i, rfl, by omega, by rw [this]; simp⟩
set_option maxRecDepth 100000 in
set_option maxHeartbeats 1000000 in
theorem rlast_any (A : Option Addr) (n c : Nat) (l : List C) (w : World) (hl : l.length = n) (hx : n ≤ 1000) (hr : KC.Rd w A l) (i : Nat) (hi : i < n) :
    Calls Try.prog 57 #[.slice A n c, .int .i64 (i : Nat)] w fun e w' => ∃ at_, e = .returned (.tuple #[.int .i64 at_, .int .i64 ((ofT (l.getD i c0).t (l.take i)).length : Nat)]) ∧ LastP (l.getD i c0).t l i at_ ∧ Below w.heap.size w w' := by
  have HL := Lib.hid hl
  have HR := Lib.hid hr
  have hil : i < l.length := by omega
  obtain ⟨T, hT⟩ : ∃ T, (l.getD i c0).t = T := ⟨_, rfl⟩
  have HT := Lib.hid hT
  rw [hT]
  clear hl hr hT
  have i1 : (i : Int) < n := by omega
  go_enter Try.func57, Try.ntmps57
  go_wp2_with fail
  go_loopw [6, 7, 8] (fun p q s wr => ∃ (k : Nat) (a : Int), k ≤ i ∧ s = .int .i64 k ∧ p = .int .i64 a ∧ q = .int .i64 ((ofT T (l.take k)).length : Nat) ∧ LastP T l k a ∧ Below w.heap.size w wr) (fun p q s _ => i - (intOf s).toNat)
  case atStart => exact ⟨0, -1, Nat.zero_le _, rfl, rfl, rfl, LastP.zero _ _, Below.refl _ _⟩
  case round =>
    obtain ⟨j, a, hj, rfl, rfl, rfl, lp, bel⟩ := hrel
    have LP := Lib.hid lp
    clear lp
    by_cases hlt : j < i
    · have hjl : j < l.length := by have := HL.out; omega
      have d0 : decide ((j : Int) < i) = true := decide_eq_true (by omega)
      have j1 : (j : Int) < n := by omega
      obtain ⟨b, o, rfl, at0⟩ := KC.at_ (HR.out.below bel) hjl
      obtain ⟨b', o', eA, at1⟩ := KC.at_ (HR.out.below bel) hil
      injection eA with eA
      injection eA with e1 e2 e3
      subst e1 e2
      have HN := Lib.hid (show ofT T (l.take (j + 1)) = _ by rw [take_get (d := c0) hjl, ofT_snoc])
      have LN := Lib.hid (fun h => LP.out.no hjl h)
      have LY := Lib.hid (fun h => LastP.yes (t := T) hjl h)
      have hlen := ofT_len T (l.take j)
      rw [List.length_take] at hlen
      have ct : wr.cell? ⟨b, o + j * 18, none⟩ = some (.int .i64 (l.getD j c0).t) := at0 0 _ rfl
      have cu : wr.cell? ⟨b, o + i * 18, none⟩ = some (.int .i64 T) := by rw [← HT.out]; exact at1 0 _ rfl
      obtain ⟨x, hx0⟩ : ∃ x, l.getD j c0 = x := ⟨_, rfl⟩
      rw [hx0] at HN LN LY ct
      obtain ⟨L, hL⟩ : ∃ L, ofT T (l.take j) = L := ⟨_, rfl⟩
      rw [hL] at HN hlen ⊢
      obtain ⟨N, hN⟩ : ∃ N, L.length = N := ⟨_, rfl⟩
      have HNN := Lib.hid hN
      rw [hN] at hlen ⊢
      clear hL at0 at1 hx0 LP hN
      by_cases hv : x.t = T
      · have d2 : (x.t == T) = true := by simpa using hv
        rw [if_pos hv] at HN
        have LY2 := Lib.hid (LY.out hv)
        clear hv LY LN
        go_wp2
        go_quiet (fail)
        go_wp2
        go_roundw
        case rel => exact ⟨j + 1, _, by omega, by go_num, rfl, by rw [HN.out, List.length_append, HNN.out]; go_num, LY2.out, bel_drawN bel _⟩
        case measure => simp [intOf]; omega
      · have d2 : (x.t == T) = false := by simpa using hv
        rw [if_neg hv] at HN
        have LN2 := Lib.hid (LN.out hv)
        clear hv LY LN
        go_wp2
        go_quiet (fail)
        go_wp2
        go_roundw
        case rel => exact ⟨j + 1, _, by omega, by go_num, rfl, by rw [HN.out, HNN.out], LN2.out, bel_drawN bel _⟩
        case measure => simp [intOf]; omega
    · obtain rfl : j = i := by omega
      have d0 : decide ((j : Int) < j) = false := by simp
      go_wp2
      go_ret2
      exact ⟨_, rfl, LP.out, bel⟩
/-- the place of an index in an order -/
def plc (o : List Int) (i : Int) : Int := if i ∈ o then (o.idxOf i : Nat) else -1
theorem plc_no {o : List Int} {i : Int} (h : ∀ k, k < o.length → o.getD k 0 ≠ i) : plc o i = -1 := by
  unfold plc
  rw [if_neg]
  intro hi
  obtain ⟨k, hk, he⟩ := List.mem_iff_getElem.1 hi
  exact h k hk (by rw [List.getD_eq_getElem?_getD, List.getElem?_eq_getElem hk]; exact he)
theorem plc_at {o : List Int} {i : Int} {k : Nat} (hk : k < o.length) (h : ∀ j, j < k → o.getD j 0 ≠ i) (he : o.getD k 0 = i) : plc o i = (k : Int) := by
  rw [List.getD_eq_getElem?_getD, List.getElem?_eq_getElem hk] at he
  simp only [Option.getD_some] at he
  have hm : i ∈ o := by rw [← he]; exact List.getElem_mem hk
  unfold plc
  rw [if_pos hm]
  congr 1
  have h1 : o.idxOf i < o.length := List.idxOf_lt_length_iff.2 hm
  have h2 : o[o.idxOf i] = i := List.getElem_idxOf h1
  rcases Nat.lt_trichotomy (o.idxOf i) k with h3 | h3 | h3
  · exact absurd (by rw [List.getD_eq_getElem?_getD, List.getElem?_eq_getElem h1]; exact h2) (h _ h3)
  · exact h3
  · exact absurd (List.not_of_lt_findIdx (p := fun y => y == i) (xs := o) (i := k) h3) (by simp [he])
set_option maxRecDepth 100000 in
theorem rplace_any (A : Option Addr) (m c : Nat) (o : List Int) (w : World) (hl : o.length = m) (hm : m ≤ 1000) (hr : KI.Rd w A o) (i : Int) :
    Calls Try.prog 48 #[.slice A m c, .int .i64 i] w fun e w' => e = .returned (.int .i64 (plc o i)) ∧ Below w.heap.size w w' := by
  have HL := Lib.hid hl
  have HR := Lib.hid hr
  obtain ⟨r, hr0⟩ : ∃ r, plc o i = r := ⟨_, rfl⟩
  rw [hr0]
  have PN := Lib.hid (fun h => (plc_no (o := o) (i := i) h).symm.trans hr0)
  have PA := Lib.hid (fun k hk h he => (plc_at (o := o) (i := i) (k := k) hk h he).symm.trans hr0)
  clear hl hr hr0
  go_enter Try.func48, Try.ntmps48
  go_wp2_with fail
  go_loopw [5] (fun s wr => ∃ (k : Nat), k ≤ m ∧ s = .int .i64 k ∧ (∀ j, j < k → o.getD j 0 ≠ i) ∧ Below w.heap.size w wr) (fun s _ => m - (intOf s).toNat)
  case atStart => exact ⟨0, Nat.zero_le _, rfl, fun j hj => by omega, Below.refl _ _⟩
  case round =>
    obtain ⟨j, hj, rfl, hno, bel⟩ := hrel
    have NO := Lib.hid hno
    clear hno
    by_cases hlt : j < m
    · have hjl : j < o.length := by have := HL.out; omega
      have d0 : decide ((j : Int) < m) = true := decide_eq_true (by omega)
      have j1 : (j : Int) < m := by omega
      obtain ⟨b, oo, rfl, c0⟩ := KI.at_ (HR.out.below bel) hjl
      have PJ := Lib.hid (PA.out j hjl NO.out)
      obtain ⟨z, hz⟩ : ∃ z, o.getD j 0 = z := ⟨_, rfl⟩
      have HZ := Lib.hid hz
      rw [hz] at c0 PJ
      clear hz
      by_cases hv : z = i
      · have d2 : (z == i) = true := by simpa using hv
        have HE := Lib.hid (PJ.out hv)
        clear hv PJ
        go_wp2_with fail
        go_ret
        exact ⟨by rw [← HE.out]; rfl, bel⟩
      · have d2 : (z == i) = false := by simpa using hv
        have HE := Lib.hid hv
        clear hv PJ
        go_wp2_with fail
        go_roundw
        case rel =>
          refine ⟨j + 1, by omega, by go_num, fun k hk => ?_, bel⟩
          by_cases h : k < j
          · exact NO.out k h
          · rw [show k = j by omega, HZ.out]; exact HE.out
        case measure => simp [intOf]; omega
    · obtain rfl : j = m := by omega
      have d0 : decide ((j : Int) < j) = false := by simp
      have HE := Lib.hid (PN.out (by rw [HL.out]; exact NO.out))
      go_wp2_with fail
      go_ret
      exact ⟨by rw [← HE.out]; rfl, bel⟩
/-- the steps of a call, as a callee hands them out -/
theorem steps_rd (x : C) (w : World) : Calls Try.prog 67 #[.agg #[.int .i64 x.t, .int .i64 x.i, .int .u8 x.k, .int .u64 x.p0, .int .u64 x.p1, .int .u64 x.p2, .int .u64 x.p3, .int .u64 x.p4, .int .u64 x.p5, .int .i64 x.v, .int .i64 x.u, .int .i64 x.a, .int .i64 x.s, .int .i64 x.re, .bool x.rf, .int .u64 x.rk, .int .u64 x.rv, .int .i64 x.rc]] w fun e w' => ∃ A c, e = .returned (.slice A (stp x).length c) ∧ KI.Rd w' A (stp x) ∧ Below w.heap.size w w' :=
  (rsteps_any x w).mono fun e w' h => by
    obtain ⟨v, rfl, ow, b⟩ := h
    obtain ⟨_, A, c, rfl, _, hr, _⟩ := KI.row ow
    exact ⟨A, c, rfl, hr, b⟩
def gM (l0 l1 l2 l3 l4 l5 : Bool) : Bool := (!l1 || l0) && ((!l3 || (l1 && l2)) && ((!l4 || l3) && (!l5 || l4)))
theorem stp_len (x : C) : (stp x).length ≤ 3 := stK_len x 3
theorem meet_in {x y : C} {i k : Nat} (hi : i < (stp x).length) (hk : k < (stp y).length) (h : (stp x).getD i 0 = (stp y).getD k 0) : meetB x y = true := by
  unfold meetB
  rw [List.any_eq_true]
  refine ⟨(stp x).getD i 0, ?_, ?_⟩
  · rw [List.getD_eq_getElem?_getD, List.getElem?_eq_getElem hi]; exact List.getElem_mem hi
  · rw [decide_eq_true_eq, h, List.getD_eq_getElem?_getD, List.getElem?_eq_getElem hk]; exact List.getElem_mem hk
theorem meet_out {x y : C} (h : ∀ i, i < (stp x).length → ∀ k, k < (stp y).length → (stp x).getD i 0 ≠ (stp y).getD k 0) : meetB x y = false := by
  cases hm : meetB x y with
  | false => rfl
  | true =>
    unfold meetB at hm
    rw [List.any_eq_true] at hm
    obtain ⟨s, h1, h2⟩ := hm
    rw [decide_eq_true_eq] at h2
    obtain ⟨i, hi, e1⟩ := List.mem_iff_getElem.1 h1
    obtain ⟨k, hk, e2⟩ := List.mem_iff_getElem.1 h2
    exact absurd (by rw [List.getD_eq_getElem?_getD, List.getElem?_eq_getElem hi, List.getD_eq_getElem?_getD, List.getElem?_eq_getElem hk]; simp [e1, e2]) (h i hi k hk)
set_option maxRecDepth 100000 in
set_option maxHeartbeats 2000000 in
set_option synthInstance.maxHeartbeats 400000 in
set_option synthInstance.maxSize 2000 in
theorem rmeet_any (x y : C) (w : World) : Calls Try.prog 59 #[.agg #[.int .i64 x.t, .int .i64 x.i, .int .u8 x.k, .int .u64 x.p0, .int .u64 x.p1, .int .u64 x.p2, .int .u64 x.p3, .int .u64 x.p4, .int .u64 x.p5, .int .i64 x.v, .int .i64 x.u, .int .i64 x.a, .int .i64 x.s, .int .i64 x.re, .bool x.rf, .int .u64 x.rk, .int .u64 x.rv, .int .i64 x.rc], .agg #[.int .i64 y.t, .int .i64 y.i, .int .u8 y.k, .int .u64 y.p0, .int .u64 y.p1, .int .u64 y.p2, .int .u64 y.p3, .int .u64 y.p4, .int .u64 y.p5, .int .i64 y.v, .int .i64 y.u, .int .i64 y.a, .int .i64 y.s, .int .i64 y.re, .bool y.rf, .int .u64 y.rk, .int .u64 y.rv, .int .i64 y.rc]] w fun e w' => e = .returned (.bool (meetB x y)) ∧ Below w.heap.size w w' := by
  have B0 := Lib.hid (bel_alloc (bel_alloc (Below.refl w.heap.size w) (.cells #[.int .i64 x.t, .int .i64 x.i, .int .u8 x.k, .int .u64 x.p0, .int .u64 x.p1, .int .u64 x.p2, .int .u64 x.p3, .int .u64 x.p4, .int .u64 x.p5, .int .i64 x.v, .int .i64 x.u, .int .i64 x.a, .int .i64 x.s, .int .i64 x.re, .bool x.rf, .int .u64 x.rk, .int .u64 x.rv, .int .i64 x.rc] 47)) (.cells #[.int .i64 y.t, .int .i64 y.i, .int .u8 y.k, .int .u64 y.p0, .int .u64 y.p1, .int .u64 y.p2, .int .u64 y.p3, .int .u64 y.p4, .int .u64 y.p5, .int .i64 y.v, .int .i64 y.u, .int .i64 y.a, .int .i64 y.s, .int .i64 y.re, .bool y.rf, .int .u64 y.rk, .int .u64 y.rv, .int .i64 y.rc] 47))
  have C2 := Lib.hid (cells_two w x y (Below.refl _ _))
  have CX := fun (n : Nat) (W : World) => Lib.hid ((callsIn_wide (n := n)).2 (steps_rd x W))
  have CY := fun (n : Nat) (W : World) => Lib.hid ((callsIn_wide (n := n)).2 (steps_rd y W))
  have MI := Lib.hid (fun i k => meet_in (x := x) (y := y) (i := i) (k := k))
  have MO := Lib.hid (meet_out (x := x) (y := y))
  have hlx := stp_len x
  have hly := stp_len y
  obtain ⟨r, hr⟩ : ∃ r, meetB x y = r := ⟨_, rfl⟩
  rw [hr] at MI MO ⊢
  obtain ⟨X, hX⟩ : ∃ X, stp x = X := ⟨_, rfl⟩
  obtain ⟨Y, hY⟩ : ∃ Y, stp y = Y := ⟨_, rfl⟩
  rw [hX] at CX MI MO hlx
  rw [hY] at CY MI MO hly
  clear hr hX hY
  have hf3 : Fence.wide.fn 67 := trivial
  have hmix : Try.prog.follows .mixedOrders = true := by kernel_rfl
  go_enter Try.func59, Try.ntmps59
  go_wp2_with fail
  obtain ⟨V, hV⟩ : ∃ V : World, V = (w.alloc (.cells #[.int .i64 x.t, .int .i64 x.i, .int .u8 x.k, .int .u64 x.p0, .int .u64 x.p1, .int .u64 x.p2, .int .u64 x.p3, .int .u64 x.p4, .int .u64 x.p5, .int .i64 x.v, .int .i64 x.u, .int .i64 x.a, .int .i64 x.s, .int .i64 x.re, .bool x.rf, .int .u64 x.rk, .int .u64 x.rv, .int .i64 x.rc] 47)).alloc (.cells #[.int .i64 y.t, .int .i64 y.i, .int .u8 y.k, .int .u64 y.p0, .int .u64 y.p1, .int .u64 y.p2, .int .u64 y.p3, .int .u64 y.p4, .int .u64 y.p5, .int .i64 y.v, .int .i64 y.u, .int .i64 y.a, .int .i64 y.s, .int .i64 y.re, .bool y.rf, .int .u64 y.rk, .int .u64 y.rv, .int .i64 y.rc] 47) := ⟨_, rfl⟩
  rw [← hV] at B0 C2 ⊢
  clear hV
  refine (wpIn_wide (n := 6)).1 ?_
  refine wpIn_region_any hmix ?_
  change wpAnyIn _ _ _ _ _ _ _ _ _ (World.drew _)
  refine any_inv (fun fuel listed a wv => ∃ (l0 l1 l2 l3 l4 l5 : Bool) (v0 v1 v2 v3 v4 v5 : Value), listed = #[l0, l1, l2, l3, l4, l5] ∧ fuel = (if l0 = true then 0 else 1) + (if l1 = true then 0 else 1) + (if l2 = true then 0 else 1) + (if l3 = true then 0 else 1) + (if l4 = true then 0 else 1) + (if l5 = true then 0 else 1) ∧ a = { tmps := #[.agg #[.int .i64 x.t, .int .i64 x.i, .int .u8 x.k, .int .u64 x.p0, .int .u64 x.p1, .int .u64 x.p2, .int .u64 x.p3, .int .u64 x.p4, .int .u64 x.p5, .int .i64 x.v, .int .i64 x.u, .int .i64 x.a, .int .i64 x.s, .int .i64 x.re, .bool x.rf, .int .u64 x.rk, .int .u64 x.rv, .int .i64 x.rc], .agg #[.int .i64 y.t, .int .i64 y.i, .int .u8 y.k, .int .u64 y.p0, .int .u64 y.p1, .int .u64 y.p2, .int .u64 y.p3, .int .u64 y.p4, .int .u64 y.p5, .int .i64 y.v, .int .i64 y.u, .int .i64 y.a, .int .i64 y.s, .int .i64 y.re, .bool y.rf, .int .u64 y.rk, .int .u64 y.rv, .int .i64 y.rc], .pointer (some ⟨w.heap.size, 0, none⟩), .pointer (some ⟨w.heap.size + 1, 0, none⟩), .bool false, v4, v5, undef, undef, v0, v1, v2, v3, undef, undef, undef, undef, undef, undef, undef, undef, undef, undef, undef, undef, undef, undef, undef, undef, undef, undef, undef, undef, undef], defers := [] } ∧ ((l0 = true → v0 = .agg #[.int .i64 x.t, .int .i64 x.i, .int .u8 x.k, .int .u64 x.p0, .int .u64 x.p1, .int .u64 x.p2, .int .u64 x.p3, .int .u64 x.p4, .int .u64 x.p5, .int .i64 x.v, .int .i64 x.u, .int .i64 x.a, .int .i64 x.s, .int .i64 x.re, .bool x.rf, .int .u64 x.rk, .int .u64 x.rv, .int .i64 x.rc]) ∧ (l1 = true → ∃ A c, v1 = .slice A X.length c ∧ KI.Rd wv A X) ∧ (l2 = true → v2 = .agg #[.int .i64 y.t, .int .i64 y.i, .int .u8 y.k, .int .u64 y.p0, .int .u64 y.p1, .int .u64 y.p2, .int .u64 y.p3, .int .u64 y.p4, .int .u64 y.p5, .int .i64 y.v, .int .i64 y.u, .int .i64 y.a, .int .i64 y.s, .int .i64 y.re, .bool y.rf, .int .u64 y.rk, .int .u64 y.rv, .int .i64 y.rc]) ∧ (l3 = true → ∃ A c, v3 = .slice A Y.length c ∧ KI.Rd wv A Y) ∧ (l4 = true → v4 = v1) ∧ (l5 = true → v5 = v3)) ∧ gM l0 l1 l2 l3 l4 l5 = true ∧ Below V.heap.size V wv) ?fin ?zer ?stp _ _ _ _ ?ini
  case ini => exact ⟨false, false, false, false, false, false, undef, undef, undef, undef, undef, undef, rfl, rfl, rfl, ⟨by simp, by simp, by simp, by simp, by simp, by simp⟩, rfl, bel_draw (Below.refl _ _)⟩
  case zer =>
    rintro listed a wv ⟨l0, l1, l2, l3, l4, l5, v0, v1, v2, v3, v4, v5, rfl, hc, -, -, hG, -⟩
    revert hc hG
    revert l0 l1 l2 l3 l4 l5
    decide +kernel
  case fin =>
    rintro fuel listed a wv ⟨l0, l1, l2, l3, l4, l5, v0, v1, v2, v3, v4, v5, rfl, hc, rfl, ⟨k0, k1, k2, k3, k4, k5⟩, hG, hz⟩ hr
    have hlz : l0 = true ∧ l1 = true ∧ l2 = true ∧ l3 = true ∧ l4 = true ∧ l5 = true := by
      clear hc hz k0 k1 k2 k3 k4 k5
      revert hG hr
      revert l0 l1 l2 l3 l4 l5
      decide +kernel
    obtain ⟨rfl, rfl, rfl, rfl, rfl, rfl⟩ := hlz
    clear hc
    obtain ⟨XA, xc, rfl, xr⟩ := k1 rfl
    obtain ⟨YA, yc, rfl, yr⟩ := k3 rfl
    obtain rfl := k4 rfl
    obtain rfl := k5 rfl
    have XR := Lib.hid xr
    have YR := Lib.hid yr
    have BX := Lib.hid (bel_bel B0.out hz)
    clear hz xr yr hr hG k0 k2
    have x1 : (X.length : Int) ≤ 3 := by omega
    have y1 : (Y.length : Int) ≤ 3 := by omega
    obtain ⟨N, hN⟩ : ∃ N, X.length = N := ⟨_, rfl⟩
    obtain ⟨M, hM⟩ : ∃ M, Y.length = M := ⟨_, rfl⟩
    have HN := Lib.hid hN
    have HM := Lib.hid hM
    rw [hN] at x1 hlx MI MO ⊢
    rw [hM] at y1 hly MI MO ⊢
    clear hN hM
    go_wp2_with fail
    go_loopw [7] (fun s wr => ∃ (i : Nat), i ≤ N ∧ s = .int .i64 i ∧ (∀ i', i' < i → ∀ k, k < M → X.getD i' 0 ≠ Y.getD k 0) ∧ Below wv.heap.size wv wr) (fun s _ => N - (intOf s).toNat)
    case atStart => exact ⟨0, Nat.zero_le _, rfl, fun j hj => by omega, Below.refl _ _⟩
    case round =>
      obtain ⟨i, hi, rfl, hno, bel⟩ := hrel
      have NO := Lib.hid hno
      clear hno
      obtain ⟨w4, rfl⟩ : ∃ w4 : World, w4 = wr := ⟨_, rfl⟩
      by_cases hlt : i < N
      · have d0 : decide ((i : Int) < N) = true := decide_eq_true (by omega)
        have i1 : (i : Int) < N := by omega
        go_wp2_with fail
        go_loopw [8] (fun s wr => ∃ (k : Nat), k ≤ M ∧ s = .int .i64 k ∧ (∀ k', k' < k → X.getD i 0 ≠ Y.getD k' 0) ∧ Below wv.heap.size wv wr) (fun s _ => M - (intOf s).toNat)
        case atStart => exact ⟨0, Nat.zero_le _, rfl, fun j hj => by omega, bel⟩
        case round =>
          obtain ⟨k, hk, rfl, hno, bel⟩ := hrel
          have NK := Lib.hid hno
          clear hno
          by_cases hkt : k < M
          · have d1 : decide ((k : Int) < M) = true := decide_eq_true (by omega)
            have k1 : (k : Int) < M := by omega
            obtain ⟨b, o, rfl, c0⟩ := KI.at_ (XR.out.below bel) (show i < X.length by rw [HN.out]; exact hlt)
            obtain ⟨b2, o2, rfl, c1⟩ := KI.at_ (YR.out.below bel) (show k < Y.length by rw [HM.out]; exact hkt)
            have MIK := Lib.hid (MI.out i k hlt hkt)
            obtain ⟨p, hp⟩ : ∃ p, X.getD i 0 = p := ⟨_, rfl⟩
            obtain ⟨q, hq⟩ : ∃ q, Y.getD k 0 = q := ⟨_, rfl⟩
            have HQ := Lib.hid hq
            rw [hp] at c0 MIK NK
            rw [hq] at c1 MIK
            by_cases hv : p = q
            · have d2 : (p == q) = true := by simpa using hv
              have HE := Lib.hid (MIK.out hv)
              clear hv hp hq MIK NK
              go_wp2
              go_quiet (fail)
              go_wp2
              go_ret
              exact ⟨by rw [← HE.out]; rfl, bel_drawN (bel_bel BX.out bel) _⟩
            · have d2 : (p == q) = false := by simpa using hv
              have HE := Lib.hid hv
              have HP := Lib.hid hp
              clear hv hp hq MIK
              go_wp2
              go_quiet (fail)
              go_wp2
              go_roundw
              case rel =>
                refine ⟨k + 1, by omega, by go_num, fun k' hk' => ?_, bel_drawN bel _⟩
                rw [HP.out]
                by_cases h : k' < k
                · exact NK.out k' h
                · rw [show k' = k by omega, HQ.out]; exact HE.out
              case measure => simp [intOf]; omega
          · obtain rfl : k = M := by omega
            have d1 : decide ((k : Int) < k) = false := by simp
            go_wp2_with fail
            go_roundw
            case rel =>
              refine ⟨i + 1, by omega, by go_num, fun i' hi' => ?_, bel⟩
              by_cases h : i' < i
              · exact NO.out i' h
              · rw [show i' = i by omega]; exact NK.out
            case measure => simp [intOf]; omega
      · obtain rfl : i = N := by omega
        have d0 : decide ((i : Int) < i) = false := by simp
        have HE := Lib.hid (MO.out (fun i' hi' => NO.out i' hi'))
        go_wp2_with fail
        go_ret
        exact ⟨by rw [HE.out]; rfl, bel_bel BX.out bel⟩
  case stp =>
    rintro fuel listed a wv ⟨l0, l1, l2, l3, l4, l5, v0, v1, v2, v3, v4, v5, rfl, hc, rfl, ⟨k0, k1, k2, k3, k4, k5⟩, hG, hz⟩ i hi
    have hib : i < 6 := by
      have := (List.mem_filter.1 hi).1
      simpa using this
    rcases i with _ | _ | _ | _ | _ | _ | i
    · have pre : l0 = false ∧ l1 = false ∧ l3 = false ∧ l4 = false ∧ l5 = false ∧ gM true l1 l2 l3 l4 l5 = true := by
        clear hc hz k0 k1 k2 k3 k4 k5
        revert hG hi
        revert l0 l1 l2 l3 l4 l5
        decide +kernel
      obtain ⟨rfl, rfl, rfl, rfl, rfl, gn⟩ := pre
      refine wpOpIn_step rfl (fun K hK => ?_)
      refine ldX rfl _ rfl w.heap.size 0 rfl x (C2.out.1.bel hz C2.out.1.lt) ?_
      exact hK _ _ ⟨_, _, _, _, _, _, _, _, _, _, _, _, rfl, by (simp at hc ⊢; first | done | omega), rfl, ⟨by first | exact k0 | exact fun _ => rfl, by first | exact k1 | exact fun _ => rfl, by first | exact k2 | exact fun _ => rfl, by first | exact k3 | exact fun _ => rfl, by first | exact k4 | exact fun _ => rfl, by first | exact k5 | exact fun _ => rfl⟩, gn, hz⟩
    · have pre : l1 = false ∧ l3 = false ∧ l4 = false ∧ l5 = false ∧ l0 = true ∧ gM l0 true l2 l3 l4 l5 = true := by
        clear hc hz k0 k1 k2 k3 k4 k5
        revert hG hi
        revert l0 l1 l2 l3 l4 l5
        decide +kernel
      obtain ⟨rfl, rfl, rfl, rfl, rfl, gn⟩ := pre
      refine wpOpIn_step rfl (fun K hK => ?_)
      obtain rfl := k0 rfl
      go_simp
      refine (CX _ _).out.mono ?_
      rintro e w7 ⟨A, c, rfl, r7, b7⟩
      exact hK _ _ ⟨_, _, _, _, _, _, _, _, _, _, _, _, rfl, by (simp at hc ⊢; first | done | omega), rfl, ⟨by first | exact k0 | exact fun _ => rfl, fun _ => ⟨A, c, rfl, r7⟩, by first | exact k2 | exact fun _ => rfl, by simp, by simp, by simp⟩, gn, hz.trans (b7.mono hz.size)⟩
    · have pre : l2 = false ∧ l3 = false ∧ l4 = false ∧ l5 = false ∧ gM l0 l1 true l3 l4 l5 = true := by
        clear hc hz k0 k1 k2 k3 k4 k5
        revert hG hi
        revert l0 l1 l2 l3 l4 l5
        decide +kernel
      obtain ⟨rfl, rfl, rfl, rfl, gn⟩ := pre
      refine wpOpIn_step rfl (fun K hK => ?_)
      refine ldX rfl _ rfl (w.heap.size + 1) 0 rfl y (C2.out.2.bel hz C2.out.2.lt) ?_
      exact hK _ _ ⟨_, _, _, _, _, _, _, _, _, _, _, _, rfl, by (simp at hc ⊢; first | done | omega), rfl, ⟨by first | exact k0 | exact fun _ => rfl, by first | exact k1 | exact fun _ => rfl, by first | exact k2 | exact fun _ => rfl, by first | exact k3 | exact fun _ => rfl, by first | exact k4 | exact fun _ => rfl, by first | exact k5 | exact fun _ => rfl⟩, gn, hz⟩
    · have pre : l3 = false ∧ l4 = false ∧ l5 = false ∧ l0 = true ∧ l1 = true ∧ l2 = true ∧ gM l0 l1 l2 true l4 l5 = true := by
        clear hc hz k0 k1 k2 k3 k4 k5
        revert hG hi
        revert l0 l1 l2 l3 l4 l5
        decide +kernel
      obtain ⟨rfl, rfl, rfl, rfl, rfl, rfl, gn⟩ := pre
      refine wpOpIn_step rfl (fun K hK => ?_)
      obtain rfl := k2 rfl
      go_simp
      refine (CY _ _).out.mono ?_
      rintro e w7 ⟨A, c, rfl, r7, b7⟩
      exact hK _ _ ⟨_, _, _, _, _, _, _, _, _, _, _, _, rfl, by (simp at hc ⊢; first | done | omega), rfl, ⟨by first | exact k0 | exact fun _ => rfl, fun h => by obtain ⟨A1, c1, e1, r1⟩ := k1 h; exact ⟨A1, c1, e1, r1.below b7⟩, by first | exact k2 | exact fun _ => rfl, fun _ => ⟨A, c, rfl, r7⟩, by simp, by simp⟩, gn, hz.trans (b7.mono hz.size)⟩
    · have pre : l4 = false ∧ l5 = false ∧ l0 = true ∧ l1 = true ∧ l2 = true ∧ l3 = true ∧ gM l0 l1 l2 l3 true l5 = true := by
        clear hc hz k0 k1 k2 k3 k4 k5
        revert hG hi
        revert l0 l1 l2 l3 l4 l5
        decide +kernel
      obtain ⟨rfl, rfl, rfl, rfl, rfl, rfl, gn⟩ := pre
      refine wpOpIn_step rfl (fun K hK => ?_)
      go_simp
      exact hK _ _ ⟨_, _, _, _, _, _, _, _, _, _, _, _, rfl, by (simp at hc ⊢; first | done | omega), rfl, ⟨by first | exact k0 | exact fun _ => rfl, by first | exact k1 | exact fun _ => rfl, by first | exact k2 | exact fun _ => rfl, by first | exact k3 | exact fun _ => rfl, by first | exact k4 | exact fun _ => rfl, by first | exact k5 | exact fun _ => rfl⟩, gn, hz⟩
    · have pre : l5 = false ∧ l0 = true ∧ l1 = true ∧ l2 = true ∧ l3 = true ∧ l4 = true ∧ gM l0 l1 l2 l3 l4 true = true := by
        clear hc hz k0 k1 k2 k3 k4 k5
        revert hG hi
        revert l0 l1 l2 l3 l4 l5
        decide +kernel
      obtain ⟨rfl, rfl, rfl, rfl, rfl, rfl, gn⟩ := pre
      refine wpOpIn_step rfl (fun K hK => ?_)
      go_simp
      exact hK _ _ ⟨_, _, _, _, _, _, _, _, _, _, _, _, rfl, by (simp at hc ⊢; first | done | omega), rfl, ⟨by first | exact k0 | exact fun _ => rfl, by first | exact k1 | exact fun _ => rfl, by first | exact k2 | exact fun _ => rfl, by first | exact k3 | exact fun _ => rfl, by first | exact k4 | exact fun _ => rfl, by first | exact k5 | exact fun _ => rfl⟩, gn, hz⟩
    · omega
end Hi
end Go.Proofs.Ytgfhfcjjodcgdaa
