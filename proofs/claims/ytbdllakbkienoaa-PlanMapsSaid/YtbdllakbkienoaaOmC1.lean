/- New, Copy, Pairs, Len, Equal, take, Range, Next and DeleteRange of package omap: contracts of the translated code. Conditions: at most 1000 pairs with increasing keys; the bounds of each number's kind. -/
import Derived.Test.YtbdllakbkienoaaOmC0
import Derived.Laws.StructEq
namespace Go.Proofs.Ytbdllakbkienoaa
open Go.RowKit Go.Sort Go.Lib
set_option linter.unusedVariables false
set_option linter.unusedSimpArgs false
namespace Om
attribute [local go_sem] eqP guardP
theorem MapAt.new {w : World} {v : Value} {B n : Nat} {l : List Pr} {t : TypeId} (h : w.ownsRow B 43 2 v n (flat l)) : MapAt (w.alloc (.cells #[v] t)) w.heap.size v l := by
  have hn : l.length = n := by have := h.1; rw [flat_len] at this; omega
  subst hn
  exact ⟨by simp, by simp, row_base (h.alloc _) (Nat.zero_le _), fun e => by have := (h.lt _ e).2; omega⟩
set_option maxRecDepth 100000 in
set_option maxHeartbeats 2000000 in
theorem newC_any (A : Option Addr) (n c : Nat) (ps : List Pr) (w : World) (hn : ps.length = n) (hs : n ≤ 1000) (hr : Rd w A ps) :
    Calls Try.prog 29 #[.slice A n c] w (NPost w ps) := by
  have CL := Lib.hid (clone_any A n c ps w hn (by omega) hr)
  have HN := Lib.hid hn
  have hni : (n : Int) ≤ 1000 := by omega
  clear hr
  subst hn
  go_enter Try.func29, Try.ntmps29
  go_wp2_with fail
  refine CL.out.mono ?_
  rintro r w1 ⟨v, rfl, hv, b1⟩
  have CS : Hid (Calls Try.prog 58 #[v, .func (.func 59) #[] #[]] w1 fun e w' => e = .returned (.tuple #[]) ∧ ∃ m : List Pr, m.Perm ps ∧ m.Pairwise (fun a b => a.1 ≤ b.1) ∧ w'.ownsRow w.heap.size 43 2 v ps.length (flat m) ∧ Below w.heap.size w w') := by
    rcases hv.2 with ⟨rfl, e0⟩ | ⟨g, cap, cur, rfl, hg, _⟩
    · have h0 : ps = [] := List.eq_nil_of_length_eq_zero e0
      refine (sort_none none 0 _ w1).mono ?_
      rintro r w2 ⟨rfl, rfl⟩
      exact ⟨rfl, [], by rw [h0], List.Pairwise.nil, by rw [h0] at hv ⊢; exact hv, b1⟩
    · refine (sort_any w.heap.size g ps.length cap ps w1 hv (by omega)).mono ?_
      rintro r w2 ⟨rfl, m, h1, h2, h3, h4⟩
      exact ⟨rfl, m, h1, h2, h3, b1.trans ⟨h4.os, h4.tape, h4.output, h4.size, fun k hk => h4.block k (by have := b1.size; omega) (fun e => by injection e; omega)⟩⟩
  obtain ⟨A1, c1, e1⟩ := row_slice hv
  subst e1
  clear hv b1
  go_wp2_with fail
  refine CS.out.mono ?_
  rintro r w3 ⟨rfl, m, hp, hso, h3, b3⟩
  obtain ⟨hml, A2, c2, e2, hc2, rd, _⟩ := row_form h3
  cases e2
  have HP := Lib.hid hp
  have HSO := Lib.hid hso
  have RD := Lib.hid rd
  have H3 := Lib.hid h3
  have HML := Lib.hid hml
  have B3 := Lib.hid b3
  clear hp hso rd h3 b3 CS CL
  generalize hq : ps.length = n at *
  have HQ := Lib.hid hq
  clear hml hq
  go_wp2
  go_loopw [5] (fun i wr => ∃ j : Nat, (j ≤ n ∨ j = 0) ∧ i = .int .i64 ((j + 1 : Nat) : Int) ∧ (∀ (t : Nat) (x y : Pr), t < j → m[t]? = some x → m[t + 1]? = some y → x.1 ≠ y.1) ∧ Below w3.heap.size w3 wr) (fun i _ => (n + 1 - intOf i).toNat)
  case atStart => exact ⟨0, .inr rfl, rfl, fun t x y h => absurd h (Nat.not_lt_zero _), Below.refl _ _⟩
  case round =>
    obtain ⟨j, hj, rfl, hD, bel⟩ := hrel
    have HD := Lib.hid hD; clear hD
    by_cases hlt : j + 1 < n
    · obtain ⟨x, hx, _⟩ := getElem?_lt HML.out (show j < n by omega)
      obtain ⟨y, hy, _⟩ := getElem?_lt HML.out hlt
      have HX := Lib.hid hx
      have HY := Lib.hid hy
      obtain ⟨b, o, rfl, g0, g1⟩ := (RD.out.below bel) j x hx
      obtain ⟨b', o', e', g2, g3⟩ := (RD.out.below bel) (j + 1) y hy
      cases e'
      clear hx hy
      have u0 : decide (((j : Int) + 1) < n) = true := decide_eq_true (by omega)
      have hji : (j : Int) + 1 < n := by omega
      have e1 : IntKind.i64.wrap (((j + 1 : Nat) : Int) - 1) = j := by rw [IntWalk.i64_in _ (by omega)]; omega
      by_cases hxy : x.1 = y.1
      · have t1 : (x.1 == y.1) = true := by simp [hxy]
        have HK := Lib.hid (new_no HP.out HX.out HY.out hxy)
        have HPo := Lib.hid (show ∀ e w', NPost w ps e w' ↔ (e = .returned (.tuple #[.pointer none, .int .i64 9]) ∧ Below w.heap.size w w') from fun e w' => by unfold NPost; rw [HK.out, if_neg (by decide)])
        clear hxy
        go_wp2
        go_quiet (fail)
        clear e1
        go_wp2
        go_ret2
        exact (HPo.out _ _).2 ⟨rfl, below_drewN (B3.out.trans (bel.mono B3.out.size)) _⟩
      · have t1 : (x.1 == y.1) = false := by simp [hxy]
        have HD2 := Lib.hid (show ∀ (t : Nat) (a b : Pr), t < j + 1 → m[t]? = some a → m[t + 1]? = some b → a.1 ≠ b.1 from fun t a b ht ha hb => by
          by_cases h : t < j
          · exact HD.out t a b h ha hb
          · obtain rfl : t = j := by omega
            rw [HX.out] at ha
            rw [HY.out] at hb
            cases ha
            cases hb
            exact hxy)
        clear hxy
        go_wp2
        go_quiet (fail)
        clear e1
        go_wp2
        go_roundw
        case rel => exact ⟨j + 1, .inl (by omega), by go_num, HD2.out, below_drewN bel _⟩
        case measure => simp [intOf]; omega
    · have u0 : decide (((j : Int) + 1) < n) = false := decide_eq_false (by omega)
      have ha : Asc m := sorted_asc HSO.out fun t x y hx hy => by
        by_cases h : t < j
        · exact HD.out t x y h hx hy
        · have := (List.getElem?_eq_some_iff.1 hy).1
          rw [HML.out] at this
          omega
      have HK := Lib.hid (new_ok HP.out ha)
      have HPo := Lib.hid (show ∀ e w', NPost w ps e w' ↔ (∃ bm v, e = .returned (.tuple #[.pointer (some ⟨bm, 0, none⟩), .int .i64 0]) ∧ MapAt w' bm v (nwL ps) ∧ w.heap.size ≤ bm ∧ Fresh w.heap.size v ∧ Below w.heap.size w w') from fun e w' => by unfold NPost; rw [HK.out.1, if_pos rfl])
      have b4 := B3.out.trans (bel.mono B3.out.size)
      have HR := Lib.hid (row_below H3.out bel)
      clear ha
      go_wp2
      go_ret2
      exact (HPo.out _ _).2 ⟨_, _, rfl, by rw [HK.out.2]; exact MapAt.new HR.out, b4.size, row_fresh HR.out, bel_alloc b4 _⟩
/-! ### Copy, Pairs, Len -/
theorem copyC_nil (w : World) : Calls Try.prog 30 #[.pointer none] w fun e w' => e = .returned (.pointer none) ∧ w = w' := by
  go_enter Try.func30, Try.ntmps30
  go_wp2
  go_ret
  exact ⟨rfl, rfl⟩
theorem copyC_any (bm : Nat) (v : Value) (l : List Pr) (w : World) (hm : MapAt w bm v l) (hs : l.length ≤ 1000) :
    Calls Try.prog 30 #[.pointer (some ⟨bm, 0, none⟩)] w (CpPost w l) := by
  obtain ⟨A, c, rfl, hc, rd, hz⟩ := hm.rd
  have m0 := hm.1
  have CL := Lib.hid (clone_any A l.length c l w rfl (by omega) rd)
  clear hm rd hz hc
  go_enter Try.func30, Try.ntmps30
  go_wp2_with fail
  refine CL.out.mono ?_
  rintro r w1 ⟨v1, rfl, hv, b1⟩
  have HV := Lib.hid hv
  obtain ⟨A1, c1, e1⟩ := row_slice hv
  subst e1
  clear hv
  go_wp2
  go_ret
  exact ⟨_, _, rfl, MapAt.new HV.out, b1.size, row_fresh HV.out, bel_alloc b1 _⟩
theorem pairsC_nil (w : World) : Calls Try.prog 32 #[.pointer none] w fun e w' => e = .returned (.slice none 0 0) ∧ w = w' := by
  go_enter Try.func32, Try.ntmps32
  go_wp2
  go_ret
  exact ⟨rfl, rfl⟩
theorem pairsC_any (bm : Nat) (v : Value) (l : List Pr) (w : World) (hm : MapAt w bm v l) (hs : l.length ≤ 1000) :
    Calls Try.prog 32 #[.pointer (some ⟨bm, 0, none⟩)] w (RwPost w l) := by
  obtain ⟨A, c, rfl, hc, rd, hz⟩ := hm.rd
  have m0 := hm.1
  have CL := Lib.hid (clone_any A l.length c l w rfl (by omega) rd)
  clear hm rd hz hc
  go_enter Try.func32, Try.ntmps32
  go_wp2_with fail
  refine CL.out.mono ?_
  rintro r w1 ⟨v1, rfl, hv, b1⟩
  have HV := Lib.hid hv; clear hv
  go_wp2
  go_ret
  exact ⟨_, rfl, HV.out, b1⟩
/-! ### Equal -/
theorem eq_nil (a : Addr) (w : World) : (binOp .eql 52 (.pointer none) (.pointer (some a))).run Try.prog w = .ok (.bool false) w := by
  have h : ∀ d, (Op.equalIn (d + 1) 52 (.pointer none) (.pointer (some a))).run Try.prog w = .ok false w := fun d => by
    simp [Op.equalIn, run_underlying Try.underlying52]
  simp only [binOp]
  simp [Op.equal, Op.maxDepth, h 9999]
end Om
end Go.Proofs.Ytbdllakbkienoaa
