/- What the laws of layer 6 call beside the two packages: known, same, equal, ascending, one (written by tools/mk6help.py): contracts of the translated code. Conditions: at most 5000 elements; the bounds of each number's kind. -/
import Derived.Test.YtbdllakbkienoaaPlY
namespace Go.Proofs.Ytbdllakbkienoaa
open Go.RowKit Go.Sort
set_option linter.unusedVariables false
set_option linter.unusedSimpArgs false
namespace Pl
open Om (addr_lit bel_alloc bel_trans below_drewN ret_eq Asc asc_iff)
section
open Om (eqP guardP)
attribute [local go_sem] Om.eqP Om.guardP
theorem sameL_any (A B : Option Addr) (m c q d : Nat) (l r : List Om.Pr) (w : World) (hm : l.length = m) (hq : r.length = q) (hx : m ≤ 5000) (hy : q ≤ 5000) (hl : Om.Rd w A l) (hr : Om.Rd w B r) :
    Calls Try.prog 31 #[.slice A m c, .slice B q d] w fun e w' => e = .returned (.bool (decide (l = r))) ∧ Below w.heap.size w w' := by
  have HL := Lib.hid hl; clear hl
  have HR := Lib.hid hr; clear hr
  have HM := Lib.hid hm; clear hm
  have HQ := Lib.hid hq; clear hq
  by_cases hmq : m = q
  · subst hmq
    have t0 : ((m : Int) != m) = false := by simp
    go_enter Try.func31, Try.ntmps31
    go_wp2
    go_loopw [5] (fun i wr => ∃ j : Nat, j ≤ m ∧ i = .int .i64 j ∧ (∀ t : Nat, t < j → l[t]? = r[t]?) ∧ Below w.heap.size w wr) (fun i _ => (m - intOf i).toNat)
    case atStart => exact ⟨0, Nat.zero_le _, rfl, fun t h => absurd h (Nat.not_lt_zero _), Below.refl _ _⟩
    case round =>
      obtain ⟨j, hj, rfl, hE, bel⟩ := hrel
      have HE := Lib.hid hE; clear hE
      by_cases hlt : j < m
      · obtain ⟨x, hx, _⟩ := Om.getElem?_lt HM.out hlt
        obtain ⟨y, hy, _⟩ := Om.getElem?_lt HQ.out hlt
        obtain ⟨b, o, rfl, g0, g1⟩ := (HL.out.below bel) j x hx
        obtain ⟨b', o', rfl, g2, g3⟩ := (HR.out.below bel) j y hy
        have t1 : decide ((j : Int) < m) = true := by simp; omega
        have hji : (j : Int) < m := by omega
        by_cases hxy : x = y
        · subst hxy
          have HN := Lib.hid (show ∀ t : Nat, t < j + 1 → l[t]? = r[t]? from fun t ht => by
            by_cases h : t < j
            · exact HE.out t h
            · obtain rfl : t = j := by omega
              rw [hx, hy])
          clear hx hy
          go_wp2
          go_quiet (fail)
          go_wp2
          go_roundw
          case rel => exact ⟨j + 1, by omega, by go_num, HN.out, below_drewN bel _⟩
          case measure => simp [intOf]; omega
        · have HN := Lib.hid (show ¬ l = r from fun h => hxy (by rw [h, hy] at hx; exact (Option.some.inj hx).symm))
          by_cases h1 : x.1 = y.1
          · have t2 : (x.1 == y.1) = true := by simp [h1]
            have t3 : (x.2 == y.2) = false := by
              simp only [beq_eq_false_iff_ne, ne_eq]
              exact fun h2 => hxy (Prod.ext h1 h2)
            clear hx hy hxy h1
            go_wp2
            go_quiet (fail)
            go_wp2
            go_ret
            exact ⟨ret_eq (congrArg Value.bool (decide_eq_false HN.out).symm), below_drewN bel _⟩
          · have t2 : (x.1 == y.1) = false := by simp [h1]
            clear hx hy hxy h1
            go_wp2
            go_quiet (fail)
            go_wp2
            go_ret
            exact ⟨ret_eq (congrArg Value.bool (decide_eq_false HN.out).symm), below_drewN bel _⟩
      · obtain rfl : j = m := by omega
        have HN := Lib.hid (show l = r from Om.ext_pairs HM.out HQ.out HE.out)
        have t1 : decide ((j : Int) < j) = false := by simp
        go_wp2
        go_ret
        exact ⟨ret_eq (congrArg Value.bool (decide_eq_true HN.out).symm), bel⟩
  · have HN := Lib.hid (show ¬ l = r from fun h => hmq (by rw [← HM.out, ← HQ.out, h]))
    have t0 : ((m : Int) != q) = true := by simp; omega
    go_enter Try.func31, Try.ntmps31
    go_wp2
    go_ret
    exact ⟨ret_eq (congrArg Value.bool (decide_eq_false HN.out).symm), Below.refl _ _⟩
end
section
attribute [local go_sem] guardR
theorem equalL_any (A B : Option Addr) (m c q d : Nat) (l r : List Rc) (w : World) (hm : l.length = m) (hq : r.length = q) (hx : m ≤ 5000) (hy : q ≤ 5000) (hl : Rd w A l) (hr : Rd w B r) :
    Calls Try.prog 36 #[.slice A m c, .slice B q d] w fun e w' => e = .returned (.bool (decide (l = r))) ∧ Below w.heap.size w w' := by
  have HL := Lib.hid hl; clear hl
  have HR := Lib.hid hr; clear hr
  have HM := Lib.hid hm; clear hm
  have HQ := Lib.hid hq; clear hq
  by_cases hmq : m = q
  · subst hmq
    have t0 : ((m : Int) != m) = false := by simp
    go_enter Try.func36, Try.ntmps36
    go_wp2
    go_loopw [5] (fun i wr => ∃ j : Nat, j ≤ m ∧ i = .int .i64 j ∧ (∀ t : Nat, t < j → l[t]? = r[t]?) ∧ Below w.heap.size w wr) (fun i _ => (m - intOf i).toNat)
    case atStart => exact ⟨0, Nat.zero_le _, rfl, fun t h => absurd h (Nat.not_lt_zero _), Below.refl _ _⟩
    case round =>
      obtain ⟨j, hj, rfl, hE, bel⟩ := hrel
      have HE := Lib.hid hE; clear hE
      by_cases hlt : j < m
      · obtain ⟨x, hx, _⟩ := getElem?_lt HM.out hlt
        obtain ⟨y, hy, _⟩ := getElem?_lt HQ.out hlt
        obtain ⟨b, o, rfl, g0, g1, g2, g3, g4⟩ := (HL.out.below bel) j x hx
        obtain ⟨b', o', rfl, k0, k1, k2, k3, k4⟩ := (HR.out.below bel) j y hy
        have t1 : decide ((j : Int) < m) = true := by simp; omega
        have hji : (j : Int) < m := by omega
        have ER := fun W => eqR x y W
        by_cases hxy : x = y
        · have HN := Lib.hid (show ∀ t : Nat, t < j + 1 → l[t]? = r[t]? from fun t ht => by
            by_cases h : t < j
            · exact HE.out t h
            · obtain rfl : t = j := by omega
              rw [hx, hy, hxy])
          rw [decide_eq_true hxy] at ER
          clear hx hy hxy
          go_wp2
          go_quiet (fail)
          go_wp2
          go_roundw
          case rel => exact ⟨j + 1, by omega, by go_num, HN.out, below_drewN bel _⟩
          case measure => simp [intOf]; omega
        · have HN := Lib.hid (show ¬ l = r from fun h => hxy (by rw [h, hy] at hx; exact (Option.some.inj hx).symm))
          rw [decide_eq_false hxy] at ER
          clear hx hy hxy
          go_wp2
          go_quiet (fail)
          go_wp2
          go_ret
          exact ⟨ret_eq (congrArg Value.bool (decide_eq_false HN.out).symm), below_drewN bel _⟩
      · obtain rfl : j = m := by omega
        have HN := Lib.hid (show l = r from ext_rc HM.out HQ.out HE.out)
        have t1 : decide ((j : Int) < j) = false := by simp
        go_wp2
        go_ret
        exact ⟨ret_eq (congrArg Value.bool (decide_eq_true HN.out).symm), bel⟩
  · have HN := Lib.hid (show ¬ l = r from fun h => hmq (by rw [← HM.out, ← HQ.out, h]))
    have t0 : ((m : Int) != q) = true := by simp; omega
    go_enter Try.func36, Try.ntmps36
    go_wp2
    go_ret
    exact ⟨ret_eq (congrArg Value.bool (decide_eq_false HN.out).symm), Below.refl _ _⟩
end
theorem ascL_any (A : Option Addr) (n c : Nat) (l : List Om.Pr) (w : World) (hn : l.length = n) (hs : n ≤ 5000) (hr : Om.Rd w A l) (b : Bool) (hb : b = true ↔ Asc l) :
    Calls Try.prog 28 #[.slice A n c] w fun e w' => e = .returned (.bool b) ∧ Below w.heap.size w w' := by
  have HR := Lib.hid hr; clear hr
  have HA := Lib.hid (hb.trans asc_iff); clear hb
  have HL := Lib.hid hn; clear hn
  go_enter Try.func28, Try.ntmps28
  go_wp2
  go_loopw [3] (fun i wr => ∃ j : Nat, (j ≤ n ∨ j = 0) ∧ i = .int .i64 ((j + 1 : Nat) : Int) ∧ (∀ (t : Nat) x y, t < j → l[t]? = some x → l[t + 1]? = some y → x.1 < y.1) ∧ Below w.heap.size w wr) (fun i _ => (n + 1 - intOf i).toNat)
  case atStart => exact ⟨0, .inr rfl, rfl, fun t x y h => absurd h (Nat.not_lt_zero _), Below.refl _ _⟩
  case round =>
    obtain ⟨j, hj, rfl, hE, bel⟩ := hrel
    have HE := Lib.hid hE; clear hE
    by_cases hlt : j + 1 < n
    · obtain ⟨x, hx, _⟩ := Om.getElem?_lt HL.out (show j < n by omega)
      obtain ⟨y, hy, _⟩ := Om.getElem?_lt HL.out hlt
      obtain ⟨b1, o, rfl, g0, g1⟩ := (HR.out.below bel) j x hx
      obtain ⟨b', o', e', g2, g3⟩ := (HR.out.below bel) (j + 1) y hy
      cases e'
      have u0 : decide (((j : Int) + 1) < n) = true := decide_eq_true (by omega)
      have hji : (j : Int) + 1 < n := by omega
      have e1 : IntKind.i64.wrap (((j + 1 : Nat) : Int) - 1) = j := by rw [IntWalk.i64_in _ (by omega)]; omega
      by_cases hxy : x.1 < y.1
      · have t1 : decide (y.1 ≤ x.1) = false := decide_eq_false (by omega)
        have HN := Lib.hid (show ∀ (t : Nat) x y, t < j + 1 → l[t]? = some x → l[t + 1]? = some y → x.1 < y.1 from fun t x' y' ht hx' hy' => by
          by_cases h : t < j
          · exact HE.out t x' y' h hx' hy'
          · obtain rfl : t = j := by omega
            rw [hx] at hx'; rw [hy] at hy'; cases hx'; cases hy'; exact hxy)
        clear hx hy hxy
        go_wp2
        go_quiet (fail)
        clear e1
        go_wp2
        go_roundw
        case rel => exact ⟨j + 1, .inl (by omega), by go_num, HN.out, below_drewN bel _⟩
        case measure => simp [intOf]; omega
      · have t1 : decide (y.1 ≤ x.1) = true := decide_eq_true (by omega)
        have HN := Lib.hid (show false = b from by
          cases b with
          | false => rfl
          | true => exact absurd (HA.out.1 rfl j x y hx hy) hxy)
        clear hx hy hxy
        go_wp2
        go_quiet (fail)
        clear e1
        go_wp2
        go_ret
        exact ⟨ret_eq (congrArg Value.bool HN.out), below_drewN bel _⟩
    · have u0 : decide (((j : Int) + 1) < n) = false := decide_eq_false (by omega)
      have HN := Lib.hid (show true = b from (HA.out.2 fun t x y hx hy => HE.out t x y (by
        have := (List.getElem?_eq_some_iff.1 hy).1
        have := HL.out
        rcases hj with h | h <;> omega) hx hy).symm)
      go_wp2
      go_ret
      exact ⟨ret_eq (congrArg Value.bool HN.out), bel⟩

/-! ### one -/
noncomputable def oneR (p : List Om.Pr) (lo hi d : Int) : List Rc := if d = 0 then deR p lo hi else mvR p lo hi d
theorem one_any (A : Option Addr) (n c : Nat) (p : List Om.Pr) (lo hi d : Int) (w : World) (hn : p.length = n) (hs : n ≤ 400) (hnc : n ≤ c) (hz : A = none → c = 0) (hr : Om.Rd w A p) (hd : Om.Bd p) (ll : 0 ≤ lo) (lh : lo ≤ 18446744073709551615) (hl : 0 ≤ hi) (hh : hi ≤ 18446744073709551615) (dl : 0 ≤ d) (dh : d ≤ 18446744073709551615) :
    Calls Try.prog 37 #[.slice A n c, .agg #[.int .u64 lo, .int .u64 hi], .int .u64 d] w fun e w' => ∃ v, e = .returned v ∧ w'.ownsRow w.heap.size 45 5 v (oneR p lo hi d).length (flat (oneR p lo hi d)) ∧ Below w.heap.size w w' := by
  have b0 : Below w.heap.size w (w.alloc (.cells #[.int .u64 lo, .int .u64 hi] 25)) := bel_alloc (Below.refl _ _) _
  by_cases h0 : d = 0
  · have C := Lib.hid (deleteP_any A n c p lo hi _ hn hs (hr.below b0) hd ll lh hl hh)
    have HO := Lib.hid (show oneR p lo hi d = deR p lo hi from if_pos h0)
    have t0 : (d == 0) = true := by simp [h0]
    rw [HO.out]
    clear h0 hr hd hz HO
    go_enter Try.func37, Try.ntmps37
    go_wp2_with fail
    refine C.out.mono ?_
    rintro r W1 ⟨v, rfl, ho, b1⟩
    have HO := Lib.hid ho; clear ho
    go_wp2
    go_ret
    exact ⟨v, rfl, row_base HO.out b0.size, bel_trans b0 b1⟩
  · have C := Lib.hid (moveP_any A n c p lo hi d _ hn hs hnc hz (hr.below b0) hd ll lh hl hh dl dh)
    have HO := Lib.hid (show oneR p lo hi d = mvR p lo hi d from if_neg h0)
    have t0 : (d == 0) = false := by simp [h0]
    rw [HO.out]
    clear h0 hr hd hz HO
    go_enter Try.func37, Try.ntmps37
    go_wp2_with fail
    refine C.out.mono ?_
    rintro r W1 ⟨v, rfl, ho, b1⟩
    have HO := Lib.hid ho; clear ho
    go_wp2
    go_ret
    exact ⟨v, rfl, row_base HO.out b0.size, bel_trans b0 b1⟩
/-! ### known -/
theorem rd_lit2 (w : World) (a b c d : Int) : Om.Rd (w.alloc (.cells #[.int .u64 a, .int .u64 b, .int .u64 c, .int .u64 d] 43)) (some ⟨w.heap.size, 0, none⟩) [(a, b), (c, d)] := by
  intro k x hk
  match k, hk with
  | 0, hk => simp at hk; subst hk; exact ⟨_, _, rfl, by simp, by simp⟩
  | 1, hk => simp at hk; subst hk; exact ⟨_, _, rfl, by simp, by simp⟩
  | k + 2, hk => simp at hk
theorem known_del : deE [(4, 2), (6, 3)] 5 9 = 0 ∧ deR [(4, 2), (6, 3)] 5 9 = [⟨6, true, 3, false, 0⟩] := by
  have ha : Asc [((4 : Int), (2 : Int)), (6, 3)] := by simp [Asc]
  have h0 : deE [(4, 2), (6, 3)] 5 9 = 0 := by rw [deE_rg ha]; rfl
  refine ⟨h0, ?_⟩
  rw [deR_yes h0]
  decide +kernel
section
attribute [local go_sem] guardR
set_option maxRecDepth 100000 in
set_option maxHeartbeats 1000000 in
theorem known_any (w : World) : Calls Try.prog 11 #[] w fun e w' => e = .returned (.bool true) ∧ Below w.heap.size w w' := by
  have b0 : Below w.heap.size w (w.alloc (.cells #[.int .u64 4, .int .u64 2, .int .u64 6, .int .u64 3] 43)) := bel_alloc (Below.refl _ _) _
  have C := Lib.hid (deleteP_any (some ⟨w.heap.size, 0, none⟩) 2 2 [(4, 2), (6, 3)] 5 9 _ rfl (by omega) (rd_lit2 w 4 2 6 3) (by intro x hx; simp at hx; rcases hx with rfl | rfl <;> decide) (by omega) (by omega) (by omega) (by omega))
  rw [known_del.1, known_del.2] at C
  go_enter Try.func11, Try.ntmps11
  go_wp2_with fail
  refine C.out.mono ?_
  rintro r W1 ⟨v, rfl, ho, b1⟩
  obtain ⟨_, A, c, rfl, hc, hr, _⟩ := row_form ho
  obtain ⟨b, o, rfl, g0, g1, g2, g3, g4⟩ := hr 0 _ rfl
  have b2 := bel_trans b0 b1
  clear C ho hr b0 b1
  simp only [Nat.zero_mul, Nat.add_zero] at g0 g1 g2 g3 g4
  have EQ := fun W => eqR ⟨6, true, 3, false, 0⟩ ⟨6, true, 3, false, 0⟩ W
  simp only [decide_true] at EQ
  go_wp2
  go_ret
  exact ⟨rfl, b2⟩
end
end Pl
end Go.Proofs.Ytbdllakbkienoaa
