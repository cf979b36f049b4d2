/- birth, death, isChange, ascending and within of package plan: contracts of the translated code. Conditions: at most 1000 pairs; the bounds of each number's kind. -/
import Derived.Test.YtbdllakbkienoaaPlS
import Derived.Test.YtbdllakbkienoaaPlZ
import Derived.Test.YtbdllakbkienoaaPlT
namespace Go.Proofs.Ytbdllakbkienoaa
open Go.RowKit Go.Sort
set_option linter.unusedVariables false
set_option linter.unusedSimpArgs false
namespace Pl
open Om (addr_lit bel_alloc bel_trans below_drewN ret_eq Asc asc_iff inL inB in_take out_take inL_len)
def cV (x : Rc) : Value := .agg #[.int .u64 x.k, .bool x.w, .int .u64 x.o, .bool x.i, .int .u64 x.n]
def bthR (k v : Int) : Rc := ⟨k, false, 0, true, v⟩
def dthR (k v : Int) : Rc := ⟨k, true, v, false, 0⟩
theorem birth_any (k v : Int) (w : World) :
    Calls Try.prog 50 #[.int .u64 k, .int .u64 v] w fun e w' => e = .returned (cV (bthR k v)) ∧ Below w.heap.size w w' := by
  go_enter Try.func50, Try.ntmps50
  go_wp2
  exact bodyPost_ret (v := cV (bthR k v)) (by simp [results, Try.results50, go_sem, cV, bthR]) rfl ⟨rfl, bel_alloc (Below.refl _ _) _⟩
theorem death_any (k v : Int) (w : World) :
    Calls Try.prog 48 #[.agg #[.int .u64 k, .int .u64 v]] w fun e w' => e = .returned (cV (dthR k v)) ∧ Below w.heap.size w w' := by
  go_enter Try.func48, Try.ntmps48
  go_wp2
  exact bodyPost_ret (v := cV (dthR k v)) (by simp [results, Try.results48, go_sem, cV, dthR]) rfl ⟨rfl, bel_alloc (bel_alloc (Below.refl _ _) _) _⟩
theorem ascP_any (A : Option Addr) (n c : Nat) (l : List Om.Pr) (w : World) (hn : l.length = n) (hs : n ≤ 5000) (hr : Om.Rd w A l) (b : Bool) (hb : b = true ↔ Asc l) :
    Calls Try.prog 38 #[.slice A n c] w fun e w' => e = .returned (.bool b) ∧ Below w.heap.size w w' := by
  have HR := Lib.hid hr; clear hr
  have HA := Lib.hid (hb.trans asc_iff); clear hb
  have HL := Lib.hid hn; clear hn
  go_enter Try.func38, Try.ntmps38
  go_wp2
  go_loopw [3] (fun i wr => ∃ j : Nat, (j ≤ n ∨ j = 0) ∧ i = .int .i64 ((j + 1 : Nat) : Int) ∧ (∀ (t : Nat) x y, t < j → l[t]? = some x → l[t + 1]? = some y → x.1 < y.1) ∧ Below w.heap.size w wr) (fun i _ => (n + 1 - intOf i).toNat)
  case atStart => exact ⟨0, .inr rfl, rfl, fun t x y h => absurd h (Nat.not_lt_zero _), Below.refl _ _⟩
  case round =>
    obtain ⟨j, hj, rfl, hE, bel⟩ := hrel
    have HE := Lib.hid hE; clear hE
    by_cases hlt : j + 1 < n
    · obtain ⟨x, hx, _⟩ := Om.getElem?_lt HL.out (show j < n by omega)
      obtain ⟨y, hy, _⟩ := Om.getElem?_lt HL.out hlt
      obtain ⟨b1, o, rfl, g0, g1⟩ := (HR.out.below bel) j x hx
      obtain ⟨b', o', e', g2, g3⟩ := (HR.out.below bel) (j + 1) y hy
      cases e'
      have u0 : decide (((j : Int) + 1) < n) = true := decide_eq_true (by omega)
      have hji : (j : Int) + 1 < n := by omega
      have e1 : IntKind.i64.wrap (((j + 1 : Nat) : Int) - 1) = j := by rw [IntWalk.i64_in _ (by omega)]; omega
      by_cases hxy : x.1 < y.1
      · have t1 : decide (y.1 ≤ x.1) = false := decide_eq_false (by omega)
        have HN := Lib.hid (show ∀ (t : Nat) x y, t < j + 1 → l[t]? = some x → l[t + 1]? = some y → x.1 < y.1 from fun t x' y' ht hx' hy' => by
          by_cases h : t < j
          · exact HE.out t x' y' h hx' hy'
          · obtain rfl : t = j := by omega
            rw [hx] at hx'; rw [hy] at hy'; cases hx'; cases hy'; exact hxy)
        clear hx hy hxy
        go_wp2
        go_quiet (fail)
        clear e1
        go_wp2
        go_roundw
        case rel => exact ⟨j + 1, .inl (by omega), by go_num, HN.out, below_drewN bel _⟩
        case measure => simp [intOf]; omega
      · have t1 : decide (y.1 ≤ x.1) = true := decide_eq_true (by omega)
        have HN := Lib.hid (show false = b from by
          cases b with
          | false => rfl
          | true => exact absurd (HA.out.1 rfl j x y hx hy) hxy)
        clear hx hy hxy
        go_wp2
        go_quiet (fail)
        clear e1
        go_wp2
        go_ret
        exact ⟨ret_eq (congrArg Value.bool HN.out), below_drewN bel _⟩
    · have u0 : decide (((j : Int) + 1) < n) = false := decide_eq_false (by omega)
      have HN := Lib.hid (show true = b from (HA.out.2 fun t x y hx hy => HE.out t x y (by
        have := (List.getElem?_eq_some_iff.1 hy).1
        have := HL.out
        rcases hj with h | h <;> omega) hx hy).symm)
      go_wp2
      go_ret
      exact ⟨ret_eq (congrArg Value.bool HN.out), bel⟩
set_option maxRecDepth 100000 in
theorem isCh_any (x : Rc) (w : World) (b : Bool) (hb : b = true ↔ okR x) :
    Calls Try.prog 54 #[cV x] w fun e w' => e = .returned (.bool b) ∧ Below w.heap.size w w' := by
  obtain ⟨k, xw, xo, xi, xn⟩ := x
  unfold cV
  unfold okR at hb
  cases xw <;> cases xi
  · have hb' : b = false := by cases b <;> simp_all
    clear hb
    subst hb'
    go_enter Try.func54, Try.ntmps54
    go_wp2
    go_ret
    exact ⟨rfl, bel_alloc (Below.refl _ _) _⟩
  · by_cases ho : xo = 0
    · have hb' : b = true := by cases b <;> simp_all
      clear hb
      subst hb'
      have t1 : (xo == 0) = true := by simp [ho]
      clear ho
      go_enter Try.func54, Try.ntmps54
      go_wp2
      go_ret
      exact ⟨rfl, bel_alloc (Below.refl _ _) _⟩
    · have hb' : b = false := by cases b <;> simp_all
      clear hb
      subst hb'
      have t1 : (xo == 0) = false := by simp [ho]
      clear ho
      go_enter Try.func54, Try.ntmps54
      go_wp2
      go_ret
      exact ⟨rfl, bel_alloc (Below.refl _ _) _⟩
  · by_cases ho : xn = 0
    · have hb' : b = true := by cases b <;> simp_all
      clear hb
      subst hb'
      have t1 : (xn == 0) = true := by simp [ho]
      clear ho
      go_enter Try.func54, Try.ntmps54
      go_wp2
      go_ret
      exact ⟨rfl, bel_alloc (Below.refl _ _) _⟩
    · have hb' : b = false := by cases b <;> simp_all
      clear hb
      subst hb'
      have t1 : (xn == 0) = false := by simp [ho]
      clear ho
      go_enter Try.func54, Try.ntmps54
      go_wp2
      go_ret
      exact ⟨rfl, bel_alloc (Below.refl _ _) _⟩
  · have hb' : b = true := by cases b <;> simp_all
    clear hb
    subst hb'
    go_enter Try.func54, Try.ntmps54
    go_wp2
    go_ret
    exact ⟨rfl, bel_alloc (Below.refl _ _) _⟩
set_option maxHeartbeats 1000000 in
theorem within_any (A : Option Addr) (n c : Nat) (l : List Om.Pr) (lo hi : Int) (w : World) (hn : l.length = n) (hs : n ≤ 1000) (hr : Om.Rd w A l) (hd : Om.Bd l) (ll : 0 ≤ lo) (lh : lo ≤ 18446744073709551615) (hl : 0 ≤ hi) (hh : hi ≤ 18446744073709551615) :
    Calls Try.prog 47 #[.slice A n c, .agg #[.int .u64 lo, .int .u64 hi]] w fun e w' => ∃ v, e = .returned v ∧ w'.ownsRow w.heap.size 43 2 v (inL l lo hi).length (Om.flat (inL l lo hi)) ∧ Below w.heap.size w w' := by
  have b0 : Below w.heap.size w (w.alloc (.cells #[.int .u64 lo, .int .u64 hi] 25)) := bel_alloc (Below.refl _ _) _
  have HR := Lib.hid (hr.below b0); clear hr
  have HL := Lib.hid hn; clear hn
  have HD := Lib.hid hd; clear hd
  have s0 : (w.alloc (.cells #[.int .u64 lo, .int .u64 hi] 25)).cell? ⟨w.heap.size, 0, none⟩ = some (.int .u64 lo) := by simp
  have s1 : (w.alloc (.cells #[.int .u64 lo, .int .u64 hi] 25)).cell? ⟨w.heap.size, 1, none⟩ = some (.int .u64 hi) := by simp
  have hsz : w.heap.size < (w.alloc (.cells #[.int .u64 lo, .int .u64 hi] 25)).heap.size := by simp
  have CH := fun k h1 h2 W => Lib.hid (hasS_any lo hi k ll lh hl hh h1 h2 W)
  go_enter Try.func47, Try.ntmps47
  go_upto_region 1 with fail
  generalize w.alloc (.cells #[.int .u64 lo, .int .u64 hi] 25) = W1 at *
  go_wp2
  go_loopw [5, 10] (fun q i wr => ∃ k : Nat, k ≤ n ∧ i = .int .i64 k ∧ wr.ownsRow W1.heap.size 43 2 q (inL (l.take k) lo hi).length (Om.flat (inL (l.take k) lo hi)) ∧ Below W1.heap.size W1 wr) (fun q i _ => n - (intOf i).toNat)
  case atStart => exact ⟨0, Nat.zero_le _, rfl, World.ownsRow_nil _ _ _ _, Below.refl _ _⟩
  case round =>
    obtain ⟨k, hk, rfl, hq, bel⟩ := hrel
    have HQ := Lib.hid hq; clear hq
    have hq1 := inL_len (l.take k) lo hi
    have hk1 : (l.take k).length ≤ 1000 := by rw [List.length_take]; omega
    by_cases hlt : k < n
    · have u0 : decide ((k : Int) < n) = true := decide_eq_true (by omega)
      have hki : (k : Int) < n := by omega
      obtain ⟨x, hx, hmem⟩ := Om.getElem?_lt HL.out hlt
      obtain ⟨d0, d1, d2, d3⟩ := HD.out x hmem
      have HX := Lib.hid hx; clear hx hmem
      obtain ⟨b, o, rfl, c0, c1⟩ := (HR.out.below bel) k x HX.out
      have HC := fun W => Lib.hid (CH x.1 d0 d1 W).out
      have p0 := (bel.cell (p := ⟨w.heap.size, 0, none⟩) hsz).trans s0
      have p1 := (bel.cell (p := ⟨w.heap.size, 1, none⟩) hsz).trans s1
      have hsz2 : w.heap.size < wr.heap.size := Nat.lt_of_lt_of_le hsz bel.size
      go_upto_region 5 with fail
      have ba := bel_alloc (Below.refl wr.heap.size wr) (.cells #[.int .u64 x.1, .int .u64 x.2] 43)
      have x0 : (wr.alloc (.cells #[.int .u64 x.1, .int .u64 x.2] 43)).cell? ⟨wr.heap.size, 0, none⟩ = some (.int .u64 x.1) := by simp
      have x1 : (wr.alloc (.cells #[.int .u64 x.1, .int .u64 x.2] 43)).cell? ⟨wr.heap.size, 1, none⟩ = some (.int .u64 x.2) := by simp
      have xs : wr.heap.size < (wr.alloc (.cells #[.int .u64 x.1, .int .u64 x.2] 43)).heap.size := by simp
      replace p0 := (ba.cell (p := ⟨w.heap.size, 0, none⟩) hsz2).trans p0
      replace p1 := (ba.cell (p := ⟨w.heap.size, 1, none⟩) hsz2).trans p1
      have bel2 := bel_trans bel ba
      have HQ2 := Lib.hid (Om.row_below HQ.out ba)
      clear c0 c1 ba HQ bel
      generalize wr.alloc (.cells #[.int .u64 x.1, .int .u64 x.2] 43) = W2 at *
      generalize wr.heap.size = xb at *
      by_cases hin : lo ≤ x.1 ∧ x.1 ≤ hi
      · have E1 := Lib.hid (in_take (l := l) HX.out hin).1
        rw [decide_eq_true hin] at HC
        go_wp2_with fail
        refine (HC _).out.mono ?_
        rintro r W3 ⟨rfl, b3⟩
        replace x0 := (b3.cell (p := ⟨xb, 0, none⟩) xs).trans x0
        replace x1 := (b3.cell (p := ⟨xb, 1, none⟩) xs).trans x1
        have HQ3 := Lib.hid (Om.row_below HQ2.out b3)
        have bel3 := bel_trans bel2 b3
        clear HQ2 p0 p1 hin
        go_wp2_with (at_builtin; refine Om.app1 rfl (.tmp 18) (.tmp 20) rfl _ W1.heap.size _ _ (inL (l.take k) lo hi) x rfl rfl HQ3.out (by omega) bel3.size ?_; intro v8 w8 h1 b8; have HW8 := Lib.hid h1; clear h1)
        go_roundw
        case rel => exact ⟨k + 1, by omega, by go_num, by rw [E1.out, List.length_append]; exact HW8.out, bel3.trans b8⟩
        case measure => simp [intOf]; omega
      · have E1 := Lib.hid (out_take (l := l) HX.out hin).1
        rw [decide_eq_false hin] at HC
        go_wp2_with fail
        refine (HC _).out.mono ?_
        rintro r W3 ⟨rfl, b3⟩
        have HQ3 := Lib.hid (Om.row_below HQ2.out b3)
        have bel3 := bel_trans bel2 b3
        clear HQ2 p0 p1 hin
        go_wp2
        go_roundw
        case rel => exact ⟨k + 1, by omega, by go_num, by rw [E1.out]; exact HQ3.out, bel3⟩
        case measure => simp [intOf]; omega
    · obtain rfl : k = n := by omega
      have u0 : decide ((k : Int) < k) = false := decide_eq_false (by omega)
      have HT := Lib.hid (show l.take k = l from List.take_of_length_le (by rw [HL.out]; omega))
      go_wp2
      go_ret
      exact ⟨_, rfl, Om.row_base (by have h := HQ.out; rw [HT.out] at h; exact h) b0.size, bel_trans b0 bel⟩
end Pl
end Go.Proofs.Ytbdllakbkienoaa
