/- Counts of leapfrogref06: contract of the translated code. Conditions: at most 5000 changes. -/
import Derived.Test.YtbdllakbkienoaaPlK
import Derived.Test.YtbdllakbkienoaaPlB
namespace Go.Proofs.Ytbdllakbkienoaa
open Go.RowKit Go.Sort
set_option linter.unusedVariables false
set_option linter.unusedSimpArgs false
namespace Pl
open Om (addr_lit bel_alloc bel_trans below_drewN ret_eq results_tmp4)
def cnt (f : Rc → Bool) (l : List Rc) : Nat := (l.filter f).length
theorem cnt_take {l : List Rc} {j : Nat} {x : Rc} (f : Rc → Bool) (h : l[j]? = some x) : cnt f (l.take (j + 1)) = cnt f (l.take j) + (if f x then 1 else 0) := by
  unfold cnt
  rw [take_succ' h, List.filter_append, List.length_append]
  cases hf : f x <;> simp [hf]
theorem cnt_le (f : Rc → Bool) (l : List Rc) : cnt f l ≤ l.length := List.length_filter_le _ _
def isB (x : Rc) : Bool := !x.w
def isG (x : Rc) : Bool := x.w && !x.i
def isS (x : Rc) : Bool := x.w && x.i
def nT (b : Bool) (l : List Rc) : Value := if b then .tuple #[.int .i64 (cnt isB l : Nat), .int .i64 (cnt isG l : Nat), .int .i64 (cnt isS l : Nat), .int .i64 0] else .tuple #[.int .i64 0, .int .i64 0, .int .i64 0, .int .i64 2]
set_option maxHeartbeats 1000000 in
theorem countsR_any (A : Option Addr) (n c : Nat) (l : List Rc) (w : World) (hn : l.length = n) (hs : n ≤ 5000) (hr : Rd w A l) (b : Bool) (hb : b = true ↔ chk l) :
    Calls Try.prog 25 #[.slice A n c] w fun e w' => e = .returned (nT b l) ∧ Below w.heap.size w w' := by
  have CK := Lib.hid (checkR_any A n c l w hn hs hr b hb)
  have HR := Lib.hid hr; clear hr
  have HL := Lib.hid hn; clear hn
  clear hb
  cases b with
  | false =>
    unfold eT at CK
    go_enter Try.func25, Try.ntmps25
    go_wp2_with fail
    refine CK.out.mono ?_
    rintro r W1 ⟨rfl, b1⟩
    go_wp2
    refine bodyPost_ret (results_tmp4 rfl _ _ _) rfl ?_
    exact ⟨rfl, b1⟩
  | true =>
    unfold eT at CK
    go_enter Try.func25, Try.ntmps25
    go_wp2_with fail
    refine CK.out.mono ?_
    rintro r W1 ⟨rfl, b1⟩
    have HR := Lib.hid (HR.out.below b1)
    clear CK
    go_wp2
    go_loopw [7, 8, 9, 10] (fun p q s i wr => ∃ j cb cg cs : Nat, j ≤ n ∧ i = .int .i64 j ∧ p = .int .i64 cb ∧ q = .int .i64 cg ∧ s = .int .i64 cs ∧ cb ≤ j ∧ cg ≤ j ∧ cs ≤ j ∧ cnt isB (l.take j) = cb ∧ cnt isG (l.take j) = cg ∧ cnt isS (l.take j) = cs ∧ wr = W1) (fun p q s i _ => (n - intOf i).toNat)
    case atStart => exact ⟨0, 0, 0, 0, Nat.zero_le _, rfl, rfl, rfl, rfl, Nat.le_refl _, Nat.le_refl _, Nat.le_refl _, rfl, rfl, rfl, rfl⟩
    case round =>
      obtain ⟨j, cb, cg, cs, hj, rfl, rfl, rfl, rfl, h1, h2, h3, e1, e2, e3, rfl⟩ := hrel
      have E1 := Lib.hid e1; have E2 := Lib.hid e2; have E3 := Lib.hid e3
      clear e1 e2 e3
      by_cases hlt : j < n
      · obtain ⟨x, hx, _⟩ := getElem?_lt HL.out hlt
        obtain ⟨b1, o, rfl, g0, g1, g2, g3, g4⟩ := HR.out j x hx
        have u0 : decide ((j : Int) < n) = true := decide_eq_true (by omega)
        have hji : (j : Int) < n := by omega
        have N1 := Lib.hid (cnt_take isB hx); have N2 := Lib.hid (cnt_take isG hx); have N3 := Lib.hid (cnt_take isS hx)
        clear hx
        obtain ⟨xk, xw, xo, xi, xn⟩ := x
        simp only at g0 g1 g2 g3 g4
        cases xw
        · go_wp2
          go_roundw
          case rel => exact ⟨j + 1, cb + 1, cg, cs, by omega, by go_num, by go_num, rfl, rfl, by omega, by omega, by omega, by rw [N1.out, E1.out]; rfl, by rw [N2.out, E2.out]; rfl, by rw [N3.out, E3.out]; rfl, by first | rfl | trivial⟩
          case measure => simp [intOf]; omega
        · cases xi
          · go_wp2
            go_roundw
            case rel => exact ⟨j + 1, cb, cg + 1, cs, by omega, by go_num, rfl, by go_num, rfl, by omega, by omega, by omega, by rw [N1.out, E1.out]; rfl, by rw [N2.out, E2.out]; rfl, by rw [N3.out, E3.out]; rfl, by first | rfl | trivial⟩
            case measure => simp [intOf]; omega
          · go_wp2
            go_roundw
            case rel => exact ⟨j + 1, cb, cg, cs + 1, by omega, by go_num, rfl, rfl, by go_num, by omega, by omega, by omega, by rw [N1.out, E1.out]; rfl, by rw [N2.out, E2.out]; rfl, by rw [N3.out, E3.out]; rfl, by first | rfl | trivial⟩
            case measure => simp [intOf]; omega
      · obtain rfl : j = n := by omega
        have u0 : decide ((j : Int) < j) = false := decide_eq_false (by omega)
        have HT := Lib.hid (show l.take j = l from List.take_of_length_le (by rw [HL.out]; omega))
        go_wp2
        refine bodyPost_ret (results_tmp4 rfl _ _ _) rfl ?_
        refine ⟨?_, b1⟩
        have q1 := E1.out; have q2 := E2.out; have q3 := E3.out
        rw [HT.out] at q1 q2 q3
        unfold nT
        rw [q1, q2, q3]
        rfl
end Pl
end Go.Proofs.Ytbdllakbkienoaa
