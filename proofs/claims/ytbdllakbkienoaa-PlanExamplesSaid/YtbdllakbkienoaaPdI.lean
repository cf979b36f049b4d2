/- Invert and Counts of package plan: contracts of the translated code. Conditions: at most 1000 changes. -/
import Derived.Test.YtbdllakbkienoaaPdK
import Derived.Test.YtbdllakbkienoaaPlI
import Derived.Test.YtbdllakbkienoaaPlN
namespace Go.Proofs.Ytbdllakbkienoaa
open Go.RowKit Go.Sort
set_option linter.unusedVariables false
set_option linter.unusedSimpArgs false
namespace Pl
open Om (addr_lit bel_alloc bel_trans below_drewN ret_eq results_tmp4)
theorem invertP_no (A : Option Addr) (n c : Nat) (l : List Rc) (w : World) (hn : l.length = n) (hs : n ≤ 1000) (hr : Rd w A l) (hk : ¬ chk l) :
    Calls Try.prog 22 #[.slice A n c] w (APost w 2 []) := by
  have CK := Lib.hid (checkP_any A n c l w hn (by omega) hr false ⟨fun q => by (cases q), fun q => absurd q hk⟩)
  unfold eT at CK
  clear hr
  go_enter Try.func22, Try.ntmps22
  go_wp2_with fail
  refine CK.out.mono ?_
  rintro r W1 ⟨rfl, b1⟩
  go_wp2
  go_ret2
  exact APost.err b1
set_option maxRecDepth 100000 in
set_option maxHeartbeats 1000000 in
theorem invertP_ok (A : Option Addr) (n c : Nat) (l : List Rc) (w : World) (hn : l.length = n) (hs : n ≤ 1000) (hr : Rd w A l) (hk : chk l) :
    Calls Try.prog 22 #[.slice A n c] w (APost w 0 (l.map revR)) := by
  have CK := Lib.hid (checkP_any A n c l w hn (by omega) hr true ⟨fun _ => hk, fun _ => rfl⟩)
  unfold eT at CK
  have HR := Lib.hid hr; clear hr
  have HL := Lib.hid hn; clear hn
  clear hk
  go_enter Try.func22, Try.ntmps22
  go_wp2_with fail
  refine CK.out.mono ?_
  rintro r W1 ⟨rfl, b1⟩
  have HR := Lib.hid (HR.out.below b1)
  clear CK
  go_wp2
  go_loopw [5, 15] (fun q i wr => ∃ j : Nat, j ≤ n ∧ i = .int .i64 j ∧ wr.ownsRow W1.heap.size 45 5 q j (flat ((l.take j).map revR)) ∧ Below W1.heap.size W1 wr) (fun q i _ => (n - intOf i).toNat)
  case atStart => exact ⟨0, Nat.zero_le _, rfl, World.ownsRow_nil _ _ _ _, Below.refl _ _⟩
  case round =>
    obtain ⟨j, hj, rfl, hq, bel⟩ := hrel
    have HQ := Lib.hid hq; clear hq
    by_cases hlt : j < n
    · obtain ⟨x, hx, _⟩ := getElem?_lt HL.out hlt
      obtain ⟨b, o, rfl, c0, c1, c2, c3, c4⟩ := (HR.out.below bel) j x hx
      have HK := Lib.hid (rev_take hx)
      have u0 : decide ((j : Int) < n) = true := decide_eq_true (by omega)
      have hji : (j : Int) < n := by omega
      clear hx
      go_upto_region 8 with fail
      have X := Lib.hid (B5.made wr x)
      have ba := bel_alloc (Below.refl wr.heap.size wr) (.cells #[.int .u64 x.k, .bool x.w, .int .u64 x.o, .bool x.i, .int .u64 x.n] 45)
      have HQ2 := Lib.hid (row_below HQ.out ba)
      have bel2 := bel_trans bel ba
      clear c0 c1 c2 c3 c4 HQ ba bel
      generalize wr.alloc (.cells #[.int .u64 x.k, .bool x.w, .int .u64 x.o, .bool x.i, .int .u64 x.n] 45) = W2 at *
      generalize wr.heap.size = xb at *
      have x0 := X.out.c0; have x1 := X.out.c1; have x2 := X.out.c2; have x3 := X.out.c3; have x4 := X.out.c4
      go_wp2_with (at_builtin; refine app3 rfl (.tmp 19) (.tmp 31) rfl _ W1.heap.size _ _ ((l.take j).map revR) (revR x) rfl rfl HQ2.out (by omega) bel2.size ?_; intro v8 w8 h1 b8 k8; have HW8 := Lib.hid h1; clear h1 k8)
      go_roundw
      case rel => exact ⟨j + 1, by omega, by go_num, by rw [HK.out]; exact HW8.out, bel2.trans b8⟩
      case measure => simp [intOf]; omega
    · obtain rfl : j = n := by omega
      have u0 : decide ((j : Int) < j) = false := decide_eq_false (by omega)
      have HT := Lib.hid (show l.take j = l from List.take_of_length_le (by rw [HL.out]; omega))
      go_wp2
      go_ret2
      refine ⟨_, rfl, row_base (by have h := HQ.out; rw [HT.out] at h; rw [List.length_map, HL.out]; exact h) b1.size, bel_trans b1 bel⟩
set_option maxHeartbeats 1000000 in
theorem countsP_any (A : Option Addr) (n c : Nat) (l : List Rc) (w : World) (hn : l.length = n) (hs : n ≤ 5000) (hr : Rd w A l) (b : Bool) (hb : b = true ↔ chk l) :
    Calls Try.prog 24 #[.slice A n c] w fun e w' => e = .returned (nT b l) ∧ Below w.heap.size w w' := by
  have CK := Lib.hid (checkP_any A n c l w hn hs hr b hb)
  have HR := Lib.hid hr; clear hr
  have HL := Lib.hid hn; clear hn
  clear hb
  cases b with
  | false =>
    unfold eT at CK
    go_enter Try.func24, Try.ntmps24
    go_wp2_with fail
    refine CK.out.mono ?_
    rintro r W1 ⟨rfl, b1⟩
    go_wp2
    refine bodyPost_ret (results_tmp4 rfl _ _ _) rfl ?_
    exact ⟨rfl, b1⟩
  | true =>
    unfold eT at CK
    go_enter Try.func24, Try.ntmps24
    go_wp2_with fail
    refine CK.out.mono ?_
    rintro r W1 ⟨rfl, b1⟩
    have HR := Lib.hid (HR.out.below b1)
    clear CK
    go_wp2
    go_loopw [2, 3, 4, 16] (fun p q s i wr => ∃ j cb cg cs : Nat, j ≤ n ∧ i = .int .i64 j ∧ p = .int .i64 cb ∧ q = .int .i64 cg ∧ s = .int .i64 cs ∧ cb ≤ j ∧ cg ≤ j ∧ cs ≤ j ∧ cnt isB (l.take j) = cb ∧ cnt isG (l.take j) = cg ∧ cnt isS (l.take j) = cs ∧ Below W1.heap.size W1 wr) (fun p q s i _ => (n - intOf i).toNat)
    case atStart => exact ⟨0, 0, 0, 0, Nat.zero_le _, rfl, rfl, rfl, rfl, Nat.le_refl _, Nat.le_refl _, Nat.le_refl _, rfl, rfl, rfl, Below.refl _ _⟩
    case round =>
      obtain ⟨j, cb, cg, cs, hj, rfl, rfl, rfl, rfl, h1, h2, h3, e1, e2, e3, bel⟩ := hrel
      have E1 := Lib.hid e1; have E2 := Lib.hid e2; have E3 := Lib.hid e3
      clear e1 e2 e3
      by_cases hlt : j < n
      · obtain ⟨x, hx, _⟩ := getElem?_lt HL.out hlt
        obtain ⟨b1, o, rfl, g0, g1, g2, g3, g4⟩ := (HR.out.below bel) j x hx
        have u0 : decide ((j : Int) < n) = true := decide_eq_true (by omega)
        have hji : (j : Int) < n := by omega
        have N1 := Lib.hid (cnt_take isB hx); have N2 := Lib.hid (cnt_take isG hx); have N3 := Lib.hid (cnt_take isS hx)
        clear hx
        go_upto_region 8 with fail
        have X := Lib.hid (B5.made wr x)
        have bel2 := bel_alloc bel (.cells #[.int .u64 x.k, .bool x.w, .int .u64 x.o, .bool x.i, .int .u64 x.n] 45)
        clear g0 g1 g2 g3 g4 bel
        generalize wr.alloc (.cells #[.int .u64 x.k, .bool x.w, .int .u64 x.o, .bool x.i, .int .u64 x.n] 45) = W2 at *
        generalize wr.heap.size = xb at *
        have x1 := X.out.c1; have x3 := X.out.c3
        obtain ⟨xk, xw, xo, xi, xn⟩ := x
        simp only at x1 x3
        cases xw
        · go_wp2
          go_roundw
          case rel => exact ⟨j + 1, cb + 1, cg, cs, by omega, by go_num, by go_num, rfl, rfl, by omega, by omega, by omega, by rw [N1.out, E1.out]; rfl, by rw [N2.out, E2.out]; rfl, by rw [N3.out, E3.out]; rfl, bel2⟩
          case measure => simp [intOf]; omega
        · cases xi
          · go_wp2
            go_roundw
            case rel => exact ⟨j + 1, cb, cg + 1, cs, by omega, by go_num, rfl, by go_num, rfl, by omega, by omega, by omega, by rw [N1.out, E1.out]; rfl, by rw [N2.out, E2.out]; rfl, by rw [N3.out, E3.out]; rfl, bel2⟩
            case measure => simp [intOf]; omega
          · go_wp2
            go_roundw
            case rel => exact ⟨j + 1, cb, cg, cs + 1, by omega, by go_num, rfl, rfl, by go_num, by omega, by omega, by omega, by rw [N1.out, E1.out]; rfl, by rw [N2.out, E2.out]; rfl, by rw [N3.out, E3.out]; rfl, bel2⟩
            case measure => simp [intOf]; omega
      · obtain rfl : j = n := by omega
        have u0 : decide ((j : Int) < j) = false := decide_eq_false (by omega)
        have HT := Lib.hid (show l.take j = l from List.take_of_length_le (by rw [HL.out]; omega))
        go_wp2
        refine bodyPost_ret (results_tmp4 rfl _ _ _) rfl ?_
        refine ⟨?_, bel_trans b1 bel⟩
        have q1 := E1.out; have q2 := E2.out; have q3 := E3.out
        rw [HT.out] at q1 q2 q3
        unfold nT
        rw [q1, q2, q3]
        rfl
/-! ### one form for all lists -/
open Classical in
noncomputable def ckE (l : List Rc) : Int := if chk l then 0 else 2
open Classical in
noncomputable def ivR (l : List Rc) : List Rc := if chk l then l.map revR else []
theorem ckE_yes {l : List Rc} (h : chk l) : ckE l = 0 := if_pos h
theorem ckE_no {l : List Rc} (h : ¬ chk l) : ckE l = 2 := if_neg h
theorem ivR_yes {l : List Rc} (h : chk l) : ivR l = l.map revR := if_pos h
theorem ivR_no {l : List Rc} (h : ¬ chk l) : ivR l = [] := if_neg h
theorem invP (A : Option Addr) (n c : Nat) (l : List Rc) (w : World) (hn : l.length = n) (hs : n ≤ 1000) (hr : Rd w A l) :
    Calls Try.prog 22 #[.slice A n c] w (APost w (ckE l) (ivR l)) := by
  by_cases h : chk l
  · rw [ckE_yes h, ivR_yes h]; exact invertP_ok A n c l w hn hs hr h
  · rw [ckE_no h, ivR_no h]; exact invertP_no A n c l w hn hs hr h
theorem invR (A : Option Addr) (n c : Nat) (l : List Rc) (w : World) (hn : l.length = n) (hs : n ≤ 1000) (hr : Rd w A l) :
    Calls Try.prog 23 #[.slice A n c] w (APost w (ckE l) (ivR l)) := by
  by_cases h : chk l
  · rw [ckE_yes h, ivR_yes h]
    refine (invert_ok A n c l w hn hs hr h).mono ?_
    rintro e w' ⟨v, rfl, o, b⟩
    exact ⟨v, rfl, by rw [List.length_map, hn]; exact o, b⟩
  · rw [ckE_no h, ivR_no h]
    refine (invert_no A n c l w hn hs hr h).mono ?_
    rintro e w' ⟨rfl, b⟩
    exact APost.err b
theorem chkP (A : Option Addr) (n c : Nat) (l : List Rc) (w : World) (hn : l.length = n) (hs : n ≤ 5000) (hr : Rd w A l) :
    Calls Try.prog 20 #[.slice A n c] w fun e w' => e = .returned (.int .i64 (ckE l)) ∧ Below w.heap.size w w' := by
  by_cases h : chk l
  · rw [ckE_yes h]; exact checkP_any A n c l w hn hs hr true ⟨fun _ => h, fun _ => rfl⟩
  · rw [ckE_no h]; exact checkP_any A n c l w hn hs hr false ⟨fun q => by (cases q), fun q => absurd q h⟩
theorem chkR (A : Option Addr) (n c : Nat) (l : List Rc) (w : World) (hn : l.length = n) (hs : n ≤ 5000) (hr : Rd w A l) :
    Calls Try.prog 21 #[.slice A n c] w fun e w' => e = .returned (.int .i64 (ckE l)) ∧ Below w.heap.size w w' := by
  by_cases h : chk l
  · rw [ckE_yes h]; exact checkR_any A n c l w hn hs hr true ⟨fun _ => h, fun _ => rfl⟩
  · rw [ckE_no h]; exact checkR_any A n c l w hn hs hr false ⟨fun q => by (cases q), fun q => absurd q h⟩
open Classical in
noncomputable def ckB (l : List Rc) : Bool := decide (chk l)
theorem ckB_iff (l : List Rc) : ckB l = true ↔ chk l := by unfold ckB; simp
noncomputable def nTl (l : List Rc) : Value := nT (ckB l) l
theorem cntP (A : Option Addr) (n c : Nat) (l : List Rc) (w : World) (hn : l.length = n) (hs : n ≤ 5000) (hr : Rd w A l) :
    Calls Try.prog 24 #[.slice A n c] w fun e w' => e = .returned (nTl l) ∧ Below w.heap.size w w' := countsP_any A n c l w hn hs hr _ (ckB_iff l)
theorem cntR (A : Option Addr) (n c : Nat) (l : List Rc) (w : World) (hn : l.length = n) (hs : n ≤ 5000) (hr : Rd w A l) :
    Calls Try.prog 25 #[.slice A n c] w fun e w' => e = .returned (nTl l) ∧ Below w.heap.size w w' := countsR_any A n c l w hn hs hr _ (ckB_iff l)
end Pl
end Go.Proofs.Ytbdllakbkienoaa
