/- leapfrogref12: Check, Prefix: contracts of the translated code. Conditions: those of each lemma. Written by tools/mk12w.py. -/
import Derived.Test.YtgfhfcjjodcgdaaHiY
namespace Go.Proofs.Ytgfhfcjjodcgdaa
open Go.RowKit Go.Shelf Go.Sort
set_option linter.unusedVariables false
set_option linter.unusedSimpArgs false
namespace Hi
theorem Kd.appN {α : Type} (K : Kd α) {ops : Array Oper} {rest : List Oper} {o : Oper} {a : Act} {Q : Exit → Act → World → Prop} (hgd : o.guard = none) (s x : Operand)
    (ho : o.op = .call { callee := .builtin .append, args := #[s, x], argTypes := #[K.S, K.S] }) (W : World) (N : Nat) (hN : W.heap.size = N) (base : Nat) (v : Value) (ys : List α) (y : α) (cs : Array Value) (hcs : cs.toList = K.enc y)
    (hs : a.eval s = v) (hx : a.eval x = .slice (some ⟨N, 0, none⟩) 1 1) (hown : W.ownsRow base K.E K.sz v ys.length (K.flat ys)) (hn : ys.length ≤ 100000) (hb : base ≤ W.heap.size)
    (h : ∀ v' w', w'.ownsRow base K.E K.sz v' (ys ++ [y]).length (K.flat (ys ++ [y])) → Below base W w' → (∀ k, k < W.heap.size → v.ownBlock ≠ some k → w'.heap[k]? = W.heap[k]?) → wpList Try.prog ops Q rest (a.put o.dst v') w') :
    wpList Try.prog ops Q (o :: rest) a (W.alloc (.cells cs K.E)) := by
  subst hN
  exact K.app hgd s x ho W base v ys y cs hcs hs hx hown hn hb h
set_option maxRecDepth 100000 in
set_option maxHeartbeats 1000000 in
theorem rcheck_any (A : Option Addr) (n c : Nat) (l : List C) (w : World) (hl : l.length = n) (hx : n ≤ 1000) (hr : KC.Rd w A l) (hb : Bd l) :
    Calls Try.prog 12 #[.slice A n c] w fun e w' => e = .returned (chkV l) ∧ Below w.heap.size w w' := by
  have HL := Lib.hid hl
  have HR := Lib.hid hr
  have CG := Lib.hid (fun (W : World) (h : KC.Rd W A l) (i : Nat) (hi : i < n) => rgood_any A n c l W hl hx h hb i hi)
  have VS := Lib.hid (fun (i : Nat) (h : i < n) h0 h1 => chkV_some (chk_some (l := l) (i := i) (by omega) h0 h1))
  have VN := Lib.hid (fun (h : ∀ i, i < n → goodB (l.take i) (l.getD i c0) = true) => chkV_none (chk_none.2 (show WF l from fun i hi => h i (by omega))))
  generalize chkV l = cv at *
  clear hl hr hb
  go_enter Try.func12, Try.ntmps12
  go_wp2_with fail
  go_loopw [4] (fun s wr => ∃ (k : Nat), k ≤ n ∧ s = .int .i64 k ∧ (∀ j, j < k → goodB (l.take j) (l.getD j c0) = true) ∧ Below w.heap.size w wr) (fun s _ => n - (intOf s).toNat)
  case atStart => exact ⟨0, Nat.zero_le _, rfl, fun j hj => by omega, Below.refl _ _⟩
  case round =>
    obtain ⟨k, hk, rfl, hno, bel⟩ := hrel
    have NO := Lib.hid hno
    have BEL := Lib.hid bel
    clear hno
    by_cases hlt : k < n
    · have d0 : decide ((k : Int) < n) = true := decide_eq_true (by omega)
      have CGK := Lib.hid (CG.out wr (HR.out.below bel) k hlt)
      have VK := Lib.hid (VS.out k hlt NO.out)
      clear bel
      obtain ⟨g, hg⟩ : ∃ g, goodB (l.take k) (l.getD k c0) = g := ⟨_, rfl⟩
      have HG := Lib.hid hg
      rw [hg] at CGK VK
      clear hg
      cases g with
      | true =>
        go_wp2_with fail
        refine CGK.out.mono ?_
        rintro e w3 ⟨rfl, b3⟩
        have B3 := Lib.hid (bel_bel BEL.out b3)
        clear b3
        go_wp2_with fail
        go_roundw
        case rel =>
          refine ⟨k + 1, by omega, by go_num, fun j hj => ?_, B3.out⟩
          by_cases h : j < k
          · exact NO.out j h
          · rw [show j = k by omega]; exact HG.out
        case measure => simp [intOf]; omega
      | false =>
        have HV := Lib.hid (VK.out rfl)
        go_wp2_with fail
        refine CGK.out.mono ?_
        rintro e w3 ⟨rfl, b3⟩
        have B3 := Lib.hid (bel_bel BEL.out b3)
        clear b3
        go_wp2_with fail
        go_ret2
        exact ⟨by rw [HV.out]; rfl, B3.out⟩
    · obtain rfl : k = n := by omega
      have d0 : decide ((k : Int) < k) = false := by simp
      have HV := Lib.hid (VN.out NO.out)
      go_wp2_with fail
      go_ret2
      exact ⟨by rw [HV.out]; rfl, BEL.out⟩
set_option maxRecDepth 100000 in
set_option maxHeartbeats 2000000 in
theorem rprefix_any (st : Int) (A : Option Addr) (n c : Nat) (l : List C) (w : World) (hl : l.length = n) (hx : n ≤ 1000) (hr : KC.Rd w A l) (hb : Bd l) :
    Calls Try.prog 20 #[.int .i64 st, .slice A n c] w (RwPost KC (erS st l) (pfL st l) w) := by
  have CC := Lib.hid (rcheck_any A n c l w hl hx hr hb)
  rw [chkV_eq] at CC
  have HL := Lib.hid hl
  have HR := Lib.hid hr
  clear hl hr hb
  generalize chkAt l = at_ at *
  by_cases hwf : WF l
  · rw [erC_ok hwf] at CC
    by_cases hst : st < -1
    · have d1 := decide_eq_true hst
      have HP := Lib.hid (show ∀ w', Below w.heap.size w w' → RwPost KC (erS st l) (pfL st l) w (.returned (.tuple #[.slice none 0 0, .int .i64 3])) w' from fun w' h => by
        have e1 := erS_low hwf hst
        have e2 : pfL st l = [] := by unfold pfL; rw [if_neg (by rw [e1]; decide)]
        rw [e1, e2]
        exact ⟨_, rfl, KC.nil _ _, h⟩)
      clear hwf hst
      go_enter Try.func20, Try.ntmps20
      go_wp2_with fail
      refine CC.out.mono ?_
      rintro e w1 ⟨rfl, b1⟩
      go_wp2
      go_ret2
      exact HP.out _ b1
    · have d1 := decide_eq_false hst
      have HP := Lib.hid (show ∀ v w', w'.ownsRow w.heap.size KC.E KC.sz v (pref st l).length (KC.flat (pref st l)) → Below w.heap.size w w' → RwPost KC (erS st l) (pfL st l) w (.returned (.tuple #[v, .int .i64 0])) w' from fun v w' h1 h2 => by
        have e1 := erS_ok hwf (show -1 ≤ st by omega)
        have e2 : pfL st l = pref st l := by unfold pfL; rw [if_pos e1]
        rw [e1, e2]
        exact ⟨_, rfl, h1, h2⟩)
      clear hwf hst
      go_enter Try.func20, Try.ntmps20
      go_wp2_with fail
      refine CC.out.mono ?_
      rintro e w1 ⟨rfl, b1⟩
      have B1 := Lib.hid b1
      have HR1 := Lib.hid (HR.out.below b1)
      have hs1 := b1.size
      clear b1 CC HR
      go_wp2_with fail
      go_loopw [8, 9] (fun q i wr => ∃ (k : Nat), k ≤ n ∧ i = .int .i64 k ∧ wr.ownsRow w1.heap.size KC.E KC.sz q (pref st (l.take k)).length (KC.flat (pref st (l.take k))) ∧ Below w1.heap.size w1 wr) (fun q i _ => n - (intOf i).toNat)
      case atStart => exact ⟨0, Nat.zero_le _, rfl, KC.nil _ _, Below.refl _ _⟩
      case round =>
        obtain ⟨j, hj, rfl, ow, bel⟩ := hrel
        obtain ⟨wq, rfl⟩ : ∃ wq : World, wq = wr := ⟨_, rfl⟩
        by_cases hlt : j < n
        · have hjl : j < l.length := by have := HL.out; omega
          have d0 : decide ((j : Int) < n) = true := decide_eq_true (by omega)
          have j1 : (j : Int) < n := by omega
          obtain ⟨b, o, rfl, at0⟩ := KC.at_ (HR1.out.below bel) hjl
          have HN := Lib.hid (show pref st (l.take (j + 1)) = _ by rw [take_get (d := c0) hjl, pref_snoc])
          have hlen := pref_len st (l.take j)
          rw [List.length_take] at hlen
          obtain ⟨x, hx0⟩ : ∃ x, l.getD j c0 = x := ⟨_, rfl⟩
          rw [hx0] at at0 HN
          obtain ⟨L, hL⟩ : ∃ L, pref st (l.take j) = L := ⟨_, rfl⟩
          rw [hL] at ow HN hlen
          have OW := Lib.hid ow
          have AT := Lib.hid at0
          have cv : wq.cell? ⟨b, o + j * 18 + 9, none⟩ = some (.int .i64 x.v) := at0 9 _ rfl
          clear hL ow at0 hx0
          by_cases hv : x.v ≤ st
          · have d2 : decide (x.v > st) = false := decide_eq_false (by omega)
            rw [if_pos hv] at HN
            clear hv
            by_cases hu : st < x.u
            · have d3 : decide (x.u > st) = true := decide_eq_true hu
              by_cases ha : st < x.a
              · have d4 : decide (x.a > st) = true := decide_eq_true ha
                have HY := Lib.hid (show cutC st x = ({ x with u := -1, a := -1, s := 0, re := 0, rf := false, rk := 0, rv := 0, rc := 0 } : C) from by unfold cutC; simp [hu, ha])
                rw [HY.out] at HN
                have AN := Lib.hid (KC.at_new wq ({ x with u := -1, a := -1, s := 0, re := 0, rf := false, rk := 0, rv := 0, rc := 0 } : C))
                have B0 := Lib.hid (bel_alloc (Below.refl wq.heap.size wq) (.cells #[.int .i64 x.t, .int .i64 x.i, .int .u8 x.k, .int .u64 x.p0, .int .u64 x.p1, .int .u64 x.p2, .int .u64 x.p3, .int .u64 x.p4, .int .u64 x.p5, .int .i64 x.v, .int .i64 (-1), .int .i64 (-1), .int .i64 0, .int .i64 0, .bool false, .int .u64 0, .int .u64 0, .int .i64 0] 47))
                have hb0 := Nat.le_trans bel.size B0.out.size
                clear hu ha HY
                go_wp2_with (first | (refine ld rfl (.tmp 36) rfl b (o + j * 18) rfl x AT.out ?_) | (refine st_new rfl (.tmp 10) (.tmp 37) rfl wq _ rfl rfl rfl x rfl ?_) | (refine ld rfl (.tmp 10) rfl _ _ rfl ({ x with u := -1, a := -1, s := 0, re := 0, rf := false, rk := 0, rv := 0, rc := 0 } : C) AN.out ?_) | (at_builtin; refine KC.appN rfl (.tmp 51) (.tmp 53) rfl (wq.alloc (.cells #[.int .i64 x.t, .int .i64 x.i, .int .u8 x.k, .int .u64 x.p0, .int .u64 x.p1, .int .u64 x.p2, .int .u64 x.p3, .int .u64 x.p4, .int .u64 x.p5, .int .i64 x.v, .int .i64 (-1), .int .i64 (-1), .int .i64 0, .int .i64 0, .bool false, .int .u64 0, .int .u64 0, .int .i64 0] 47)) (wq.heap.size + 1) (by simp) w1.heap.size _ L ({ x with u := -1, a := -1, s := 0, re := 0, rf := false, rk := 0, rv := 0, rc := 0 } : C) #[.int .i64 x.t, .int .i64 x.i, .int .u8 x.k, .int .u64 x.p0, .int .u64 x.p1, .int .u64 x.p2, .int .u64 x.p3, .int .u64 x.p4, .int .u64 x.p5, .int .i64 x.v, .int .i64 (-1), .int .i64 (-1), .int .i64 0, .int .i64 0, .bool false, .int .u64 0, .int .u64 0, .int .i64 0] rfl rfl rfl (KC.own_below OW.out B0.out) (by omega) hb0 ?_; intro v4 w4 h1 b4 _))
                go_roundw
                case rel => exact ⟨j + 1, by omega, by go_num, by rw [HN.out]; exact h1, (bel_trans bel B0.out).trans b4⟩
                case measure => simp [intOf]; omega
              · have d4 : decide (x.a > st) = false := decide_eq_false ha
                have HY := Lib.hid (show cutC st x = ({ x with u := -1 } : C) from by unfold cutC; simp [hu, ha])
                rw [HY.out] at HN
                have AN := Lib.hid (KC.at_new wq ({ x with u := -1 } : C))
                have B0 := Lib.hid (bel_alloc (Below.refl wq.heap.size wq) (.cells #[.int .i64 x.t, .int .i64 x.i, .int .u8 x.k, .int .u64 x.p0, .int .u64 x.p1, .int .u64 x.p2, .int .u64 x.p3, .int .u64 x.p4, .int .u64 x.p5, .int .i64 x.v, .int .i64 (-1), .int .i64 x.a, .int .i64 x.s, .int .i64 x.re, .bool x.rf, .int .u64 x.rk, .int .u64 x.rv, .int .i64 x.rc] 47))
                have hb0 := Nat.le_trans bel.size B0.out.size
                clear hu ha HY
                go_wp2_with (first | (refine ld rfl (.tmp 36) rfl b (o + j * 18) rfl x AT.out ?_) | (refine st_new rfl (.tmp 10) (.tmp 37) rfl wq _ rfl rfl rfl x rfl ?_) | (refine ld rfl (.tmp 10) rfl _ _ rfl ({ x with u := -1 } : C) AN.out ?_) | (at_builtin; refine KC.appN rfl (.tmp 51) (.tmp 53) rfl (wq.alloc (.cells #[.int .i64 x.t, .int .i64 x.i, .int .u8 x.k, .int .u64 x.p0, .int .u64 x.p1, .int .u64 x.p2, .int .u64 x.p3, .int .u64 x.p4, .int .u64 x.p5, .int .i64 x.v, .int .i64 (-1), .int .i64 x.a, .int .i64 x.s, .int .i64 x.re, .bool x.rf, .int .u64 x.rk, .int .u64 x.rv, .int .i64 x.rc] 47)) (wq.heap.size + 1) (by simp) w1.heap.size _ L ({ x with u := -1 } : C) #[.int .i64 x.t, .int .i64 x.i, .int .u8 x.k, .int .u64 x.p0, .int .u64 x.p1, .int .u64 x.p2, .int .u64 x.p3, .int .u64 x.p4, .int .u64 x.p5, .int .i64 x.v, .int .i64 (-1), .int .i64 x.a, .int .i64 x.s, .int .i64 x.re, .bool x.rf, .int .u64 x.rk, .int .u64 x.rv, .int .i64 x.rc] rfl rfl rfl (KC.own_below OW.out B0.out) (by omega) hb0 ?_; intro v4 w4 h1 b4 _))
                go_roundw
                case rel => exact ⟨j + 1, by omega, by go_num, by rw [HN.out]; exact h1, (bel_trans bel B0.out).trans b4⟩
                case measure => simp [intOf]; omega
            · have d3 : decide (x.u > st) = false := decide_eq_false hu
              by_cases ha : st < x.a
              · have d4 : decide (x.a > st) = true := decide_eq_true ha
                have HY := Lib.hid (show cutC st x = ({ x with a := -1, s := 0, re := 0, rf := false, rk := 0, rv := 0, rc := 0 } : C) from by unfold cutC; simp [hu, ha])
                rw [HY.out] at HN
                have AN := Lib.hid (KC.at_new wq ({ x with a := -1, s := 0, re := 0, rf := false, rk := 0, rv := 0, rc := 0 } : C))
                have B0 := Lib.hid (bel_alloc (Below.refl wq.heap.size wq) (.cells #[.int .i64 x.t, .int .i64 x.i, .int .u8 x.k, .int .u64 x.p0, .int .u64 x.p1, .int .u64 x.p2, .int .u64 x.p3, .int .u64 x.p4, .int .u64 x.p5, .int .i64 x.v, .int .i64 x.u, .int .i64 (-1), .int .i64 0, .int .i64 0, .bool false, .int .u64 0, .int .u64 0, .int .i64 0] 47))
                have hb0 := Nat.le_trans bel.size B0.out.size
                clear hu ha HY
                go_wp2_with (first | (refine ld rfl (.tmp 36) rfl b (o + j * 18) rfl x AT.out ?_) | (refine st_new rfl (.tmp 10) (.tmp 37) rfl wq _ rfl rfl rfl x rfl ?_) | (refine ld rfl (.tmp 10) rfl _ _ rfl ({ x with a := -1, s := 0, re := 0, rf := false, rk := 0, rv := 0, rc := 0 } : C) AN.out ?_) | (at_builtin; refine KC.appN rfl (.tmp 51) (.tmp 53) rfl (wq.alloc (.cells #[.int .i64 x.t, .int .i64 x.i, .int .u8 x.k, .int .u64 x.p0, .int .u64 x.p1, .int .u64 x.p2, .int .u64 x.p3, .int .u64 x.p4, .int .u64 x.p5, .int .i64 x.v, .int .i64 x.u, .int .i64 (-1), .int .i64 0, .int .i64 0, .bool false, .int .u64 0, .int .u64 0, .int .i64 0] 47)) (wq.heap.size + 1) (by simp) w1.heap.size _ L ({ x with a := -1, s := 0, re := 0, rf := false, rk := 0, rv := 0, rc := 0 } : C) #[.int .i64 x.t, .int .i64 x.i, .int .u8 x.k, .int .u64 x.p0, .int .u64 x.p1, .int .u64 x.p2, .int .u64 x.p3, .int .u64 x.p4, .int .u64 x.p5, .int .i64 x.v, .int .i64 x.u, .int .i64 (-1), .int .i64 0, .int .i64 0, .bool false, .int .u64 0, .int .u64 0, .int .i64 0] rfl rfl rfl (KC.own_below OW.out B0.out) (by omega) hb0 ?_; intro v4 w4 h1 b4 _))
                go_roundw
                case rel => exact ⟨j + 1, by omega, by go_num, by rw [HN.out]; exact h1, (bel_trans bel B0.out).trans b4⟩
                case measure => simp [intOf]; omega
              · have d4 : decide (x.a > st) = false := decide_eq_false ha
                have HY := Lib.hid (show cutC st x = x from by unfold cutC; simp [hu, ha])
                rw [HY.out] at HN
                have AN := Lib.hid (KC.at_new wq x)
                have B0 := Lib.hid (bel_alloc (Below.refl wq.heap.size wq) (.cells #[.int .i64 x.t, .int .i64 x.i, .int .u8 x.k, .int .u64 x.p0, .int .u64 x.p1, .int .u64 x.p2, .int .u64 x.p3, .int .u64 x.p4, .int .u64 x.p5, .int .i64 x.v, .int .i64 x.u, .int .i64 x.a, .int .i64 x.s, .int .i64 x.re, .bool x.rf, .int .u64 x.rk, .int .u64 x.rv, .int .i64 x.rc] 47))
                have hb0 := Nat.le_trans bel.size B0.out.size
                clear hu ha HY
                go_wp2_with (first | (refine ld rfl (.tmp 36) rfl b (o + j * 18) rfl x AT.out ?_) | (refine st_new rfl (.tmp 10) (.tmp 37) rfl wq _ rfl rfl rfl x rfl ?_) | (refine ld rfl (.tmp 10) rfl _ _ rfl x AN.out ?_) | (at_builtin; refine KC.appN rfl (.tmp 51) (.tmp 53) rfl (wq.alloc (.cells #[.int .i64 x.t, .int .i64 x.i, .int .u8 x.k, .int .u64 x.p0, .int .u64 x.p1, .int .u64 x.p2, .int .u64 x.p3, .int .u64 x.p4, .int .u64 x.p5, .int .i64 x.v, .int .i64 x.u, .int .i64 x.a, .int .i64 x.s, .int .i64 x.re, .bool x.rf, .int .u64 x.rk, .int .u64 x.rv, .int .i64 x.rc] 47)) (wq.heap.size + 1) (by simp) w1.heap.size _ L x #[.int .i64 x.t, .int .i64 x.i, .int .u8 x.k, .int .u64 x.p0, .int .u64 x.p1, .int .u64 x.p2, .int .u64 x.p3, .int .u64 x.p4, .int .u64 x.p5, .int .i64 x.v, .int .i64 x.u, .int .i64 x.a, .int .i64 x.s, .int .i64 x.re, .bool x.rf, .int .u64 x.rk, .int .u64 x.rv, .int .i64 x.rc] rfl rfl rfl (KC.own_below OW.out B0.out) (by omega) hb0 ?_; intro v4 w4 h1 b4 _))
                go_roundw
                case rel => exact ⟨j + 1, by omega, by go_num, by rw [HN.out]; exact h1, (bel_trans bel B0.out).trans b4⟩
                case measure => simp [intOf]; omega
          · have d2 : decide (x.v > st) = true := decide_eq_true (by omega)
            rw [if_neg hv] at HN
            clear hv
            go_wp2_with fail
            go_roundw
            case rel => exact ⟨j + 1, by omega, by go_num, by rw [HN.out]; exact OW.out, bel⟩
            case measure => simp [intOf]; omega
        · obtain rfl : j = n := by omega
          have d0 : decide ((j : Int) < j) = false := by simp
          have HT := Lib.hid (show l.take j = l from List.take_of_length_le (by rw [HL.out]; omega))
          have OW := Lib.hid ow
          clear ow
          go_wp2
          go_ret2
          exact HP.out _ _ (row_base (by have := OW.out; rw [HT.out] at this; exact this) hs1) (bel_bel B1.out bel)
  · rw [erC_no hwf] at CC
    have HP := Lib.hid (show ∀ w', Below w.heap.size w w' → RwPost KC (erS st l) (pfL st l) w (.returned (.tuple #[.slice none 0 0, .int .i64 15])) w' from fun w' h => by
      have e1 := erS_no (st := st) hwf
      have e2 : pfL st l = [] := by unfold pfL; rw [if_neg (by rw [e1]; decide)]
      rw [e1, e2]
      exact ⟨_, rfl, KC.nil _ _, h⟩)
    clear hwf
    go_enter Try.func20, Try.ntmps20
    go_wp2_with fail
    refine CC.out.mono ?_
    rintro e w1 ⟨rfl, b1⟩
    go_wp2
    go_ret2
    exact HP.out _ b1
end Hi
end Go.Proofs.Ytgfhfcjjodcgdaa
