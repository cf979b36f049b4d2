/- Package event: fits, sections, waits, open, chosen, Sections, Waits, Open, Prefix, Of: contracts of the translated code. Conditions: those of each lemma. Written by tools/mk11ev.py. -/
import Derived.Test.YtbnchajkfceaoaaEvEw
namespace Go.Proofs.Ytbnchajkfceaoaa
open Go.RowKit Go.Sort
set_option linter.unusedVariables false
set_option linter.unusedSimpArgs false
namespace Ev
theorem fits_any (st : Int) (A : Option Addr) (n c : Nat) (l : List E) (w : World) (hl : l.length = n) (hx : n ≤ maxLen) (hr : KE.Rd w A l) :
    Calls Try.prog 38 #[.int .i64 st, .slice A n c] w fun e w' => e = .returned (.int .i64 (erS st l)) ∧ Below w.heap.size w w' := by
  have CC := Lib.hid (check_any A n c l w hl hx hr)
  rw [chkV_eq] at CC
  generalize chkAt l = at_ at *
  clear hl hr hx
  by_cases hok : chk l = none
  · rw [erC_ok hok] at CC
    by_cases hst : st < -1
    · have HV := Lib.hid (erS_low hok hst)
      have d1 := decide_eq_true hst
      clear hok hst
      go_enter Try.func38, Try.ntmps38
      go_wp2_with fail
      refine CC.out.mono ?_
      rintro e w1 ⟨rfl, b1⟩
      go_wp2
      go_ret
      exact ⟨by rw [HV.out]; first | done | rfl, b1⟩
    · have HV := Lib.hid (erS_ok hok (show -1 ≤ st by omega))
      have d1 := decide_eq_false hst
      clear hok hst
      go_enter Try.func38, Try.ntmps38
      go_wp2_with fail
      refine CC.out.mono ?_
      rintro e w1 ⟨rfl, b1⟩
      go_wp2
      go_ret
      exact ⟨by rw [HV.out]; first | done | rfl, b1⟩
  · rw [erC_no hok] at CC
    have HV := Lib.hid (erS_no (st := st) hok)
    clear hok
    go_enter Try.func38, Try.ntmps38
    go_wp2_with fail
    refine CC.out.mono ?_
    rintro e w1 ⟨rfl, b1⟩
    go_wp2
    go_ret
    exact ⟨by rw [HV.out]; first | done | rfl, b1⟩
theorem sections_any2 (A : Option Addr) (n c : Nat) (l : List E) (w : World) (hl : l.length = n) (hx : n ≤ 1000) (hb : ∀ e ∈ l, 0 ≤ e.t ∧ e.t < 64) (hr : KE.Rd w A l) :
    Calls Try.prog 35 #[.slice A n c] w (RoPost KS (ivs 1 l) w) := by
  have CC := Lib.hid (collectS_any 1 A n c l hl hx hb w hr)
  clear hl hr hx hb
  go_enter Try.func35, Try.ntmps35
  go_wp2_with fail
  refine CC.out.mono ?_
  rintro e w1 ⟨v, rfl, ow, b1⟩
  go_wp2
  go_ret
  exact ⟨v, rfl, ow, b1⟩
theorem Sections_any (A : Option Addr) (n c : Nat) (l : List E) (w : World) (hl : l.length = n) (hx : n ≤ 1000) (hr : KE.Rd w A l) :
    Calls Try.prog 12 #[.slice A n c] w (RwPost KS (erC l) (secL 1 l) w) := by
  have CC := Lib.hid (check_any A n c l w hl (by unfold maxLen; omega) hr)
  rw [chkV_eq] at CC
  generalize chkAt l = at_ at *
  by_cases hok : chk l = none
  · rw [erC_ok hok] at CC
    have CS := fun (W : World) (h : Below w.heap.size w W) => Lib.hid (sections_any2 A n c l W hl hx (fun e he => by have := WF_mem (chk_none.1 hok) e he; omega) (hr.below h))
    have HP := Lib.hid (show ∀ v w', w'.ownsRow w.heap.size KS.E KS.sz v (ivs 1 l).length (KS.flat (ivs 1 l)) → Below w.heap.size w w' → RwPost KS (erC l) (secL 1 l) w (.returned (.tuple #[v, .int .i64 0])) w' from fun v w' h1 h2 => ⟨v, by rw [erC_ok hok], by rw [secL_ok hok]; exact h1, h2⟩)
    clear hok hl hr hx
    go_enter Try.func12, Try.ntmps12
    go_wp2_with fail
    refine CC.out.mono ?_
    rintro e w1 ⟨rfl, b1⟩
    go_wp2_with fail
    refine (CS _ b1).out.mono ?_
    rintro e w2 ⟨v, rfl, ow, b2⟩
    go_wp2
    go_ret2
    exact HP.out _ _ (row_base ow b1.size) (bel_trans b1 b2)
  · rw [erC_no hok] at CC
    have HP := Lib.hid (show ∀ w', Below w.heap.size w w' → RwPost KS (erC l) (secL 1 l) w (.returned (.tuple #[.slice none 0 0, .int .i64 15])) w' from fun w' h2 => ⟨_, by rw [erC_no hok], by rw [secL_no hok]; exact KS.nil _ _, h2⟩)
    clear hok hl hr hx
    go_enter Try.func12, Try.ntmps12
    go_wp2_with fail
    refine CC.out.mono ?_
    rintro e w1 ⟨rfl, b1⟩
    go_wp2
    go_ret2
    exact HP.out _ b1
theorem waits_any2 (A : Option Addr) (n c : Nat) (l : List E) (w : World) (hl : l.length = n) (hx : n ≤ 1000) (hb : ∀ e ∈ l, 0 ≤ e.t ∧ e.t < 64) (hr : KE.Rd w A l) :
    Calls Try.prog 37 #[.slice A n c] w (RoPost KW (ivs 3 l) w) := by
  have CC := Lib.hid (collectW_any 3 A n c l hl hx hb w hr)
  clear hl hr hx hb
  go_enter Try.func37, Try.ntmps37
  go_wp2_with fail
  refine CC.out.mono ?_
  rintro e w1 ⟨v, rfl, ow, b1⟩
  go_wp2
  go_ret
  exact ⟨v, rfl, ow, b1⟩
theorem Waits_any (A : Option Addr) (n c : Nat) (l : List E) (w : World) (hl : l.length = n) (hx : n ≤ 1000) (hr : KE.Rd w A l) :
    Calls Try.prog 14 #[.slice A n c] w (RwPost KW (erC l) (secL 3 l) w) := by
  have CC := Lib.hid (check_any A n c l w hl (by unfold maxLen; omega) hr)
  rw [chkV_eq] at CC
  generalize chkAt l = at_ at *
  by_cases hok : chk l = none
  · rw [erC_ok hok] at CC
    have CS := fun (W : World) (h : Below w.heap.size w W) => Lib.hid (waits_any2 A n c l W hl hx (fun e he => by have := WF_mem (chk_none.1 hok) e he; omega) (hr.below h))
    have HP := Lib.hid (show ∀ v w', w'.ownsRow w.heap.size KW.E KW.sz v (ivs 3 l).length (KW.flat (ivs 3 l)) → Below w.heap.size w w' → RwPost KW (erC l) (secL 3 l) w (.returned (.tuple #[v, .int .i64 0])) w' from fun v w' h1 h2 => ⟨v, by rw [erC_ok hok], by rw [secL_ok hok]; exact h1, h2⟩)
    clear hok hl hr hx
    go_enter Try.func14, Try.ntmps14
    go_wp2_with fail
    refine CC.out.mono ?_
    rintro e w1 ⟨rfl, b1⟩
    go_wp2_with fail
    refine (CS _ b1).out.mono ?_
    rintro e w2 ⟨v, rfl, ow, b2⟩
    go_wp2
    go_ret2
    exact HP.out _ _ (row_base ow b1.size) (bel_trans b1 b2)
  · rw [erC_no hok] at CC
    have HP := Lib.hid (show ∀ w', Below w.heap.size w w' → RwPost KW (erC l) (secL 3 l) w (.returned (.tuple #[.slice none 0 0, .int .i64 15])) w' from fun w' h2 => ⟨_, by rw [erC_no hok], by rw [secL_no hok]; exact KW.nil _ _, h2⟩)
    clear hok hl hr hx
    go_enter Try.func14, Try.ntmps14
    go_wp2_with fail
    refine CC.out.mono ?_
    rintro e w1 ⟨rfl, b1⟩
    go_wp2
    go_ret2
    exact HP.out _ b1
set_option maxRecDepth 100000 in
set_option maxHeartbeats 1000000 in
theorem open_any2 (st : Int) (A : Option Addr) (n c : Nat) (l : List E) (w : World) (hl : l.length = n) (hx : n ≤ 1000) (hok : chk l = none) (hr : KE.Rd w A l) :
    Calls Try.prog 39 #[.int .i64 st, .slice A n c] w (RoPost KS (opn st (ivs 1 l)) w) := by
  have CC := Lib.hid (sections_any2 A n c l w hl hx (fun e he => by have := WF_mem (chk_none.1 hok) e he; omega) hr)
  have hsl : (ivs 1 l).length ≤ 1000 := by have := ivs_len 1 l; omega
  clear hl hr hok
  obtain ⟨s, hs⟩ : ∃ s, ivs 1 l = s := ⟨_, rfl⟩
  rw [hs] at CC hsl ⊢
  clear hs
  go_enter Try.func39, Try.ntmps39
  go_wp2_with fail
  refine CC.out.mono ?_
  rintro e w0 ⟨v, rfl, ow0, b0⟩
  obtain ⟨A2, c2, rfl, hrd, hbl⟩ := row_rd KS ow0
  have HR := Lib.hid hrd
  clear CC ow0 hrd hbl
  go_wp2
  go_loopw [5, 11] (fun q i wr => ∃ (k : Nat), k ≤ s.length ∧ i = .int .i64 k ∧ wr.ownsRow w0.heap.size KS.E KS.sz q (opn st (s.take k)).length (KS.flat (opn st (s.take k))) ∧ Below w0.heap.size w0 wr) (fun q i _ => s.length - (intOf i).toNat)
  case atStart => exact ⟨0, Nat.zero_le _, rfl, KS.nil _ _, Below.refl _ _⟩
  case round =>
    obtain ⟨j, hj, rfl, ow, bel⟩ := hrel
    obtain ⟨wq, rfl⟩ : ∃ wq : World, wq = wr := ⟨_, rfl⟩
    by_cases hlt : j < s.length
    · have d0 : decide ((j : Int) < s.length) = true := decide_eq_true (by omega)
      have j1 : (j : Int) < s.length := by omega
      obtain ⟨b, o, rfl, c0, c1, c2, c3⟩ := KS.at_ (HR.out.below bel) hlt
      have HN := Lib.hid (show opn st (s.take (j + 1)) = _ by rw [take_get (d := i0) hlt, opn_snoc])
      have hlen := opn_len st (s.take j)
      rw [List.length_take] at hlen
      generalize s.getD j i0 = y at *
      obtain ⟨yt, yv, ya, yb⟩ := y
      simp only at c0 c1 c2 c3
      obtain ⟨L, hL⟩ : ∃ L, opn st (s.take j) = L := ⟨_, rfl⟩
      rw [hL] at ow HN hlen
      have OW := Lib.hid ow
      clear hL ow
      by_cases ht : ya ≤ st
      · have t0 := decide_eq_true ht
        by_cases hb : yb = -1
        · have t1 : (yb == -1) = true := by simpa using hb
          rw [openB_yes ht (.inl hb), if_pos rfl] at HN
          clear ht hb
          go_wp2_with (at_builtin; refine KS.app rfl (.tmp 31) (.tmp 33) rfl (wq.alloc (.cells #[.int .i64 yt, .int .u64 yv, .int .i64 ya, .int .i64 (-1)] 41)) w0.heap.size _ L ⟨yt, yv, ya, -1⟩ #[.int .i64 yt, .int .u64 yv, .int .i64 ya, .int .i64 (-1)] rfl rfl (by rw [World.size_alloc]; rfl) (KS.own_below OW.out (bel_alloc (Below.refl _ _) _)) (by omega) (by rw [World.size_alloc]; exact Nat.le_succ_of_le bel.size) ?_; intro v1 w1 h1 b1 _)
          go_roundw
          case rel => exact ⟨j + 1, by omega, by go_num, by rw [HN.out]; exact h1, (bel_alloc bel _).trans b1⟩
          case measure => simp [intOf]; omega
        · have t1 : (yb == -1) = false := by simpa using hb
          by_cases hc : st < yb
          · have t2 := decide_eq_true hc
            rw [openB_yes ht (.inr hc), if_pos rfl] at HN
            clear ht hb hc
            go_wp2_with (at_builtin; refine KS.app rfl (.tmp 31) (.tmp 33) rfl (wq.alloc (.cells #[.int .i64 yt, .int .u64 yv, .int .i64 ya, .int .i64 (-1)] 41)) w0.heap.size _ L ⟨yt, yv, ya, -1⟩ #[.int .i64 yt, .int .u64 yv, .int .i64 ya, .int .i64 (-1)] rfl rfl (by rw [World.size_alloc]; rfl) (KS.own_below OW.out (bel_alloc (Below.refl _ _) _)) (by omega) (by rw [World.size_alloc]; exact Nat.le_succ_of_le bel.size) ?_; intro v1 w1 h1 b1 _)
            go_roundw
            case rel => exact ⟨j + 1, by omega, by go_num, by rw [HN.out]; exact h1, (bel_alloc bel _).trans b1⟩
            case measure => simp [intOf]; omega
          · have t2 := decide_eq_false hc
            rw [openB_no2 hb hc, if_neg (by decide)] at HN
            clear ht hb hc
            go_wp2
            go_roundw
            case rel => exact ⟨j + 1, by omega, by go_num, by rw [HN.out]; exact KS.own_below OW.out (bel_alloc (Below.refl _ _) _), bel_alloc bel _⟩
            case measure => simp [intOf]; omega
      · have t0 := decide_eq_false ht
        rw [openB_no1 ht, if_neg (by decide)] at HN
        clear ht
        go_wp2
        go_roundw
        case rel => exact ⟨j + 1, by omega, by go_num, by rw [HN.out]; exact KS.own_below OW.out (bel_alloc (Below.refl _ _) _), bel_alloc bel _⟩
        case measure => simp [intOf]; omega
    · have HT := Lib.hid (show s.take j = s from List.take_of_length_le (by omega))
      have d0 : decide ((j : Int) < (s.length : Int)) = false := decide_eq_false (by omega)
      have OW := Lib.hid ow
      have z0 := b0.size
      clear ow
      go_wp2
      go_ret
      exact ⟨_, rfl, (by have h := OW.out; rw [HT.out] at h; exact row_base h z0), (b0.trans (bel.mono z0))⟩
theorem open_any (st : Int) (A : Option Addr) (n c : Nat) (l : List E) (w : World) (hl : l.length = n) (hx : n ≤ 1000) (hr : KE.Rd w A l) :
    Calls Try.prog 20 #[.int .i64 st, .slice A n c] w (RwPost KS (erS st l) (opL st l) w) := by
  have CC := Lib.hid (fits_any st A n c l w hl (by unfold maxLen; omega) hr)
  obtain ⟨r, hrr⟩ : ∃ r, erS st l = r := ⟨_, rfl⟩
  rw [hrr] at CC
  by_cases h0 : erS st l = 0
  · have hok : chk l = none := by
      by_cases hok : chk l = none
      · exact hok
      · rw [erS_no hok] at h0; cases h0
    have CS := fun (W : World) (h : Below w.heap.size w W) => Lib.hid (open_any2 st A n c l W hl hx hok (hr.below h))
    have HP := Lib.hid (show ∀ v w', w'.ownsRow w.heap.size KS.E KS.sz v (opn st (ivs 1 l)).length (KS.flat (opn st (ivs 1 l))) → Below w.heap.size w w' → RwPost KS (erS st l) (opL st l) w (.returned (.tuple #[v, .int .i64 0])) w' from fun v w' h1 h2 => ⟨v, by rw [h0], by rw [opL_ok h0]; exact h1, h2⟩)
    rw [hrr] at h0
    subst h0
    clear hok hl hr hx hrr
    go_enter Try.func20, Try.ntmps20
    go_wp2_with fail
    refine CC.out.mono ?_
    rintro e w1 ⟨rfl, b1⟩
    go_wp2_with fail
    refine (CS _ b1).out.mono ?_
    rintro e w2 ⟨v, rfl, ow, b2⟩
    go_wp2
    go_ret2
    exact HP.out _ _ (row_base ow b1.size) (bel_trans b1 b2)
  · have HP := Lib.hid (show ∀ w', Below w.heap.size w w' → RwPost KS (erS st l) (opL st l) w (.returned (.tuple #[.slice none 0 0, .int .i64 r])) w' from fun w' h2 => ⟨_, by rw [hrr], by rw [opL_no h0]; exact KS.nil _ _, h2⟩)
    rw [hrr] at h0
    have t0 : (r != 0) = true := by simpa using h0
    clear h0 hl hr hx hrr
    go_enter Try.func20, Try.ntmps20
    go_wp2_with fail
    refine CC.out.mono ?_
    rintro e w1 ⟨rfl, b1⟩
    go_wp2
    go_ret2
    exact HP.out _ b1
theorem prefF_any (s t k v b : Int) (Bx : Nat) (w : World) (hc : w.cell? ⟨Bx, 0, none⟩ = some (.int .i64 b)) : Calls Try.prog 42 #[.agg #[.int .i64 s, .int .i64 t, .int .u8 k, .int .u64 v], .pointer (some ⟨Bx, 0, none⟩)] w fun e w' =>
    e = .returned (.bool (decide (s ≤ b))) ∧ Below w.heap.size w w' := by
  have hlt := cell_lt hc
  have hc2 := (World.cell?_of_block (a := ⟨Bx, 0, none⟩) ((MapKept.heap_alloc w (.cells #[.int .i64 s, .int .i64 t, .int .u8 k, .int .u64 v] 57)).2 Bx hlt)).trans hc
  by_cases h : s ≤ b
  all_goals
    first | (have t0 : decide (s ≤ b) = false := by simpa using h) | (have t0 : decide (s ≤ b) = true := by simpa using h)
    have HV := Lib.hid (show decide (s ≤ b) = _ from t0)
    clear h
    go_enter Try.func42, Try.ntmps42
    go_wp2
    go_ret
    exact ⟨by rw [HV.out]; first | done | rfl, bel_alloc (Below.refl _ _) _⟩
set_option maxRecDepth 100000 in
set_option maxHeartbeats 1000000 in
theorem chosenPrefix_any (b : Int) (Bx : Nat) (A : Option Addr) (n c : Nat) (l : List E) (w : World) (hl : l.length = n) (hx : n ≤ 1000) (hr : KE.Rd w A l) (hc : w.cell? ⟨Bx, 0, none⟩ = some (.int .i64 b)) :
    Calls Try.prog 41 #[.slice A n c, .func (.func 42) #[] #[.pointer (some ⟨Bx, 0, none⟩)]] w (RoPost KE (upto b l) w) := by
  have HL := Lib.hid hl
  have HR := Lib.hid hr
  have HC := Lib.hid hc
  have hBx := cell_lt hc
  clear hl hr hc
  go_enter Try.func41, Try.ntmps41
  go_wp2
  go_loopw [5, 10] (fun q i wr => ∃ (k : Nat), k ≤ n ∧ i = .int .i64 k ∧ wr.ownsRow w.heap.size KE.E KE.sz q (upto b (l.take k)).length (KE.flat (upto b (l.take k))) ∧ Below w.heap.size w wr) (fun q i _ => n - (intOf i).toNat)
  case atStart => exact ⟨0, Nat.zero_le _, rfl, KE.nil _ _, Below.refl _ _⟩
  case round =>
    obtain ⟨j, hj, rfl, ow, bel⟩ := hrel
    obtain ⟨wq, rfl⟩ : ∃ wq : World, wq = wr := ⟨_, rfl⟩
    by_cases hlt : j < n
    · have hjl : j < l.length := by have := HL.out; omega
      have d0 : decide ((j : Int) < n) = true := decide_eq_true (by omega)
      have j1 : (j : Int) < n := by omega
      obtain ⟨bb, o, rfl, c0, c1, c2, c3⟩ := KE.at_ (HR.out.below bel) hjl
      have HN := Lib.hid (show upto b (l.take (j + 1)) = _ by rw [take_get (d := e0) hjl, upto_snoc])
      have hlen := upto_len b (l.take j)
      rw [List.length_take] at hlen
      generalize l.getD j e0 = y at *
      obtain ⟨ys, yt, yk, yv⟩ := y
      simp only at c0 c1 c2 c3 HN
      obtain ⟨L, hL⟩ : ∃ L, upto b (l.take j) = L := ⟨_, rfl⟩
      rw [hL] at ow HN hlen
      have OW := Lib.hid ow
      have CP := fun (W : World) (h : W.cell? ⟨Bx, 0, none⟩ = some (.int .i64 b)) => Lib.hid (prefF_any ys yt yk yv b Bx W h)
      have BN := Lib.hid (Bk.new wq ⟨ys, yt, yk, yv⟩)
      have hcx : (wq.alloc (.cells #[.int .i64 ys, .int .i64 yt, .int .u8 yk, .int .u64 yv] 57)).cell? ⟨Bx, 0, none⟩ = some (.int .i64 b) := ((bel_alloc bel _).cell (p := ⟨Bx, 0, none⟩) hBx).trans HC.out
      have HCX := Lib.hid hcx
      clear hL ow hcx
      by_cases ht : ys ≤ b
      · have CPt := fun (W : World) (h : W.cell? ⟨Bx, 0, none⟩ = some (.int .i64 b)) => Lib.hid (show Calls Try.prog 42 #[.agg #[.int .i64 ys, .int .i64 yt, .int .u8 yk, .int .u64 yv], .pointer (some ⟨Bx, 0, none⟩)] W fun e w' => e = .returned (.bool true) ∧ Below W.heap.size W w' from by have q := (CP W h).out; rw [decide_eq_true ht] at q; exact q)
        rw [if_pos ht] at HN
        clear ht CP
        go_wp2_with fail
        refine (CPt _ HCX.out).out.mono ?_
        rintro e w3 ⟨rfl, b3⟩
        obtain ⟨n0, n1, n2, n3⟩ := (BN.out.below b3 (by simp)).c
        have B13 := Lib.hid ((bel_alloc (Below.refl wq.heap.size wq) (.cells #[.int .i64 ys, .int .i64 yt, .int .u8 yk, .int .u64 yv] 57)).trans (b3.mono (by simp)))
        go_wp2_with (at_builtin; refine KE.app rfl (.tmp 17) (.tmp 19) rfl w3 w.heap.size _ L ⟨ys, yt, yk, yv⟩ #[.int .i64 ys, .int .i64 yt, .int .u8 yk, .int .u64 yv] rfl rfl rfl (KE.own_below OW.out B13.out) (by omega) (Nat.le_trans bel.size B13.out.size) ?_; intro v1 w1 h1 b1 _)
        go_roundw
        case rel => exact ⟨j + 1, by omega, by go_num, by rw [HN.out]; exact h1, (bel_trans bel B13.out).trans b1⟩
        case measure => simp [intOf]; omega
      · have CPf := fun (W : World) (h : W.cell? ⟨Bx, 0, none⟩ = some (.int .i64 b)) => Lib.hid (show Calls Try.prog 42 #[.agg #[.int .i64 ys, .int .i64 yt, .int .u8 yk, .int .u64 yv], .pointer (some ⟨Bx, 0, none⟩)] W fun e w' => e = .returned (.bool false) ∧ Below W.heap.size W w' from by have q := (CP W h).out; rw [decide_eq_false ht] at q; exact q)
        rw [if_neg ht] at HN
        clear ht CP
        go_wp2_with fail
        refine (CPf _ HCX.out).out.mono ?_
        rintro e w3 ⟨rfl, b3⟩
        have B13 := Lib.hid ((bel_alloc (Below.refl wq.heap.size wq) (.cells #[.int .i64 ys, .int .i64 yt, .int .u8 yk, .int .u64 yv] 57)).trans (b3.mono (by simp)))
        go_wp2
        go_roundw
        case rel => exact ⟨j + 1, by omega, by go_num, by rw [HN.out]; exact KE.own_below OW.out B13.out, bel_trans bel B13.out⟩
        case measure => simp [intOf]; omega
    · obtain rfl : j = n := by omega
      have d0 : decide ((j : Int) < j) = false := by simp
      have HT := Lib.hid (show l.take j = l from List.take_of_length_le (by rw [HL.out]; omega))
      have OW := Lib.hid ow
      clear ow
      go_wp2
      go_ret
      exact ⟨_, rfl, (by have h := OW.out; rw [HT.out] at h; exact h), bel⟩
theorem ofF_any (s t k v b : Int) (Bx : Nat) (w : World) (hc : w.cell? ⟨Bx, 0, none⟩ = some (.int .i64 b)) : Calls Try.prog 43 #[.agg #[.int .i64 s, .int .i64 t, .int .u8 k, .int .u64 v], .pointer (some ⟨Bx, 0, none⟩)] w fun e w' =>
    e = .returned (.bool (decide (t = b))) ∧ Below w.heap.size w w' := by
  have hlt := cell_lt hc
  have hc2 := (World.cell?_of_block (a := ⟨Bx, 0, none⟩) ((MapKept.heap_alloc w (.cells #[.int .i64 s, .int .i64 t, .int .u8 k, .int .u64 v] 57)).2 Bx hlt)).trans hc
  by_cases h : t = b
  all_goals
    first | (have t0 : (t == b) = false := by simpa using h) | (have t0 : (t == b) = true := by simpa using h)
    have HV := Lib.hid (show decide (t = b) = _ from t0)
    clear h
    go_enter Try.func43, Try.ntmps43
    go_wp2
    go_ret
    exact ⟨by rw [HV.out]; first | done | rfl, bel_alloc (Below.refl _ _) _⟩
set_option maxRecDepth 100000 in
set_option maxHeartbeats 1000000 in
theorem chosenOf_any (b : Int) (Bx : Nat) (A : Option Addr) (n c : Nat) (l : List E) (w : World) (hl : l.length = n) (hx : n ≤ 1000) (hr : KE.Rd w A l) (hc : w.cell? ⟨Bx, 0, none⟩ = some (.int .i64 b)) :
    Calls Try.prog 41 #[.slice A n c, .func (.func 43) #[] #[.pointer (some ⟨Bx, 0, none⟩)]] w (RoPost KE (ofT b l) w) := by
  have HL := Lib.hid hl
  have HR := Lib.hid hr
  have HC := Lib.hid hc
  have hBx := cell_lt hc
  clear hl hr hc
  go_enter Try.func41, Try.ntmps41
  go_wp2
  go_loopw [5, 10] (fun q i wr => ∃ (k : Nat), k ≤ n ∧ i = .int .i64 k ∧ wr.ownsRow w.heap.size KE.E KE.sz q (ofT b (l.take k)).length (KE.flat (ofT b (l.take k))) ∧ Below w.heap.size w wr) (fun q i _ => n - (intOf i).toNat)
  case atStart => exact ⟨0, Nat.zero_le _, rfl, KE.nil _ _, Below.refl _ _⟩
  case round =>
    obtain ⟨j, hj, rfl, ow, bel⟩ := hrel
    obtain ⟨wq, rfl⟩ : ∃ wq : World, wq = wr := ⟨_, rfl⟩
    by_cases hlt : j < n
    · have hjl : j < l.length := by have := HL.out; omega
      have d0 : decide ((j : Int) < n) = true := decide_eq_true (by omega)
      have j1 : (j : Int) < n := by omega
      obtain ⟨bb, o, rfl, c0, c1, c2, c3⟩ := KE.at_ (HR.out.below bel) hjl
      have HN := Lib.hid (show ofT b (l.take (j + 1)) = _ by rw [take_get (d := e0) hjl, ofT_snoc])
      have hlen := ofT_len b (l.take j)
      rw [List.length_take] at hlen
      generalize l.getD j e0 = y at *
      obtain ⟨ys, yt, yk, yv⟩ := y
      simp only at c0 c1 c2 c3 HN
      obtain ⟨L, hL⟩ : ∃ L, ofT b (l.take j) = L := ⟨_, rfl⟩
      rw [hL] at ow HN hlen
      have OW := Lib.hid ow
      have CP := fun (W : World) (h : W.cell? ⟨Bx, 0, none⟩ = some (.int .i64 b)) => Lib.hid (ofF_any ys yt yk yv b Bx W h)
      have BN := Lib.hid (Bk.new wq ⟨ys, yt, yk, yv⟩)
      have hcx : (wq.alloc (.cells #[.int .i64 ys, .int .i64 yt, .int .u8 yk, .int .u64 yv] 57)).cell? ⟨Bx, 0, none⟩ = some (.int .i64 b) := ((bel_alloc bel _).cell (p := ⟨Bx, 0, none⟩) hBx).trans HC.out
      have HCX := Lib.hid hcx
      clear hL ow hcx
      by_cases ht : yt = b
      · have CPt := fun (W : World) (h : W.cell? ⟨Bx, 0, none⟩ = some (.int .i64 b)) => Lib.hid (show Calls Try.prog 43 #[.agg #[.int .i64 ys, .int .i64 yt, .int .u8 yk, .int .u64 yv], .pointer (some ⟨Bx, 0, none⟩)] W fun e w' => e = .returned (.bool true) ∧ Below W.heap.size W w' from by have q := (CP W h).out; rw [decide_eq_true ht] at q; exact q)
        rw [if_pos ht] at HN
        clear ht CP
        go_wp2_with fail
        refine (CPt _ HCX.out).out.mono ?_
        rintro e w3 ⟨rfl, b3⟩
        obtain ⟨n0, n1, n2, n3⟩ := (BN.out.below b3 (by simp)).c
        have B13 := Lib.hid ((bel_alloc (Below.refl wq.heap.size wq) (.cells #[.int .i64 ys, .int .i64 yt, .int .u8 yk, .int .u64 yv] 57)).trans (b3.mono (by simp)))
        go_wp2_with (at_builtin; refine KE.app rfl (.tmp 17) (.tmp 19) rfl w3 w.heap.size _ L ⟨ys, yt, yk, yv⟩ #[.int .i64 ys, .int .i64 yt, .int .u8 yk, .int .u64 yv] rfl rfl rfl (KE.own_below OW.out B13.out) (by omega) (Nat.le_trans bel.size B13.out.size) ?_; intro v1 w1 h1 b1 _)
        go_roundw
        case rel => exact ⟨j + 1, by omega, by go_num, by rw [HN.out]; exact h1, (bel_trans bel B13.out).trans b1⟩
        case measure => simp [intOf]; omega
      · have CPf := fun (W : World) (h : W.cell? ⟨Bx, 0, none⟩ = some (.int .i64 b)) => Lib.hid (show Calls Try.prog 43 #[.agg #[.int .i64 ys, .int .i64 yt, .int .u8 yk, .int .u64 yv], .pointer (some ⟨Bx, 0, none⟩)] W fun e w' => e = .returned (.bool false) ∧ Below W.heap.size W w' from by have q := (CP W h).out; rw [decide_eq_false ht] at q; exact q)
        rw [if_neg ht] at HN
        clear ht CP
        go_wp2_with fail
        refine (CPf _ HCX.out).out.mono ?_
        rintro e w3 ⟨rfl, b3⟩
        have B13 := Lib.hid ((bel_alloc (Below.refl wq.heap.size wq) (.cells #[.int .i64 ys, .int .i64 yt, .int .u8 yk, .int .u64 yv] 57)).trans (b3.mono (by simp)))
        go_wp2
        go_roundw
        case rel => exact ⟨j + 1, by omega, by go_num, by rw [HN.out]; exact KE.own_below OW.out B13.out, bel_trans bel B13.out⟩
        case measure => simp [intOf]; omega
    · obtain rfl : j = n := by omega
      have d0 : decide ((j : Int) < j) = false := by simp
      have HT := Lib.hid (show l.take j = l from List.take_of_length_le (by rw [HL.out]; omega))
      have OW := Lib.hid ow
      clear ow
      go_wp2
      go_ret
      exact ⟨_, rfl, (by have h := OW.out; rw [HT.out] at h; exact h), bel⟩
theorem prefix_any (st : Int) (A : Option Addr) (n c : Nat) (l : List E) (w : World) (hl : l.length = n) (hx : n ≤ 1000) (hr : KE.Rd w A l) :
    Calls Try.prog 24 #[.int .i64 st, .slice A n c] w (RwPost KE (erS st l) (upL st l) w) := by
  have b0 : Below w.heap.size w (w.alloc (.cells #[.int .i64 st] 3)) := bel_alloc (Below.refl _ _) _
  have CC := Lib.hid (fits_any st A n c l (w.alloc (.cells #[.int .i64 st] 3)) hl (by unfold maxLen; omega) (hr.below b0))
  have CS := fun (W : World) (h : Below w.heap.size w W) hc => Lib.hid (chosenPrefix_any st w.heap.size A n c l W hl hx (hr.below h) hc)
  have B0 := Lib.hid b0
  obtain ⟨r, hrr⟩ : ∃ r, erS st l = r := ⟨_, rfl⟩
  rw [hrr] at CC
  by_cases h0 : erS st l = 0
  · have HP := Lib.hid (show ∀ v w', w'.ownsRow w.heap.size KE.E KE.sz v (upto st l).length (KE.flat (upto st l)) → Below w.heap.size w w' → RwPost KE (erS st l) (upL st l) w (.returned (.tuple #[v, .int .i64 0])) w' from fun v w' h1 h2 => ⟨v, by rw [h0], by rw [upL_ok h0]; exact h1, h2⟩)
    rw [hrr] at h0
    subst h0
    clear hl hr hx hrr b0
    go_enter Try.func24, Try.ntmps24
    go_wp2_with fail
    refine CC.out.mono ?_
    rintro e w1 ⟨rfl, b1⟩
    have hcx : w1.cell? ⟨w.heap.size, 0, none⟩ = some (.int .i64 st) := (b1.cell (p := ⟨w.heap.size, 0, none⟩) (by simp)).trans (by simp)
    have B1 := Lib.hid (B0.out.trans (b1.mono (by simp)))
    have HCX := Lib.hid hcx
    clear hcx
    go_wp2_with fail
    refine (CS _ B1.out HCX.out).out.mono ?_
    rintro e w2 ⟨v, rfl, ow, b2⟩
    go_wp2
    go_ret2
    exact HP.out _ _ (row_base ow B1.out.size) (bel_trans B1.out b2)
  · have HP := Lib.hid (show ∀ w', Below w.heap.size w w' → RwPost KE (erS st l) (upL st l) w (.returned (.tuple #[.slice none 0 0, .int .i64 r])) w' from fun w' h2 => ⟨_, by rw [hrr], by rw [upL_no h0]; exact KE.nil _ _, h2⟩)
    rw [hrr] at h0
    have t0 : (r != 0) = true := by simpa using h0
    clear h0 hl hr hx hrr b0 CS
    go_enter Try.func24, Try.ntmps24
    go_wp2_with fail
    refine CC.out.mono ?_
    rintro e w1 ⟨rfl, b1⟩
    have B1 := Lib.hid (B0.out.trans (b1.mono (by simp)))
    go_wp2
    go_ret2
    exact HP.out _ B1.out
theorem of_any (t : Int) (A : Option Addr) (n c : Nat) (l : List E) (w : World) (hl : l.length = n) (hx : n ≤ 1000) (hr : KE.Rd w A l) :
    Calls Try.prog 26 #[.int .i64 t, .slice A n c] w (RoPost KE (ofT t l) w) := by
  have b0 : Below w.heap.size w (w.alloc (.cells #[.int .i64 t] 3)) := bel_alloc (Below.refl _ _) _
  have CS := Lib.hid (chosenOf_any t w.heap.size A n c l (w.alloc (.cells #[.int .i64 t] 3)) hl hx (hr.below b0) (by simp))
  have B0 := Lib.hid b0
  clear hl hr hx b0
  go_enter Try.func26, Try.ntmps26
  go_wp2_with fail
  refine CS.out.mono ?_
  rintro e w2 ⟨v, rfl, ow, b2⟩
  go_wp2
  go_ret
  exact ⟨v, rfl, row_base ow B0.out.size, bel_trans B0.out b2⟩
end Ev
end Go.Proofs.Ytbnchajkfceaoaa
