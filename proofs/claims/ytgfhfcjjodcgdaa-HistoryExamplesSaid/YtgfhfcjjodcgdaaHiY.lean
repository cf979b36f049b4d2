/- leapfrogref12: good, Check: contracts of the translated code. Conditions: those of each lemma. -/
import Derived.Test.YtgfhfcjjodcgdaaHiV
import Derived.IntWalk
namespace Go.Proofs.Ytgfhfcjjodcgdaa
open Go.RowKit Go.Shelf Go.Sort
set_option linter.unusedVariables false
set_option linter.unusedSimpArgs false
namespace Hi
theorem prevV_succ {l : List C} {i : Nat} (h : i < l.length) : prevV (l.take (i + 1)) = (l.getD i c0).v := by
  unfold prevV
  rw [take_get (d := c0) h]; simp
theorem foll_no {l : List C} {x : C} (h : ofT x.t l = []) : follB l x = true := by unfold follB; rw [h]; rfl
theorem foll_yes {l : List C} {x p : C} (h : (ofT x.t l).getLast? = some p) : follB l x = bfr p x := by unfold follB; rw [h]
theorem part_step {l : List C} {x : C} {k : Nat} (h : k < l.length) : partB (l.take (k + 1)) x = (partB (l.take k) x && (decide ((l.getD k c0).t = x.t) || !meetB (l.getD k c0) x)) := by
  unfold partB
  rw [take_get (d := c0) h, List.all_append]; simp
theorem part_no {l : List C} {x : C} {k : Nat} (h : partB (l.take k) x = false) (n : Nat) (hk : k ≤ n) : partB (l.take n) x = false := by
  unfold partB at *
  rw [List.all_eq_false] at h ⊢
  obtain ⟨y, h1, h2⟩ := h
  exact ⟨y, (List.take_prefix_take_left hk).subset h1, h2⟩
/-- what good makes of a call, in three parts -/
def goodA (l : List C) (x : C) : Bool := takeB x && (endB x && follB l x)
theorem goodB_parts (l : List C) (x : C) : goodB l x = (beginB l x && (goodA l x && partB l x)) := by
  unfold goodB goodA; simp [Bool.and_assoc]
set_option maxRecDepth 100000 in
set_option maxHeartbeats 4000000 in
theorem rgood_any (A : Option Addr) (n c : Nat) (l : List C) (w : World) (hl : l.length = n) (hx : n ≤ 1000) (hr : KC.Rd w A l) (hb : Bd l) (i : Nat) (hi : i < n) :
    Calls Try.prog 35 #[.slice A n c, .int .i64 (i : Nat)] w fun e w' => e = .returned (.bool (goodB (l.take i) (l.getD i c0))) ∧ Below w.heap.size w w' := by
  have HL := Lib.hid hl
  have HR := Lib.hid hr
  have hil : i < l.length := by omega
  have hbx := hb.get hil
  have LA := Lib.hid (fun (W : World) (h : KC.Rd W A l) => rlast_any A n c l W hl hx h i hi)
  obtain ⟨b, o, rfl, hat⟩ := KC.at_ hr hil
  have PS := Lib.hid (fun k (h : k < i) => part_step (l := l) (x := l.getD i c0) (show k < l.length by omega))
  have PN := Lib.hid (fun k (h : partB (l.take k) (l.getD i c0) = false) (h1 : k ≤ i) => part_no h i h1)
  have HCN := Lib.hid (show (ofT (l.getD i c0).t (l.take i)).length ≤ 1000 from by have := ofT_len (l.getD i c0).t (l.take i); rw [List.length_take] at this; omega)
  have LPP := Lib.hid (fun a (h : LastP (l.getD i c0).t l i a) => h)
  have PV := Lib.hid (show (i = 0 ∧ prevV (l.take i) = -1) ∨ ∃ I, i = I + 1 ∧ prevV (l.take i) = (l.getD I c0).v from by
    cases i with
    | zero => exact .inl ⟨rfl, rfl⟩
    | succ I => exact .inr ⟨I, rfl, prevV_succ (by omega)⟩)
  obtain ⟨x, hx0⟩ : ∃ x, l.getD i c0 = x := ⟨_, rfl⟩
  rw [hx0] at hat LA PS PN hbx HCN LPP ⊢
  have HGP := Lib.hid (goodB_parts (l.take i) x)
  have HGA := Lib.hid (show goodA (l.take i) x = (takeB x && (endB x && follB (l.take i) x)) from rfl)
  obtain ⟨r, hr0⟩ : ∃ r, goodB (l.take i) x = r := ⟨_, rfl⟩
  rw [hr0] at HGP ⊢
  have AT := Lib.hid hat
  have AX := Lib.hid (KC.at_new w x)
  have B0 := Lib.hid (bel_alloc (Below.refl w.heap.size w) (.cells #[.int .i64 x.t, .int .i64 x.i, .int .u8 x.k, .int .u64 x.p0, .int .u64 x.p1, .int .u64 x.p2, .int .u64 x.p3, .int .u64 x.p4, .int .u64 x.p5, .int .i64 x.v, .int .i64 x.u, .int .i64 x.a, .int .i64 x.s, .int .i64 x.re, .bool x.rf, .int .u64 x.rk, .int .u64 x.rv, .int .i64 x.rc] 47))
  have i1 : (i : Int) < n := by omega
  have i0 : (i : Int) ≤ 1000 := by omega
  clear hl hr hb hat hr0 hx0
  go_enter Try.func35, Try.ntmps35
  go_wp2_with (first | (refine ld rfl _ rfl b (o + i * 18) rfl x AT.out ?_) | (refine st_new rfl _ _ rfl w _ rfl rfl rfl x rfl ?_))
  refine (LA.out _ (HR.out.below B0.out)).mono ?_
  rintro e V ⟨at_, rfl, lp, bV⟩
  have LP := Lib.hid lp
  have AV := Lib.hid (AX.out.bel bV AX.out.lt)
  have BV := Lib.hid (bel_bel B0.out bV)
  clear lp bV AX AT LA
  obtain ⟨N, hN⟩ : ∃ N, (ofT x.t (l.take i)).length = N := ⟨_, rfl⟩
  have HBG := Lib.hid (show beginB (l.take i) x = (decide (0 ≤ x.t) && (decide (x.t < 64) && (decide (x.i = (N : Nat)) && (decide (0 ≤ x.v) && decide (prevV (l.take i) < x.v))))) from by rw [← hN]; rfl)
  rw [hN] at HCN ⊢
  have hN1 := HCN.out
  clear hN HCN
  obtain ⟨rb, hrb⟩ : ∃ rb, beginB (l.take i) x = rb := ⟨_, rfl⟩
  have HRB := Lib.hid hrb
  rw [hrb] at HBG HGP
  clear hrb
  go_wp2_with fail
  go_cut [52] from 19 to 51 (fun sx wx => sx = .bool (!rb) ∧ Below V.heap.size V wx)
  case first =>
    have ct : V.cell? ⟨w.heap.size, 0, none⟩ = some (.int .i64 x.t) := AV.out 0 _ rfl
    have ci : V.cell? ⟨w.heap.size, 1, none⟩ = some (.int .i64 x.i) := AV.out 1 _ rfl
    have cv : V.cell? ⟨w.heap.size, 9, none⟩ = some (.int .i64 x.v) := AV.out 9 _ rfl
    by_cases e1 : x.t < 0
    · have q1 := decide_eq_true e1
      have HV := Lib.hid (show rb = false by rw [HBG.out, decide_eq_false (show ¬ 0 ≤ x.t by omega)]; rfl)
      clear e1 HBG
      go_quiet (fail)
      go_wp2_with fail
      go_meet
      exact ⟨by rw [HV.out]; first | done | rfl, bel_drawN (Below.refl _ _) _⟩
    · have q1 := decide_eq_false e1
      by_cases e2 : 64 ≤ x.t
      · have q2 : decide (x.t ≥ 64) = true := decide_eq_true e2
        have HV := Lib.hid (show rb = false by rw [HBG.out, decide_eq_false (show ¬ x.t < 64 by omega)]; simp)
        clear e1 e2 HBG
        go_quiet (fail)
        go_wp2_with fail
        go_meet
        exact ⟨by rw [HV.out]; first | done | rfl, bel_drawN (Below.refl _ _) _⟩
      · have q2 : decide (x.t ≥ 64) = false := decide_eq_false e2
        by_cases e3 : x.i = (N : Nat)
        · have q3 : (x.i != (N : Int)) = false := by simpa using e3
          by_cases e4 : x.v < 0
          · have q4 := decide_eq_true e4
            have HV := Lib.hid (show rb = false by rw [HBG.out, decide_eq_false (show ¬ 0 ≤ x.v by omega)]; simp)
            clear e1 e2 e3 e4 HBG
            go_quiet (fail)
            go_wp2_with fail
            go_meet
            exact ⟨by rw [HV.out]; first | done | rfl, bel_drawN (Below.refl _ _) _⟩
          · have q4 := decide_eq_false e4
            have HB2 := Lib.hid (show rb = decide (prevV (l.take i) < x.v) by rw [HBG.out, decide_eq_true (show 0 ≤ x.t by omega), decide_eq_true (show x.t < 64 by omega), decide_eq_true e3, decide_eq_true (show 0 ≤ x.v by omega)]; simp)
            rcases PV.out with ⟨rfl, hp⟩ | ⟨I, rfl, hp⟩
            · have HV := Lib.hid (show rb = true by rw [HB2.out, hp, decide_eq_true (by omega)])
              have u0 : decide ((0 : Int) < 0) = false := by decide
              clear e1 e2 e3 e4 HBG HB2 hp
              go_quiet (fail)
              go_wp2_with fail
              go_meet
              exact ⟨by rw [HV.out]; first | done | rfl, bel_drawN (Below.refl _ _) _⟩
            · rw [hp] at HB2
              obtain ⟨b2, o2, eA, hat⟩ := KC.at_ (HR.out.below BV.out) (show I < l.length by omega)
              injection eA with eA
              injection eA with g1 g2 g3
              subst g1 g2
              have cp : V.cell? ⟨b, o + I * 18 + 9, none⟩ = some (.int .i64 (l.getD I c0).v) := hat 9 _ rfl
              obtain ⟨pv, hpv⟩ : ∃ pv, (l.getD I c0).v = pv := ⟨_, rfl⟩
              rw [hpv] at cp HB2
              have u0 : decide (((I : Int) + 1) > 0) = true := decide_eq_true (by omega)
              have w1 : IntKind.i64.wrap ((I : Int) + 1 - 1) = I := by rw [IntWalk.i64_in _ (by omega)]; omega
              have i2 : (I : Int) + 1 < n := by omega
              have i3 : (I : Int) < n := by omega
              by_cases e5 : x.v ≤ pv
              · have q5 := decide_eq_true e5
                have HV := Lib.hid (show rb = false by rw [HB2.out, decide_eq_false (show ¬ pv < x.v by omega)])
                clear e1 e2 e3 e4 e5 HBG HB2 hp hpv hat
                go_quiet (fail)
                go_wp2_with fail
                go_meet
                exact ⟨by rw [HV.out]; first | done | rfl, bel_drawN (Below.refl _ _) _⟩
              · have q5 := decide_eq_false e5
                have HV := Lib.hid (show rb = true by rw [HB2.out, decide_eq_true (show pv < x.v by omega)])
                clear e1 e2 e3 e4 e5 HBG HB2 hp hpv hat
                go_quiet (fail)
                go_wp2_with fail
                go_meet
                exact ⟨by rw [HV.out]; first | done | rfl, bel_drawN (Below.refl _ _) _⟩
        · have q3 : (x.i != (N : Int)) = true := by simpa using e3
          have HV := Lib.hid (show rb = false by rw [HBG.out, decide_eq_false e3]; simp)
          clear e1 e2 e3 HBG
          go_quiet (fail)
          go_wp2_with fail
          go_meet
          exact ⟨by rw [HV.out]; first | done | rfl, bel_drawN (Below.refl _ _) _⟩
  case rest =>
    obtain ⟨rfl, bel⟩ := hcut
    obtain ⟨wx, rfl⟩ : ∃ wx : World, wx = wc := ⟨_, rfl⟩
    cases rb with
    | false =>
      have HV := Lib.hid (show r = false by rw [HGP.out]; rfl)
      go_wp2_with fail
      go_ret
      exact ⟨by rw [HV.out]; first | done | rfl, bel_bel BV.out bel⟩
    | true =>
      simp only [Bool.not_true]
      have hv0 : 0 ≤ x.v := by
        have := HBG.out
        simp only [eq_comm (a := true), Bool.and_eq_true, decide_eq_true_eq] at this
        exact this.2.2.2.1
      have HBX := Lib.hid hbx
      obtain ⟨ga, hga⟩ : ∃ ga, goodA (l.take i) x = ga := ⟨_, rfl⟩
      rw [hga] at HGP HGA
      have HG1 := Lib.hid (show r = (ga && partB (l.take i) x) by rw [HGP.out]; simp)
      clear hga HGP HBG HRB PV hbx
      go_wp2_with fail
      go_cut [80] from 53 to 79 (fun sx wy => sx = .bool (!ga) ∧ Below wx.heap.size wx wy)
      case first =>
        have AX := Lib.hid (AV.out.bel bel AV.out.lt)
        have hw0 : ∀ d os, (grow (redrawn wx d) os).cell? ⟨w.heap.size, 10, none⟩ = some (.int .i64 x.u) := fun d os => cell_regrown (AX.out 10 _ rfl) d os
        have hw1 : ∀ d os, (grow (redrawn wx d) os).cell? ⟨w.heap.size, 9, none⟩ = some (.int .i64 x.v) := fun d os => cell_regrown (AX.out 9 _ rfl) d os
        by_cases h1 : x.u = -1
        · have q1 : (x.u != -1) = false := by simpa using h1
          have TK := Lib.hid (show takeB x = true by unfold takeB; rw [decide_eq_true h1]; rfl)
          clear h1
          cases he : endB x with
          | false =>
            have CA := fun (W : World) => answered_any x W HBX.out hv0
            rw [he] at CA
            have HV := Lib.hid (show ga = false by rw [HGA.out, he]; simp)
            clear he HGA
            refine wp_region_quiet_below (by kernel_rfl) (by kernel_rfl) ?_
            repeat (first | (go_big_quiet_want; refine ldQ (.tmp 5) rfl w.heap.size 0 rfl x (at_regrown AX.out) ?_; go_simp; go_big_quiet_on) | go_big_quiet_step ((go_at_call 58; exact Calls.regrown_of (CA _))))
            refine wpQuiet_nil ?_
            rintro w' ⟨q, rfl⟩
            go_wp2_with fail
            go_meet
            exact ⟨by rw [HV.out]; first | done | rfl, below_regrown _ _ _⟩
          | true =>
            have CA := fun (W : World) => answered_any x W HBX.out hv0
            rw [he] at CA
            have HG2 := Lib.hid (show ga = follB (l.take i) x by rw [HGA.out, TK.out, he]; simp)
            clear he HGA
            rcases LP.out with ⟨rfl, hno⟩ | ⟨k, rfl, hki, hys⟩
            · have HV := Lib.hid (show ga = true by rw [HG2.out, foll_no hno])
              have d9 : decide ((-1 : Int) ≥ 0) = false := by decide
              clear hno HG2
              refine wp_region_quiet_below (by kernel_rfl) (by kernel_rfl) ?_
              repeat (first | (go_big_quiet_want; refine ldQ (.tmp 5) rfl w.heap.size 0 rfl x (at_regrown AX.out) ?_; go_simp; go_big_quiet_on) | go_big_quiet_step ((go_at_call 58; exact Calls.regrown_of (CA _))))
              refine wpQuiet_nil ?_
              rintro w' ⟨q, rfl⟩
              go_wp2_with fail
              go_meet
              exact ⟨by rw [HV.out]; first | done | rfl, below_regrown _ _ _⟩
            · obtain ⟨b2, o2, eA, hat⟩ := KC.at_ (HR.out.below (bel_bel BV.out bel)) (show k < l.length by omega)
              injection eA with eA
              injection eA with g1 g2 g3
              subst g1 g2
              have AP := Lib.hid hat
              have CB := fun (W : World) => rbefore_any (l.getD k c0) x W
              have HG3 := Lib.hid (show ga = bfr (l.getD k c0) x by rw [HG2.out, foll_yes hys])
              obtain ⟨p, hp⟩ : ∃ p, l.getD k c0 = p := ⟨_, rfl⟩
              rw [hp] at AP CB HG3
              have d9 : decide ((k : Int) ≥ 0) = true := decide_eq_true (by omega)
              have k1 : (k : Int) < n := by omega
              have k2 : k < n := by omega
              clear hp hat hys HG2
              cases hbb : bfr p x with
              | false =>
                rw [hbb] at CB
                have HV := Lib.hid (show ga = false by rw [HG3.out, hbb])
                clear hbb HG3
                refine wp_region_quiet_below (by kernel_rfl) (by kernel_rfl) ?_
                repeat (first | (go_big_quiet_want; refine ldQ (.tmp 74) rfl b (o + k * 18) rfl p (at_regrown AP.out) ?_; go_simp; go_big_quiet_on) | (go_big_quiet_want; refine ldQ (.tmp 5) rfl w.heap.size 0 rfl x (at_regrown AX.out) ?_; go_simp; go_big_quiet_on) | go_big_quiet_step (first | (go_at_call 58; exact Calls.regrown_of (CA _)) | (go_at_call 49; exact Calls.regrown_of (CB _))))
                refine wpQuiet_nil ?_
                rintro w' ⟨q, rfl⟩
                go_wp2_with fail
                go_meet
                exact ⟨by rw [HV.out]; first | done | rfl, below_regrown _ _ _⟩
              | true =>
                rw [hbb] at CB
                have HV := Lib.hid (show ga = true by rw [HG3.out, hbb])
                clear hbb HG3
                refine wp_region_quiet_below (by kernel_rfl) (by kernel_rfl) ?_
                repeat (first | (go_big_quiet_want; refine ldQ (.tmp 74) rfl b (o + k * 18) rfl p (at_regrown AP.out) ?_; go_simp; go_big_quiet_on) | (go_big_quiet_want; refine ldQ (.tmp 5) rfl w.heap.size 0 rfl x (at_regrown AX.out) ?_; go_simp; go_big_quiet_on) | go_big_quiet_step (first | (go_at_call 58; exact Calls.regrown_of (CA _)) | (go_at_call 49; exact Calls.regrown_of (CB _))))
                refine wpQuiet_nil ?_
                rintro w' ⟨q, rfl⟩
                go_wp2_with fail
                go_meet
                exact ⟨by rw [HV.out]; first | done | rfl, below_regrown _ _ _⟩
        · have q1 : (x.u != -1) = true := by simpa using h1
          by_cases h2 : x.u < x.v
          · have q2 := decide_eq_true h2
            have HV := Lib.hid (show ga = false by rw [HGA.out, takeB, decide_eq_false h1, decide_eq_false (show ¬ x.v ≤ x.u by omega)]; simp)
            clear h1 h2 HGA
            refine wp_region_quiet_below (by kernel_rfl) (by kernel_rfl) ?_
            repeat (go_big_quiet_step (fail))
            refine wpQuiet_nil ?_
            rintro w' ⟨q, rfl⟩
            go_wp2_with fail
            go_meet
            exact ⟨by rw [HV.out]; first | done | rfl, below_regrown _ _ _⟩
          · have q2 := decide_eq_false h2
            have TK := Lib.hid (show takeB x = true by unfold takeB; rw [decide_eq_true (show x.v ≤ x.u by omega)]; simp)
            clear h1 h2
            cases he : endB x with
            | false =>
              have CA := fun (W : World) => answered_any x W HBX.out hv0
              rw [he] at CA
              have HV := Lib.hid (show ga = false by rw [HGA.out, he]; simp)
              clear he HGA
              refine wp_region_quiet_below (by kernel_rfl) (by kernel_rfl) ?_
              repeat (first | (go_big_quiet_want; refine ldQ (.tmp 5) rfl w.heap.size 0 rfl x (at_regrown AX.out) ?_; go_simp; go_big_quiet_on) | go_big_quiet_step ((go_at_call 58; exact Calls.regrown_of (CA _))))
              refine wpQuiet_nil ?_
              rintro w' ⟨q, rfl⟩
              go_wp2_with fail
              go_meet
              exact ⟨by rw [HV.out]; first | done | rfl, below_regrown _ _ _⟩
            | true =>
              have CA := fun (W : World) => answered_any x W HBX.out hv0
              rw [he] at CA
              have HG2 := Lib.hid (show ga = follB (l.take i) x by rw [HGA.out, TK.out, he]; simp)
              clear he HGA
              rcases LP.out with ⟨rfl, hno⟩ | ⟨k, rfl, hki, hys⟩
              · have HV := Lib.hid (show ga = true by rw [HG2.out, foll_no hno])
                have d9 : decide ((-1 : Int) ≥ 0) = false := by decide
                clear hno HG2
                refine wp_region_quiet_below (by kernel_rfl) (by kernel_rfl) ?_
                repeat (first | (go_big_quiet_want; refine ldQ (.tmp 5) rfl w.heap.size 0 rfl x (at_regrown AX.out) ?_; go_simp; go_big_quiet_on) | go_big_quiet_step ((go_at_call 58; exact Calls.regrown_of (CA _))))
                refine wpQuiet_nil ?_
                rintro w' ⟨q, rfl⟩
                go_wp2_with fail
                go_meet
                exact ⟨by rw [HV.out]; first | done | rfl, below_regrown _ _ _⟩
              · obtain ⟨b2, o2, eA, hat⟩ := KC.at_ (HR.out.below (bel_bel BV.out bel)) (show k < l.length by omega)
                injection eA with eA
                injection eA with g1 g2 g3
                subst g1 g2
                have AP := Lib.hid hat
                have CB := fun (W : World) => rbefore_any (l.getD k c0) x W
                have HG3 := Lib.hid (show ga = bfr (l.getD k c0) x by rw [HG2.out, foll_yes hys])
                obtain ⟨p, hp⟩ : ∃ p, l.getD k c0 = p := ⟨_, rfl⟩
                rw [hp] at AP CB HG3
                have d9 : decide ((k : Int) ≥ 0) = true := decide_eq_true (by omega)
                have k1 : (k : Int) < n := by omega
                have k2 : k < n := by omega
                clear hp hat hys HG2
                cases hbb : bfr p x with
                | false =>
                  rw [hbb] at CB
                  have HV := Lib.hid (show ga = false by rw [HG3.out, hbb])
                  clear hbb HG3
                  refine wp_region_quiet_below (by kernel_rfl) (by kernel_rfl) ?_
                  repeat (first | (go_big_quiet_want; refine ldQ (.tmp 74) rfl b (o + k * 18) rfl p (at_regrown AP.out) ?_; go_simp; go_big_quiet_on) | (go_big_quiet_want; refine ldQ (.tmp 5) rfl w.heap.size 0 rfl x (at_regrown AX.out) ?_; go_simp; go_big_quiet_on) | go_big_quiet_step (first | (go_at_call 58; exact Calls.regrown_of (CA _)) | (go_at_call 49; exact Calls.regrown_of (CB _))))
                  refine wpQuiet_nil ?_
                  rintro w' ⟨q, rfl⟩
                  go_wp2_with fail
                  go_meet
                  exact ⟨by rw [HV.out]; first | done | rfl, below_regrown _ _ _⟩
                | true =>
                  rw [hbb] at CB
                  have HV := Lib.hid (show ga = true by rw [HG3.out, hbb])
                  clear hbb HG3
                  refine wp_region_quiet_below (by kernel_rfl) (by kernel_rfl) ?_
                  repeat (first | (go_big_quiet_want; refine ldQ (.tmp 74) rfl b (o + k * 18) rfl p (at_regrown AP.out) ?_; go_simp; go_big_quiet_on) | (go_big_quiet_want; refine ldQ (.tmp 5) rfl w.heap.size 0 rfl x (at_regrown AX.out) ?_; go_simp; go_big_quiet_on) | go_big_quiet_step (first | (go_at_call 58; exact Calls.regrown_of (CA _)) | (go_at_call 49; exact Calls.regrown_of (CB _))))
                  refine wpQuiet_nil ?_
                  rintro w' ⟨q, rfl⟩
                  go_wp2_with fail
                  go_meet
                  exact ⟨by rw [HV.out]; first | done | rfl, below_regrown _ _ _⟩
      case rest =>
        obtain ⟨rfl, bel2⟩ := hcut
        obtain ⟨wy, rfl⟩ : ∃ wy : World, wy = wc := ⟨_, rfl⟩
        have BW := Lib.hid (bel_bel BV.out (bel_bel bel bel2))
        have AX := Lib.hid ((AV.out.bel bel AV.out.lt).bel bel2 (AV.out.bel bel AV.out.lt).lt)
        clear LP HGA bel bel2 BV AV
        cases ga with
        | false =>
          have HV := Lib.hid (show r = false by rw [HG1.out]; rfl)
          go_wp2_with fail
          go_ret
          exact ⟨by rw [HV.out]; first | done | rfl, BW.out⟩
        | true =>
          simp only [Bool.not_true]
          have HG2 := Lib.hid (show r = partB (l.take i) x by rw [HG1.out]; simp)
          clear HG1
          go_wp2_with fail
          go_loopw [8] (fun s wr => ∃ (k : Nat), k ≤ i ∧ s = .int .i64 k ∧ partB (l.take k) x = true ∧ Below wy.heap.size wy wr) (fun s _ => i - (intOf s).toNat)
          case atStart => exact ⟨0, Nat.zero_le _, rfl, by simp [partB], Below.refl _ _⟩
          case round =>
            obtain ⟨k, hk, rfl, hpa, bel⟩ := hrel
            by_cases hlt : k < i
            · have d0 : decide ((k : Int) < i) = true := decide_eq_true (by omega)
              have j1 : (k : Int) < n := by omega
              obtain ⟨b2, o2, eA, hat⟩ := KC.at_ (HR.out.below (bel_bel BW.out bel)) (show k < l.length by omega)
              injection eA with eA
              injection eA with g1 g2 g3
              subst g1 g2
              have AX2 := Lib.hid (AX.out.bel bel AX.out.lt)
              have PK := Lib.hid (PS.out k hlt)
              have PK2 := Lib.hid (fun (h : partB (l.take (k + 1)) x = false) => PN.out (k + 1) h hlt)
              have CM := fun (W : World) => rmeet_any (l.getD k c0) x W
              rw [hpa] at PK
              obtain ⟨y, hy⟩ : ∃ y, l.getD k c0 = y := ⟨_, rfl⟩
              rw [hy] at PK CM hat
              have AY := Lib.hid hat
              clear hy hpa
              by_cases ht : y.t = x.t
              · have cy : wr.cell? ⟨b, o + k * 18, none⟩ = some (.int .i64 y.t) := AY.out 0 _ rfl
                have cx : wr.cell? ⟨w.heap.size, 0, none⟩ = some (.int .i64 x.t) := AX2.out 0 _ rfl
                have t0 : (y.t != x.t) = false := by simpa using ht
                have HE := Lib.hid (show partB (l.take (k + 1)) x = true by rw [PK.out, decide_eq_true ht]; rfl)
                clear ht PK PK2 hat
                go_wp2_with fail
                go_quiet (fail)
                go_wp2_with fail
                go_roundw
                case rel => exact ⟨k + 1, by omega, by go_num, HE.out, bel_drawN bel _⟩
                case measure => simp [intOf]; omega
              · have cy : ∀ d os, (grow (redrawn wr d) os).cell? ⟨b, o + k * 18, none⟩ = some (.int .i64 y.t) := fun d os => cell_regrown (AY.out 0 _ rfl) d os
                have cx : ∀ d os, (grow (redrawn wr d) os).cell? ⟨w.heap.size, 0, none⟩ = some (.int .i64 x.t) := fun d os => cell_regrown (AX2.out 0 _ rfl) d os
                have t0 : (y.t != x.t) = true := by simpa using ht
                cases hm : meetB y x with
                | true =>
                  rw [hm] at CM
                  have HV := Lib.hid (show r = false by rw [HG2.out]; exact PK2.out (by rw [PK.out, decide_eq_false ht, hm]; rfl))
                  clear ht PK PK2 hat hm
                  go_wp2_with fail
                  refine wp_region_quiet_below (by kernel_rfl) (by kernel_rfl) ?_
                  repeat (first | (go_big_quiet_want; refine ldQ (.tmp 97) rfl b (o + k * 18) rfl y (at_regrown AY.out) ?_; go_simp; go_big_quiet_on) | (go_big_quiet_want; refine ldQ (.tmp 5) rfl w.heap.size 0 rfl x (at_regrown AX2.out) ?_; go_simp; go_big_quiet_on) | go_big_quiet_step ((go_at_call 59; exact Calls.regrown_of (CM _))))
                  refine wpQuiet_nil ?_
                  rintro w' ⟨q, rfl⟩
                  go_wp2_with fail
                  go_ret
                  exact ⟨by rw [HV.out]; first | done | rfl, bel_bel BW.out (bel_bel bel (below_regrown _ _ _))⟩
                | false =>
                  rw [hm] at CM
                  have HE := Lib.hid (show partB (l.take (k + 1)) x = true by rw [PK.out, hm]; simp)
                  clear ht PK PK2 hat hm
                  go_wp2_with fail
                  refine wp_region_quiet_below (by kernel_rfl) (by kernel_rfl) ?_
                  repeat (first | (go_big_quiet_want; refine ldQ (.tmp 97) rfl b (o + k * 18) rfl y (at_regrown AY.out) ?_; go_simp; go_big_quiet_on) | (go_big_quiet_want; refine ldQ (.tmp 5) rfl w.heap.size 0 rfl x (at_regrown AX2.out) ?_; go_simp; go_big_quiet_on) | go_big_quiet_step ((go_at_call 59; exact Calls.regrown_of (CM _))))
                  refine wpQuiet_nil ?_
                  rintro w' ⟨q, rfl⟩
                  go_wp2_with fail
                  go_roundw
                  case rel => exact ⟨k + 1, by omega, by go_num, HE.out, bel_bel bel (below_regrown _ _ _)⟩
                  case measure => simp [intOf]; omega
            · obtain rfl : k = i := by omega
              have d0 : decide ((k : Int) < k) = false := by simp
              have HV := Lib.hid (show r = true by rw [HG2.out, hpa])
              go_wp2_with fail
              go_ret
              exact ⟨by rw [HV.out]; first | done | rfl, bel_bel BW.out bel⟩
end Hi
end Go.Proofs.Ytgfhfcjjodcgdaa
