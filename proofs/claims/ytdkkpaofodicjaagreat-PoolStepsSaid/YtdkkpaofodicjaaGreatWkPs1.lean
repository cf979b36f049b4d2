/- The walk of the law PoolSteps, from the contracts of package pool and of the reference, side by side in one state. Conditions: none. -/
import Derived.Test.YtdkkpaofodicjaaGreatPsDq
import Derived.Deep.CutBlock
namespace Go.Proofs.YtdkkpaofodicjaaGreat
open Go.RowKit Go.Sort
set_option linter.unusedVariables false
set_option linter.unusedSimpArgs false
set_option maxRecDepth 100000
namespace Wk
open Wd Po
open Ly (Ge tot pP pK pW pk Cf LyAt RAt)
open Dm (bel_alloc bel_trans)
/-- an event in its box -/
structure Bx6 (w : World) (e : Nat) (x : Ev6) : Prop where
  c0 : w.cell? ⟨e, 0, none⟩ = some (.int .u8 x.d)
  c1 : w.cell? ⟨e, 1, none⟩ = some (.int .i64 x.t)
  c2 : w.cell? ⟨e, 2, none⟩ = some (.int .i64 x.h)
  c3 : w.cell? ⟨e, 3, none⟩ = some (.int .i64 x.r)
  c4 : w.cell? ⟨e, 4, none⟩ = some (.int .i64 x.u)
  c5 : w.cell? ⟨e, 5, none⟩ = some (.int .i64 x.n)
theorem Bx6.lt {w : World} {e : Nat} {x : Ev6} (h : Bx6 w e x) : e < w.heap.size := World.block_lt_of_cell? w _ h.c0
theorem Bx6.keep {w w' : World} {e : Nat} {x : Ev6} (h : Bx6 w e x) (hb : w'.heap[e]? = w.heap[e]?) : Bx6 w' e x := by
  have k : ∀ j, w'.cell? ⟨e, j, none⟩ = w.cell? ⟨e, j, none⟩ := fun j => World.cell?_of_block (a := ⟨e, j, none⟩) hb
  exact ⟨(k _).trans h.c0, (k _).trans h.c1, (k _).trans h.c2, (k _).trans h.c3, (k _).trans h.c4, (k _).trans h.c5⟩
theorem Bx6.new (w : World) (x : Ev6) (ty : TypeId) : Bx6 (w.alloc (.cells #[.int .u8 x.d, .int .i64 x.t, .int .i64 x.h, .int .i64 x.r, .int .i64 x.u, .int .i64 x.n] ty)) w.heap.size x := by
  constructor <;> simp
theorem ko_new (W : World) (x : Px) (ty : TypeId) : KO.At (W.alloc (.cells (pxE x).toArray ty)) W.heap.size 0 x := fun j u hj => by
  rw [Nat.zero_add, World.cell?_alloc_new, List.getElem?_toArray]
  exact hj
theorem gv_pos {n : Nat} {S : Pm} {t u : Int} (h : gvE n S t u = 0) : 1 ≤ u := by
  unfold gvE at h
  split at h
  · split at h
    · next q => exact q.1
    · cases h
  · cases h
theorem TB30 : ¬ TB 30 := fun h => by have := h.2; omega
theorem TB10 : ¬ TB 10 := fun h => by have := h.2; omega
set_option maxRecDepth 100000 in
set_option maxHeartbeats 40000000 in
theorem walk_poolSteps (a0 : Nat → Int) (a1 : Option Addr) (a1n a1c : Nat) (a1v : List Po.Ev6) (w : World) (a1e : a1v.length = a1n) (a1m : a1n ≤ maxLen) (a1r : Po.RdY w a1 a1v) (a1b : Po.BdY a1v) (a1z : a1 = none → a1c = 0) :
    Calls Tryz.prog 3 #[.agg (Po.six a0), .slice a1 a1n a1c] w fun e w' => e = .returned (.bool true) ∧ Below w.heap.size w w' := by
  have CF := fun W => Lib.hid (few_any a0 W)
  have HE := Lib.hid a1e
  have HR := Lib.hid a1r
  have HB := Lib.hid a1b
  obtain ⟨W0, hW0⟩ : ∃ W, W = w.alloc (.cells #[.int .i64 (a0 0), .int .i64 (a0 1), .int .i64 (a0 2), .int .i64 (a0 3), .int .i64 (a0 4), .int .i64 (a0 5)] 22) := ⟨_, rfl⟩
  have HB0 := Lib.hid (show Below w.heap.size w W0 by rw [hW0]; exact bel_new (Below.refl _ _) _)
  have HS0 := Lib.hid (show ∀ W, Below W0.heap.size W0 W → ∀ i, i < 6 → W.cell? ⟨w.heap.size, i, none⟩ = some (.int .i64 (a0 i)) from fun W hb i hi => by
    have hh : W0.heap[w.heap.size]? = some (.cells (six a0) 22 (0, 0)) := by rw [hW0]; exact heap_alloc_new w _
    have hlt : w.heap.size < W0.heap.size := by rw [hW0, World.size_alloc]; omega
    exact (World.cell?_of_block (a := ⟨w.heap.size, i, none⟩) (hb.block _ hlt)).trans (six_cell hh hi))
  have HW0 := Lib.hid hW0
  clear a1e a1r a1b a1m a1z hW0
  unfold six
  go_enter Tryz.func3, Tryz.ntmps3
  go_wp2_with fail
  rw [← HW0.out]
  refine (CF W0).out.mono ?_
  rintro r1 W1 ⟨bb, rfl, hbb, hb1⟩
  have k0 := HS0.out W1 hb1 0 (by omega)
  have k1 := HS0.out W1 hb1 1 (by omega)
  have k2 := HS0.out W1 hb1 2 (by omega)
  have k3 := HS0.out W1 hb1 3 (by omega)
  have k4 := HS0.out W1 hb1 4 (by omega)
  have k5 := HS0.out W1 hb1 5 (by omega)
  have HB01 := Lib.hid hb1
  have HB1 := Lib.hid (HB0.out.trans (hb1.mono HB0.out.size))
  clear hb1
  cases bb with
  | false =>
    clear hbb
    go_wp2
    go_ret
    exact ⟨rfl, HB1.out⟩
  | true =>
    have hF := hbb.1 rfl
    clear hbb
    by_cases hn : 300 < a1n
    · have d1 : decide ((300 : Int) < (a1n : Int)) = true := decide_eq_true (by omega)
      have d1' : decide (300 < a1n) = true := decide_eq_true hn
      clear hn
      go_wp2
      go_ret
      exact ⟨rfl, HB1.out⟩
    have d1 : decide ((300 : Int) < (a1n : Int)) = false := decide_eq_false (by omega)
    have d1' : decide (300 < a1n) = false := decide_eq_false hn
    have HN := Lib.hid (show a1n ≤ 300 by omega)
    have ok := g0_ok hF
    have hn40 := g0_n hF
    have hW := g0_pW hF
    have C1 := fun W => Lib.hid (config_any a0 W)
    have C2 := fun W => Lib.hid (newL hF W)
    have C3 := fun W => Lib.hid (newLR hF W)
    obtain ⟨g, hg⟩ : ∃ g, g = g0 a0 := ⟨_, rfl⟩
    have hpP : pP g = 7 := by rw [hg]; rfl
    rw [← hg] at ok hn40 hW C2 C3
    have HOK := Lib.hid ok
    have HN40 := Lib.hid hn40
    have HW := Lib.hid hW
    have HPP := Lib.hid hpP
    clear hg ok hn40 hW hpP hF hn CF
    go_wp2_with fail
    refine (C1 _).out.mono ?_
    rintro r1 W2 ⟨rfl, hb2⟩
    have HB2 := Lib.hid (HB1.out.trans (hb2.mono HB1.out.size))
    have HB02 := Lib.hid (HB01.out.trans (hb2.mono HB01.out.size))
    clear hb2
    go_wp2_with fail
    refine (C2 _).out.mono ?_
    rintro r1 W3 ⟨bl, f, rfl, hl, hb3⟩
    have HB3 := Lib.hid (HB2.out.trans (hb3.mono HB2.out.size))
    have HB03 := Lib.hid (HB02.out.trans (hb3.mono HB02.out.size))
    clear k0 k1 k2 k3 k4 k5
    have k0 := HS0.out W3 HB03.out 0 (by omega)
    have k1 := HS0.out W3 HB03.out 1 (by omega)
    have k2 := HS0.out W3 HB03.out 2 (by omega)
    have k3 := HS0.out W3 HB03.out 3 (by omega)
    have k4 := HS0.out W3 HB03.out 4 (by omega)
    have k5 := HS0.out W3 HB03.out 5 (by omega)
    have HL := Lib.hid hl
    clear hb3 hl
    go_wp2_with fail
    refine (C1 _).out.mono ?_
    rintro r1 W4 ⟨rfl, hb4⟩
    have HB4 := Lib.hid hb4
    clear hb4
    go_wp2_with fail
    refine (C3 _).out.mono ?_
    rintro r1 W5 ⟨bz, rfl, hr, hb5⟩
    have HL5 := Lib.hid (HL.out.below (HB4.out.trans (hb5.mono HB4.out.size)))
    have HB5 := Lib.hid (HB3.out.trans ((HB4.out.trans (hb5.mono HB4.out.size)).mono HB3.out.size))
    have HRA := Lib.hid hr
    have CI := Lib.hid (Ly.initial_any HL5.out HOK.out)
    clear hb5 hr HB4 C1 C2 C3 HL k0 k1 k2 k3 k4 k5 HB01 HB02 HB03 HS0 HW0
    go_wp2_with fail
    refine CI.out.mono ?_
    rintro r1 W6 ⟨rfl, hrow, hb6⟩
    have CM := Lib.hid (newM HOK.out HW.out.1 (by have := HW.out.2; omega) hrow)
    have HB6 := Lib.hid hb6
    clear hb6 hrow CI
    go_wp2_with fail
    refine CM.out.mono ?_
    rintro r1 W7 ⟨bm, p, rfl, hm, hbm, hp, hb7⟩
    have HB7 := Lib.hid (HB6.out.trans (hb7.mono HB6.out.size))
    have HM := Lib.hid hm
    have HBM := Lib.hid (Nat.le_trans HB6.out.size hbm)
    have HBP := Lib.hid (Nat.le_trans HB6.out.size hp)
    have CI := Lib.hid (Ly.initialR_any (HRA.out.below HB7.out) HOK.out)
    clear hb7 hm hbm hp CM HB6
    go_wp2_with fail
    refine CI.out.mono ?_
    rintro r1 W8 ⟨rfl, hrow, hb8⟩
    have CM := Lib.hid (newMR HOK.out HW.out.1 (by have := HW.out.2; omega) hrow)
    have HB8 := Lib.hid hb8
    clear hb8 hrow CI
    go_wp2_with fail
    refine CM.out.mono ?_
    rintro r1 W9 ⟨bw, pw, rfl, hw, hbw, hpw, hb9⟩
    have HB9 := Lib.hid (HB8.out.trans (hb9.mono HB8.out.size))
    have HMR := Lib.hid hw
    have HBW := Lib.hid (Nat.le_trans HB8.out.size hbw)
    have HPW := Lib.hid (Nat.le_trans HB8.out.size hpw)
    have B59 := Lib.hid (HB7.out.trans (HB9.out.mono HB7.out.size))
    have CP := Lib.hid (new_any (HM.out.below HB9.out) (HL5.out.below B59.out) HOK.out HW.out.1 (by have := HW.out.2; omega) (Ly.ini_len g))
    clear hb9 hw hbw hpw CM HB8
    go_wp2_with fail
    refine CP.out.mono ?_
    rintro r1 W10 ⟨ta, hta, rfl, hpa, hb10⟩
    have HB10 := Lib.hid hb10
    have HPA := Lib.hid hpa
    have HTA := Lib.hid hta
    have hra := HRA.out.below (B59.out.trans (hb10.mono B59.out.size))
    obtain ⟨AH, ch, hh1, _⟩ := hra.hr
    have CQ := Lib.hid (newR_any (HMR.out.below hb10) (hra.pl 9 (by omega)) hh1 (by rw [show (⟨Ly.ini g, []⟩ : Wm).W.length = pW g from Ly.ini_len g]; rfl) HOK.out.tt)
    clear hb10 hpa hta CP hra hh1
    go_wp2_with fail
    refine CQ.out.mono ?_
    rintro r1 W11 ⟨x, ta2, ga, na, rfl, hpr, hx, hta2, hga, hna, hb11⟩
    obtain ⟨c, hb, ho, hbo, hlow⟩ := Bo.made HOK.out (by rw [HPP.out]; omega) HL5.out HRA.out HB7.out HM.out HBM.out HBP.out HB9.out HMR.out HBW.out HPW.out HB10.out HPA.out HTA.out hb11 hpr hx hta2 hga hna
    have HBE := Lib.hid (HB5.out.trans ((B59.out.trans ((HB10.out.trans (hb11.mono HB10.out.size)).mono B59.out.size)).mono HB5.out.size))
    have hps0 : Ps ⟨ta + 1, bm, bl, ta, f, [], g⟩ ⟨x, bw, bz, ta2, ga, na, hb, ho, tot g.t 6, pP g, htG g⟩ w W11 c (pm0 ⟨Ly.ini g, []⟩) (fun _ => none) (fun _ => 0) (fun _ => 0) 0 [] (.slice none 0 0) :=
      ⟨hbo, Lo.nil _ _, Rk.nil .., HBE.out, fun i hi => hlow i (Nat.lt_of_lt_of_le hi HB5.out.size)⟩
    obtain ⟨K, R, S0, hKx, hRx, hKm, hRm, hps⟩ : ∃ (K : Kc) (R : Kr) (S : Pm), ta + 1 = K.x ∧ x = R.x ∧ bm = K.bm ∧ bw = R.bm ∧ Ps K R w W11 c S (fun _ => none) (fun _ => 0) (fun _ => 0) 0 [] (.slice none 0 0) := ⟨⟨ta + 1, bm, bl, ta, f, [], g⟩, ⟨x, bw, bz, ta2, ga, na, hb, ho, tot g.t 6, pP g, htG g⟩, _, rfl, rfl, rfl, rfl, hps0⟩
    rw [hKx]
    have HPS := Lib.hid hps
    clear hps0 hps hbo hlow hb11 hpr hx hta2 hga hna CQ HBE HB5 B59 HB10 HPA HTA HB9 HMR HBW HPW HB7 HM HBM HBP HRA HL5 HOK HN40 HW HPP hKx HB3 HB2 HB1 HB0
    subst hRx hKm hRm
    go_wp2
    go_loopw [15, 16] (fun vo vi wr => ∃ (j : Nat) (l : List Px) (c' : Nat → Nat) (S : Pm) (X : Nat → Option Po.Op) (a b : Nat → Nat), vi = .int .i64 (j : Int) ∧ j ≤ a1n ∧ l.length ≤ j ∧ Ps K R w wr c' S X a b j l vo) (fun _ vi _ => (a1n - intOf vi).toNat)
    case atStart => exact ⟨0, [], _, _, _, _, _, rfl, Nat.zero_le _, Nat.le_refl _, HPS.out⟩
    case round =>
      clear HPS
      obtain ⟨j, l, c', S, X, a, b, rfl, hj, hlj, hps⟩ := hrel
      obtain ⟨AO, CO, rfl, hlc, hcm, hro, hrg⟩ := hps.rk.form
      have hNN := HN.out
      by_cases hlt : j < a1n
      · have d0 : decide ((j : Int) < (a1n : Int)) = true := decide_eq_true (by omega)
        have d0' : decide (j < a1n) = true := decide_eq_true hlt
        have hw1 : IntKind.i64.wrap ((j : Int) + 1) = (j : Int) + 1 := IntWalk.i64_in _ (by omega)
        have hlt' : (j : Int) < a1n := by omega
        obtain ⟨x, hx⟩ : ∃ x, a1v[j]? = some x := ⟨_, List.getElem?_eq_getElem (by rw [HE.out]; exact hlt)⟩
        have hbx := HB.out x (List.mem_of_getElem? hx)
        obtain ⟨xb, xo, rfl, e6⟩ := HR.out j x hx
        have e6 := e6.keep (hps.be.block xb e6.lt)
        have q0 := e6.c0
        have q1 := e6.c1
        have q2 := e6.c2
        have q3 := e6.c3
        have q4 := e6.c4
        have q5 := e6.c5
        obtain ⟨eb, heb⟩ : ∃ e, e = wr.heap.size := ⟨_, rfl⟩
        obtain ⟨W1, hW1⟩ : ∃ W, W = wr.alloc (.cells #[.int .u8 x.d, .int .i64 x.t, .int .i64 x.h, .int .i64 x.r, .int .i64 x.u, .int .i64 x.n] 53) := ⟨_, rfl⟩
        have bW : Below wr.heap.size wr W1 := by rw [hW1]; exact bel_alloc (Below.refl _ _) _
        have hB1 : Bx6 W1 eb x := by rw [hW1, heb]; exact Bx6.new ..
        have f1 : Fc (fun _ => False) wr c' W1 (up c' wr.heap.size 30) := Fc.of_below_up bW
        have hbc : up c' wr.heap.size 30 eb = 30 := by rw [heb]; exact up_ge (Nat.le_refl _)
        have hp1 := hps.keep f1 fun _ _ e => e
        generalize up c' wr.heap.size 30 = c1 at *
        have k0 := hB1.c0
        have k1 := hB1.c1
        have k2 := hB1.c2
        have k3 := hB1.c3
        have k4 := hB1.c4
        have k5 := hB1.c5
        have d1 := hbx.d
        have HPS := Lib.hid hp1
        have HB1 := Lib.hid hB1
        have HBC := Lib.hid hbc
        have HWE := Lib.hid hW1
        have HEB := Lib.hid heb
        have HLJ := Lib.hid hlj
        have hX := hp1.lo.n l.length (Nat.le_refl _)
        have BR := Lib.hid bW
        clear e6 hps hp1 hB1 hbc f1 bW hx hbx hW1 heb hro hrg HR HB HE
        go_upto_block 2 with fail
        rw [← HWE.out, ← HEB.out]
        go_cut [15] from 102 to 215 (fun v wx => ∃ (l' : List Px) (c' : Nat → Nat) (S' : Pm) (X' : Nat → Option Po.Op) (a' b' : Nat → Nat), l'.length ≤ j + 1 ∧ Ps K R w wx c' S' X' a' b' (j + 1) l' v)
        case first =>
          rcases (show x.d % 6 = 0 ∨ x.d % 6 = 1 ∨ (¬ x.d % 6 = 0 ∧ ¬ x.d % 6 = 1) by omega) with hd | hd | ⟨hd, hd'⟩
          · have u0 : (x.d % 6 == 0) = true := by simp [hd]
            clear hd
            have CT := HPS.out.bo.takeA hX x.t x.h x.r
            by_cases hy : tkE x.t x.h x.r = 0
            · replace CT := Lib.hid CT
              have HY := Lib.hid hy
              clear hy
              go_wp2_with fail
              refine CT.out.mono ?_
              rintro r1 W2 (⟨e, _⟩ | ⟨_, pp, qq, dd, y, et, eh, em, rfl, c2, hg, f12⟩)
              · exact absurd HY.out e
              have hB2 := HB1.out.keep (f12.keep HB1.out.lt (by rw [HBC.out]; exact TB30))
              have k1 := hB2.c1
              have k2 := hB2.c2
              have k3 := hB2.c3
              have CR := Lib.hid (hg.takeR hX HY.out et eh em)
              have HRK2 := Lib.hid (HPS.out.rk.keep f12 TB10)
              have F12 := Lib.hid f12
              clear hB2 f12 hg CT et eh em
              go_wp2_with fail
              refine CR.out.mono ?_
              rintro r1 W3 ⟨z, rfl, c3, b3, e3, ne3, hbo3, f23⟩
              have HRK3 := Lib.hid (HRK2.out.keep f23 TB10)
              have HBO3 := Lib.hid hbo3
              have F13 := Lib.hid (F12.out.trans f23)
              have HLO := Lib.hid (HPS.out.lo.push (r := nT pp qq dd) (a' := upd2 a l.length y) (b' := b3) (fun _ hj => upd2_other hj) ne3)
              have HE3 := Lib.hid e3
              clear hbo3 f23 CR e3 ne3 HRK2 F12
              go_wp2_with (at_builtin; refine appK (K := KO) rfl (.tmp 166) (.tmp 170) rfl _ c3 10 W3.heap.size _ l (true, y, z) rfl rfl (ko_new W3 (true, y, z) _) (HRK3.out.keep (Fc.of_below (S := fun _ => False) (bel_alloc (Below.refl _ _) _)) id) l.length rfl (by omega) ?_; intro g4 m4 W4 rk4 f34; have HRK4 := Lib.hid rk4; have F34 := Lib.hid f34; clear rk4 f34)
              go_meet
              have fal := Fc.of_below (S := fun i => i = 10) (c := c3) (bel_alloc (Below.refl W3.heap.size W3) (.cells (pxE (true, y, z)).toArray 62))
              have ft := fal.trans F34.out
              have lo := HLO.out
              rw [upd2_same, HE3.out, show decide ((nT pp qq dd).tw = 0) = true from rfl] at lo
              exact ⟨_, _, _, _, _, _, by rw [List.length_append, List.length_singleton]; omega, HPS.out.next (T := fun i => TB i ∨ i = 10) ((F13.out.mono fun _ e => .inl e).trans (ft.mono fun _ e => .inr e)) (fun h => by rcases h with h | h; exact absurd h.1 (by omega); omega) ((HBO3.out.fc ft fun i hi e => by omega).more (Nat.le_succ j)) lo HRK4.out⟩
            · have CR := takeRS HPS.out.bo.sr hX x.t x.h x.r
              generalize tkE x.t x.h x.r = y at *
              replace CT := Lib.hid CT
              replace CR := Lib.hid CR
              have y0 : (y == 0) = false := beq_eq_false_iff_ne.2 hy
              have HY := Lib.hid hy
              clear hy
              go_wp2_with fail
              refine CT.out.mono ?_
              rintro r1 W2 (⟨_, rfl, e⟩ | ⟨e, _⟩)
              · obtain rfl := e.symm
                go_wp2_with fail
                refine CR.out.mono ?_
                rintro r1 W3 (⟨_, rfl, e⟩ | ⟨e, _⟩)
                · obtain rfl := e.symm
                  go_wp2
                  go_meet
                  exact ⟨l, _, _, _, _, _, by omega, HPS.out.more (Nat.le_succ j)⟩
                · exact absurd e HY.out
              · exact absurd e HY.out
          · have u0 : (x.d % 6 == 0) = false := by simp [hd]
            have u1 : (x.d % 6 == 1) = true := by simp [hd]
            clear hd
            have CT := HPS.out.bo.giveA hX x.t x.u
            by_cases hy : gvE (tot K.g.t 6) S x.t x.u = 0
            · replace CT := Lib.hid CT
              have HY := Lib.hid hy
              clear hy
              go_wp2_with fail
              refine CT.out.mono ?_
              rintro r1 W2 (⟨e, _⟩ | ⟨_, pp, vv, y, et, eu, rfl, c2, hg, f12⟩)
              · exact absurd HY.out e
              have hB2 := HB1.out.keep (f12.keep HB1.out.lt (by rw [HBC.out]; exact TB30))
              have k1 := hB2.c1
              have k4 := hB2.c4
              have CR := Lib.hid (hg.giveR hX HY.out et eu)
              have HRK2 := Lib.hid (HPS.out.rk.keep f12 TB10)
              have F12 := Lib.hid f12
              have HVV := Lib.hid (show 1 ≤ vv by have := gv_pos HY.out; omega)
              clear hB2 f12 hg CT et eu
              go_wp2_with fail
              refine CR.out.mono ?_
              rintro r1 W3 ⟨z, rfl, c3, b3, e3, ne3, hbo3, f23⟩
              have HRK3 := Lib.hid (HRK2.out.keep f23 TB10)
              have HBO3 := Lib.hid hbo3
              have F13 := Lib.hid (F12.out.trans f23)
              have HLO := Lib.hid (HPS.out.lo.push (r := nG K pp vv) (a' := upd2 a l.length y) (b' := b3) (fun _ hj => upd2_other hj) ne3)
              have HE3 := Lib.hid e3
              clear hbo3 f23 CR e3 ne3 HRK2 F12
              go_wp2_with (at_builtin; refine appK (K := KO) rfl (.tmp 204) (.tmp 208) rfl _ c3 10 W3.heap.size _ l (false, y, z) rfl rfl (ko_new W3 (false, y, z) _) (HRK3.out.keep (Fc.of_below (S := fun _ => False) (bel_alloc (Below.refl _ _) _)) id) l.length rfl (by omega) ?_; intro g4 m4 W4 rk4 f34; have HRK4 := Lib.hid rk4; have F34 := Lib.hid f34; clear rk4 f34)
              go_meet
              have fal := Fc.of_below (S := fun i => i = 10) (c := c3) (bel_alloc (Below.refl W3.heap.size W3) (.cells (pxE (false, y, z)).toArray 62))
              have ft := fal.trans F34.out
              have lo := HLO.out
              rw [upd2_same, HE3.out, show decide ((nG K pp vv).tw = 0) = false from decide_eq_false (by have := HVV.out; show ¬ vv = 0; omega)] at lo
              exact ⟨_, _, _, _, _, _, by rw [List.length_append, List.length_singleton]; omega, HPS.out.next (T := fun i => TB i ∨ i = 10) ((F13.out.mono fun _ e => .inl e).trans (ft.mono fun _ e => .inr e)) (fun h => by rcases h with h | h; exact absurd h.1 (by omega); omega) ((HBO3.out.fc ft fun i hi e => by omega).more (Nat.le_succ j)) lo HRK4.out⟩
            · have CR := giveRS HPS.out.bo.sr hX (by rw [HPS.out.bo.n]; exact HPS.out.bo.n40) x.t x.u
              rw [HPS.out.bo.n] at CR
              generalize gvE (tot K.g.t 6) S x.t x.u = y at *
              replace CT := Lib.hid CT
              replace CR := Lib.hid CR
              have y0 : (y == 0) = false := beq_eq_false_iff_ne.2 hy
              have HY := Lib.hid hy
              clear hy
              go_wp2_with fail
              refine CT.out.mono ?_
              rintro r1 W2 (⟨_, rfl, e⟩ | ⟨e, _⟩)
              · obtain rfl := e.symm
                go_wp2_with fail
                refine CR.out.mono ?_
                rintro r1 W3 (⟨_, rfl, e⟩ | ⟨e, _⟩)
                · obtain rfl := e.symm
                  go_wp2
                  go_meet
                  exact ⟨l, _, _, _, _, _, by omega, HPS.out.more (Nat.le_succ j)⟩
                · exact absurd e HY.out
              · exact absurd e HY.out
          · have u0 : (x.d % 6 == 0) = false := by simp [hd]
            have u1 : (x.d % 6 == 1) = false := by simp [hd']
            clear hd hd'
            by_cases hn0 : l.length = 0
            · obtain rfl := List.eq_nil_of_length_eq_zero hn0
              clear hn0
              go_wp2
              go_meet
              exact ⟨[], _, _, _, _, _, Nat.zero_le _, HPS.out.more (Nat.le_succ j)⟩
            · have v0 : decide ((0 : Int) < (l.length : Int)) = true := decide_eq_true (by omega)
              have v1 : decide (0 < l.length) = true := decide_eq_true (by omega)
              have v2 : decide ((l.length : Int) > 0) = true := decide_eq_true (by omega)
              obtain ⟨r, hr, CI⟩ := indexB x.n l.length (by omega) (by omega)
              have CI2 := fun W => Lib.hid (CI W)
              have hri : (r : Int) < l.length := by omega
              obtain ⟨px, hpx⟩ : ∃ px, l[r]? = some px := ⟨_, List.getElem?_eq_getElem hr⟩
              obtain ⟨rr, hXr, rfl⟩ := HPS.out.lo.r r px hpx
              obtain ⟨AO', CO', e, _, _, hro, hrg⟩ := HPS.out.rk.form
              cases e
              obtain ⟨g6, rfl, hcg⟩ := hrg r _ hpx
              obtain ⟨b', o', e, hat⟩ := hro r _ hpx
              cases e
              clear CI hn0
              by_cases ht : rr.tw = 0
              · rw [decide_eq_true ht] at hat
                have m0 : W1.cell? ⟨g6, r * 3, none⟩ = some (.pointer (some ⟨a r, 0, none⟩)) := by have := hat 0 _ rfl; simpa [KO] using this
                have m1 : W1.cell? ⟨g6, r * 3 + 1, none⟩ = some (.pointer none) := by have := hat 1 _ rfl; simpa [KO] using this
                have m2 : W1.cell? ⟨g6, r * 3 + 2, none⟩ = some (.pointer (some ⟨b r, 0, none⟩)) := by have := hat 2 _ rfl; simpa [KO] using this
                have CS := Lib.hid (opStepA HPS.out.bo (by omega) hXr ht)
                have HXR := Lib.hid hXr
                clear hat hXr ht hro hrg hcg hpx
                go_wp2_with fail
                refine (CI2 _).out.mono ?_
                rintro r1 W2 ⟨rfl, e⟩
                obtain rfl := e.symm
                go_wp2_with fail
                refine CS.out.mono ?_
                rintro r1 W2 ⟨rfl, c2, hbo2, f12⟩
                have HBO2 := Lib.hid hbo2
                have F12 := Lib.hid f12
                clear hbo2 f12 m0 m1 m2 CS CI2
                go_wp2
                go_meet
                exact ⟨l, _, _, _, _, _, by omega, HPS.out.next (T := TB) F12.out (fun h => absurd h.1 (by omega)) HBO2.out (HPS.out.lo.step HXR.out (stO_tw ..)) (HPS.out.rk.keep F12.out TB10)⟩
              · rw [decide_eq_false ht] at hat
                have m0 : W1.cell? ⟨g6, r * 3, none⟩ = some (.pointer none) := by have := hat 0 _ rfl; simpa [KO] using this
                have m1 : W1.cell? ⟨g6, r * 3 + 1, none⟩ = some (.pointer (some ⟨a r, 0, none⟩)) := by have := hat 1 _ rfl; simpa [KO] using this
                have m2 : W1.cell? ⟨g6, r * 3 + 2, none⟩ = some (.pointer (some ⟨b r, 0, none⟩)) := by have := hat 2 _ rfl; simpa [KO] using this
                have CS := Lib.hid (opStepB HPS.out.bo (by omega) hXr (by omega))
                have HXR := Lib.hid hXr
                clear hat hXr ht hro hrg hcg hpx
                go_wp2_with fail
                refine (CI2 _).out.mono ?_
                rintro r1 W2 ⟨rfl, e⟩
                obtain rfl := e.symm
                go_wp2_with fail
                refine CS.out.mono ?_
                rintro r1 W2 ⟨rfl, c2, hbo2, f12⟩
                have HBO2 := Lib.hid hbo2
                have F12 := Lib.hid f12
                clear hbo2 f12 m0 m1 m2 CS CI2
                go_wp2
                go_meet
                exact ⟨l, _, _, _, _, _, by omega, HPS.out.next (T := TB) F12.out (fun h => absurd h.1 (by omega)) HBO2.out (HPS.out.lo.step HXR.out (stO_tw ..)) (HPS.out.rk.keep F12.out TB10)⟩
        case rest =>
          obtain ⟨l2, c2, S2, X2, a2, b2, hl2, hps2⟩ := hcut
          obtain ⟨AO2, CO2, rfl, _, _, _, _⟩ := hps2.rk.form
          have CA := hps2.bo.outA
          have CB := fun (W : World) (hb : Below wc.heap.size wc W) => (hps2.below hb).bo.outB
          have hol := outL_len S2 (tot K.g.t 6 + 1)
          have h24 := hps2.bo.n40
          generalize outL S2 (tot K.g.t 6 + 1) = OL at CA CB hol
          replace CA := Lib.hid CA
          replace CB := Lib.hid CB
          have HOL := Lib.hid (show OL.length ≤ 100000 by omega)
          have HP2 := Lib.hid hps2
          have HL2 := Lib.hid hl2
          clear hps2 hl2 hol h24 hX HPS HB1 HBC HWE HEB HLJ BR
          go_wp2_with fail
          refine CA.out.mono ?_
          rintro r1 V1 ⟨A1, n1, rfl, rd1, bb1⟩
          have CB1 := Lib.hid (CB.out V1 bb1)
          have HRD1 := Lib.hid rd1
          have HBB1 := Lib.hid bb1
          clear CA CB rd1 bb1
          go_wp2_with fail
          refine CB1.out.mono ?_
          rintro r1 V2 ⟨A2, n2, rfl, rd2, bb2⟩
          have CQ := Lib.hid (equI_same A1 A2 OL.length n1 n2 OL V2 rfl HOL.out (HRD1.out.below bb2) rd2)
          have HBB2 := Lib.hid (HBB1.out.trans (bb2.mono HBB1.out.size))
          clear CB1 rd2 bb2 HRD1
          go_wp2_with fail
          refine CQ.out.mono ?_
          rintro r1 V3 ⟨rfl, bb3⟩
          have HBB3 := Lib.hid (HBB2.out.trans (bb3.mono HBB2.out.size))
          clear CQ bb3 HBB2 HBB1
          go_wp2
          go_roundw
          case rel => exact ⟨j + 1, l2, c2, S2, X2, a2, b2, by go_num, by omega, HL2.out, HP2.out.below HBB3.out⟩
          case measure => simp [intOf]; omega
      · obtain rfl : j = a1n := by omega
        have d0 : decide ((j : Int) < (j : Int)) = false := decide_eq_false (by omega)
        have d0' : decide (j < j) = false := decide_eq_false (by omega)
        obtain ⟨stk, hsl, CLA, CLB⟩ := hps.bo.lists
        have CLA2 := Lib.hid CLA
        have CLB2 := Lib.hid CLB
        have HSL := Lib.hid hsl
        have HPS := Lib.hid hps
        obtain ⟨wk, hwk⟩ : ∃ wk : World, wk = wr := ⟨_, rfl⟩
        rw [← hwk] at HPS CLA2 CLB2 ⊢
        clear hsl CLA CLB hps hwk hro hrg hlt HR HB HE hlj
        go_wp2
        go_loopw [26] (fun vh wr => ∃ h : Nat, vh = .int .i64 (h : Int) ∧ h ≤ 8 ∧ Below wk.heap.size wk wr) (fun vh _ => (8 - intOf vh).toNat)
        case atStart => exact ⟨0, rfl, by omega, Below.refl _ _⟩
        case round =>
          obtain ⟨h, rfl, hh, hbel⟩ := hrel
          by_cases h7 : h ≤ 7
          · have e0 : decide ((h : Int) ≤ 7) = true := decide_eq_true (by omega)
            have e0' : decide (h ≤ 7) = true := decide_eq_true h7
            have hw1 : IntKind.i64.wrap ((h : Int) + 1) = (h : Int) + 1 := IntWalk.i64_in _ (by omega)
            have CA := CLA2.out h wr hbel
            have CB := fun (W : World) (hb : Below wr.heap.size wr W) => CLB2.out h W (hbel.trans (hb.mono hbel.size))
            have hl := HSL.out h
            generalize lsL stk h = LL at CA CB hl
            generalize liE (h : Int) = er at CA CB
            replace CA := Lib.hid CA
            replace CB := Lib.hid CB
            have HBL := Lib.hid hbel
            clear hbel
            go_wp2_with fail
            refine CA.out.mono ?_
            rintro r1 V1 ⟨A1, n1, rfl, rd1, bb1⟩
            have CB1 := Lib.hid (CB.out V1 bb1)
            have HRD1 := Lib.hid rd1
            have HBB1 := Lib.hid bb1
            clear CA CB rd1 bb1
            go_wp2_with fail
            refine CB1.out.mono ?_
            rintro r1 V2 ⟨A2, n2, rfl, rd2, bb2⟩
            have CQ := Lib.hid (equI_same A1 A2 LL.length n1 n2 LL V2 rfl (by omega) (HRD1.out.below bb2) rd2)
            have HBB2 := Lib.hid (HBB1.out.trans (bb2.mono HBB1.out.size))
            clear CB1 rd2 bb2 HRD1
            go_wp2_with fail
            refine CQ.out.mono ?_
            rintro r1 V3 ⟨rfl, bb3⟩
            have HBB3 := Lib.hid (HBL.out.trans ((HBB2.out.trans (bb3.mono HBB2.out.size)).mono HBL.out.size))
            clear CQ bb3 HBB2 HBB1
            go_wp2
            go_roundw
            case rel => exact ⟨h + 1, by go_num, by omega, HBB3.out⟩
            case measure => simp [intOf]; omega
          · have e0 : decide ((h : Int) ≤ 7) = false := decide_eq_false (by omega)
            have e0' : decide (h ≤ 7) = false := decide_eq_false h7
            have HPS2 := Lib.hid (HPS.out.below hbel)
            obtain ⟨wm, hwm⟩ : ∃ wm : World, wm = wr := ⟨_, rfl⟩
            rw [← hwm] at HPS2 ⊢
            clear hbel hwm HPS CLA2 CLB2 HSL
            go_wp2
            go_loopw [31] (fun vt wr => ∃ t : Nat, vt = .int .i64 (t : Int) ∧ t ≤ 42 ∧ wr = wm) (fun vt _ => (42 - intOf vt).toNat)
            case atStart => exact ⟨0, rfl, by omega, by first | rfl | trivial⟩
            case round =>
              obtain ⟨t, rfl, ht, rfl⟩ := hrel
              by_cases h41 : t ≤ 41
              · have e1 : decide ((t : Int) ≤ 41) = true := decide_eq_true (by omega)
                have e1' : decide (t ≤ 41) = true := decide_eq_true h41
                have hw1 : IntKind.i64.wrap ((t : Int) + 1) = (t : Int) + 1 := IntWalk.i64_in _ (by omega)
                have CA := HPS2.out.bo.gnA (t : Int)
                have CB := HPS2.out.bo.gnB (t : Int)
                generalize gnV (tot K.g.t 6) S (t : Int) = gv at CA CB
                generalize gnE (tot K.g.t 6) (t : Int) = ge at CA CB
                replace CA := Lib.hid CA
                replace CB := Lib.hid CB
                go_wp2_with fail
                refine CA.out.mono ?_
                rintro r1 V1 ⟨rfl, e⟩
                obtain rfl := e.symm
                go_wp2_with fail
                refine CB.out.mono ?_
                rintro r1 V2 ⟨rfl, e⟩
                obtain rfl := e.symm
                go_wp2
                go_roundw
                case rel => exact ⟨t + 1, by go_num, by omega, by first | rfl | trivial⟩
                case measure => simp [intOf]; omega
              · have e1 : decide ((t : Int) ≤ 41) = false := decide_eq_false (by omega)
                have e1' : decide (t ≤ 41) = false := decide_eq_false h41
                obtain ⟨p1, q1, hA1, _⟩ := HPS2.out.bo.sa.m
                obtain ⟨p2, q2, ⟨cR, vR, _, hA2⟩, _⟩ := HPS2.out.bo.sr.m
                have hlg := HPS2.out.bo.lg
                have s1 := hA2.c1
                obtain ⟨_, AR, kR, rfl, _, rdR, _⟩ := rowA hA2.log
                have CLg := log_any K.bm p1 q1 S.M 0 wr.drew (hA1.below (below_drewN (Below.refl _ wr) 1)) (by omega)
                rw [Wd.from_zero] at CLg
                replace CLg := Lib.hid CLg
                have HRD := Lib.hid rdR
                have BE := Lib.hid HPS2.out.be
                have hbr : R.bm < wr.heap.size := hA2.lt
                obtain ⟨LL, hLL⟩ : ∃ L, L = S.M.L := ⟨_, rfl⟩
                rw [← hLL] at s1 CLg HRD hlg
                clear hA1 hA2 rdR HPS2 hLL
                go_wp2_with fail
                go_region_held3 (fun w' => w'.cell? ⟨R.bm, 1, none⟩ = some (.slice AR LL.length kR)) (first | exact s1 | with_reducible exact m1 | with_reducible exact m2) (first | (go_at_call 28; refine CLg.out.mono ?_; rintro r W5 ⟨⟨v5, rfl, ho⟩, bb⟩; obtain ⟨_, A5, k5, rfl, _, rd5, _⟩ := rowA ho; have bb' : Below wr.heap.size wr W5 := ⟨bb.os, bb.tape, bb.output, bb.size, bb.block⟩; have m1 := (bb'.cell (p := ⟨R.bm, 1, none⟩) hbr).trans s1) | (go_at_call 27; refine (eqa_any A5 AR LL.length k5 LL.length kR LL LL W5 rfl rfl (by omega) (by omega) rd5 (HRD.out.below bb')).mono ?_; rw [decide_eq_true (rfl : LL = LL)]; rintro r W6 ⟨rfl, b6⟩; have m2 := (b6.cell (p := ⟨R.bm, 1, none⟩) (Nat.lt_of_lt_of_le hbr bb'.size)).trans m1))
                all_goals
                  have BB := Lib.hid (BE.out.trans ((bb'.trans (b6.mono bb'.size)).mono BE.out.size))
                  clear bb bb' b6 ho rd5 m1 m2
                  go_wp2
                  go_ret
                  exact ⟨rfl, BB.out⟩
end Wk
end Go.Proofs.YtdkkpaofodicjaaGreat
