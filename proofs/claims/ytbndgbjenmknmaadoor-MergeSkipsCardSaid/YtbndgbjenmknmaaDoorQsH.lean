/- sort.pdqsort_func over a row of candidates, 'less' a bound method: contract of the translated code. Conditions: at most 64 candidates, distinct keys. -/
import Derived.Test.YtbndgbjenmknmaaDoorQsG
namespace Go.Proofs.YtbndgbjenmknmaaDoor
open Go.RowKit Go.Sort Go.Shelf Go.Lib
set_option linter.unusedVariables false
set_option linter.unusedSimpArgs false
namespace Hq
open Om (bel_alloc below_drewN)
def ky (x : Cd) : Int := x.k
/-- of [a, b) what lies outside of [x, y) is in order -/
def Oth (a b x y : Nat) (f : Nat → Cd) : Prop := ∀ p q, a ≤ p → p < q → q < b → ¬ (x ≤ p ∧ q < y) → (f p).k ≤ (f q).k
/-- what the loop keeps -/
structure PdK (a b x y : Nat) (f : Nat → Cd) : Prop where
  ax : a ≤ x
  xy : x ≤ y
  yb : y ≤ b
  low : LowB x y f
  oth : Oth a b x y f
theorem PdK.sws {a b x y : Nat} {f f' : Nat → Cd} (h : PdK a b x y f) (s : Sws x y f f') : PdK a b x y f' := by
  refine ⟨h.ax, h.xy, h.yb, h.low.sws s, fun p q h1 h2 h3 h4 => ?_⟩
  by_cases hp : x ≤ p ∧ p < y
  · obtain ⟨j, j1, j2, e⟩ := s.old p hp.1 hp.2
    rw [e, s.far q (.inr (by omega))]
    exact h.oth j q (by have := h.ax; omega) (by omega) h3 (by omega)
  · rw [s.far p (by omega)]
    by_cases hq : x ≤ q ∧ q < y
    · obtain ⟨j, j1, j2, e⟩ := s.old q hq.1 hq.2
      rw [e]
      exact h.oth p j h1 (by omega) (by have := h.yb; omega) (by omega)
    · rw [s.far q (by omega)]
      exact h.oth p q h1 h2 h3 h4
theorem PdK.done {a b x y : Nat} {f : Nat → Cd} (h : PdK a b x y f) (hs : Srt x y f) : Srt a b f := fun p q h1 h2 h3 => by
  by_cases e : x ≤ p ∧ q < y
  · exact hs p q e.1 h2 e.2
  · exact h.oth p q h1 h2 h3 e
/-- parted at mid, the left part sorted -/
theorem PdK.left {a b x y mid : Nat} {f f' : Nat → Cd} (h : PdK a b x y f) (hm : x ≤ mid ∧ mid < y) (hp : Prt x y mid f) (s : Sws x mid f f') (hs : Srt x mid f') : PdK a b (mid + 1) y f' := by
  have em : f' mid = f mid := s.far mid (.inr (Nat.le_refl _))
  have h' := h.sws (s.mono (Nat.le_refl _) (by omega))
  have lo : ∀ p, x ≤ p → p < mid → (f' p).k ≤ (f' mid).k := fun p h1 h2 => by
    obtain ⟨j, j1, j2, e⟩ := s.old p h1 h2
    rw [e, em]; exact Int.le_of_lt (hp.1 j j1 j2)
  have hi : ∀ q, mid < q → q < y → (f' mid).k ≤ (f' q).k := fun q h1 h2 => by
    rw [em, s.far q (.inr (by omega))]; exact hp.2 q h1 h2
  have hax := h.ax
  refine ⟨by omega, by omega, h.yb, fun _ k h1 h2 => hi k (by omega) h2, fun p q h1 h2 h3 h4 => ?_⟩
  by_cases e : x ≤ p ∧ q < y
  · by_cases e1 : q < mid
    · exact hs p q e.1 h2 e1
    · by_cases e2 : q = mid
      · rw [e2]; exact lo p e.1 (by omega)
      · by_cases e3 : p < mid
        · exact Int.le_trans (lo p e.1 e3) (hi q (by omega) e.2)
        · have : p = mid := by omega
          rw [this]; exact hi q (by omega) e.2
  · exact h'.oth p q h1 h2 h3 e
/-- parted at mid, the right part sorted -/
theorem PdK.right {a b x y mid : Nat} {f f' : Nat → Cd} (h : PdK a b x y f) (hm : x ≤ mid ∧ mid < y) (hp : Prt x y mid f) (s : Sws (mid + 1) y f f') (hs : Srt (mid + 1) y f') : PdK a b x mid f' := by
  have em : f' mid = f mid := s.far mid (.inl (by omega))
  have h' := h.sws (s.mono (by omega) (Nat.le_refl _))
  have lo : ∀ p, x ≤ p → p < mid → (f' p).k ≤ (f' mid).k := fun p h1 h2 => by
    rw [em, s.far p (.inl (by omega))]; exact Int.le_of_lt (hp.1 p h1 h2)
  have hi : ∀ q, mid < q → q < y → (f' mid).k ≤ (f' q).k := fun q h1 h2 => by
    obtain ⟨j, j1, j2, e⟩ := s.old q (by omega) h2
    rw [e, em]; exact hp.2 j (by omega) j2
  have hax := h.ax
  have hyb := h.yb
  refine ⟨h.ax, by omega, by omega, fun h0 k h1 h2 => h'.low h0 k h1 (by omega), fun p q h1 h2 h3 h4 => ?_⟩
  by_cases e : x ≤ p ∧ q < y
  · by_cases e1 : mid < p
    · exact hs p q (by omega) h2 e.2
    · by_cases e2 : p = mid
      · rw [e2]; exact hi q (by omega) e.2
      · by_cases e3 : q = mid
        · rw [e3]; exact lo p e.1 (by omega)
        · exact Int.le_trans (lo p e.1 (by omega)) (hi q (by omega) e.2)
  · exact h'.oth p q h1 h2 h3 e
theorem lowB_left {x y mid : Nat} {f : Nat → Cd} (h : LowB x y f) (hm : mid < y) : LowB x mid f := fun h0 k h1 h2 => h h0 k h1 (by omega)
theorem lowB_right {x y mid : Nat} {f : Nat → Cd} (hp : Prt x y mid f) : LowB (mid + 1) y f := fun _ k h1 h2 => hp.2 k (by omega) h2
theorem PdK.strict {a b x y n pv : Nat} {f : Nat → Cd} (h : PdK a b x y f) (h0 : 0 < x) (hp1 : x ≤ pv) (hp2 : pv < y) (hn : y ≤ n) (ho : Hp.Once ky f n) : (f (x - 1)).k < (f pv).k := by
  have h1 := h.low h0 pv hp1 hp2
  have h2 : (f (x - 1)).k ≠ (f pv).k := fun e => by
    have := ho (x - 1) pv (by omega) (by omega) e
    omega
  omega
/-- what is known of the calls still to come -/
def IHp (sf : Nat) (sb : Array Value) (g n c N : Nat) : Prop := ∀ (a b lim : Nat) (f : Nat → Cd) (w : World), b - a ≤ N → Rw w g n f w → a ≤ b → b ≤ n → lim ≤ 64 → LowB a b f → Hp.Once ky f n →
  Calls Tryd.prog 48 #[.agg #[lsV g n c, swV sf sb], .int .i64 a, .int .i64 b, .int .i64 lim] w fun e w' => SoP w g n a b f (Srt a b) e w'
theorem ISt.go {w wr w1 : World} {g n c sf a b x y : Nat} {sb : Array Value} {f f1 f2 : Nat → Cd} {P P' : (Nat → Cd) → Prop} (h : ISt w g n c sf a b sb f P f1 wr) (hx : a ≤ x) (hy : y ≤ b) (hs : Sws x y f1 f2) (hr : Rw wr g n f2 w1) (hp : Sws x y f1 f2 → P' f2) : ISt w g n c sf a b sb f P' f2 w1 := by
  have hg := h.rw.1
  have hlt : w.heap.size < wr.heap.size := World.block_lt_of_cell? wr _ h.k0
  exact ⟨h.rw.on hr, h.sws.trans (hs.mono hx hy), hp hs, (hr.far hlt (by omega) 0).trans h.k0, (hr.far hlt (by omega) 1).trans h.k1⟩
set_option maxRecDepth 100000 in
set_option maxHeartbeats 16000000 in
theorem pdq_step (g n c sf N : Nat) (sb : Array Value) (hs : Swp sf sb g n) (hn : n ≤ 64) (ih : ∀ N', N = N' + 1 → IHp sf sb g n c N') (a b lim : Nat) (f : Nat → Cd) (w : World) (hN : b - a ≤ N) (h : Rw w g n f w) (hab : a ≤ b) (hb : b ≤ n) (hl : lim ≤ 64) (hlow : LowB a b f) (ho : Hp.Once ky f n) :
    Calls Tryd.prog 48 #[.agg #[lsV g n c, swV sf sb], .int .i64 a, .int .i64 b, .int .i64 lim] w fun e w' => SoP w g n a b f (Srt a b) e w' := by
  have hg := h.1
  have h1 := h.alloc (.cells #[lsV g n c, swV sf sb] 102)
  have IS := fun a b f w h hab hb => Lib.hid (insS_any g n c a b sf sb f w h hs hn hab hb)
  have HS := fun a b f w h hab hb => Lib.hid (heapS_any g n c a b sf sb f w h hs hn hab hb)
  have BR := fun a b f w h hab hb => Lib.hid (brk_any g n c a b sf sb f w h hs hn hab hb)
  have RV := fun a b f w h hab hb => Lib.hid (rev_any g n c a b sf sb f w h hs hn hab hb)
  have CH := fun a b f w h hab hb => Lib.hid (choose_any g n c a b sf sb f w h hn hab hb)
  have PI := fun a b f w h hab hb hl => Lib.hid (pis_any g n c a b sf sb f w h hs hn hab hb hl)
  have PA := fun a b pv f w h hab hb h1 h2 => Lib.hid (part_any g n c a b pv sf sb f w h hs hn hab hb h1 h2)
  have IH := fun N' (e : N = N' + 1) a b lim f w h1 h2 h3 h4 h5 h6 h7 => Lib.hid (ih N' e a b lim f w h1 h2 h3 h4 h5 h6 h7)
  have hls : lsV g n c = .func (.func 32) #[.slice (some ⟨g, 0, none⟩) n c] #[] := rfl
  have hsw : swV sf sb = .func (.func sf) #[] sb := rfl
  rw [hls, hsw] at h1 IS HS BR RV CH PI PA IH
  rw [hls, hsw]
  clear hls hsw ih
  have HO := Lib.hid ho
  have ST : ISt w g n c sf a b sb f (PdK a b a b) f _ := ⟨h1, .refl, ⟨Nat.le_refl _, hab, Nat.le_refl _, hlow, (fun p q h1 h2 h3 h4 => absurd ⟨h1, h3⟩ h4)⟩, (by simp), (by simp)⟩
  have ST := Lib.hid ST
  clear h h1 hlow ho
  go_enter Tryd.func48, Tryd.ntmps48
  go_wp2
  go_loopg [1, 2, 3, 8, 9] (b - a) (fun gk s1 s2 s3 s8 s9 wr => ∃ (x y lim : Nat) (wb wp : Bool) (f' : Nat → Cd), s1 = .int .i64 x ∧ s2 = .int .i64 y ∧ s3 = .int .i64 lim ∧ s8 = .bool wb ∧ s9 = .bool wp ∧ lim ≤ 64 ∧ y - x ≤ gk ∧ ISt w g n c sf a b sb f (PdK a b x y) f' wr)
  case atStart => exact ⟨a, b, lim, true, true, f, rfl, rfl, rfl, rfl, rfl, hl, Nat.le_refl _, ST.out⟩
  case round =>
    clear ST
    obtain ⟨x, y, lim, wb, wp, f1, rfl, rfl, rfl, rfl, rfl, hl, hgk, st⟩ := hrel
    have k0 := st.k0
    have k1 := st.k1
    have hax := st.p.ax
    have hxy := st.p.xy
    have hyb := st.p.yb
    have S1 := Lib.hid st
    clear st
    by_cases h12 : y - x ≤ 12
    · have t0 : decide ((y : Int) - (x : Int) ≤ 12) = true := decide_eq_true (by omega)
      have C := IS x y f1 wr S1.out.rw.again hxy (by omega)
      go_wp2_with fail
      refine C.out.mono ?_
      rintro r w1 ⟨rfl, f2, hs2, hsr, hr2⟩
      have FN := Lib.hid (show SoP w g n a b f (Srt a b) (.returned (.tuple #[])) w1 from ⟨rfl, f2, S1.out.sws.trans (hs2.mono hax hyb), (S1.out.p.sws hs2).done hsr, S1.out.rw.on hr2⟩)
      clear hs2 hsr hr2
      go_wp2
      go_end0
      exact FN.out
    · have t0 : decide ((y : Int) - (x : Int) ≤ 12) = false := decide_eq_false (by omega)
      rcases Nat.eq_zero_or_pos lim with hl0 | hl0
      · subst hl0
        have C := HS x y f1 wr S1.out.rw.again (by omega) (by omega)
        go_wp2_with fail
        refine C.out.mono ?_
        rintro r w1 ⟨rfl, f2, hs2, hsr, hr2⟩
        have FN := Lib.hid (show SoP w g n a b f (Srt a b) (.returned (.tuple #[])) w1 from ⟨rfl, f2, S1.out.sws.trans (hs2.mono hax hyb), (S1.out.p.sws hs2).done hsr, S1.out.rw.on hr2⟩)
        clear hs2 hsr hr2
        go_wp2
        go_end0
        exact FN.out
      · have t1 : ((lim : Int) == 0) = false := beq_eq_false_iff_ne.2 (by omega)
        go_upto_if 35 with fail
        go_cut [3] from 19 to 129 (fun s3 wc => ∃ (lim : Nat) (f2 : Nat → Cd), s3 = .int .i64 lim ∧ lim ≤ 64 ∧ ISt w g n c sf a b sb f (PdK a b x y) f2 wc)
        case first =>
          cases wb with
          | true =>
            go_wp2_with fail
            go_meet
            exact ⟨lim, f1, rfl, hl, S1.out⟩
          | false =>
            have C := BR x y f1 wr S1.out.rw.again (by omega) (by omega)
            go_wp2_with fail
            refine C.out.mono ?_
            rintro r w1 ⟨rfl, f2, hs2, hr2⟩
            have S2 := Lib.hid (S1.out.go hax hyb hs2 hr2 S1.out.p.sws)
            clear hs2 hr2 C
            go_wp2_with fail
            go_meet
            exact ⟨lim - 1, f2, by congr 1; omega, by omega, S2.out⟩
        case rest =>
          obtain ⟨lim2, f2, rfl, hl2, st⟩ := hcut
          have k0 := st.k0
          have k1 := st.k1
          have S2 := Lib.hid st
          clear st S1 hl hl0 t1
          have C := CH x y f2 wc S2.out.rw.again (by omega) (by omega)
          go_wp2_with fail
          refine C.out.mono ?_
          rintro r w1 ⟨pv, h, rfl, hp1, hp2, hh, hr2⟩
          have S3 := Lib.hid (S2.out.go hax hyb .refl hr2 (fun _ => S2.out.p))
          have k0 := S3.out.k0
          have k1 := S3.out.k1
          clear hr2 C S2
          go_upto_if 50 with fail
          go_cut [11, 12] from 19 to 129 (fun s11 s12 wc => ∃ (pv : Nat) (h : Int) (f3 : Nat → Cd), s11 = .int .i64 pv ∧ s12 = .int .i64 h ∧ x ≤ pv ∧ pv < y ∧ ISt w g n c sf a b sb f (PdK a b x y) f3 wc)
          case first =>
            by_cases h2 : h = 2
            · subst h2
              have C := RV x y f2 w1 S3.out.rw.again (by omega) (by omega)
              go_wp2_with fail
              refine C.out.mono ?_
              rintro r w2 ⟨rfl, f3, hs2, hr2⟩
              have S4 := Lib.hid (S3.out.go hax hyb hs2 hr2 S3.out.p.sws)
              clear hs2 hr2 C
              go_wp2_with fail
              go_meet
              exact ⟨y - 1 - (pv - x), 1, f3, by congr 1; omega, rfl, by omega, by omega, S4.out⟩
            · have t2 : (h == 2) = false := beq_eq_false_iff_ne.2 h2
              clear h2
              go_wp2_with fail
              go_meet
              exact ⟨pv, h, f2, rfl, rfl, hp1, hp2, S3.out⟩
          case rest =>
            clear hp1 hp2 hh S3 k0 k1
            obtain ⟨pv, h, f3, rfl, rfl, hp1, hp2, st⟩ := hcut
            have k0 := st.k0
            have k1 := st.k1
            have S4 := Lib.hid st
            clear st
            go_upto_region 16 with fail
            go_cut [68] from 19 to 129 (fun s68 wx => ∃ z : Bool, s68 = .bool z ∧ wx = wc)
            case first =>
              cases wb with
              | false =>
                go_wp2_with fail
                go_meet
                exact ⟨false, rfl, rfl⟩
              | true =>
                cases wp with
                | false =>
                  go_wp2_with fail
                  go_meet
                  exact ⟨false, rfl, rfl⟩
                | true =>
                  go_wp2_with fail
                  go_meet
                  exact ⟨_, rfl, rfl⟩
            case rest =>
              obtain ⟨z, rfl, hwc⟩ := hcut
              subst hwc
              go_upto_if 68 with fail
              go_cut [] from 19 to 129 (fun wx => ∃ f4 : Nat → Cd, ISt w g n c sf a b sb f (PdK a b x y) f4 wx)
              case first =>
                cases z with
                | false =>
                  go_wp2_with fail
                  go_meet
                  exact ⟨f3, S4.out⟩
                | true =>
                  have C := PI x y f3 wc S4.out.rw.again (by omega) (by omega) S4.out.p.low
                  go_wp2_with fail
                  refine C.out.mono ?_
                  rintro r w2 ⟨r2, f4, rfl, hs4, hsr4, hr4⟩
                  have S5 := Lib.hid (S4.out.go hax hyb hs4 hr4 S4.out.p.sws)
                  clear hs4 hr4 C
                  cases r2 with
                  | true =>
                    have FN := Lib.hid (show SoP w g n a b f (Srt a b) (.returned (.tuple #[])) w2 from ⟨rfl, f4, S5.out.sws, S5.out.p.done (hsr4 rfl), S5.out.rw⟩)
                    clear hsr4
                    go_wp2_with fail
                    go_end0
                    exact FN.out
                  | false =>
                    clear hsr4
                    go_wp2_with fail
                    go_meet
                    exact ⟨f4, S5.out⟩
              case rest =>
                clear S4 k0 k1
                obtain ⟨f4, st⟩ := hcut
                have k0 := st.k0
                have k1 := st.k1
                have S4 := Lib.hid st
                clear st
                go_upto_region 18 with fail
                go_cut [83] from 19 to 129 (fun s83 wx => s83 = .bool false ∧ ISt w g n c sf a b sb f (PdK a b x y) f4 wx)
                case first =>
                  rcases Nat.eq_zero_or_pos x with x0 | x0
                  · have t3 : decide (0 < (x : Int)) = false := decide_eq_false (by omega)
                    have t4 : decide (0 < x) = false := decide_eq_false (by omega)
                    clear x0
                    go_wp2_with fail
                    go_meet
                    exact ⟨rfl, S4.out⟩
                  · have t3 : decide (0 < (x : Int)) = true := decide_eq_true (by omega)
                    have t4 : decide (0 < x) = true := decide_eq_true (by omega)
                    have hst := S4.out.p.strict x0 hp1 hp2 (by omega) (S4.out.sws.once hb HO.out)
                    have CL := S4.out.rw.less (c := c) hn (i := x - 1) (j := pv) (by omega) (by omega)
                    rw [decide_eq_true hst, show ((x - 1 : Nat) : Int) = (x : Int) - 1 by omega] at CL
                    have CL := Lib.hid CL
                    clear hst
                    go_wp2_with fail
                    refine CL.out.mono ?_
                    rintro r w2 ⟨rfl, d, rfl⟩
                    go_wp2_with fail
                    go_meet
                    exact ⟨rfl, S4.out.drewN d⟩
                case rest =>
                  clear S4 k0 k1
                  obtain ⟨rfl, st⟩ := hcut
                  have k0 := st.k0
                  have k1 := st.k1
                  have S4 := Lib.hid st
                  clear st
                  have C := PA x y pv f4 _ S4.out.rw.again (by omega) (by omega) hp1 hp2
                  go_wp2_with fail
                  refine C.out.mono ?_
                  rintro r w3 ⟨mid, r2, f5, rfl, hm1, hm2, hs5, hprt, hr5⟩
                  have S5 := Lib.hid (S4.out.go hax hyb hs5 hr5 S4.out.p.sws)
                  have HP := Lib.hid hprt
                  have k0 := S5.out.k0
                  have k1 := S5.out.k1
                  clear hs5 hprt hr5 C S4
                  obtain ⟨N', hN'⟩ : ∃ N', N = N' + 1 := ⟨N - 1, by omega⟩
                  by_cases hlr : (mid : Int) - (x : Int) < (y : Int) - (mid : Int)
                  · have t6 : decide ((mid : Int) - (x : Int) < (y : Int) - (mid : Int)) = true := decide_eq_true hlr
                    have C := IH N' hN' x mid lim2 f5 w3 (by omega) S5.out.rw.again (by omega) (by omega) hl2 (lowB_left S5.out.p.low hm2) (S5.out.sws.once hb HO.out)
                    go_wp2_with fail
                    refine C.out.mono ?_
                    rintro r w4 ⟨rfl, f6, hs6, hsr6, hr6⟩
                    have S6 := Lib.hid (S5.out.go (P' := PdK a b (mid + 1) y) (by omega) (by omega) hs6 hr6 (fun s => S5.out.p.left ⟨hm1, hm2⟩ HP.out s hsr6))
                    clear hs6 hsr6 hr6 C S5
                    go_wp2_with fail
                    go_roundg (y - x - 1)
                    case measure => omega
                    case rel => exact ⟨mid + 1, y, lim2, _, r2, f6, by go_num, rfl, rfl, rfl, rfl, hl2, by omega, S6.out⟩
                  · have t6 : decide ((mid : Int) - (x : Int) < (y : Int) - (mid : Int)) = false := decide_eq_false hlr
                    have C := IH N' hN' (mid + 1) y lim2 f5 w3 (by omega) S5.out.rw.again (by omega) (by omega) hl2 (lowB_right HP.out) (S5.out.sws.once hb HO.out)
                    rw [show ((mid + 1 : Nat) : Int) = (mid : Int) + 1 by omega] at C
                    go_wp2_with fail
                    refine C.out.mono ?_
                    rintro r w4 ⟨rfl, f6, hs6, hsr6, hr6⟩
                    have S6 := Lib.hid (S5.out.go (P' := PdK a b (x) mid) (by omega) (by omega) hs6 hr6 (fun s => S5.out.p.right ⟨hm1, hm2⟩ HP.out s hsr6))
                    clear hs6 hsr6 hr6 C S5
                    go_wp2_with fail
                    go_roundg (y - x - 1)
                    case measure => omega
                    case rel => exact ⟨x, mid, lim2, _, r2, f6, rfl, rfl, rfl, rfl, rfl, hl2, by omega, S6.out⟩
/-- at every length -/
theorem pdq_all (g n c sf : Nat) (sb : Array Value) (hs : Swp sf sb g n) (hn : n ≤ 64) : ∀ N, IHp sf sb g n c N
  | 0 => fun a b lim f w hN h hab hb hl hlow ho => pdq_step g n c sf 0 sb hs hn (fun N' e => absurd e (by omega)) a b lim f w hN h hab hb hl hlow ho
  | N + 1 => fun a b lim f w hN h hab hb hl hlow ho => pdq_step g n c sf (N + 1) sb hs hn (fun N' e => by
      have : N' = N := by omega
      subst this; exact pdq_all g n c sf sb hs hn N') a b lim f w hN h hab hb hl hlow ho
end Hq
end Go.Proofs.YtbndgbjenmknmaaDoor
