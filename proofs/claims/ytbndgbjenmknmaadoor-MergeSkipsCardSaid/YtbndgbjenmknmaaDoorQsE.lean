/- sort.partialInsertionSort_func over a row of candidates, 'less' a bound method: contract of the translated code. Conditions: at most 64 candidates. (Written by tools/mk7pis.py) -/
import Derived.Test.YtbndgbjenmknmaaDoorQsD
namespace Go.Proofs.YtbndgbjenmknmaaDoor
open Go.RowKit Go.Sort Go.Shelf Go.Lib
set_option linter.unusedVariables false
set_option linter.unusedSimpArgs false
namespace Hq
open Om (bel_alloc below_drewN)
/-- what lies ahead of a is not greater than what lies in [a, b) -/
def LowB (a b : Nat) (f : Nat → Cd) : Prop := 0 < a → ∀ k, a ≤ k → k < b → (f (a - 1)).k ≤ (f k).k
theorem LowB.sws {a b : Nat} {f f' : Nat → Cd} (h : LowB a b f) (s : Sws a b f f') : LowB a b f' := fun h0 k h1 h2 => by
  obtain ⟨j, h3, h4, e⟩ := s.old k h1 h2
  rw [e, s.far (a - 1) (.inl (by omega))]
  exact h h0 j h3 h4
theorem Srt.grow {a x : Nat} {f : Nat → Cd} (h : Srt a (x + 1) f) (ha : a ≤ x) (hl : ¬ (f (x + 1)).k < (f x).k) : Srt a (x + 2) f := fun p q h1 h2 h3 => by
  by_cases e : q = x + 1
  · rw [e]
    by_cases e2 : p = x
    · rw [e2]; exact Int.not_lt.1 hl
    · exact Int.le_trans (h p x h1 (by omega) (by omega)) (Int.not_lt.1 hl)
  · exact h p q h1 h2 (by omega)
/-- the state of the walk: ascending on [a, x] -/
structure ISt (w : World) (g n c sf a b : Nat) (sb : Array Value) (f : Nat → Cd) (P : (Nat → Cd) → Prop) (f' : Nat → Cd) (wr : World) : Prop where
  rw : Rw w g n f' wr
  sws : Sws a b f f'
  p : P f'
  k0 : wr.cell? ⟨w.heap.size, 0, none⟩ = some (.func (.func 32) #[.slice (some ⟨g, 0, none⟩) n c] #[])
  k1 : wr.cell? ⟨w.heap.size, 1, none⟩ = some (.func (.func sf) #[] sb)
theorem ISt.drewN {w wr : World} {g n c sf a b : Nat} {sb : Array Value} {f f' : Nat → Cd} {P : (Nat → Cd) → Prop} (h : ISt w g n c sf a b sb f P f' wr) (d : Nat) : ISt w g n c sf a b sb f P f' (wr.drewN d) := ⟨h.rw.drewN d, h.sws, h.p, h.k0, h.k1⟩
theorem ISt.to {w wr : World} {g n c sf a b : Nat} {sb : Array Value} {f f' : Nat → Cd} {P P' : (Nat → Cd) → Prop} (h : ISt w g n c sf a b sb f P f' wr) (hp : P' f') : ISt w g n c sf a b sb f P' f' wr := ⟨h.rw, h.sws, hp, h.k0, h.k1⟩
theorem ISt.swap {w wr : World} {g n c sf a b y : Nat} {sb : Array Value} {f f' : Nat → Cd} {P P' : (Nat → Cd) → Prop} (h : ISt w g n c sf a b sb f P f' wr) (hs : Swp sf sb g n) (hb : b ≤ n) (h1 : a ≤ y) (h2 : y + 1 < b) (hp : P' (Hp.sw f' (y + 1) y)) :
    (callFunc sf (#[.int .i64 ((y : Int) + 1), .int .i64 y] ++ sb)).run Tryd.prog wr = .ok (.value (.tuple #[])) (sw3 wr g (y + 1) y (f' (y + 1)) (f' y)) ∧ ISt w g n c sf a b sb f P' (Hp.sw f' (y + 1) y) (sw3 wr g (y + 1) y (f' (y + 1)) (f' y)) := by
  obtain ⟨e, h3⟩ := h.rw.swap hs (i := y + 1) (j := y) (by omega) (by omega)
  rw [show ((y + 1 : Nat) : Int) = (y : Int) + 1 by omega] at e
  have hg := h.rw.1
  exact ⟨e, h3, h.sws.step (by omega) h2 h1 (by omega), hp, (sw3_far (by omega) 0).trans h.k0, (sw3_far (by omega) 1).trans h.k1⟩
theorem ISt.less {w wr : World} {g n c sf a b y : Nat} {sb : Array Value} {f f' : Nat → Cd} {P : (Nat → Cd) → Prop} (h : ISt w g n c sf a b sb f P f' wr) (hn : n ≤ 64) (hy : y + 1 < n) :
    Calls Tryd.prog 32 #[.slice (some ⟨g, 0, none⟩) n c, .int .i64 ((y : Int) + 1), .int .i64 y] wr fun e w' => e = .returned (.bool (decide ((f' (y + 1)).k < (f' y).k))) ∧ ∃ d, w' = wr.drewN d := by
  have := h.rw.less (c := c) hn (i := y + 1) (j := y) hy (by omega)
  rw [show ((y + 1 : Nat) : Int) = (y : Int) + 1 by omega] at this
  exact this
theorem Srt.cut {a x : Nat} {f : Nat → Cd} (h : Srt a (x + 1) f) : But a x x (Hp.sw f (x + 1) x) := fun p q h1 h2 h3 h4 => by
  rw [Hp.sw_o f (by omega) (by omega), Hp.sw_o f (by omega) (by omega)]; exact h p q h1 h2 (by omega)
theorem Srt.above {a x y : Nat} {f : Nat → Cd} (h : Srt a (x + 1) f) (hy : x + 1 ≤ y) : Srt a (x + 1) (Hp.sw f (y + 1) y) := fun p q h1 h2 h3 => by
  rw [Hp.sw_o f (by omega) (by omega), Hp.sw_o f (by omega) (by omega)]; exact h p q h1 h2 h3
def PiP (w : World) (g n a b : Nat) (f : Nat → Cd) (e : Ending) (w' : World) : Prop := ∃ (r : Bool) (f' : Nat → Cd), e = .returned (.bool r) ∧ Sws a b f f' ∧ (r = true → Srt a b f') ∧ Rw w g n f' w'
set_option maxRecDepth 100000 in
set_option maxHeartbeats 8000000 in
theorem pis_any (g n c a b sf : Nat) (sb : Array Value) (f : Nat → Cd) (w : World) (h : Rw w g n f w) (hs : Swp sf sb g n) (hn : n ≤ 64) (hab : a < b) (hb : b ≤ n) (hlow : LowB a b f) :
    Calls Tryd.prog 71 #[.agg #[lsV g n c, swV sf sb], .int .i64 a, .int .i64 b] w fun e w' => PiP w g n a b f e w' := by
  have HS := Lib.hid hs
  have hg := h.1
  have h1 := h.alloc (.cells #[lsV g n c, swV sf sb] 102)
  have hls : lsV g n c = .func (.func 32) #[.slice (some ⟨g, 0, none⟩) n c] #[] := rfl
  have hsw : swV sf sb = .func (.func sf) #[] sb := rfl
  rw [hls, hsw] at h1
  rw [hls, hsw]
  have ST : ISt w g n c sf a b sb f (Srt a (a + 1)) f _ := ⟨h1, .refl, (fun p q h1 h2 h3 => by omega), (by simp), (by simp)⟩
  have ST := Lib.hid ST
  have HL := Lib.hid hlow
  clear hls hsw h1 h hs hlow
  go_enter Tryd.func71, Tryd.ntmps71
  go_wp2
  go_loopw [7, 8] (fun s7 s8 wr => ∃ (x cn : Nat) (f' : Nat → Cd), s7 = .int .i64 ((x : Int) + 1) ∧ s8 = .int .i64 cn ∧ a ≤ x ∧ x < b ∧ cn ≤ 5 ∧ ISt w g n c sf a b sb f (Srt a (x + 1)) f' wr) (fun _ s _ => (5 - intOf s).toNat)
  case atStart => exact ⟨a, 0, f, rfl, rfl, Nat.le_refl _, hab, by omega, ST.out⟩
  case round =>
    obtain ⟨x, cn, f', rfl, rfl, hx1, hx2, hcn, st⟩ := hrel
    have ST := Lib.hid st
    clear st
    by_cases hc5 : cn < 5
    · have t0 : decide ((cn : Int) < 5) = true := decide_eq_true (by omega)
      go_wp2
      obtain ⟨wo1, rfl⟩ : ∃ wo : World, wo = wr := ⟨_, rfl⟩
      go_loopw [7] (fun s wr => ∃ xq : Nat, s = .int .i64 ((xq : Int) + 1) ∧ a ≤ xq ∧ xq < b ∧ ISt w g n c sf a b sb f (Srt a (xq + 1)) f' wr) (fun s _ => (66 - intOf s).toNat)
      case atStart => exact ⟨x, rfl, hx1, hx2, ST.out⟩
      case round =>
        clear ST hx1 hx2
        obtain ⟨x2, rfl, hx1, hx2, st⟩ := hrel
        have k0 := st.k0
        have k1 := st.k1
        have S2 := Lib.hid st
        clear st
        by_cases hib : x2 + 1 < b
        · have t1 : decide ((x2 : Int) + 1 < (b : Int)) = true := decide_eq_true (by omega)
          by_cases hlt : (f' (x2 + 1)).k < (f' x2).k
          · skip
            have CL := S2.out.less hn (y := x2) (by omega)
            rw [decide_eq_true hlt] at CL
            have CL := Lib.hid CL
            clear hlt
            go_wp2_with fail
            refine CL.out.mono ?_
            rintro r w1 ⟨rfl, d, rfl⟩
            have k0 : (wr.drewN d).cell? ⟨w.heap.size, 0, none⟩ = some (.func (.func 32) #[.slice (some ⟨g, 0, none⟩) n c] #[]) := S2.out.k0
            have k1 : (wr.drewN d).cell? ⟨w.heap.size, 1, none⟩ = some (.func (.func sf) #[] sb) := S2.out.k1
            have S2B := Lib.hid (S2.out.drewN d)
            clear CL
            generalize wr.drewN d = wr at *
            have t2 : ((x2 : Int) + 1 == (b : Int)) = false := beq_eq_false_iff_ne.2 (by omega)
            by_cases h50 : (b : Int) - (a : Int) < 50
            · have t3 : decide ((b : Int) - (a : Int) < 50) = true := decide_eq_true h50
              go_wp2
              go_ret
              exact ⟨false, f', rfl, S2B.out.sws, fun e => (by cases e), S2B.out.rw⟩
            · have t3 : decide ((b : Int) - (a : Int) < 50) = false := decide_eq_false h50
              obtain ⟨es, SS⟩ := S2B.out.swap HS.out hb (y := x2) (P' := But a x2 x2) (by omega) hib S2B.out.p.cut
              have k0 := SS.k0
              have k1 := SS.k1
              have S3 := Lib.hid SS
              clear SS S2 S2B
              generalize sw3 wr g (x2 + 1) x2 _ _ = wz at *
              obtain ⟨f3, hf3⟩ : ∃ f3, f3 = Hp.sw f' (x2 + 1) x2 := ⟨_, rfl⟩
              rw [← hf3] at S3
              clear hf3
              by_cases hia : 2 ≤ (x2 : Int) + 1 - (a : Int)
              · have t5 : decide (2 ≤ (x2 : Int) + 1 - (a : Int)) = true := decide_eq_true hia
                have SC := Lib.hid (S3.out.to (P' := But a x2 x2) S3.out.p)
                clear S3
                go_wp2
                obtain ⟨wo3, rfl⟩ : ∃ wo : World, wo = wz := ⟨_, rfl⟩
                go_loopw [9] (fun s wr => ∃ (jq : Nat) (fq : Nat → Cd), s = .int .i64 jq ∧ a ≤ jq ∧ jq ≤ x2 ∧ ISt w g n c sf a b sb f (But a x2 jq) fq wr) (fun s _ => (intOf s).toNat)
                case atStart => exact ⟨x2, f3, rfl, by omega, Nat.le_refl _, SC.out⟩
                case round =>
                  clear SC k0 k1
                  obtain ⟨j, f5, rfl, hj1, hj2, st⟩ := hrel
                  have k0 := st.k0
                  have k1 := st.k1
                  have S5 := Lib.hid st
                  clear st
                  rcases Nat.eq_zero_or_pos j with j0 | j0
                  · have j00 : j ≤ 0 := by omega
                    have t7 : decide (1 ≤ (j : Int)) = false := decide_eq_false (by omega)
                    clear j0
                    have S6 := Lib.hid (S5.out.to (P' := Srt a (x2 + 1)) (S5.out.p.done hj2 (.inl (by omega))))
                    clear S5
                    by_cases hbi : 2 ≤ (b : Int) - ((x2 : Int) + 1)
                    · have t6 : decide (2 ≤ (b : Int) - ((x2 : Int) + 1)) = true := decide_eq_true hbi
                      go_wp2
                      obtain ⟨wo4, rfl⟩ : ∃ wo : World, wo = wr := ⟨_, rfl⟩
                      go_loopw [10] (fun s wr => ∃ (yq : Nat) (fq : Nat → Cd), s = .int .i64 ((yq : Int) + 1) ∧ x2 + 1 ≤ yq ∧ yq ≤ 64 ∧ ISt w g n c sf a b sb f (Srt a (x2 + 1)) fq wr) (fun s _ => (66 - intOf s).toNat)
                      case atStart => exact ⟨x2 + 1, f5, by congr 1, Nat.le_refl _, by omega, S6.out⟩
                      case round =>
                        clear S6 k0 k1
                        obtain ⟨y, f4, rfl, hy1, hy2, st⟩ := hrel
                        have k0 := st.k0
                        have k1 := st.k1
                        have S4 := Lib.hid st
                        clear st
                        by_cases hyb : y + 1 < b
                        · have t7 : decide ((y : Int) + 1 < (b : Int)) = true := decide_eq_true (by omega)
                          by_cases hlt : (f4 (y + 1)).k < (f4 y).k
                          · skip
                            have CL := S4.out.less hn (y := y) (by omega)
                            rw [decide_eq_true hlt] at CL
                            have CL := Lib.hid CL
                            clear hlt
                            go_wp2_with fail
                            refine CL.out.mono ?_
                            rintro r w1 ⟨rfl, d, rfl⟩
                            have k0 : (wr.drewN d).cell? ⟨w.heap.size, 0, none⟩ = some (.func (.func 32) #[.slice (some ⟨g, 0, none⟩) n c] #[]) := S4.out.k0
                            have k1 : (wr.drewN d).cell? ⟨w.heap.size, 1, none⟩ = some (.func (.func sf) #[] sb) := S4.out.k1
                            have S4B := Lib.hid (S4.out.drewN d)
                            clear CL
                            generalize wr.drewN d = wr at *
                            obtain ⟨es, SS⟩ := S4B.out.swap HS.out hb (y := y) (by omega) hyb (S4B.out.p.above hy1)
                            have SS := Lib.hid SS
                            generalize sw3 wr g (y + 1) y _ _ = wz at *
                            go_wp2
                            go_roundw
                            case rel => exact ⟨y + 1, _, by go_num, by omega, by omega, SS.out⟩
                            case measure => simp [intOf]; omega
                          · skip
                            have CL := S4.out.less hn (y := y) (by omega)
                            rw [decide_eq_false hlt] at CL
                            have CL := Lib.hid CL
                            clear hlt
                            go_wp2_with fail
                            refine CL.out.mono ?_
                            rintro r w1 ⟨rfl, d, rfl⟩
                            have k0 : (wr.drewN d).cell? ⟨w.heap.size, 0, none⟩ = some (.func (.func 32) #[.slice (some ⟨g, 0, none⟩) n c] #[]) := S4.out.k0
                            have k1 : (wr.drewN d).cell? ⟨w.heap.size, 1, none⟩ = some (.func (.func sf) #[] sb) := S4.out.k1
                            have S4B := Lib.hid (S4.out.drewN d)
                            clear CL
                            generalize wr.drewN d = wr at *
                            go_wp2
                            go_roundw
                            case rel => exact ⟨x2, cn + 1, f4, rfl, by go_num, by omega, by omega, by omega, S4B.out⟩
                            case measure => simp [intOf]; omega
                        · have t7 : decide ((y : Int) + 1 < (b : Int)) = false := decide_eq_false (by omega)
                          go_wp2
                          go_roundw
                          case rel => exact ⟨x2, cn + 1, f4, rfl, by go_num, by omega, by omega, by omega, S4.out⟩
                          case measure => simp [intOf]; omega
                    · have t6 : decide (2 ≤ (b : Int) - ((x2 : Int) + 1)) = false := decide_eq_false hbi
                      go_wp2
                      go_roundw
                      case rel => exact ⟨x2, cn + 1, f5, rfl, by go_num, by omega, by omega, by omega, S6.out⟩
                      case measure => simp [intOf]; omega
                  · obtain ⟨y, rfl⟩ : ∃ y, j = y + 1 := ⟨j - 1, by omega⟩
                    have t7 : decide (1 ≤ (y : Int) + 1) = true := decide_eq_true (by omega)
                    by_cases hlt : (f5 (y + 1)).k < (f5 y).k
                    · have hay : a ≤ y := by
                        rcases Nat.lt_or_ge y a with h | h
                        · have e : a = y + 1 := by omega
                          have := (HL.out.sws S5.out.sws) (by omega) (y + 1) (by omega) (by omega)
                          rw [e] at this
                          simp only [Nat.add_sub_cancel] at this
                          omega
                        · exact h
                      have NX := Lib.hid (S5.out.p.step hay hj2 hlt)
                      have CL := S5.out.less hn (y := y) (by omega)
                      rw [decide_eq_true hlt] at CL
                      have CL := Lib.hid CL
                      clear hlt
                      go_wp2_with fail
                      refine CL.out.mono ?_
                      rintro r w1 ⟨rfl, d, rfl⟩
                      have k0 : (wr.drewN d).cell? ⟨w.heap.size, 0, none⟩ = some (.func (.func 32) #[.slice (some ⟨g, 0, none⟩) n c] #[]) := S5.out.k0
                      have k1 : (wr.drewN d).cell? ⟨w.heap.size, 1, none⟩ = some (.func (.func sf) #[] sb) := S5.out.k1
                      have S5B := Lib.hid (S5.out.drewN d)
                      clear CL
                      generalize wr.drewN d = wr at *
                      obtain ⟨es, SS⟩ := S5B.out.swap HS.out hb (y := y) hay (by omega) NX.out
                      have SS := Lib.hid SS
                      generalize sw3 wr g (y + 1) y _ _ = wz at *
                      go_wp2
                      go_roundw
                      case rel => exact ⟨y, _, rfl, by omega, by omega, SS.out⟩
                      case measure => simp [intOf]
                    · have ND := Lib.hid (show Srt a (x2 + 1) f5 from S5.out.p.done hj2 (by
                        by_cases e : y + 1 = a
                        · exact .inl e
                        · exact .inr ⟨by omega, Int.not_lt.1 hlt⟩))
                      have CL := S5.out.less hn (y := y) (by omega)
                      rw [decide_eq_false hlt] at CL
                      have CL := Lib.hid CL
                      clear hlt
                      go_wp2_with fail
                      refine CL.out.mono ?_
                      rintro r w1 ⟨rfl, d, rfl⟩
                      have k0 : (wr.drewN d).cell? ⟨w.heap.size, 0, none⟩ = some (.func (.func 32) #[.slice (some ⟨g, 0, none⟩) n c] #[]) := S5.out.k0
                      have k1 : (wr.drewN d).cell? ⟨w.heap.size, 1, none⟩ = some (.func (.func sf) #[] sb) := S5.out.k1
                      have S5B := Lib.hid (S5.out.drewN d)
                      clear CL
                      generalize wr.drewN d = wr at *
                      have S6 := Lib.hid (S5B.out.to (P' := Srt a (x2 + 1)) ND.out)
                      clear S5 S5B
                      by_cases hbi : 2 ≤ (b : Int) - ((x2 : Int) + 1)
                      · have t6 : decide (2 ≤ (b : Int) - ((x2 : Int) + 1)) = true := decide_eq_true hbi
                        go_wp2
                        obtain ⟨wo4, rfl⟩ : ∃ wo : World, wo = wr := ⟨_, rfl⟩
                        go_loopw [10] (fun s wr => ∃ (yq : Nat) (fq : Nat → Cd), s = .int .i64 ((yq : Int) + 1) ∧ x2 + 1 ≤ yq ∧ yq ≤ 64 ∧ ISt w g n c sf a b sb f (Srt a (x2 + 1)) fq wr) (fun s _ => (66 - intOf s).toNat)
                        case atStart => exact ⟨x2 + 1, f5, by congr 1, Nat.le_refl _, by omega, S6.out⟩
                        case round =>
                          clear S6 k0 k1
                          obtain ⟨y, f4, rfl, hy1, hy2, st⟩ := hrel
                          have k0 := st.k0
                          have k1 := st.k1
                          have S4 := Lib.hid st
                          clear st
                          by_cases hyb : y + 1 < b
                          · have t7 : decide ((y : Int) + 1 < (b : Int)) = true := decide_eq_true (by omega)
                            by_cases hlt : (f4 (y + 1)).k < (f4 y).k
                            · skip
                              have CL := S4.out.less hn (y := y) (by omega)
                              rw [decide_eq_true hlt] at CL
                              have CL := Lib.hid CL
                              clear hlt
                              go_wp2_with fail
                              refine CL.out.mono ?_
                              rintro r w1 ⟨rfl, d, rfl⟩
                              have k0 : (wr.drewN d).cell? ⟨w.heap.size, 0, none⟩ = some (.func (.func 32) #[.slice (some ⟨g, 0, none⟩) n c] #[]) := S4.out.k0
                              have k1 : (wr.drewN d).cell? ⟨w.heap.size, 1, none⟩ = some (.func (.func sf) #[] sb) := S4.out.k1
                              have S4B := Lib.hid (S4.out.drewN d)
                              clear CL
                              generalize wr.drewN d = wr at *
                              obtain ⟨es, SS⟩ := S4B.out.swap HS.out hb (y := y) (by omega) hyb (S4B.out.p.above hy1)
                              have SS := Lib.hid SS
                              generalize sw3 wr g (y + 1) y _ _ = wz at *
                              go_wp2
                              go_roundw
                              case rel => exact ⟨y + 1, _, by go_num, by omega, by omega, SS.out⟩
                              case measure => simp [intOf]; omega
                            · skip
                              have CL := S4.out.less hn (y := y) (by omega)
                              rw [decide_eq_false hlt] at CL
                              have CL := Lib.hid CL
                              clear hlt
                              go_wp2_with fail
                              refine CL.out.mono ?_
                              rintro r w1 ⟨rfl, d, rfl⟩
                              have k0 : (wr.drewN d).cell? ⟨w.heap.size, 0, none⟩ = some (.func (.func 32) #[.slice (some ⟨g, 0, none⟩) n c] #[]) := S4.out.k0
                              have k1 : (wr.drewN d).cell? ⟨w.heap.size, 1, none⟩ = some (.func (.func sf) #[] sb) := S4.out.k1
                              have S4B := Lib.hid (S4.out.drewN d)
                              clear CL
                              generalize wr.drewN d = wr at *
                              go_wp2
                              go_roundw
                              case rel => exact ⟨x2, cn + 1, f4, rfl, by go_num, by omega, by omega, by omega, S4B.out⟩
                              case measure => simp [intOf]; omega
                          · have t7 : decide ((y : Int) + 1 < (b : Int)) = false := decide_eq_false (by omega)
                            go_wp2
                            go_roundw
                            case rel => exact ⟨x2, cn + 1, f4, rfl, by go_num, by omega, by omega, by omega, S4.out⟩
                            case measure => simp [intOf]; omega
                      · have t6 : decide (2 ≤ (b : Int) - ((x2 : Int) + 1)) = false := decide_eq_false hbi
                        go_wp2
                        go_roundw
                        case rel => exact ⟨x2, cn + 1, f5, rfl, by go_num, by omega, by omega, by omega, S6.out⟩
                        case measure => simp [intOf]; omega
              · have t5 : decide (2 ≤ (x2 : Int) + 1 - (a : Int)) = false := decide_eq_false hia
                have S6 := Lib.hid (S3.out.to (P' := Srt a (x2 + 1)) (fun p q h1 h2 h3 => by omega))
                clear S3
                obtain ⟨wr, hwr⟩ : ∃ wr : World, wr = wz := ⟨_, rfl⟩
                subst hwr
                by_cases hbi : 2 ≤ (b : Int) - ((x2 : Int) + 1)
                · have t6 : decide (2 ≤ (b : Int) - ((x2 : Int) + 1)) = true := decide_eq_true hbi
                  go_wp2
                  obtain ⟨wo4, rfl⟩ : ∃ wo : World, wo = wr := ⟨_, rfl⟩
                  go_loopw [10] (fun s wr => ∃ (yq : Nat) (fq : Nat → Cd), s = .int .i64 ((yq : Int) + 1) ∧ x2 + 1 ≤ yq ∧ yq ≤ 64 ∧ ISt w g n c sf a b sb f (Srt a (x2 + 1)) fq wr) (fun s _ => (66 - intOf s).toNat)
                  case atStart => exact ⟨x2 + 1, f3, by congr 1, Nat.le_refl _, by omega, S6.out⟩
                  case round =>
                    clear S6 k0 k1
                    obtain ⟨y, f4, rfl, hy1, hy2, st⟩ := hrel
                    have k0 := st.k0
                    have k1 := st.k1
                    have S4 := Lib.hid st
                    clear st
                    by_cases hyb : y + 1 < b
                    · have t7 : decide ((y : Int) + 1 < (b : Int)) = true := decide_eq_true (by omega)
                      by_cases hlt : (f4 (y + 1)).k < (f4 y).k
                      · skip
                        have CL := S4.out.less hn (y := y) (by omega)
                        rw [decide_eq_true hlt] at CL
                        have CL := Lib.hid CL
                        clear hlt
                        go_wp2_with fail
                        refine CL.out.mono ?_
                        rintro r w1 ⟨rfl, d, rfl⟩
                        have k0 : (wr.drewN d).cell? ⟨w.heap.size, 0, none⟩ = some (.func (.func 32) #[.slice (some ⟨g, 0, none⟩) n c] #[]) := S4.out.k0
                        have k1 : (wr.drewN d).cell? ⟨w.heap.size, 1, none⟩ = some (.func (.func sf) #[] sb) := S4.out.k1
                        have S4B := Lib.hid (S4.out.drewN d)
                        clear CL
                        generalize wr.drewN d = wr at *
                        obtain ⟨es, SS⟩ := S4B.out.swap HS.out hb (y := y) (by omega) hyb (S4B.out.p.above hy1)
                        have SS := Lib.hid SS
                        generalize sw3 wr g (y + 1) y _ _ = wz at *
                        go_wp2
                        go_roundw
                        case rel => exact ⟨y + 1, _, by go_num, by omega, by omega, SS.out⟩
                        case measure => simp [intOf]; omega
                      · skip
                        have CL := S4.out.less hn (y := y) (by omega)
                        rw [decide_eq_false hlt] at CL
                        have CL := Lib.hid CL
                        clear hlt
                        go_wp2_with fail
                        refine CL.out.mono ?_
                        rintro r w1 ⟨rfl, d, rfl⟩
                        have k0 : (wr.drewN d).cell? ⟨w.heap.size, 0, none⟩ = some (.func (.func 32) #[.slice (some ⟨g, 0, none⟩) n c] #[]) := S4.out.k0
                        have k1 : (wr.drewN d).cell? ⟨w.heap.size, 1, none⟩ = some (.func (.func sf) #[] sb) := S4.out.k1
                        have S4B := Lib.hid (S4.out.drewN d)
                        clear CL
                        generalize wr.drewN d = wr at *
                        go_wp2
                        go_roundw
                        case rel => exact ⟨x2, cn + 1, f4, rfl, by go_num, by omega, by omega, by omega, S4B.out⟩
                        case measure => simp [intOf]; omega
                    · have t7 : decide ((y : Int) + 1 < (b : Int)) = false := decide_eq_false (by omega)
                      go_wp2
                      go_roundw
                      case rel => exact ⟨x2, cn + 1, f4, rfl, by go_num, by omega, by omega, by omega, S4.out⟩
                      case measure => simp [intOf]; omega
                · have t6 : decide (2 ≤ (b : Int) - ((x2 : Int) + 1)) = false := decide_eq_false hbi
                  exfalso; omega
          · have NX := Lib.hid (S2.out.p.grow hx1 hlt)
            have CL := S2.out.less hn (y := x2) (by omega)
            rw [decide_eq_false hlt] at CL
            have CL := Lib.hid CL
            clear hlt
            go_wp2_with fail
            refine CL.out.mono ?_
            rintro r w1 ⟨rfl, d, rfl⟩
            have k0 : (wr.drewN d).cell? ⟨w.heap.size, 0, none⟩ = some (.func (.func 32) #[.slice (some ⟨g, 0, none⟩) n c] #[]) := S2.out.k0
            have k1 : (wr.drewN d).cell? ⟨w.heap.size, 1, none⟩ = some (.func (.func sf) #[] sb) := S2.out.k1
            have S2B := Lib.hid (S2.out.drewN d)
            clear CL
            generalize wr.drewN d = wr at *
            have S3 := Lib.hid (S2B.out.to (P' := Srt a (x2 + 2)) NX.out)
            go_wp2
            go_roundw
            case rel => exact ⟨x2 + 1, by go_num, by omega, by omega, S3.out⟩
            case measure => simp [intOf]; omega
        · have t1 : decide ((x2 : Int) + 1 < (b : Int)) = false := decide_eq_false (by omega)
          have t2 : ((x2 : Int) + 1 == (b : Int)) = true := beq_iff_eq.2 (by omega)
          have eb : x2 + 1 = b := by omega
          have FN := Lib.hid (show PiP w g n a b f (.returned (.bool true)) wr from ⟨true, f', rfl, S2.out.sws, fun _ => by rw [← eb]; exact S2.out.p, S2.out.rw⟩)
          clear eb
          go_wp2
          go_ret
          exact FN.out
    · have t0 : decide ((cn : Int) < 5) = false := decide_eq_false (by omega)
      go_wp2
      go_ret
      exact ⟨false, f', rfl, ST.out.sws, fun e => (by cases e), ST.out.rw⟩
end Hq
end Go.Proofs.YtbndgbjenmknmaaDoor
