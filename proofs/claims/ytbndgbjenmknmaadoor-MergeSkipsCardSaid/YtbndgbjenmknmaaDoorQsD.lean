/- sort.partition_func over a row of candidates, 'less' a bound method: contract of the translated code. Conditions: at most 64 candidates. (Written by tools/mk7part.py) -/
import Derived.Test.YtbndgbjenmknmaaDoorQsC
namespace Go.Proofs.YtbndgbjenmknmaaDoor
open Go.RowKit Go.Sort Go.Shelf Go.Lib
set_option linter.unusedVariables false
set_option linter.unusedSimpArgs false
namespace Hq
open Om (bel_alloc below_drewN)
/-- between i and j nothing is told yet; below i less than what lies at a, above j not less -/
structure PIn (a b i j : Nat) (f : Nat → Cd) : Prop where
  ai : a + 1 ≤ i
  ij : i ≤ j + 1
  jb : j + 1 ≤ b
  lo : ∀ k, a + 1 ≤ k → k < i → (f k).k < (f a).k
  hi : ∀ k, j < k → k < b → (f a).k ≤ (f k).k
theorem PIn.start {a b : Nat} (f : Nat → Cd) (h : a < b) : PIn a b (a + 1) (b - 1) f := ⟨Nat.le_refl _, by omega, by omega, fun k h1 h2 => by omega, fun k h1 h2 => by omega⟩
theorem PIn.up {a b i j : Nat} {f : Nat → Cd} (h : PIn a b i j f) (hij : i ≤ j) (hl : (f i).k < (f a).k) : PIn a b (i + 1) j f :=
  ⟨by have := h.ai; omega, by omega, h.jb, fun k h1 h2 => by
    by_cases e : k = i
    · rw [e]; exact hl
    · exact h.lo k h1 (by omega), h.hi⟩
theorem PIn.down {a b i j : Nat} {f : Nat → Cd} (h : PIn a b i j f) (hij : i ≤ j) (hl : ¬ (f j).k < (f a).k) : PIn a b i (j - 1) f :=
  ⟨h.ai, by have := h.ai; omega, by have := h.jb; omega, h.lo, fun k h1 h2 => by
    by_cases e : k = j
    · rw [e]; exact Int.not_lt.1 hl
    · exact h.hi k (by omega) h2⟩
theorem PIn.swap {a b i j : Nat} {f : Nat → Cd} (h : PIn a b i j f) (hij : i < j) (hi : ¬ (f i).k < (f a).k) (hj : (f j).k < (f a).k) : PIn a b (i + 1) (j - 1) (Hp.sw f i j) := by
  have ha := h.ai
  have hb := h.jb
  have ea : Hp.sw f i j a = f a := Hp.sw_o f (by omega) (by omega)
  refine ⟨by omega, by omega, by omega, fun k h1 h2 => ?_, fun k h1 h2 => ?_⟩
  · rw [ea]
    by_cases e : k = i
    · rw [e, Hp.sw_l]; exact hj
    · rw [Hp.sw_o f e (by omega)]; exact h.lo k h1 (by omega)
  · rw [ea]
    by_cases e : k = j
    · rw [e, Hp.sw_r]; exact Int.not_lt.1 hi
    · rw [Hp.sw_o f (by omega) e]; exact h.hi k (by omega) h2
/-- parted at mid -/
def Prt (a b mid : Nat) (f : Nat → Cd) : Prop := (∀ k, a ≤ k → k < mid → (f k).k < (f mid).k) ∧ (∀ k, mid < k → k < b → (f mid).k ≤ (f k).k)
theorem PIn.done {a b i j : Nat} {f : Nat → Cd} (h : PIn a b i j f) (hij : j < i) : Prt a b j (Hp.sw f j a) := by
  have ha := h.ai
  have h1 := h.ij
  have hb := h.jb
  refine ⟨fun k k1 k2 => ?_, fun k k1 k2 => ?_⟩
  · rw [Hp.sw_l]
    by_cases e : k = a
    · rw [e, Hp.sw_r]; exact h.lo j (by omega) (by omega)
    · rw [Hp.sw_o f (by omega) e]; exact h.lo k (by omega) (by omega)
  · rw [Hp.sw_l, Hp.sw_o f (by omega) (by omega)]; exact h.hi k k1 k2
/-- the state of the walk -/
structure PSt (w : World) (g n c sf a b : Nat) (sb : Array Value) (f : Nat → Cd) (i j : Nat) (f' : Nat → Cd) (wr : World) : Prop where
  rw : Rw w g n f' wr
  sws : Sws a b f f'
  inv : PIn a b i j f'
  k0 : wr.cell? ⟨w.heap.size, 0, none⟩ = some (.func (.func 32) #[.slice (some ⟨g, 0, none⟩) n c] #[])
  k1 : wr.cell? ⟨w.heap.size, 1, none⟩ = some (.func (.func sf) #[] sb)
theorem PSt.drewN {w wr : World} {g n c sf a b i j : Nat} {sb : Array Value} {f f' : Nat → Cd} (h : PSt w g n c sf a b sb f i j f' wr) (d : Nat) : PSt w g n c sf a b sb f i j f' (wr.drewN d) := ⟨h.rw.drewN d, h.sws, h.inv, h.k0, h.k1⟩
theorem PSt.to {w wr : World} {g n c sf a b i j i' j' : Nat} {sb : Array Value} {f f' : Nat → Cd} (h : PSt w g n c sf a b sb f i j f' wr) (hi : PIn a b i' j' f') : PSt w g n c sf a b sb f i' j' f' wr := ⟨h.rw, h.sws, hi, h.k0, h.k1⟩
theorem PSt.swap {w wr : World} {g n c sf a b i j x y i' j' : Nat} {sb : Array Value} {f f' : Nat → Cd} (h : PSt w g n c sf a b sb f i j f' wr) (hs : Swp sf sb g n) (hb : b ≤ n) (hx : a ≤ x ∧ x < b) (hy : a ≤ y ∧ y < b) (hi : PIn a b i' j' (Hp.sw f' x y)) :
    (callFunc sf (#[.int .i64 x, .int .i64 y] ++ sb)).run Tryd.prog wr = .ok (.value (.tuple #[])) (sw3 wr g x y (f' x) (f' y)) ∧ PSt w g n c sf a b sb f i' j' (Hp.sw f' x y) (sw3 wr g x y (f' x) (f' y)) := by
  obtain ⟨e, h2⟩ := h.rw.swap hs (i := x) (j := y) (by omega) (by omega)
  have hg := h.rw.1
  exact ⟨e, h2, h.sws.step hx.1 hx.2 hy.1 hy.2, hi, (sw3_far (by omega) 0).trans h.k0, (sw3_far (by omega) 1).trans h.k1⟩
def PaP (w : World) (g n a b : Nat) (f : Nat → Cd) (e : Ending) (w' : World) : Prop := ∃ (mid : Nat) (r : Bool) (f' : Nat → Cd), e = .returned (.tuple #[.int .i64 mid, .bool r]) ∧ a ≤ mid ∧ mid < b ∧ Sws a b f f' ∧ Prt a b mid f' ∧ Rw w g n f' w'
theorem PSt.fin {w wr : World} {g n c sf a b i j : Nat} {sb : Array Value} {f f' : Nat → Cd} (h : PSt w g n c sf a b sb f i j f' wr) (hs : Swp sf sb g n) (hb : b ≤ n) (hij : j < i) (hab : a < b) :
    (callFunc sf (#[.int .i64 j, .int .i64 a] ++ sb)).run Tryd.prog wr = .ok (.value (.tuple #[])) (sw3 wr g j a (f' j) (f' a)) ∧ ∀ r, PaP w g n a b f (.returned (.tuple #[.int .i64 j, .bool r])) (sw3 wr g j a (f' j) (f' a)) := by
  have h1 := h.inv.ai
  have h2 := h.inv.ij
  have h3 := h.inv.jb
  obtain ⟨e, h4⟩ := h.rw.swap hs (i := j) (j := a) (by omega) (by omega)
  exact ⟨e, fun r => ⟨j, r, _, rfl, by omega, by omega, h.sws.step (by omega) (by omega) (by omega) (by omega), h.inv.done hij, h4⟩⟩
set_option maxRecDepth 100000 in
set_option maxHeartbeats 8000000 in
theorem part_any (g n c a b pv sf : Nat) (sb : Array Value) (f : Nat → Cd) (w : World) (h : Rw w g n f w) (hs : Swp sf sb g n) (hn : n ≤ 64) (hab : a < b) (hb : b ≤ n) (hp1 : a ≤ pv) (hp2 : pv < b) :
    Calls Tryd.prog 73 #[.agg #[lsV g n c, swV sf sb], .int .i64 a, .int .i64 b, .int .i64 pv] w fun e w' => PaP w g n a b f e w' := by
  have HS := Lib.hid hs
  have hg := h.1
  have h1 := h.alloc (.cells #[lsV g n c, swV sf sb] 102)
  obtain ⟨es, h2⟩ := h1.swap hs (i := a) (j := pv) (by omega) (by omega)
  have hls : lsV g n c = .func (.func 32) #[.slice (some ⟨g, 0, none⟩) n c] #[] := rfl
  have hsw : swV sf sb = .func (.func sf) #[] sb := rfl
  rw [hls, hsw] at es h1 h2
  rw [hls, hsw]
  have k0 : (w.alloc (.cells #[.func (.func 32) #[.slice (some ⟨g, 0, none⟩) n c] #[], .func (.func sf) #[] sb] 102)).cell? ⟨w.heap.size, 0, none⟩ = some (.func (.func 32) #[.slice (some ⟨g, 0, none⟩) n c] #[]) := by simp
  have k1 : (w.alloc (.cells #[.func (.func 32) #[.slice (some ⟨g, 0, none⟩) n c] #[], .func (.func sf) #[] sb] 102)).cell? ⟨w.heap.size, 1, none⟩ = some (.func (.func sf) #[] sb) := by simp
  have ST : PSt w g n c sf a b sb f (a + 1) (b - 1) (Hp.sw f a pv) _ := ⟨h2, Sws.refl.step (Nat.le_refl _) hab hp1 hp2, PIn.start _ hab, (sw3_far (by omega) 0).trans k0, (sw3_far (by omega) 1).trans k1⟩
  have ST := Lib.hid ST
  have eb : (b : Int) - 1 = ((b - 1 : Nat) : Int) := by omega
  have eb2 : ((b - 1 : Nat) : Int) ≤ 64 := by omega
  obtain ⟨b1, hb1⟩ : ∃ b1 : Nat, b1 = b - 1 := ⟨_, rfl⟩
  rw [← hb1] at eb ST eb2
  have HB1 := Lib.hid hb1
  clear hls hsw k0 k1 h1 h2 h hs hb1
  generalize sw3 (w.alloc (.cells #[.func (.func 32) #[.slice (some ⟨g, 0, none⟩) n c] #[], .func (.func sf) #[] sb] 102)) g a pv (f a) (f pv) = w0 at *
  obtain ⟨f0, hf0⟩ : ∃ f0, f0 = Hp.sw f a pv := ⟨_, rfl⟩
  rw [← hf0] at ST
  clear hf0
  go_enter Tryd.func73, Tryd.ntmps73
  go_wp2
  obtain ⟨wo0, rfl⟩ : ∃ wo : World, wo = w0 := ⟨_, rfl⟩
  go_loopw [10] (fun s wr => ∃ iq : Nat, s = .int .i64 iq ∧ a + 1 ≤ iq ∧ iq ≤ 65 ∧ PSt w g n c sf a b sb f iq b1 f0 wr) (fun s _ => (66 - intOf s).toNat)
  case atStart => exact ⟨a + 1, by first | rfl | congr 1, Nat.le_refl _, by omega, ST.out⟩
  case round =>
    clear ST
    obtain ⟨i1, rfl, hi0, hi65, st⟩ := hrel
    have k0 := st.k0
    have k1 := st.k1
    have in1 := st.inv.ai
    have in2 := st.inv.ij
    have in3 := st.inv.jb
    have HI1 := Lib.hid st
    clear st
    by_cases hij : i1 ≤ b1
    · have t0 : decide ((i1 : Int) ≤ (b1 : Int)) = true := decide_eq_true (by omega)
      by_cases hlt : (f0 i1).k < (f0 a).k
      · have NX := Lib.hid (HI1.out.inv.up hij hlt)
        have CL := HI1.out.rw.less (c := c) hn (i := i1) (j := a) (by omega) (by omega)
        rw [decide_eq_true hlt] at CL
        have CL := Lib.hid CL
        clear hlt
        go_wp2_with fail
        refine CL.out.mono ?_
        rintro r w1 ⟨rfl, d, rfl⟩
        have NS := Lib.hid ((HI1.out.drewN d).to NX.out)
        clear CL
        go_wp2
        go_roundw
        case rel => exact ⟨i1 + 1, by go_num, by omega, by omega, NS.out⟩
        case measure => simp [intOf]; omega
      · have hnl := Lib.hid hlt
        have CL := HI1.out.rw.less (c := c) hn (i := i1) (j := a) (by omega) (by omega)
        rw [decide_eq_false hlt] at CL
        have CL := Lib.hid CL
        clear hlt
        go_wp2_with fail
        refine CL.out.mono ?_
        rintro r w1 ⟨rfl, d, rfl⟩
        have k0 : (wr.drewN d).cell? ⟨w.heap.size, 0, none⟩ = some (.func (.func 32) #[.slice (some ⟨g, 0, none⟩) n c] #[]) := k0
        have k1 : (wr.drewN d).cell? ⟨w.heap.size, 1, none⟩ = some (.func (.func sf) #[] sb) := k1
        have HI1B := Lib.hid (HI1.out.drewN d)
        clear CL
        generalize wr.drewN d = wr at *
        go_wp2
        obtain ⟨wo3, rfl⟩ : ∃ wo : World, wo = wr := ⟨_, rfl⟩
        go_loopw [11] (fun s wr => ∃ jq : Nat, s = .int .i64 jq ∧ jq ≤ b1 ∧ PSt w g n c sf a b sb f i1 jq f0 wr) (fun s _ => (intOf s).toNat)
        case atStart => exact ⟨b1, by first | rfl | congr 1, by omega, HI1B.out⟩
        case round =>
          clear HI1B
          obtain ⟨j2, rfl, hj65, st⟩ := hrel
          have k0 := st.k0
          have k1 := st.k1
          have in1 := st.inv.ai
          have in2 := st.inv.ij
          have in3 := st.inv.jb
          have HJ2 := Lib.hid st
          clear st
          by_cases hij : i1 ≤ j2
          · have t0 : decide ((i1 : Int) ≤ (j2 : Int)) = true := decide_eq_true (by omega)
            by_cases hlt : (f0 j2).k < (f0 a).k
            · have hyl := Lib.hid hlt
              have CL := HJ2.out.rw.less (c := c) hn (i := j2) (j := a) (by omega) (by omega)
              rw [decide_eq_true hlt] at CL
              have CL := Lib.hid CL
              clear hlt
              go_wp2_with fail
              refine CL.out.mono ?_
              rintro r w1 ⟨rfl, d, rfl⟩
              have k0 : (wr.drewN d).cell? ⟨w.heap.size, 0, none⟩ = some (.func (.func 32) #[.slice (some ⟨g, 0, none⟩) n c] #[]) := k0
              have k1 : (wr.drewN d).cell? ⟨w.heap.size, 1, none⟩ = some (.func (.func sf) #[] sb) := k1
              have HJ2B := Lib.hid (HJ2.out.drewN d)
              clear CL
              generalize wr.drewN d = wr at *
              have SWJ : (f0 j2).k < (f0 a).k := by have := hyl.out; omega
              have SWI : ¬ (f0 i1).k < (f0 a).k := by have := hnl.out; omega
              have hne : i1 < j2 := by
                rcases Nat.lt_or_ge i1 j2 with h | h
                · exact h
                · have : i1 = j2 := by omega
                  subst this; exact absurd SWJ SWI
              obtain ⟨es, SS⟩ := HJ2B.out.swap (x := i1) (y := j2) (i' := i1 + 1) (j' := j2 - 1) HS.out hb ⟨by omega, by omega⟩ ⟨by omega, by omega⟩ (HJ2B.out.inv.swap hne SWI SWJ)
              have SS := Lib.hid SS
              have t9 : decide ((j2 : Int) < (i1 : Int)) = false := decide_eq_false (by omega)
              have t8 : decide (j2 < i1) = false := decide_eq_false (by omega)
              have ej : (j2 : Int) - 1 = ((j2 - 1 : Nat) : Int) := by omega
              clear SWI SWJ hyl hnl
              generalize sw3 _ g i1 j2 _ _ = wz at *
              obtain ⟨f5, hf5⟩ : ∃ f5, f5 = Hp.sw f0 i1 j2 := ⟨_, rfl⟩
              rw [← hf5] at SS
              clear hf5
              go_wp2
              go_loopg [10, 11] 70 (fun gm s10 s11 wr => ∃ (i j : Nat) (f6 : Nat → Cd), s10 = .int .i64 i ∧ s11 = .int .i64 j ∧ i ≤ 65 ∧ j + 1 - i ≤ gm ∧ PSt w g n c sf a b sb f i j f6 wr)
              case atStart => exact ⟨i1 + 1, j2 - 1, f5, by first | rfl | go_num, by congr 1, by omega, by omega, SS.out⟩
              case round =>
                obtain ⟨i, j, f6, rfl, rfl, hi65, hgm, st⟩ := hrel
                have k0 := st.k0
                have k1 := st.k1
                have in1 := st.inv.ai
                have in2 := st.inv.ij
                have in3 := st.inv.jb
                have ST6 := Lib.hid st
                clear st
                go_wp2
                obtain ⟨wo5, rfl⟩ : ∃ wo : World, wo = wr := ⟨_, rfl⟩
                go_loopw [10] (fun s wr => ∃ iq : Nat, s = .int .i64 iq ∧ i ≤ iq ∧ iq ≤ 65 ∧ PSt w g n c sf a b sb f iq j f6 wr) (fun s _ => (66 - intOf s).toNat)
                case atStart => exact ⟨i, by first | rfl | congr 1, Nat.le_refl _, by omega, ST6.out⟩
                case round =>
                  clear ST6
                  obtain ⟨i3, rfl, hi0, hi65, st⟩ := hrel
                  have k0 := st.k0
                  have k1 := st.k1
                  have in1 := st.inv.ai
                  have in2 := st.inv.ij
                  have in3 := st.inv.jb
                  have HI3 := Lib.hid st
                  clear st
                  by_cases hij : i3 ≤ j
                  · have t0 : decide ((i3 : Int) ≤ (j : Int)) = true := decide_eq_true (by omega)
                    by_cases hlt : (f6 i3).k < (f6 a).k
                    · have NX := Lib.hid (HI3.out.inv.up hij hlt)
                      have CL := HI3.out.rw.less (c := c) hn (i := i3) (j := a) (by omega) (by omega)
                      rw [decide_eq_true hlt] at CL
                      have CL := Lib.hid CL
                      clear hlt
                      go_wp2_with fail
                      refine CL.out.mono ?_
                      rintro r w1 ⟨rfl, d, rfl⟩
                      have NS := Lib.hid ((HI3.out.drewN d).to NX.out)
                      clear CL
                      go_wp2
                      go_roundw
                      case rel => exact ⟨i3 + 1, by go_num, by omega, by omega, NS.out⟩
                      case measure => simp [intOf]; omega
                    · have hnl := Lib.hid hlt
                      have CL := HI3.out.rw.less (c := c) hn (i := i3) (j := a) (by omega) (by omega)
                      rw [decide_eq_false hlt] at CL
                      have CL := Lib.hid CL
                      clear hlt
                      go_wp2_with fail
                      refine CL.out.mono ?_
                      rintro r w1 ⟨rfl, d, rfl⟩
                      have k0 : (wr.drewN d).cell? ⟨w.heap.size, 0, none⟩ = some (.func (.func 32) #[.slice (some ⟨g, 0, none⟩) n c] #[]) := k0
                      have k1 : (wr.drewN d).cell? ⟨w.heap.size, 1, none⟩ = some (.func (.func sf) #[] sb) := k1
                      have HI3B := Lib.hid (HI3.out.drewN d)
                      clear CL
                      generalize wr.drewN d = wr at *
                      go_wp2
                      obtain ⟨wo6, rfl⟩ : ∃ wo : World, wo = wr := ⟨_, rfl⟩
                      go_loopw [11] (fun s wr => ∃ jq : Nat, s = .int .i64 jq ∧ jq ≤ j ∧ PSt w g n c sf a b sb f i3 jq f6 wr) (fun s _ => (intOf s).toNat)
                      case atStart => exact ⟨j, by first | rfl | congr 1, by omega, HI3B.out⟩
                      case round =>
                        clear HI3B
                        obtain ⟨j4, rfl, hj65, st⟩ := hrel
                        have k0 := st.k0
                        have k1 := st.k1
                        have in1 := st.inv.ai
                        have in2 := st.inv.ij
                        have in3 := st.inv.jb
                        have HJ4 := Lib.hid st
                        clear st
                        by_cases hij : i3 ≤ j4
                        · have t0 : decide ((i3 : Int) ≤ (j4 : Int)) = true := decide_eq_true (by omega)
                          by_cases hlt : (f6 j4).k < (f6 a).k
                          · have hyl := Lib.hid hlt
                            have CL := HJ4.out.rw.less (c := c) hn (i := j4) (j := a) (by omega) (by omega)
                            rw [decide_eq_true hlt] at CL
                            have CL := Lib.hid CL
                            clear hlt
                            go_wp2_with fail
                            refine CL.out.mono ?_
                            rintro r w1 ⟨rfl, d, rfl⟩
                            have k0 : (wr.drewN d).cell? ⟨w.heap.size, 0, none⟩ = some (.func (.func 32) #[.slice (some ⟨g, 0, none⟩) n c] #[]) := k0
                            have k1 : (wr.drewN d).cell? ⟨w.heap.size, 1, none⟩ = some (.func (.func sf) #[] sb) := k1
                            have HJ4B := Lib.hid (HJ4.out.drewN d)
                            clear CL
                            generalize wr.drewN d = wr at *
                            have SWJ : (f6 j4).k < (f6 a).k := by have := hyl.out; omega
                            have SWI : ¬ (f6 i3).k < (f6 a).k := by have := hnl.out; omega
                            have hne : i3 < j4 := by
                              rcases Nat.lt_or_ge i3 j4 with h | h
                              · exact h
                              · have : i3 = j4 := by omega
                                subst this; exact absurd SWJ SWI
                            obtain ⟨es, SS⟩ := HJ4B.out.swap (x := i3) (y := j4) (i' := i3 + 1) (j' := j4 - 1) HS.out hb ⟨by omega, by omega⟩ ⟨by omega, by omega⟩ (HJ4B.out.inv.swap hne SWI SWJ)
                            have SS := Lib.hid SS
                            have t9 : decide ((j4 : Int) < (i3 : Int)) = false := decide_eq_false (by omega)
                            have t8 : decide (j4 < i3) = false := decide_eq_false (by omega)
                            have ej : (j4 : Int) - 1 = ((j4 - 1 : Nat) : Int) := by omega
                            clear SWI SWJ hyl hnl
                            generalize sw3 _ g i3 j4 _ _ = wz at *
                            obtain ⟨f5, hf5⟩ : ∃ f5, f5 = Hp.sw f6 i3 j4 := ⟨_, rfl⟩
                            rw [← hf5] at SS
                            clear hf5
                            go_wp2
                            go_roundg (j4 - i3 - 1)
                            case measure => omega
                            case rel => exact ⟨i3 + 1, j4 - 1, f5, by go_num, by congr 1, by omega, by omega, SS.out⟩
                          · have NX := Lib.hid (HJ4.out.inv.down hij hlt)
                            have CL := HJ4.out.rw.less (c := c) hn (i := j4) (j := a) (by omega) (by omega)
                            rw [decide_eq_false hlt] at CL
                            have CL := Lib.hid CL
                            clear hlt
                            go_wp2_with fail
                            refine CL.out.mono ?_
                            rintro r w1 ⟨rfl, d, rfl⟩
                            have NS := Lib.hid ((HJ4.out.drewN d).to NX.out)
                            clear CL
                            go_wp2
                            go_roundw
                            case rel => exact ⟨j4 - 1, by congr 1; omega, by omega, NS.out⟩
                            case measure => simp [intOf]; omega
                        · have t0 : decide ((i3 : Int) ≤ (j4 : Int)) = false := decide_eq_false (by omega)
                          have t9 : decide ((j4 : Int) < (i3 : Int)) = true := decide_eq_true (by omega)
                          obtain ⟨es, FN⟩ := HJ4.out.fin HS.out hb (by omega) hab
                          have FN := Lib.hid (FN false)
                          generalize sw3 _ g j4 a _ _ = wz at *
                          go_wp2
                          go_ret2
                          exact FN.out
                  · have t0 : decide ((i3 : Int) ≤ (j : Int)) = false := decide_eq_false (by omega)
                    go_wp2
                    obtain ⟨wo6, rfl⟩ : ∃ wo : World, wo = wr := ⟨_, rfl⟩
                    go_loopw [11] (fun s wr => ∃ jq : Nat, s = .int .i64 jq ∧ jq ≤ j ∧ PSt w g n c sf a b sb f i3 jq f6 wr) (fun s _ => (intOf s).toNat)
                    case atStart => exact ⟨j, by first | rfl | congr 1, by omega, HI3.out⟩
                    case round =>
                      clear HI3
                      obtain ⟨j5, rfl, hj65, st⟩ := hrel
                      have k0 := st.k0
                      have k1 := st.k1
                      have in1 := st.inv.ai
                      have in2 := st.inv.ij
                      have in3 := st.inv.jb
                      have HJ5 := Lib.hid st
                      clear st
                      have t0 : decide ((i3 : Int) ≤ (j5 : Int)) = false := decide_eq_false (by omega)
                      have t9 : decide ((j5 : Int) < (i3 : Int)) = true := decide_eq_true (by omega)
                      obtain ⟨es, FN⟩ := HJ5.out.fin HS.out hb (by omega) hab
                      have FN := Lib.hid (FN false)
                      generalize sw3 _ g j5 a _ _ = wz at *
                      go_wp2
                      go_ret2
                      exact FN.out
            · have NX := Lib.hid (HJ2.out.inv.down hij hlt)
              have CL := HJ2.out.rw.less (c := c) hn (i := j2) (j := a) (by omega) (by omega)
              rw [decide_eq_false hlt] at CL
              have CL := Lib.hid CL
              clear hlt
              go_wp2_with fail
              refine CL.out.mono ?_
              rintro r w1 ⟨rfl, d, rfl⟩
              have NS := Lib.hid ((HJ2.out.drewN d).to NX.out)
              clear CL
              go_wp2
              go_roundw
              case rel => exact ⟨j2 - 1, by congr 1; omega, by omega, NS.out⟩
              case measure => simp [intOf]; omega
          · have t0 : decide ((i1 : Int) ≤ (j2 : Int)) = false := decide_eq_false (by omega)
            have t9 : decide ((j2 : Int) < (i1 : Int)) = true := decide_eq_true (by omega)
            obtain ⟨es, FN⟩ := HJ2.out.fin HS.out hb (by omega) hab
            have FN := Lib.hid (FN true)
            generalize sw3 _ g j2 a _ _ = wz at *
            go_wp2
            go_ret2
            exact FN.out
    · have t0 : decide ((i1 : Int) ≤ (b1 : Int)) = false := decide_eq_false (by omega)
      go_wp2
      obtain ⟨wo3, rfl⟩ : ∃ wo : World, wo = wr := ⟨_, rfl⟩
      go_loopw [11] (fun s wr => ∃ jq : Nat, s = .int .i64 jq ∧ jq ≤ b1 ∧ PSt w g n c sf a b sb f i1 jq f0 wr) (fun s _ => (intOf s).toNat)
      case atStart => exact ⟨b1, by first | rfl | congr 1, by omega, HI1.out⟩
      case round =>
        clear HI1
        obtain ⟨j6, rfl, hj65, st⟩ := hrel
        have k0 := st.k0
        have k1 := st.k1
        have in1 := st.inv.ai
        have in2 := st.inv.ij
        have in3 := st.inv.jb
        have HJ6 := Lib.hid st
        clear st
        have t0 : decide ((i1 : Int) ≤ (j6 : Int)) = false := decide_eq_false (by omega)
        have t9 : decide ((j6 : Int) < (i1 : Int)) = true := decide_eq_true (by omega)
        obtain ⟨es, FN⟩ := HJ6.out.fin HS.out hb (by omega) hab
        have FN := Lib.hid (FN true)
        generalize sw3 _ g j6 a _ _ = wz at *
        go_wp2
        go_ret2
        exact FN.out
end Hq
end Go.Proofs.YtbndgbjenmknmaaDoor
