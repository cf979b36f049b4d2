/- The walk of the law LatchExcludes, from the contracts of package latch. Conditions: none. (Written by tools/mk13exc.py.) -/
import Derived.Test.YtjocbmoelkobaaaLtU
import Derived.Test.YtjocbmoelkobaaaWkLt1
namespace Go.Proofs.Ytjocbmoelkobaaa
open Go.RowKit Go.Sort
set_option linter.unusedVariables false
set_option linter.unusedSimpArgs false
namespace Wk
open Wd Lt
open Dm (addr_lit info_parts spot_none RdK flatU infoU bel_alloc bel_trans own_keep below_drewN)
set_option maxRecDepth 100000 in
set_option maxHeartbeats 8000000 in
theorem walk_latchExcludes (a0 : Option Addr) (a0n a0c : Nat) (a0v : List Int) (a1 : Int) (w : World) (a0e : a0v.length = a0n) (a0m : a0n ≤ maxLen) (a0r : Dm.RdK .i64 w a0 a0v) (a0b : Dm.BdI a0v) (a0z : a0 = none → a0c = 0) (a1l : 0 ≤ a1) (a1h : a1 ≤ 255) :
    Calls Try.prog 5 #[.slice a0 a0n a0c, .int .u8 a1] w fun e w' => e = .returned (.bool true) ∧ Below w.heap.size w w' := by
  by_cases h : 400 < a0n
  · have t0 : decide ((400 : Int) < a0n) = true := decide_eq_true (by omega)
    have t0' : decide (400 < a0n) = true := decide_eq_true (by omega)
    go_enter Try.func5, Try.ntmps5
    go_wp2
    go_ret
    exact ⟨rfl, Below.refl _ _⟩
  have t0 : decide ((400 : Int) < a0n) = false := decide_eq_false (by omega)
  have t0' : decide (400 < a0n) = false := decide_eq_false (by omega)
  obtain ⟨lim, hlim⟩ : ∃ l, l = a1 % 4 := ⟨_, rfl⟩
  have hm4 : a1.tmod 4 = lim := by rw [hlim]; exact Int.tmod_eq_emod_of_nonneg a1l
  have l0 : 0 ≤ lim := by omega
  have l1 : lim ≤ 3 := by omega
  have HR := Lib.hid a0r
  have HBD := Lib.hid a0b
  have HLE := Lib.hid a0e
  have h400 : a0n ≤ 400 := by omega
  clear a0r a0b a0e h hlim
  have CN := Lib.hid (new_any (some ⟨w.heap.size, 0, none⟩) 1 1 [0] _ rfl (by unfold maxLen; omega) (lit_u w [0] #[.int .u64 0] rfl) (fun x hx => by simp at hx; omega))
  have BB := Lib.hid (show Below w.heap.size w (w.alloc (.cells #[.int .u64 0] 55)) from bel_alloc (Below.refl _ _) _)
  go_enter Try.func5, Try.ntmps5
  go_wp2_with fail
  refine CN.out.mono ?_
  rintro r V1 (⟨he, _⟩ | ⟨_, b, p, rfl, ha, hbs, hps, b1⟩)
  · exact absurd (show newE 1 = 0 from rfl) he
  have BW := BB.out.trans (b1.mono BB.out.size)
  obtain ⟨c0, hE0⟩ := ex_start 58 59 (mem_start (P := LAt) (k := 1) (c := fun _ => 0) ha (Nat.le_trans BB.out.size hbs) (Nat.le_trans BB.out.size hps)) (fun i hi => up_lt hi) BW
  have HE0 := Lib.hid hE0
  clear ha hbs hps b1 BB CN BW hE0
  go_wp2
  generalize V1.heap.size + 1 = fb at *
  generalize V1.heap.size = rb at *
  go_loopw [9, 11] (fun hv iv wr => ∃ (j : Nat) (H : Int) (c : Nat → Nat) (M : Wm) (X : Nat → Option Lk) (R : Nat → Option Addr) (f : Nat → Int), hv = .int .i64 H ∧ iv = .int .i64 j ∧ j ≤ a0n ∧ Ea w wr c b rb fb M X j R f ∧ Iv lim j H M X R f) (fun _ i _ => (a0n - intOf i).toNat)
  case atStart => exact ⟨0, -1, c0, ⟨[0], []⟩, _, _, _, rfl, rfl, Nat.zero_le _, HE0.out, ⟨fun t _ => .inl rfl, fun t _ => ⟨Int.le_refl _, Int.le_refl _⟩, rfl, rfl, Nat.zero_le _, by omega, by omega⟩⟩
  case round =>
    clear HE0
    obtain ⟨j, H, c, M, X, R, f, rfl, rfl, hj, hE, hI⟩ := hrel
    by_cases hlt : j < a0n
    · have d0 : decide ((j : Int) < (a0n : Int)) = true := decide_eq_true (by omega)
      have d0' : decide (j < a0n) = true := decide_eq_true hlt
      obtain ⟨ab, ao, rfl, ca⟩ := HR.out j (by rw [HLE.out]; exact hlt)
      have ca := (hE.be.cell (p := ⟨ab, ao + j, none⟩) (Dm.cell_lt ca)).trans ca
      obtain ⟨av, hav⟩ : ∃ v, a0v.getD j 0 = v := ⟨_, rfl⟩
      rw [hav] at ca
      have CI := index_any av 8 wr (by omega) (by omega)
      obtain ⟨t, ht⟩ := Int.eq_ofNat_of_zero_le (show 0 ≤ av % 8 by omega)
      rw [ht] at CI
      have ht8 : t < 8 := by omega
      replace CI := Lib.hid CI
      have hw1 : IntKind.i64.wrap ((j : Int) + 1) = (j : Int) + 1 := IntWalk.i64_in _ (by omega)
      have hN : (j : Int) ≤ 1000000 := by omega
      have hML := hI.ml
      have HH0 := hI.h0
      have HH1 := hI.h1
      have HE := Lib.hid hE
      have HI := Lib.hid hI
      clear hE hI ht hav
      have CU := unlockS HE.out.s (by omega) t 0
      by_cases hH : H = t
      · have x1 : (H == (t : Int)) = true := by simp [hH]
        have x2 : decide (H = (t : Int)) = true := decide_eq_true hH
        have hu := HI.out.un_ok ht8 hH
        unfold UnPost at CU
        rw [hu.1, hu.2] at CU
        replace CU := Lib.hid CU
        clear hu hH
        go_wp2_with fail
        refine CI.out.mono ?_
        rintro r w1 ⟨rfl, e⟩
        obtain rfl := e.symm
        go_wp2_with fail
        refine CU.out.mono ?_
        rintro r w1 ⟨rfl, hs, hf⟩
        have HE1 := Lib.hid ((HE.out.move hs hf).more (show (j : Int) ≤ ((j + 1 : Nat) : Int) by omega))
        clear hs hf CU
        go_wp2
        go_roundw
        case rel => exact ⟨j + 1, -1, _, _, _, _, _, rfl, by go_num, by omega, HE1.out, HI.out.free t⟩
        case measure => simp [intOf]; omega
      · have x1 : (H == (t : Int)) = false := by simp [hH]
        have x2 : decide (H = (t : Int)) = false := decide_eq_false hH
        have hu := HI.out.un_no ht8 hH
        unfold UnPost at CU
        rw [hu.1, hu.2] at CU
        replace CU := Lib.hid CU
        clear hu hH
        cases hRt : R t with
        | none =>
          by_cases hneg : H < 0
          · have x3 : decide (H < 0) = true := decide_eq_true hneg
            go_wp2_with fail
            refine CI.out.mono ?_
            rintro r w1 ⟨rfl, e⟩
            obtain rfl := e.symm
            go_wp2_with fail
            refine CU.out.mono ?_
            rintro r w1 ⟨rfl, hs, hf⟩
            have HE1 := Lib.hid (HE.out.move hs hf)
            clear hs hf CU
            have kr1 := HE1.out.rt ht8 hRt
            go_wp2_with fail
            refine (newS HE1.out.s (by omega) t 0 lim).mono ?_
            rintro r w2 (⟨e, _⟩ | ⟨_, rfl, hs, hb⟩)
            · exact absurd (HI.out.lk ht8 l0 (by omega)) e
            have hxn := HE1.out.s.fresh pkL (Nat.le_refl w1.heap.size)
            obtain ⟨x, hx⟩ : ∃ x, x = w1.heap.size := ⟨_, rfl⟩
            have HE2 := Lib.hid (HE1.out.move hs (Fc.of_below_up hb))
            rw [← hx] at HE2 hxn ⊢
            have kr2c := HE2.out.rt ht8 hRt
            have kr2f := HE2.out.rz ht8
            have hE3 := HE2.out.setR ht8 (some ⟨x, 0, none⟩)
            have kf3c := hE3.ft ht8 rfl
            have kf3f := hE3.fz ht8
            obtain ⟨R4, hR4⟩ : ∃ R4 : Nat → Option Addr, R4 = fun k => if k = t then some (⟨x, 0, none⟩ : Addr) else R k := ⟨_, rfl⟩
            obtain ⟨f4, hf4⟩ : ∃ f4 : Nat → Int, f4 = fun k => if k = t then (0 : Int) else f k := ⟨_, rfl⟩
            obtain ⟨X4, hX4⟩ : ∃ X4, X4 = upd X x (Lk.new t 0 lim) := ⟨_, rfl⟩
            have HE4 := Lib.hid (show Ea w ((w2.setCell ⟨rb, t, none⟩ (.pointer (some ⟨x, 0, none⟩))).setCell ⟨fb, t, none⟩ (.int .i64 0)) _ b rb fb M X4 j R4 f4 from by rw [hX4, hR4, hf4]; exact hE3.setF ht8 0)
            have HI4 := Lib.hid (show Iv lim j H M X4 R4 f4 from by rw [hX4, hR4, hf4]; exact HI.out.new ht8 hxn)
            have HR4 := Lib.hid (show R4 t = some ⟨x, 0, none⟩ from by rw [hR4]; exact if_pos rfl)
            clear hR4 hf4 hX4
            have kr4 := HE4.out.rt ht8 HR4.out
            clear hs hb hxn hx hE3
            go_wp2_with fail
            clear kr2c kr2f kf3c kf3f HI HE HE1 HE2
            generalize (w2.setCell ⟨rb, t, none⟩ (.pointer (some ⟨x, 0, none⟩))).setCell ⟨fb, t, none⟩ (.int .i64 0) = W at *
            have hgt := HI4.out.f0 t ht8
            have CS := stepS HE4.out.s (HI4.out.at ht8 HR4.out) hN (by omega)
            unfold StepPost at CS
            have hg : M.get 0 = 0 := by have := HI4.out.mg; omega
            rw [show Lk.pc ⟨t, 0, lim, f4 t, false, 0⟩ = 2 from rfl, show Lk.fin ⟨t, 0, lim, f4 t, false, 0⟩ M = true from by unfold Lk.fin; rw [Lk.step_hit rfl hg]; rfl, show Lk.mem ⟨t, 0, lim, f4 t, false, 0⟩ M = M.cas t 0 0 (t + 1) from rfl, show Lk.step ⟨t, 0, lim, f4 t, false, 0⟩ M = ⟨t, 0, lim, f4 t, true, 0⟩ from Lk.step_hit rfl hg] at CS
            have HI7 := Lib.hid (HI4.out.hit ht8 HR4.out hg ⟨t, 0, lim, f4 t, true, 0⟩)
            replace CS := Lib.hid CS
            refine CS.out.mono ?_
            rintro r w5 ⟨rfl, hs, hf⟩
            have HE5 := Lib.hid (HE4.out.move hs hf)
            have kr5 := HE5.out.rt ht8 HR4.out
            clear hs hf CS hg
            go_wp2_with fail
            have CR := resultS HE5.out.s (upd_same ..)
            rw [show Lk.n ⟨t, 0, lim, f4 t, true, 0⟩ = f4 t from rfl, show Lk.res ⟨t, 0, lim, f4 t, true, 0⟩ = 0 from rfl] at CR
            replace CR := Lib.hid CR
            refine CR.out.mono ?_
            rintro r w6 ⟨rfl, hb⟩
            have HE6 := Lib.hid (HE5.out.below hb)
            have kf6c := HE6.out.ft ht8 rfl
            have kf6f := HE6.out.fz ht8
            have kr6c := HE6.out.rt ht8 HR4.out
            have kr6f := HE6.out.rz ht8
            clear hb CR
            have HE7 := Lib.hid ((HE6.out.setR ht8 none).more (show (j : Int) + 1 ≤ ((j + 1 : Nat) : Int) by omega))
            have hw3 : IntKind.i64.wrap ((t : Int) + 1) = (t : Int) + 1 := IntWalk.i64_in _ (by omega)
            have hw4 : IntKind.u64.wrap ((t : Int) + 1) = (t : Int) + 1 := by rw [IntKind.wrap_u64]; omega
            have CP := peekS HE7.out.s 0
            rw [HI7.out.peek] at CP
            replace CP := Lib.hid CP
            go_wp2_with fail
            refine CP.out.mono ?_
            rintro r w8 ⟨rfl, e⟩
            obtain rfl := e.symm
            go_wp2
            go_roundw
            case rel => exact ⟨j + 1, t, _, _, _, _, _, rfl, by go_num, by omega, HE7.out, HI7.out⟩
            case measure => simp [intOf]; omega
          · have x3 : decide (H < 0) = false := decide_eq_false hneg
            go_wp2_with fail
            refine CI.out.mono ?_
            rintro r w1 ⟨rfl, e⟩
            obtain rfl := e.symm
            go_wp2_with fail
            refine CU.out.mono ?_
            rintro r w1 ⟨rfl, hs, hf⟩
            have HE1 := Lib.hid (HE.out.move hs hf)
            clear hs hf CU
            have kr1 := HE1.out.rt ht8 hRt
            go_wp2_with fail
            refine (newS HE1.out.s (by omega) t 0 lim).mono ?_
            rintro r w2 (⟨e, _⟩ | ⟨_, rfl, hs, hb⟩)
            · exact absurd (HI.out.lk ht8 l0 (by omega)) e
            have hxn := HE1.out.s.fresh pkL (Nat.le_refl w1.heap.size)
            obtain ⟨x, hx⟩ : ∃ x, x = w1.heap.size := ⟨_, rfl⟩
            have HE2 := Lib.hid (HE1.out.move hs (Fc.of_below_up hb))
            rw [← hx] at HE2 hxn ⊢
            have kr2c := HE2.out.rt ht8 hRt
            have kr2f := HE2.out.rz ht8
            have hE3 := HE2.out.setR ht8 (some ⟨x, 0, none⟩)
            have kf3c := hE3.ft ht8 rfl
            have kf3f := hE3.fz ht8
            obtain ⟨R4, hR4⟩ : ∃ R4 : Nat → Option Addr, R4 = fun k => if k = t then some (⟨x, 0, none⟩ : Addr) else R k := ⟨_, rfl⟩
            obtain ⟨f4, hf4⟩ : ∃ f4 : Nat → Int, f4 = fun k => if k = t then (0 : Int) else f k := ⟨_, rfl⟩
            obtain ⟨X4, hX4⟩ : ∃ X4, X4 = upd X x (Lk.new t 0 lim) := ⟨_, rfl⟩
            have HE4 := Lib.hid (show Ea w ((w2.setCell ⟨rb, t, none⟩ (.pointer (some ⟨x, 0, none⟩))).setCell ⟨fb, t, none⟩ (.int .i64 0)) _ b rb fb M X4 j R4 f4 from by rw [hX4, hR4, hf4]; exact hE3.setF ht8 0)
            have HI4 := Lib.hid (show Iv lim j H M X4 R4 f4 from by rw [hX4, hR4, hf4]; exact HI.out.new ht8 hxn)
            have HR4 := Lib.hid (show R4 t = some ⟨x, 0, none⟩ from by rw [hR4]; exact if_pos rfl)
            clear hR4 hf4 hX4
            have kr4 := HE4.out.rt ht8 HR4.out
            clear hs hb hxn hx hE3
            go_wp2_with fail
            clear kr2c kr2f kf3c kf3f HI HE HE1 HE2
            generalize (w2.setCell ⟨rb, t, none⟩ (.pointer (some ⟨x, 0, none⟩))).setCell ⟨fb, t, none⟩ (.int .i64 0) = W at *
            by_cases hov : f4 t + 1 = lim
            · have hgt := HI4.out.f0 t ht8
              have CS := stepS HE4.out.s (HI4.out.at ht8 HR4.out) hN (by omega)
              unfold StepPost at CS
              have hg : ¬ M.get 0 = 0 := by have := HI4.out.mg; omega
              rw [show Lk.pc ⟨t, 0, lim, f4 t, false, 0⟩ = 2 from rfl, show Lk.fin ⟨t, 0, lim, f4 t, false, 0⟩ M = true from by unfold Lk.fin; rw [Lk.step_miss rfl hg]; exact decide_eq_true hov, show Lk.mem ⟨t, 0, lim, f4 t, false, 0⟩ M = M.cas t 0 0 (t + 1) from rfl, show Lk.step ⟨t, 0, lim, f4 t, false, 0⟩ M = ⟨t, 0, lim, f4 t + 1, true, 11⟩ from by rw [Lk.step_miss rfl hg]; unfold Lk.miss; rw [decide_eq_true hov, if_pos hov]] at CS
              have HI7 := Lib.hid (HI4.out.over ht8 HR4.out hg ⟨t, 0, lim, f4 t + 1, true, 11⟩)
              have x5 : (f4 t + 1 == lim) = true := by simp [hov]
              have x6 : decide (f4 t + 1 = lim) = true := decide_eq_true hov
              have hw2 : IntKind.i64.wrap (f4 t + 1) = f4 t + 1 := IntWalk.i64_in _ (by omega)
              clear hov
              replace CS := Lib.hid CS
              refine CS.out.mono ?_
              rintro r w5 ⟨rfl, hs, hf⟩
              have HE5 := Lib.hid (HE4.out.move hs hf)
              have kr5 := HE5.out.rt ht8 HR4.out
              clear hs hf CS hg
              go_wp2_with fail
              have CR := resultS HE5.out.s (upd_same ..)
              rw [show Lk.n ⟨t, 0, lim, f4 t + 1, true, 11⟩ = f4 t + 1 from rfl, show Lk.res ⟨t, 0, lim, f4 t + 1, true, 11⟩ = 11 from rfl] at CR
              replace CR := Lib.hid CR
              refine CR.out.mono ?_
              rintro r w6 ⟨rfl, hb⟩
              have HE6 := Lib.hid (HE5.out.below hb)
              have kf6c := HE6.out.ft ht8 rfl
              have kf6f := HE6.out.fz ht8
              have kr6c := HE6.out.rt ht8 HR4.out
              have kr6f := HE6.out.rz ht8
              clear hb CR
              have hE7 := HE6.out.setF ht8 (f4 t + 1)
              have kf7 := hE7.ft ht8 (if_pos rfl)
              have kr7c := hE7.rt ht8 HR4.out
              have kr7f := hE7.rz ht8
              have HE7 := Lib.hid ((hE7.setR ht8 none).more (show (j : Int) + 1 ≤ ((j + 1 : Nat) : Int) by omega))
              have kf8 := HE7.out.ft ht8 (if_pos rfl)
              clear hE7
              have hw3 : IntKind.i64.wrap (H + 1) = H + 1 := IntWalk.i64_in _ (by omega)
              have hw4 : IntKind.u64.wrap (H + 1) = H + 1 := by rw [IntKind.wrap_u64]; omega
              have CP := peekS HE7.out.s 0
              rw [HI7.out.peek] at CP
              replace CP := Lib.hid CP
              go_wp2_with fail
              refine CP.out.mono ?_
              rintro r w8 ⟨rfl, e⟩
              obtain rfl := e.symm
              go_wp2
              go_roundw
              case rel => exact ⟨j + 1, H, _, _, _, _, _, rfl, by go_num, by omega, HE7.out, HI7.out⟩
              case measure => simp [intOf]; omega
            · have hgt := HI4.out.f0 t ht8
              have CS := stepS HE4.out.s (HI4.out.at ht8 HR4.out) hN (by omega)
              unfold StepPost at CS
              have hg : ¬ M.get 0 = 0 := by have := HI4.out.mg; omega
              rw [show Lk.pc ⟨t, 0, lim, f4 t, false, 0⟩ = 2 from rfl, show Lk.fin ⟨t, 0, lim, f4 t, false, 0⟩ M = false from by unfold Lk.fin; rw [Lk.step_miss rfl hg]; exact decide_eq_false hov, show Lk.mem ⟨t, 0, lim, f4 t, false, 0⟩ M = M.cas t 0 0 (t + 1) from rfl, show Lk.step ⟨t, 0, lim, f4 t, false, 0⟩ M = ⟨t, 0, lim, f4 t + 1, false, 0⟩ from by rw [Lk.step_miss rfl hg]; unfold Lk.miss; rw [decide_eq_false hov, if_neg hov]] at CS
              have HI7 := Lib.hid (HI4.out.miss ht8 HR4.out hg)
              have x5 : (f4 t + 1 == lim) = false := by simp [hov]
              have x6 : decide (f4 t + 1 = lim) = false := decide_eq_false hov
              have hw2 : IntKind.i64.wrap (f4 t + 1) = f4 t + 1 := IntWalk.i64_in _ (by omega)
              clear hov
              replace CS := Lib.hid CS
              refine CS.out.mono ?_
              rintro r w5 ⟨rfl, hs, hf⟩
              have HE5 := Lib.hid (HE4.out.move hs hf)
              have kr5 := HE5.out.rt ht8 HR4.out
              clear hs hf CS hg
              go_wp2_with fail
              have CR := resultS HE5.out.s (upd_same ..)
              rw [show Lk.n ⟨t, 0, lim, f4 t + 1, false, 0⟩ = f4 t + 1 from rfl, show Lk.res ⟨t, 0, lim, f4 t + 1, false, 0⟩ = 8 from rfl] at CR
              replace CR := Lib.hid CR
              refine CR.out.mono ?_
              rintro r w6 ⟨rfl, hb⟩
              have HE6 := Lib.hid (HE5.out.below hb)
              have kf6c := HE6.out.ft ht8 rfl
              have kf6f := HE6.out.fz ht8
              have kr6c := HE6.out.rt ht8 HR4.out
              have kr6f := HE6.out.rz ht8
              clear hb CR
              have HE7 := Lib.hid ((HE6.out.setF ht8 (f4 t + 1)).more (show (j : Int) + 1 ≤ ((j + 1 : Nat) : Int) by omega))
              have kf7 := HE7.out.ft ht8 (if_pos rfl)
              have hw3 : IntKind.i64.wrap (H + 1) = H + 1 := IntWalk.i64_in _ (by omega)
              have hw4 : IntKind.u64.wrap (H + 1) = H + 1 := by rw [IntKind.wrap_u64]; omega
              have CP := peekS HE7.out.s 0
              rw [HI7.out.peek] at CP
              replace CP := Lib.hid CP
              go_wp2_with fail
              refine CP.out.mono ?_
              rintro r w8 ⟨rfl, e⟩
              obtain rfl := e.symm
              go_wp2
              go_roundw
              case rel => exact ⟨j + 1, H, _, _, _, _, _, rfl, by go_num, by omega, HE7.out, HI7.out⟩
              case measure => simp [intOf]; omega
        | some ad =>
          obtain ⟨x, hx⟩ : ∃ x, ad = ⟨x, 0, none⟩ := by
            rcases HI.out.x t ht8 with h | ⟨x, h, _⟩
            · rw [hRt] at h; cases h
            · rw [hRt] at h; cases h; exact ⟨x, rfl⟩
          subst hx
          by_cases hneg : H < 0
          · have x3 : decide (H < 0) = true := decide_eq_true hneg
            go_wp2_with fail
            refine CI.out.mono ?_
            rintro r w1 ⟨rfl, e⟩
            obtain rfl := e.symm
            go_wp2_with fail
            refine CU.out.mono ?_
            rintro r w1 ⟨rfl, hs, hf⟩
            have HE1 := Lib.hid (HE.out.move hs hf)
            clear hs hf CU
            have kr1 := HE1.out.rt ht8 hRt
            have HE4 := Lib.hid HE1.out
            have HI4 := Lib.hid HI.out
            have HR4 := Lib.hid hRt
            clear hRt
            go_wp2_with fail
            clear HI HE HE1
            have hgt := HI4.out.f0 t ht8
            have CS := stepS HE4.out.s (HI4.out.at ht8 HR4.out) hN (by omega)
            unfold StepPost at CS
            have hg : M.get 0 = 0 := by have := HI4.out.mg; omega
            rw [show Lk.pc ⟨t, 0, lim, f t, false, 0⟩ = 2 from rfl, show Lk.fin ⟨t, 0, lim, f t, false, 0⟩ M = true from by unfold Lk.fin; rw [Lk.step_hit rfl hg]; rfl, show Lk.mem ⟨t, 0, lim, f t, false, 0⟩ M = M.cas t 0 0 (t + 1) from rfl, show Lk.step ⟨t, 0, lim, f t, false, 0⟩ M = ⟨t, 0, lim, f t, true, 0⟩ from Lk.step_hit rfl hg] at CS
            have HI7 := Lib.hid (HI4.out.hit ht8 HR4.out hg ⟨t, 0, lim, f t, true, 0⟩)
            replace CS := Lib.hid CS
            refine CS.out.mono ?_
            rintro r w5 ⟨rfl, hs, hf⟩
            have HE5 := Lib.hid (HE4.out.move hs hf)
            have kr5 := HE5.out.rt ht8 HR4.out
            clear hs hf CS hg
            go_wp2_with fail
            have CR := resultS HE5.out.s (upd_same ..)
            rw [show Lk.n ⟨t, 0, lim, f t, true, 0⟩ = f t from rfl, show Lk.res ⟨t, 0, lim, f t, true, 0⟩ = 0 from rfl] at CR
            replace CR := Lib.hid CR
            refine CR.out.mono ?_
            rintro r w6 ⟨rfl, hb⟩
            have HE6 := Lib.hid (HE5.out.below hb)
            have kf6c := HE6.out.ft ht8 rfl
            have kf6f := HE6.out.fz ht8
            have kr6c := HE6.out.rt ht8 HR4.out
            have kr6f := HE6.out.rz ht8
            clear hb CR
            have HE7 := Lib.hid ((HE6.out.setR ht8 none).more (show (j : Int) + 1 ≤ ((j + 1 : Nat) : Int) by omega))
            have hw3 : IntKind.i64.wrap ((t : Int) + 1) = (t : Int) + 1 := IntWalk.i64_in _ (by omega)
            have hw4 : IntKind.u64.wrap ((t : Int) + 1) = (t : Int) + 1 := by rw [IntKind.wrap_u64]; omega
            have CP := peekS HE7.out.s 0
            rw [HI7.out.peek] at CP
            replace CP := Lib.hid CP
            go_wp2_with fail
            refine CP.out.mono ?_
            rintro r w8 ⟨rfl, e⟩
            obtain rfl := e.symm
            go_wp2
            go_roundw
            case rel => exact ⟨j + 1, t, _, _, _, _, _, rfl, by go_num, by omega, HE7.out, HI7.out⟩
            case measure => simp [intOf]; omega
          · have x3 : decide (H < 0) = false := decide_eq_false hneg
            go_wp2_with fail
            refine CI.out.mono ?_
            rintro r w1 ⟨rfl, e⟩
            obtain rfl := e.symm
            go_wp2_with fail
            refine CU.out.mono ?_
            rintro r w1 ⟨rfl, hs, hf⟩
            have HE1 := Lib.hid (HE.out.move hs hf)
            clear hs hf CU
            have kr1 := HE1.out.rt ht8 hRt
            have HE4 := Lib.hid HE1.out
            have HI4 := Lib.hid HI.out
            have HR4 := Lib.hid hRt
            clear hRt
            go_wp2_with fail
            clear HI HE HE1
            by_cases hov : f t + 1 = lim
            · have hgt := HI4.out.f0 t ht8
              have CS := stepS HE4.out.s (HI4.out.at ht8 HR4.out) hN (by omega)
              unfold StepPost at CS
              have hg : ¬ M.get 0 = 0 := by have := HI4.out.mg; omega
              rw [show Lk.pc ⟨t, 0, lim, f t, false, 0⟩ = 2 from rfl, show Lk.fin ⟨t, 0, lim, f t, false, 0⟩ M = true from by unfold Lk.fin; rw [Lk.step_miss rfl hg]; exact decide_eq_true hov, show Lk.mem ⟨t, 0, lim, f t, false, 0⟩ M = M.cas t 0 0 (t + 1) from rfl, show Lk.step ⟨t, 0, lim, f t, false, 0⟩ M = ⟨t, 0, lim, f t + 1, true, 11⟩ from by rw [Lk.step_miss rfl hg]; unfold Lk.miss; rw [decide_eq_true hov, if_pos hov]] at CS
              have HI7 := Lib.hid (HI4.out.over ht8 HR4.out hg ⟨t, 0, lim, f t + 1, true, 11⟩)
              have x5 : (f t + 1 == lim) = true := by simp [hov]
              have x6 : decide (f t + 1 = lim) = true := decide_eq_true hov
              have hw2 : IntKind.i64.wrap (f t + 1) = f t + 1 := IntWalk.i64_in _ (by omega)
              clear hov
              replace CS := Lib.hid CS
              refine CS.out.mono ?_
              rintro r w5 ⟨rfl, hs, hf⟩
              have HE5 := Lib.hid (HE4.out.move hs hf)
              have kr5 := HE5.out.rt ht8 HR4.out
              clear hs hf CS hg
              go_wp2_with fail
              have CR := resultS HE5.out.s (upd_same ..)
              rw [show Lk.n ⟨t, 0, lim, f t + 1, true, 11⟩ = f t + 1 from rfl, show Lk.res ⟨t, 0, lim, f t + 1, true, 11⟩ = 11 from rfl] at CR
              replace CR := Lib.hid CR
              refine CR.out.mono ?_
              rintro r w6 ⟨rfl, hb⟩
              have HE6 := Lib.hid (HE5.out.below hb)
              have kf6c := HE6.out.ft ht8 rfl
              have kf6f := HE6.out.fz ht8
              have kr6c := HE6.out.rt ht8 HR4.out
              have kr6f := HE6.out.rz ht8
              clear hb CR
              have hE7 := HE6.out.setF ht8 (f t + 1)
              have kf7 := hE7.ft ht8 (if_pos rfl)
              have kr7c := hE7.rt ht8 HR4.out
              have kr7f := hE7.rz ht8
              have HE7 := Lib.hid ((hE7.setR ht8 none).more (show (j : Int) + 1 ≤ ((j + 1 : Nat) : Int) by omega))
              have kf8 := HE7.out.ft ht8 (if_pos rfl)
              clear hE7
              have hw3 : IntKind.i64.wrap (H + 1) = H + 1 := IntWalk.i64_in _ (by omega)
              have hw4 : IntKind.u64.wrap (H + 1) = H + 1 := by rw [IntKind.wrap_u64]; omega
              have CP := peekS HE7.out.s 0
              rw [HI7.out.peek] at CP
              replace CP := Lib.hid CP
              go_wp2_with fail
              refine CP.out.mono ?_
              rintro r w8 ⟨rfl, e⟩
              obtain rfl := e.symm
              go_wp2
              go_roundw
              case rel => exact ⟨j + 1, H, _, _, _, _, _, rfl, by go_num, by omega, HE7.out, HI7.out⟩
              case measure => simp [intOf]; omega
            · have hgt := HI4.out.f0 t ht8
              have CS := stepS HE4.out.s (HI4.out.at ht8 HR4.out) hN (by omega)
              unfold StepPost at CS
              have hg : ¬ M.get 0 = 0 := by have := HI4.out.mg; omega
              rw [show Lk.pc ⟨t, 0, lim, f t, false, 0⟩ = 2 from rfl, show Lk.fin ⟨t, 0, lim, f t, false, 0⟩ M = false from by unfold Lk.fin; rw [Lk.step_miss rfl hg]; exact decide_eq_false hov, show Lk.mem ⟨t, 0, lim, f t, false, 0⟩ M = M.cas t 0 0 (t + 1) from rfl, show Lk.step ⟨t, 0, lim, f t, false, 0⟩ M = ⟨t, 0, lim, f t + 1, false, 0⟩ from by rw [Lk.step_miss rfl hg]; unfold Lk.miss; rw [decide_eq_false hov, if_neg hov]] at CS
              have HI7 := Lib.hid (HI4.out.miss ht8 HR4.out hg)
              have x5 : (f t + 1 == lim) = false := by simp [hov]
              have x6 : decide (f t + 1 = lim) = false := decide_eq_false hov
              have hw2 : IntKind.i64.wrap (f t + 1) = f t + 1 := IntWalk.i64_in _ (by omega)
              clear hov
              replace CS := Lib.hid CS
              refine CS.out.mono ?_
              rintro r w5 ⟨rfl, hs, hf⟩
              have HE5 := Lib.hid (HE4.out.move hs hf)
              have kr5 := HE5.out.rt ht8 HR4.out
              clear hs hf CS hg
              go_wp2_with fail
              have CR := resultS HE5.out.s (upd_same ..)
              rw [show Lk.n ⟨t, 0, lim, f t + 1, false, 0⟩ = f t + 1 from rfl, show Lk.res ⟨t, 0, lim, f t + 1, false, 0⟩ = 8 from rfl] at CR
              replace CR := Lib.hid CR
              refine CR.out.mono ?_
              rintro r w6 ⟨rfl, hb⟩
              have HE6 := Lib.hid (HE5.out.below hb)
              have kf6c := HE6.out.ft ht8 rfl
              have kf6f := HE6.out.fz ht8
              have kr6c := HE6.out.rt ht8 HR4.out
              have kr6f := HE6.out.rz ht8
              clear hb CR
              have HE7 := Lib.hid ((HE6.out.setF ht8 (f t + 1)).more (show (j : Int) + 1 ≤ ((j + 1 : Nat) : Int) by omega))
              have kf7 := HE7.out.ft ht8 (if_pos rfl)
              have hw3 : IntKind.i64.wrap (H + 1) = H + 1 := IntWalk.i64_in _ (by omega)
              have hw4 : IntKind.u64.wrap (H + 1) = H + 1 := by rw [IntKind.wrap_u64]; omega
              have CP := peekS HE7.out.s 0
              rw [HI7.out.peek] at CP
              replace CP := Lib.hid CP
              go_wp2_with fail
              refine CP.out.mono ?_
              rintro r w8 ⟨rfl, e⟩
              obtain rfl := e.symm
              go_wp2
              go_roundw
              case rel => exact ⟨j + 1, H, _, _, _, _, _, rfl, by go_num, by omega, HE7.out, HI7.out⟩
              case measure => simp [intOf]; omega
    · obtain rfl : j = a0n := by omega
      have d0 : decide ((j : Int) < (j : Int)) = false := decide_eq_false (by omega)
      have d0' : decide (j < j) = false := decide_eq_false (by omega)
      have BE := Lib.hid hE.be
      clear hE hI hlt HR HBD HLE
      have CN := Lib.hid (new_any (some ⟨wr.heap.size, 0, none⟩) 1 1 [0] _ rfl (by unfold maxLen; omega) (lit_u wr [0] #[.int .u64 0] rfl) (fun x hx => by simp at hx; omega))
      have BB := Lib.hid (show Below wr.heap.size wr (wr.alloc (.cells #[.int .u64 0] 55)) from bel_alloc (Below.refl _ _) _)
      go_wp2_with fail
      refine CN.out.mono ?_
      rintro r V0 (⟨he, _⟩ | ⟨_, b2, p2, rfl, ha, hbs, hps, b1⟩)
      · exact absurd (show newE 1 = 0 from rfl) he
      have BW := Lib.hid (BB.out.trans (b1.mono BB.out.size))
      have HS := Lib.hid (show SB wr.heap.size V0 b2 ⟨[0], []⟩ (fun _ => none) 0 from startB ha (Nat.le_trans BB.out.size hbs) (Nat.le_trans BB.out.size hps) BW.out.size)
      clear ha hbs hps b1 BB CN
      go_wp2_with fail
      refine (newB HS.out (by decide) 3 0 1 (by kernel_rfl)).mono ?_
      rintro r V2 ⟨xa, rfl, _, hs, bb⟩
      have HS := Lib.hid hs
      have BW := Lib.hid (BW.out.trans bb)
      clear hs bb
      go_wp2_with fail
      have CS := stepB HS.out (upd_same ..) (by decide) (by decide)
      rw [show (Lk.new 3 0 1).pc = 2 from rfl, show (Lk.new 3 0 1).fin ⟨[0], []⟩ = true from by kernel_rfl, show (Lk.new 3 0 1).mem ⟨[0], []⟩ = ⟨[4], [⟨3, 0, 4, 0, 4, true⟩]⟩ from by kernel_rfl] at CS
      replace CS := Lib.hid CS
      refine CS.out.mono ?_
      rintro r V3 ⟨rfl, ⟨c3, hs, _⟩, bb⟩
      have CP := peekS hs 0
      rw [show peekT ⟨[4], [⟨3, 0, 4, 0, 4, true⟩]⟩ 0 = .tuple #[.int .u64 4, .bool true] from by kernel_rfl] at CP
      replace CP := Lib.hid CP
      have BW := Lib.hid (BE.out.trans ((BW.out.trans bb).mono BE.out.size))
      clear hs bb CS
      go_wp2_with fail
      refine CP.out.mono ?_
      rintro r w8 ⟨rfl, e⟩
      obtain rfl := e.symm
      go_wp2
      go_ret
      exact ⟨rfl, BW.out⟩
end Wk
end Go.Proofs.Ytjocbmoelkobaaa
