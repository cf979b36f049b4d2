/- leapfroglaw15: index, begin: contracts of the translated code. Conditions: a valid configuration without cuts; at most 300 stores. -/
import Derived.Test.YtjcbjbhlclajnaaTwB
import Derived.Test.YtjcbjbhlclajnaaLyN
namespace Go.Proofs.Ytjcbjbhlclajnaa
open Go.RowKit Go.Sort
set_option linter.unusedVariables false
set_option linter.unusedSimpArgs false
set_option maxRecDepth 100000
namespace Tw
open Wd
open Po (Fc MC up up_lt up_ge up_of)
open Ly (Ge tot pk pW nxO wdO ad tg gs InT Cf LyAt I64 KI RAt okB geo Kd)
open Dm (addr_lit info_parts spot_none RdK flatU infoU bel_alloc bel_trans own_keep below_drewN)
theorem mod_valN (i : Int) (n : Nat) (h0 : 0 < n) (h1 : n ≤ 65536) : (wrap64 (i.tmod (n : Int) + (n : Int))).tmod (n : Int) = i % (n : Int) := by
  have a1 := Int.tmod_lt_of_pos i (show (0 : Int) < n by omega)
  have a2 : -(n : Int) < i.tmod n := by
    have := Int.lt_tmod_of_pos i (show (0 : Int) < n by omega)
    omega
  rw [IntWalk.wrap64_in _ (by omega), Int.tmod_eq_emod_of_nonneg (by omega), Int.add_emod_right]
  by_cases h : 0 ≤ i
  · rw [Int.tmod_eq_emod_of_nonneg h, Int.emod_emod_of_dvd _ (Int.dvd_refl _)]
  · have e := Int.tmod_add_mul_tdiv i n
    conv => rhs; rw [← e]
    rw [Int.add_mul_emod_self_left]
theorem indexB (i : Int) (n : Nat) (h0 : 0 < n) (h1 : n ≤ 65536) (w : World) :
    Calls Try.prog 31 #[.int .i64 i, .int .i64 (n : Int)] w fun e w' => e = .returned (.int .i64 (i % (n : Int))) ∧ w' = w := by
  have hm := mod_valN i n h0 h1
  have h2 : ((n : Int) == 0) = false := by simp; omega
  go_enter Try.func31, Try.ntmps31
  go_wp2
  go_ret
  exact ⟨rfl, rfl⟩
/-- a store: an address, a value -/
abbrev Pt := Int × Int
def KT : Kd Pt where
  E := 166
  S := 91
  sz := 2
  bt := 16
  enc := fun x => [.int .i64 x.1, .int .u64 x.2]
  len := fun _ => rfl
  pos := by decide
  bpos := by decide
  one := fun x u hu => by simp at hu; rcases hu with rfl | rfl <;> rfl
  und := Try.underlying91
  info := Ly.info_parts (z := .agg #[.int .i64 0, .int .u64 0]) (by kernel_rfl) rfl
def BdT (l : List Pt) : Prop := ∀ x, x ∈ l → I64 x.1 ∧ 0 ≤ x.2 ∧ x.2 ≤ 18446744073709551615
/-- the words with the stores -/
def puts (N : Int) : List Pt → Wm → Wm
  | [], M => M
  | x :: l, M => puts N l (M.stor 0 (x.1 % N) x.2)
theorem puts_snoc (N : Int) (x : Pt) : ∀ (l : List Pt) (M : Wm), puts N (l ++ [x]) M = (puts N l M).stor 0 (x.1 % N) x.2
  | [], M => rfl
  | y :: l, M => puts_snoc N x l _
theorem puts_len (N : Int) : ∀ (l : List Pt) (M : Wm), (puts N l M).W.length = M.W.length
  | [], M => rfl
  | y :: l, M => by rw [puts, puts_len N l, stor_len]
theorem puts_log (N : Int) : ∀ (l : List Pt) (M : Wm), (puts N l M).L.length = M.L.length + l.length
  | [], M => rfl
  | y :: l, M => by rw [puts, puts_log N l, stor_log, List.length_cons]; omega
/-- what begin makes -/
def BgP (f : Cf) (l : List Pt) (w : World) (e : Ending) (w' : World) : Prop :=
  ∃ c wb x bm bl f', e = .returned (.pointer (some ⟨wb, 0, none⟩)) ∧ Bn w' c x bm bl f' [] (geo f []) (puts (pW (geo f []) : Nat) l ⟨Ly.ini (geo f []), []⟩) ∧ (w'.cell? ⟨wb, 0, none⟩ = some (.pointer (some ⟨bl, 0, none⟩)) ∧ w'.cell? ⟨wb, 1, none⟩ = some (.pointer (some ⟨bm, 0, none⟩)) ∧ w'.cell? ⟨wb, 2, none⟩ = some (.pointer (some ⟨x, 0, none⟩)) ∧ c wb = 7) ∧ (∀ i, i < w.heap.size → c i = 0) ∧ Below w.heap.size w w'
set_option maxHeartbeats 8000000 in
theorem begin_any {f : Cf} (hf : Gd f) {A : Option Addr} {n cp : Nat} {l : List Pt} {w : World} (hr : KT.Rd w A l) (hb : BdT l) (hl : l.length = n) (hn : n ≤ 300) : Calls Try.prog 30 #[cfgV f, .slice A n cp] w (BgP f l w) := by
  have HF := Lib.hid hf
  have HR := Lib.hid hr
  have HBT := Lib.hid hb
  have HLN := Lib.hid hl
  obtain ⟨N, hN⟩ : ∃ N, N = pW (geo f []) := ⟨_, rfl⟩
  have HNE := Lib.hid hN
  obtain ⟨W0, hW0⟩ : ∃ W, W = w.alloc (.cells #[.int .i64 f.th, .int .i64 f.sl, .int .u8 f.en, .int .i64 f.bu, .int .u8 f.k, .int .i64 f.n, .slice f.A f.m f.c, .int .i64 (f.t 0), .int .i64 (f.t 1), .int .i64 (f.t 2), .int .i64 (f.t 3), .int .i64 (f.t 4), .int .i64 (f.t 5), .int .i64 f.lo, .int .i64 f.tr, .int .i64 f.ba] 87) := ⟨_, rfl⟩
  have hfb : Ly.CfB W0 w.heap.size f := by rw [hW0]; exact Ly.CfB.made ..
  have bW0 : Below w.heap.size w W0 := by rw [hW0]; exact bel_alloc (Below.refl _ _) _
  have HB0 := Lib.hid bW0
  have HCF := Lib.hid hfb
  have HW0 := Lib.hid hW0
  clear hf hr hb hl hW0 hfb bW0 hN
  unfold cfgV
  go_enter Try.func30, Try.ntmps30
  have d0 := HCF.out
  rw [HW0.out] at d0
  obtain ⟨c0, c1, c2, c3, c4, c5, c6, c7, c8, c9, c10, c11, c12, c13, c14, c15⟩ := d0
  go_wp2_with fail
  rw [← HW0.out]
  have C2 := newL HF.out W0
  unfold cfgV at C2
  refine C2.mono ?_
  rintro r1 W3 ⟨bl, f', rfl, hl, hb3⟩
  obtain ⟨d0, d1, d2, d3, d4, d5, d6, d7, d8, d9, d10, d11, d12, d13, d14, d15⟩ := HCF.out.below hb3
  have HB3 := Lib.hid (HB0.out.trans (hb3.mono HB0.out.size))
  have HL := Lib.hid hl
  have C3 := newLR HF.out W3
  unfold cfgV at C3
  replace C3 := Lib.hid C3
  clear hb3 hl C2 c0 c1 c2 c3 c4 c5 c6 c7 c8 c9 c10 c11 c12 c13 c14 c15
  go_wp2_with fail
  refine C3.out.mono ?_
  rintro r1 W5 ⟨bz, rfl, hr, hb5⟩
  have HL5 := Lib.hid (HL.out.below hb5)
  have HB5 := Lib.hid (HB3.out.trans (hb5.mono HB3.out.size))
  have HRA := Lib.hid hr
  have CI := Lib.hid (Ly.initial_any HL5.out HF.out.gok)
  clear hb5 hr C3 HL d0 d1 d2 d3 d4 d5 d6 d7 d8 d9 d10 d11 d12 d13 d14 d15 HCF HW0
  go_wp2_with fail
  refine CI.out.mono ?_
  rintro r1 W6 ⟨rfl, hrow, hb6⟩
  have CM := Lib.hid (newM HF.out.gok HF.out.w0 HF.out.w1 hrow)
  have HB6 := Lib.hid hb6
  clear hb6 hrow CI
  go_wp2_with fail
  refine CM.out.mono ?_
  rintro r1 W7 ⟨bm, p, rfl, hm, hbm, hp, hb7⟩
  have HB7 := Lib.hid (HB6.out.trans (hb7.mono HB6.out.size))
  have HM := Lib.hid hm
  have HBM := Lib.hid (Nat.le_trans HB6.out.size hbm)
  have HBP := Lib.hid (Nat.le_trans HB6.out.size hp)
  have CI := Lib.hid (Ly.initialR_any (HRA.out.below HB7.out) HF.out.gok)
  clear hb7 hm hbm hp CM HB6
  go_wp2_with fail
  refine CI.out.mono ?_
  rintro r1 W8 ⟨rfl, hrow, hb8⟩
  have CM := Lib.hid (newMR HF.out.gok HF.out.w0 HF.out.w1 hrow)
  have HB8 := Lib.hid hb8
  clear hb8 hrow CI
  go_wp2_with fail
  refine CM.out.mono ?_
  rintro r1 W9 ⟨bw, pw, rfl, hw, hbw, hpw, hb9⟩
  have HB9 := Lib.hid (HB8.out.trans (hb9.mono HB8.out.size))
  have HMR := Lib.hid hw
  have HBW := Lib.hid (Nat.le_trans HB8.out.size hbw)
  have HPW := Lib.hid (Nat.le_trans HB8.out.size hpw)
  have B59 := Lib.hid (HB7.out.trans (HB9.out.mono HB7.out.size))
  have CP := Lib.hid (newT (HM.out.below HB9.out) (HL5.out.below B59.out) HF.out.gok (Ly.ini_len _))
  clear hb9 hw hbw hpw CM HB8
  go_wp2_with fail
  refine CP.out.mono ?_
  rintro r1 W10 ⟨x, hx, rfl, htt, hb10⟩
  have CQ := Lib.hid (newTR (HMR.out.below hb10) (HRA.out.below (B59.out.trans (hb10.mono B59.out.size))) (Ly.ini_len _))
  obtain ⟨c, hbn, hmr, hlow⟩ := Bn.made HL5.out HB7.out HM.out HBM.out HBP.out HB9.out HMR.out HBW.out HPW.out hb10 hx htt
  have HBN := Lib.hid hbn
  have HMC := Lib.hid hmr
  have HLOW := Lib.hid (fun i (hi : i < w.heap.size) => hlow i (Nat.lt_of_lt_of_le hi HB5.out.size))
  have HB10 := Lib.hid (HB5.out.trans ((B59.out.trans (hb10.mono B59.out.size)).mono HB5.out.size))
  clear hb10 hx htt hbn hmr hlow CP HB9 HMR HBW HPW B59 HM HBM HBP HB7 HRA HL5 HB5 HB3 HB0
  go_wp2_with fail
  refine CQ.out.mono ?_
  rintro r1 W11 ⟨xr, rfl, hb11⟩
  have hf11 := Fc.of_below (S := fun _ => False) (c := c) hb11
  have HBN1 := Lib.hid (HBN.out.fc hf11 id id id)
  have HMC1 := Lib.hid (HMC.out.keep hf11 id)
  have HB11 := Lib.hid (HB10.out.trans (hb11.mono HB10.out.size))
  clear hb11 hf11 CQ HBN HMC HB10
  go_wp2
  obtain ⟨M0, hM0⟩ : ∃ M0, M0 = (⟨Ly.ini (geo f []), []⟩ : Wm) := ⟨_, rfl⟩
  have hm0l : M0.L.length = 0 := by rw [hM0]; rfl
  have hm0w : M0.W.length = N := by rw [hM0, HNE.out]; exact Ly.ini_len _
  rw [← hM0] at HBN1 HMC1
  have HM0 := Lib.hid hM0
  have HM0L := Lib.hid hm0l
  have HM0W := Lib.hid hm0w
  have HNW := Lib.hid (show 0 < N ∧ N ≤ 65536 by rw [HNE.out]; exact ⟨HF.out.w0, HF.out.w1⟩)
  clear hM0 hm0l hm0w
  go_loopw [15] (fun vi wr => ∃ (i : Nat) (c' : Nat → Nat), vi = .int .i64 (i : Int) ∧ i ≤ n ∧ Bn wr c' x bm bl f' [] (geo f []) (puts (N : Int) (l.take i) M0) ∧ MC 27 wr c' 2 bw (puts (N : Int) (l.take i) M0) ∧ (∀ j, j < w.heap.size → c' j = 0) ∧ Below w.heap.size w wr) (fun vi _ => (n - intOf vi).toNat)
  case atStart => exact ⟨0, c, rfl, Nat.zero_le _, HBN1.out, HMC1.out, HLOW.out, HB11.out⟩
  case round =>
    obtain ⟨i, c', rfl, hi, hbn, hmc, hlow, hbel⟩ := hrel
    clear HBN1 HMC1 HLOW HB11
    by_cases hlt : i < n
    · have e0 : decide ((i : Int) < (n : Int)) = true := decide_eq_true (by omega)
      have e0' : decide (i < n) = true := decide_eq_true hlt
      have hw1 : IntKind.i64.wrap ((i : Int) + 1) = (i : Int) + 1 := IntWalk.i64_in _ (by omega)
      have hlt' : (i : Int) < n := by omega
      obtain ⟨y, hy⟩ : ∃ y, l[i]? = some y := ⟨_, List.getElem?_eq_getElem (by rw [HLN.out]; exact hlt)⟩
      have hby := HBT.out y (List.mem_of_getElem? hy)
      obtain ⟨pb, po, rfl, hat⟩ := HR.out i y hy
      have hplw := hat.lt
      have hat := hat.keep (hbel.block pb hat.lt)
      have q0 : wr.cell? ⟨pb, po + i * 2, none⟩ = some (.int .i64 y.1) := hat 0 _ rfl
      have q1 : wr.cell? ⟨pb, po + i * 2 + 1, none⟩ = some (.int .u64 y.2) := hat 1 _ rfl
      have hpl : pb < wr.heap.size := hat.lt
      obtain ⟨M, hM⟩ : ∃ M, M = puts (N : Int) (l.take i) M0 := ⟨_, rfl⟩
      rw [← hM] at hbn hmc
      have hML : M.L.length ≤ 300 := by rw [hM, puts_log, HM0L.out, List.length_take]; omega
      have hMW : M.W.length = N := by rw [hM, puts_len, HM0W.out]
      have hM2 : puts (N : Int) (l.take (i + 1)) M0 = M.stor 0 (y.1 % (N : Int)) y.2 := by
        rw [List.take_add_one, hy, hM]
        exact puts_snoc _ _ _ _
      obtain ⟨pp, qq, ⟨cc, vv, _, hA⟩, _⟩ := id hmc
      have a0 := hA.c0
      rw [hMW] at a0
      obtain ⟨ix, hix⟩ := Int.eq_ofNat_of_zero_le (show 0 ≤ y.1 % (N : Int) from Int.emod_nonneg _ (by have := HNW.out.1; omega))
      have hixn : ix < N := by have := Int.emod_lt_of_pos y.1 (show (0 : Int) < N by have := HNW.out.1; omega); omega
      have CI := fun W => indexB y.1 N HNW.out.1 HNW.out.2 W
      rw [hix] at CI hM2
      replace CI := fun W => Lib.hid (CI W)
      have HM2 := Lib.hid hM2
      have HML := Lib.hid hML
      have HMW := Lib.hid hMW
      have HBN := Lib.hid hbn
      have HMC := Lib.hid hmc
      have HLO := Lib.hid hlow
      have HBL := Lib.hid hbel
      have HIX := Lib.hid hixn
      have HBY := Lib.hid hby
      have HPC := Lib.hid (hlow pb hplw)
      have HPL := Lib.hid hpl
      clear hM hML hMW hM2 hbn hmc hlow hbel hix hixn hy hat hA hby hpl hplw
      go_wp2_with fail
      go_region_held3 (fun w' => w'.cell? ⟨pb, po + i * 2, none⟩ = some (.int .i64 y.1) ∧ w'.cell? ⟨bw, 0, none⟩ = some (.slice (some ⟨pp, 0, none⟩) N cc)) (first | exact ⟨q0, a0⟩) (first | (go_at_call 31; refine (CI _).out.mono ?_; rintro r1 W2 ⟨rfl, e⟩; obtain rfl := e.symm))
      all_goals
        obtain ⟨wd, hwd⟩ : ∃ W, W = wr.drew := ⟨_, rfl⟩
        have bwd : Below wr.heap.size wr wd := by rw [hwd]; exact below_drewN (Below.refl _ _) 1
        have bwe : Below wr.heap.size wr wd.drew := bwd.trans ((below_drewN (Below.refl _ wd) 1).mono bwd.size)
        have q1' : wd.cell? ⟨pb, po + i * 2 + 1, none⟩ = some (.int .u64 y.2) := by rw [hwd]; exact q1
        rw [← hwd]
        have CS := Lib.hid ((HBN.out.below bwe).store (by have := HML.out; omega) 0 y.2 ix (by omega) (by rw [← HNE.out]; exact HIX.out) HBY.out.2.1 HBY.out.2.2)
        have CR := fun (W : World) (c2 : Nat → Nat) (h : MC 27 W c2 2 bw M) => Lib.hid (storeMR h (by have := HML.out; omega) 0 y.2 ix (by omega) (by rw [HMW.out]; exact HIX.out) HBY.out.2.1 HBY.out.2.2)
        have HMD := Lib.hid (HMC.out.keep (Fc.of_below (S := fun _ => False) (c := c') bwe) id)
        have HBD := Lib.hid (HBL.out.trans (bwe.mono HBL.out.size))
        have HPD := Lib.hid (show pb < wd.drew.heap.size from Nat.lt_of_lt_of_le HPL.out bwe.size)
        clear hwd bwd bwe q0 q1 a0 CI
        go_wp2_with fail
        go_region_held3 (fun w' => w'.cell? ⟨pb, po + i * 2 + 1, none⟩ = some (.int .u64 y.2)) (first | exact q1' | with_reducible exact m1 | with_reducible exact m2) (first | (go_at_call 23; refine CS.out.mono ?_; rintro r1 W2 ⟨rfl, c2, hbn2, f12⟩; have hr2 := HMD.out.keep f12 (by omega); have m1 := (World.cell?_of_block (a := ⟨pb, po + i * 2 + 1, none⟩) (f12.keep HPD.out (by rw [HPC.out]; omega))).trans q1'; have hp2 := (f12.co _ HPD.out).trans HPC.out) | (go_at_call 63; refine (CR W2 c2 hr2).out.mono ?_; rintro r1 W3 ⟨rfl, c3, hmc3, f23⟩; have m2 := (World.cell?_of_block (a := ⟨pb, po + i * 2 + 1, none⟩) (f23.keep (Nat.lt_of_lt_of_le HPD.out f12.fr.size) (by rw [hp2]; omega))).trans m1))
        all_goals
          have f13 := (f12.mono (T := fun i => i = 1 ∨ i = 2) fun _ e => .inl e).trans (f23.mono (T := fun i => i = 1 ∨ i = 2) fun _ e => .inr e)
          have HB3 := Lib.hid (hbn2.fc f23 (by omega) (by omega) (by omega))
          have HM3 := Lib.hid hmc3
          have HL3 := Lib.hid (f13.low HBD.out.size HLO.out)
          have HE3 := Lib.hid (HBD.out.trans (f13.below HBD.out.size HLO.out (by omega)))
          clear hbn2 hmc3 f12 f23 f13 hr2 hp2 m1 m2 q1' CS CR
          go_wp2
          go_roundw
          case rel => exact ⟨i + 1, c3, by go_num, by omega, by rw [HM2.out]; exact HB3.out, by rw [HM2.out]; exact HM3.out, HL3.out, HE3.out⟩
          case measure => simp [intOf]; omega
    · obtain rfl : i = n := by omega
      have e0 : decide ((i : Int) < (i : Int)) = false := decide_eq_false (by omega)
      have e0' : decide (i < i) = false := decide_eq_false (by omega)
      have hM : puts (N : Int) (l.take i) M0 = puts ((pW (geo f []) : Nat) : Int) l ⟨Ly.ini (geo f []), []⟩ := by rw [← HLN.out, List.take_length, HM0.out, HNE.out]
      rw [hM] at hbn
      have f30 := Fc.of_below_up (S := fun _ => False) (c := c') (k := 7) (bel_alloc (Below.refl wr.heap.size wr) (.cells #[.pointer (some ⟨bl, 0, none⟩), .pointer (some ⟨bm, 0, none⟩), .pointer (some ⟨x, 0, none⟩), .pointer (some ⟨bz, 0, none⟩), .pointer (some ⟨bw, 0, none⟩), .pointer (some ⟨xr, 0, none⟩)] 66))
      have HBN := Lib.hid (hbn.fc f30 id id id)
      have HLO := Lib.hid (f30.low hbel.size hlow)
      have HBL := Lib.hid (hbel.trans (f30.below hbel.size hlow id))
      clear hM hbn hmc hlow hbel f30
      go_wp2
      go_ret
      exact ⟨_, wr.heap.size, x, bm, bl, f', rfl, HBN.out, ⟨World.cell?_alloc_new _ _ _ _, World.cell?_alloc_new _ _ _ _, World.cell?_alloc_new _ _ _ _, up_ge (Nat.le_refl _)⟩, HLO.out, HBL.out⟩
end Tw
end Go.Proofs.Ytjcbjbhlclajnaa
