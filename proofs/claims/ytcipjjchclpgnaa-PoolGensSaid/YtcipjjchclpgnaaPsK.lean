/- give of a run of leapfroglaw14: contracts of the translated code, one for each case. Conditions: the run's invariant. (Written by tools/mkps9.py.) -/
import Derived.Test.YtcipjjchclpgnaaPsQ
namespace Go.Proofs.Ytcipjjchclpgnaa
open Go.RowKit Go.Sort
set_option linter.unusedVariables false
set_option linter.unusedSimpArgs false
set_option maxRecDepth 100000
namespace Po
open Wd
open Ly (Ge tot pP pK pW pk Cf LyAt KI)
open Dm (addr_lit info_parts spot_none RdK flatU infoU bel_alloc bel_trans own_keep below_drewN)
section
variable {K : Kc} {b : Nat} {w : World} {c : Nat → Nat} {S : Pm} {X : Nat → Option Op} {a : Nat → Nat} {stk : Nat → List Nat} {sw : Nat → Nat} {B : Nat} {of : Nat → Int} {mn sk : Nat → Value} {mine : Nat → List Nat} {sn st : Nat → Int} {t : Nat} {r : Op}
set_option maxHeartbeats 2000000 in
theorem give_4 (h : RI K b w c S X a stk sw B of mn sk mine sn st) (hB : B ≤ 1000) (hx : X t = some r) (h0 : 0 < r.tw) (hp : r.pc = 4) : Calls Try.prog 70 #[.pointer (some ⟨b, 0, none⟩), .int .i64 ((t : Nat) : Int)] w (AcP K b t (some r) w c S X stk mine sn sw B) := by
  have hxo := h.m.xo t r hx
  have ht := hxo.t6
  have hok := h.m.al.al.o t r hx
  have h6 := hok.h6
  obtain ⟨k1, k2', _, _⟩ := hok.g h0 hxo.pc
  have hof := hxo.of
  rw [if_neg (by omega)] at hof
  obtain ⟨gn1, tw1, z1, z3⟩ := h.m.g4 hx h0 hp
  have CS := fun (W : World) (hb : Below w.heap.size w W) => stepGS (h.sa.below hb) h.m.al (by omega) hx h0 hxo.pc
  unfold StS at CS
  rw [hp] at CS
  have hgv : gvP X a t = some (a t) := by unfold gvP; rw [hx]; simp only [if_neg (show ¬ r.tw = 0 by omega)]
  have k14 := h.rb.of t ht
  rw [hof] at k14
  have k0 := h.rb.y
  have CHt := Ly.height_any h.sa.ly.at h.sa.ok ((r.tw : Nat) : Int)
  unfold Ly.hgE at CHt
  rw [show Ly.pk K.g.t ((r.tw : Nat) : Int) 6 = r.h from k2', if_pos h6] at CHt
  have i6 : (t : Int) < 6 := by omega
  have i0 : (0 : Int) ≤ (t : Int) := by omega
  obtain ⟨HH, hHH⟩ : ∃ HH, HH = ((r.h + 1 : Nat) : Int) := ⟨_, rfl⟩
  obtain ⟨TW, hTW⟩ : ∃ TW, TW = ((r.tw : Nat) : Int) := ⟨_, rfl⟩
  rw [← hHH, ← hTW] at CHt
  rw [← hTW] at k14
  have d1 : decide (HH < 1) = false := decide_eq_false (by omega)
  have d6 : decide (6 < HH) = false := decide_eq_false (by omega)
  have w1 : IntKind.i64.wrap (HH - 1) = (r.h : Int) := by rw [show HH - 1 = (r.h : Int) by omega]; exact IntWalk.i64_in _ (by omega)
  have w1' : wrap64 (HH - 1) = (r.h : Int) := by rw [show HH - 1 = (r.h : Int) by omega]; exact IntWalk.wrap64_in _ (by omega)
  have j6 : (r.h : Int) < 6 := by omega
  have j0 : (0 : Int) ≤ (r.h : Int) := by omega
  obtain ⟨AS, CP, hsk, hskc, hskn⟩ := (h.sr r.h h6).form
  obtain ⟨LN, hLN⟩ : ∃ LN, LN = (nums (stk r.h).reverse).length := ⟨_, rfl⟩
  rw [← hLN] at hsk
  have hst := h.m.sb t ht
  have ws : IntKind.i64.wrap (st t + 1) = st t + 1 := IntWalk.i64_in _ (by omega)
  have ws' : wrap64 (st t + 1) = st t + 1 := IntWalk.wrap64_in _ (by omega)
  have HI := Lib.hid h
  have HX := Lib.hid hx
  have HT := Lib.hid ht
  have HH6 := Lib.hid h6
  have HTK := Lib.hid hgv
  have H0 := Lib.hid h0
  have HP := Lib.hid hp
  have HTKN := Lib.hid (show tkP X a t = none by unfold tkP; rw [hx]; simp only [if_neg (show ¬ r.tw = 0 by omega)])
  have HTW := Lib.hid (show (step (pP K.g) S r).2.tw = r.tw from tw1)
  have HSK := Lib.hid hsk
  have HTWE := Lib.hid hTW
  have HLNE := Lib.hid hLN
  have HZ := Lib.hid z3
  have HZ1 := Lib.hid z1
  have HGN := Lib.hid gn1
  have HGO := Lib.hid (show Go1 (upd X t (step (pP K.g) S r).2) t (if r.tw = 0 then 5 else 7) r from Go1.upd (by rw [if_neg (by omega)]; exact step_p4G _ _ _ h0 hp) (step_same ..).2.2.1 (step_same ..).2.1)
  simp only [decide_eq_false z1] at CS
  replace CS := Lib.hid CS
  replace CHt := Lib.hid CHt
  clear h hxo hof hx hgv h0 hp hHH hst tw1 hB hsk hskc hskn hLN hok k1 k2' hTW z1 z3 gn1
  go_enter Try.func70, Try.ntmps70
  go_wp2_with fail
  refine CHt.out.mono ?_
  rintro r1 W0 ⟨rfl, hb0⟩
  have R0 := HI.out.rw.below hb0
  have l8 := R0.rb.gv t HT.out
  rw [HTK.out] at l8
  simp only [ptrO, Option.map] at l8
  have CS1 := Lib.hid (CS.out W0 hb0)
  have HR0 := Lib.hid R0
  have HB0 := Lib.hid hb0
  clear R0 k14 k0 hb0
  go_wp2_with fail
  refine CS1.out.mono ?_
  rintro r1 W2 ⟨rfl, c1, hsa, hf⟩
  have R2 := HR0.out.pool hsa hf
  have F2 := (Fc.of_below (S := TA) (c := c) HB0.out).trans (hf.mono (T := TA) fun i e => T4_TA e)
  have m44 := R2.rb.st t HT.out
  have m44f := R2.rb.fz (44 + t)
  have HR2 := Lib.hid R2
  have HF2 := Lib.hid F2
  clear hsa hf R2 F2 l8 CS1 HR0
  go_wp2_with fail
  go_region
  have R3 := (HR2.out.set_st HT.out (st t + 1)).below (bel_drew (Below.refl _ _))
  have F3 := (HF2.out.trans (Fc8 (b := b) (j := 44 + t) (v := .int .i64 (st t + 1)) HR2.out.cb)).then (bel_drew (Below.refl _ _))
  generalize (W2.setCell ⟨b, 44 + t, none⟩ (.int .i64 (st t + 1))).drew = W3 at R3 F3 ⊢
  have n32 : W3.cell? ⟨b, 32 + r.h, none⟩ = some (.int .i64 ((sw r.h : Nat) : Int)) := R3.rb.sw r.h HH6.out
  have n26 := R3.rb.sk r.h HH6.out
  rw [HSK.out] at n26
  have n38 := R3.rb.sn t HT.out
  have n38f := R3.rb.fz (38 + t)
  have n44 := R3.rb.st t HT.out
  rw [set_same] at n44
  have n44f := R3.rb.fz (44 + t)
  have HR3 := Lib.hid R3
  have HF3 := Lib.hid F3
  clear R3 F3 m44 m44f HR2 HF2
  go_wp2_with fail
  go_region
  have R4 := ((HR3.out.set_sn HT.out ((sw r.h : Nat) : Int)).set_st HT.out 1).below (bel_drew (Below.refl _ _))
  have F4 := ((HF3.out.trans (Fc8 (b := b) (j := 38 + t) (v := .int .i64 ((sw r.h : Nat) : Int)) HR3.out.cb)).trans (Fc8 (b := b) (j := 44 + t) (v := .int .i64 1) HR3.out.cb)).then (bel_drew (Below.refl _ _))
  generalize ((W3.setCell ⟨b, 38 + t, none⟩ (.int .i64 ((sw r.h : Nat) : Int))).setCell ⟨b, 44 + t, none⟩ (.int .i64 1)).drew = W4 at R4 F4 ⊢
  have p26 := R4.rb.sk r.h HH6.out
  rw [HSK.out] at p26
  have p2 := R4.rb.gv t HT.out
  rw [HTK.out] at p2
  simp only [ptrO, Option.map] at p2
  have p2f := R4.rb.fz (8 + t)
  have HR4 := Lib.hid R4
  have HF4 := Lib.hid F4
  clear R4 F4 n32 n26 n38 n38f n44 n44f HR3 HF3
  go_wp2
  go_ret
  have R5 := HR4.out
  exact ⟨rfl, c1, _, _, _, _, _, _, _, _, _, _, _, R5.run HZ.out R5.sa (tkP_upd HX.out _ HTW.out).symm (gvP_upd HX.out _ HTW.out).symm rfl rfl rfl rfl (set_set ..), HF4.out, (by rw [HGN.out]; simp only [HX.out]; rw [if_neg (fun q => by have := q.2; rw [upd_same] at this; cases this)]), (fun r' hr _ _ => by rw [upd_same]; simp), fun r' q => by cases q; exact Vw.g4 HP.out HGO.out (set_same ..)⟩
set_option maxHeartbeats 2000000 in
theorem give_7 (h : RI K b w c S X a stk sw B of mn sk mine sn st) (hB : B ≤ 1000) (hx : X t = some r) (h0 : 0 < r.tw) (hp : r.pc = 7) : Calls Try.prog 70 #[.pointer (some ⟨b, 0, none⟩), .int .i64 ((t : Nat) : Int)] w (AcP K b t (some r) w c S X stk mine sn sw B) := by
  have hxo := h.m.xo t r hx
  have ht := hxo.t6
  have hok := h.m.al.al.o t r hx
  have h6 := hok.h6
  obtain ⟨k1, k2', _, _⟩ := hok.g h0 hxo.pc
  have hof := hxo.of
  rw [if_neg (by omega)] at hof
  obtain ⟨gn1, tw1, z1, z3⟩ := h.m.mid hx (.inr hp)
  have CS := fun (W : World) (hb : Below w.heap.size w W) => stepGS (h.sa.below hb) h.m.al (by omega) hx h0 hxo.pc
  unfold StS at CS
  rw [hp] at CS
  have hgv : gvP X a t = some (a t) := by unfold gvP; rw [hx]; simp only [if_neg (show ¬ r.tw = 0 by omega)]
  have k14 := h.rb.of t ht
  rw [hof] at k14
  have k0 := h.rb.y
  have CHt := Ly.height_any h.sa.ly.at h.sa.ok ((r.tw : Nat) : Int)
  unfold Ly.hgE at CHt
  rw [show Ly.pk K.g.t ((r.tw : Nat) : Int) 6 = r.h from k2', if_pos h6] at CHt
  have i6 : (t : Int) < 6 := by omega
  have i0 : (0 : Int) ≤ (t : Int) := by omega
  obtain ⟨HH, hHH⟩ : ∃ HH, HH = ((r.h + 1 : Nat) : Int) := ⟨_, rfl⟩
  obtain ⟨TW, hTW⟩ : ∃ TW, TW = ((r.tw : Nat) : Int) := ⟨_, rfl⟩
  rw [← hHH, ← hTW] at CHt
  rw [← hTW] at k14
  have d1 : decide (HH < 1) = false := decide_eq_false (by omega)
  have d6 : decide (6 < HH) = false := decide_eq_false (by omega)
  have w1 : IntKind.i64.wrap (HH - 1) = (r.h : Int) := by rw [show HH - 1 = (r.h : Int) by omega]; exact IntWalk.i64_in _ (by omega)
  have w1' : wrap64 (HH - 1) = (r.h : Int) := by rw [show HH - 1 = (r.h : Int) by omega]; exact IntWalk.wrap64_in _ (by omega)
  have j6 : (r.h : Int) < 6 := by omega
  have j0 : (0 : Int) ≤ (r.h : Int) := by omega
  obtain ⟨AS, CP, hsk, hskc, hskn⟩ := (h.sr r.h h6).form
  obtain ⟨LN, hLN⟩ : ∃ LN, LN = (nums (stk r.h).reverse).length := ⟨_, rfl⟩
  rw [← hLN] at hsk
  have hst := h.m.sb t ht
  have ws : IntKind.i64.wrap (st t + 1) = st t + 1 := IntWalk.i64_in _ (by omega)
  have ws' : wrap64 (st t + 1) = st t + 1 := IntWalk.wrap64_in _ (by omega)
  have HI := Lib.hid h
  have HX := Lib.hid hx
  have HT := Lib.hid ht
  have HH6 := Lib.hid h6
  have HTK := Lib.hid hgv
  have H0 := Lib.hid h0
  have HP := Lib.hid hp
  have HTKN := Lib.hid (show tkP X a t = none by unfold tkP; rw [hx]; simp only [if_neg (show ¬ r.tw = 0 by omega)])
  have HTW := Lib.hid (show (step (pP K.g) S r).2.tw = r.tw from tw1)
  have HSK := Lib.hid hsk
  have HTWE := Lib.hid hTW
  have HLNE := Lib.hid hLN
  have HZ := Lib.hid z3
  have HZ1 := Lib.hid z1
  have HGN := Lib.hid gn1
  have HGO := Lib.hid (show Go1 (upd X t (step (pP K.g) S r).2) t (r.pc + 1) r from Go1.upd (step_p57 _ _ _ (.inr hp)) (step_same ..).2.2.1 (step_same ..).2.1)
  simp only [decide_eq_false z1] at CS
  replace CS := Lib.hid CS
  replace CHt := Lib.hid CHt
  clear h hxo hof hx hgv h0 hp hHH hst tw1 hB hsk hskc hskn hLN hok k1 k2' hTW z1 z3 gn1
  go_enter Try.func70, Try.ntmps70
  go_wp2_with fail
  refine CHt.out.mono ?_
  rintro r1 W0 ⟨rfl, hb0⟩
  have R0 := HI.out.rw.below hb0
  have l8 := R0.rb.gv t HT.out
  rw [HTK.out] at l8
  simp only [ptrO, Option.map] at l8
  have CS1 := Lib.hid (CS.out W0 hb0)
  have HR0 := Lib.hid R0
  have HB0 := Lib.hid hb0
  clear R0 k14 k0 hb0
  go_wp2_with fail
  refine CS1.out.mono ?_
  rintro r1 W2 ⟨rfl, c1, hsa, hf⟩
  have R2 := HR0.out.pool hsa hf
  have F2 := (Fc.of_below (S := TA) (c := c) HB0.out).trans (hf.mono (T := TA) fun i e => T4_TA e)
  have m44 := R2.rb.st t HT.out
  have m44f := R2.rb.fz (44 + t)
  have HR2 := Lib.hid R2
  have HF2 := Lib.hid F2
  clear hsa hf R2 F2 l8 CS1 HR0
  go_wp2_with fail
  go_region
  have R3 := (HR2.out.set_st HT.out (st t + 1)).below (bel_drew (Below.refl _ _))
  have F3 := (HF2.out.trans (Fc8 (b := b) (j := 44 + t) (v := .int .i64 (st t + 1)) HR2.out.cb)).then (bel_drew (Below.refl _ _))
  generalize (W2.setCell ⟨b, 44 + t, none⟩ (.int .i64 (st t + 1))).drew = W3 at R3 F3 ⊢
  have n32 : W3.cell? ⟨b, 32 + r.h, none⟩ = some (.int .i64 ((sw r.h : Nat) : Int)) := R3.rb.sw r.h HH6.out
  have n26 := R3.rb.sk r.h HH6.out
  rw [HSK.out] at n26
  have n38 := R3.rb.sn t HT.out
  have n38f := R3.rb.fz (38 + t)
  have n44 := R3.rb.st t HT.out
  rw [set_same] at n44
  have n44f := R3.rb.fz (44 + t)
  have HR3 := Lib.hid R3
  have HF3 := Lib.hid F3
  clear R3 F3 m44 m44f HR2 HF2
  go_wp2
  go_ret
  have R5 := HR3.out
  exact ⟨rfl, c1, _, _, _, _, _, _, _, _, _, _, _, R5.run HZ.out R5.sa (tkP_upd HX.out _ HTW.out).symm (gvP_upd HX.out _ HTW.out).symm rfl rfl rfl rfl rfl, HF3.out, (by rw [HGN.out]; simp only [HX.out]; rw [if_neg (fun q => by have := q.2; rw [upd_same] at this; cases this)]), (fun r' hr q _ => by rw [HX.out] at hr; cases hr; rw [HP.out] at q; exact absurd q (by decide)), fun r' q => by cases q; exact Vw.m (.inr HP.out) HGO.out⟩
set_option maxHeartbeats 2000000 in
theorem give_8f (h : RI K b w c S X a stk sw B of mn sk mine sn st) (hB : B ≤ 1000) (hx : X t = some r) (h0 : 0 < r.tw) (hp : r.pc = 8) (he : ¬ sn t = sw r.h) : Calls Try.prog 70 #[.pointer (some ⟨b, 0, none⟩), .int .i64 ((t : Nat) : Int)] w (AcP K b t (some r) w c S X stk mine sn sw B) := by
  have hxo := h.m.xo t r hx
  have ht := hxo.t6
  have hok := h.m.al.al.o t r hx
  have h6 := hok.h6
  obtain ⟨k1, k2', _, _⟩ := hok.g h0 hxo.pc
  have hof := hxo.of
  rw [if_neg (by omega)] at hof
  obtain ⟨hs3, tw1, _, _, g3⟩ := h.m.g8 hx hp (by omega)
  obtain ⟨z1, gn1, z3⟩ := g3 he
  have CS := fun (W : World) (hb : Below w.heap.size w W) => stepGS (h.sa.below hb) h.m.al (by omega) hx h0 hxo.pc
  unfold StS at CS
  rw [hp] at CS
  have hgv : gvP X a t = some (a t) := by unfold gvP; rw [hx]; simp only [if_neg (show ¬ r.tw = 0 by omega)]
  have k14 := h.rb.of t ht
  rw [hof] at k14
  have k0 := h.rb.y
  have CHt := Ly.height_any h.sa.ly.at h.sa.ok ((r.tw : Nat) : Int)
  unfold Ly.hgE at CHt
  rw [show Ly.pk K.g.t ((r.tw : Nat) : Int) 6 = r.h from k2', if_pos h6] at CHt
  have i6 : (t : Int) < 6 := by omega
  have i0 : (0 : Int) ≤ (t : Int) := by omega
  obtain ⟨HH, hHH⟩ : ∃ HH, HH = ((r.h + 1 : Nat) : Int) := ⟨_, rfl⟩
  obtain ⟨TW, hTW⟩ : ∃ TW, TW = ((r.tw : Nat) : Int) := ⟨_, rfl⟩
  rw [← hHH, ← hTW] at CHt
  rw [← hTW] at k14
  have d1 : decide (HH < 1) = false := decide_eq_false (by omega)
  have d6 : decide (6 < HH) = false := decide_eq_false (by omega)
  have w1 : IntKind.i64.wrap (HH - 1) = (r.h : Int) := by rw [show HH - 1 = (r.h : Int) by omega]; exact IntWalk.i64_in _ (by omega)
  have w1' : wrap64 (HH - 1) = (r.h : Int) := by rw [show HH - 1 = (r.h : Int) by omega]; exact IntWalk.wrap64_in _ (by omega)
  have j6 : (r.h : Int) < 6 := by omega
  have j0 : (0 : Int) ≤ (r.h : Int) := by omega
  obtain ⟨AS, CP, hsk, hskc, hskn⟩ := (h.sr r.h h6).form
  obtain ⟨LN, hLN⟩ : ∃ LN, LN = (nums (stk r.h).reverse).length := ⟨_, rfl⟩
  rw [← hLN] at hsk
  have hst := h.m.sb t ht
  have ws : IntKind.i64.wrap (st t + 1) = st t + 1 := IntWalk.i64_in _ (by omega)
  have ws' : wrap64 (st t + 1) = st t + 1 := IntWalk.wrap64_in _ (by omega)
  have HI := Lib.hid h
  have HX := Lib.hid hx
  have HT := Lib.hid ht
  have HH6 := Lib.hid h6
  have HTK := Lib.hid hgv
  have H0 := Lib.hid h0
  have HP := Lib.hid hp
  have HTKN := Lib.hid (show tkP X a t = none by unfold tkP; rw [hx]; simp only [if_neg (show ¬ r.tw = 0 by omega)])
  have HTW := Lib.hid (show (step (pP K.g) S r).2.tw = r.tw from tw1)
  have HSK := Lib.hid hsk
  have HTWE := Lib.hid hTW
  have HLNE := Lib.hid hLN
  have HZ := Lib.hid z3
  have HZ1 := Lib.hid z1
  have HGN := Lib.hid gn1
  have HS3 := Lib.hid hs3
  have HE := Lib.hid he
  have v0 : (sn t == ((sw r.h : Nat) : Int)) = false := by simp [he]
  have v1 : decide (sn t = ((sw r.h : Nat) : Int)) = false := by simp [he]
  replace ws := ws.trans hs3
  replace ws' := ws'.trans hs3
  simp only [decide_eq_false z1] at CS
  replace CS := Lib.hid CS
  replace CHt := Lib.hid CHt
  clear h hxo hof hx hgv h0 hp hHH hst tw1 hB hsk hskc hskn hLN hok k1 k2' hTW z1 z3 gn1 g3 he hs3
  go_enter Try.func70, Try.ntmps70
  go_wp2_with fail
  refine CHt.out.mono ?_
  rintro r1 W0 ⟨rfl, hb0⟩
  have R0 := HI.out.rw.below hb0
  have l8 := R0.rb.gv t HT.out
  rw [HTK.out] at l8
  simp only [ptrO, Option.map] at l8
  have CS1 := Lib.hid (CS.out W0 hb0)
  have HR0 := Lib.hid R0
  have HB0 := Lib.hid hb0
  clear R0 k14 k0 hb0
  go_wp2_with fail
  refine CS1.out.mono ?_
  rintro r1 W2 ⟨rfl, c1, hsa, hf⟩
  have R2 := HR0.out.pool hsa hf
  have F2 := (Fc.of_below (S := TA) (c := c) HB0.out).trans (hf.mono (T := TA) fun i e => T4_TA e)
  have m44 := R2.rb.st t HT.out
  have m44f := R2.rb.fz (44 + t)
  have HR2 := Lib.hid R2
  have HF2 := Lib.hid F2
  clear hsa hf R2 F2 l8 CS1 HR0
  go_wp2_with fail
  go_region
  have R3 := (HR2.out.set_st HT.out 3).below (bel_drew (Below.refl _ _))
  have F3 := (HF2.out.trans (Fc8 (b := b) (j := 44 + t) (v := .int .i64 3) HR2.out.cb)).then (bel_drew (Below.refl _ _))
  generalize (W2.setCell ⟨b, 44 + t, none⟩ (.int .i64 3)).drew = W3 at R3 F3 ⊢
  have n32 : W3.cell? ⟨b, 32 + r.h, none⟩ = some (.int .i64 ((sw r.h : Nat) : Int)) := R3.rb.sw r.h HH6.out
  have n26 := R3.rb.sk r.h HH6.out
  rw [HSK.out] at n26
  have n38 := R3.rb.sn t HT.out
  have n38f := R3.rb.fz (38 + t)
  have n44 := R3.rb.st t HT.out
  rw [set_same] at n44
  have n44f := R3.rb.fz (44 + t)
  have HR3 := Lib.hid R3
  have HF3 := Lib.hid F3
  clear R3 F3 m44 m44f HR2 HF2
  go_wp2_with fail
  go_quiet (fail)
  go_wp2
  go_ret
  have R5 := HR3.out.below (below_drewN (Below.refl _ _) nq)
  exact ⟨rfl, c1, _, _, _, _, _, _, _, _, _, _, _, R5.run HZ.out R5.sa (tkP_upd HX.out _ HTW.out).symm (gvP_upd HX.out _ HTW.out).symm rfl rfl rfl rfl (by rw [HS3.out]), HF3.out.then (below_drewN (Below.refl _ _) nq), (by rw [HGN.out]; simp only [HX.out]; rw [if_neg (fun q => by have := q.2; rw [upd_same] at this; cases this)]), (fun r' hr q _ => by rw [HX.out] at hr; cases hr; rw [HP.out] at q; exact absurd q (by decide)), fun r' q => by cases q; exact Vw.f (.inr HP.out) HE.out (fun r' q => by rw [upd_same] at q; cases q; exact HTW.out)⟩
set_option maxHeartbeats 2000000 in
theorem give_8s (h : RI K b w c S X a stk sw B of mn sk mine sn st) (hB : B ≤ 1000) (hx : X t = some r) (h0 : 0 < r.tw) (hp : r.pc = 8) (he : sn t = sw r.h) : Calls Try.prog 70 #[.pointer (some ⟨b, 0, none⟩), .int .i64 ((t : Nat) : Int)] w (AcP K b t (some r) w c S X stk mine sn sw B) := by
  have hxo := h.m.xo t r hx
  have ht := hxo.t6
  have hok := h.m.al.al.o t r hx
  have h6 := hok.h6
  obtain ⟨k1, k2', _, _⟩ := hok.g h0 hxo.pc
  have hof := hxo.of
  rw [if_neg (by omega)] at hof
  obtain ⟨hs3, tw1, _, g3, _⟩ := h.m.g8 hx hp (by omega)
  obtain ⟨rest, z0, z1, gn1, z3⟩ := g3 he
  have hswb := h.m.al.al.b r.h
  have hsl : (stk r.h).length ≤ 1024 := Nat.le_trans (nodup_len (tot K.g.t 6) (stk r.h) (h.m.al.al.i.nd r.h h6) fun m hm => ⟨(h.m.al.al.i.mem r.h h6 m hm).1, (h.m.al.al.i.mem r.h h6 m hm).2.1⟩) h.m.al.al.i.n1
  obtain ⟨gM, oM, cM, eM, lM1, lM2, _, _, _⟩ := (h.mr t ht).some (by rw [z0]; simp [nums])
  obtain ⟨ML, hML⟩ : ∃ ML, (nums (mine t)).length = ML + 1 := ⟨rest.length, by rw [z0]; simp [nums]⟩
  rw [hML] at eM lM1
  have CS := fun (W : World) (hb : Below w.heap.size w W) => stepGS (h.sa.below hb) h.m.al (by omega) hx h0 hxo.pc
  unfold StS at CS
  rw [hp] at CS
  have hgv : gvP X a t = some (a t) := by unfold gvP; rw [hx]; simp only [if_neg (show ¬ r.tw = 0 by omega)]
  have k14 := h.rb.of t ht
  rw [hof] at k14
  have k0 := h.rb.y
  have CHt := Ly.height_any h.sa.ly.at h.sa.ok ((r.tw : Nat) : Int)
  unfold Ly.hgE at CHt
  rw [show Ly.pk K.g.t ((r.tw : Nat) : Int) 6 = r.h from k2', if_pos h6] at CHt
  have i6 : (t : Int) < 6 := by omega
  have i0 : (0 : Int) ≤ (t : Int) := by omega
  obtain ⟨HH, hHH⟩ : ∃ HH, HH = ((r.h + 1 : Nat) : Int) := ⟨_, rfl⟩
  obtain ⟨TW, hTW⟩ : ∃ TW, TW = ((r.tw : Nat) : Int) := ⟨_, rfl⟩
  rw [← hHH, ← hTW] at CHt
  rw [← hTW] at k14
  have d1 : decide (HH < 1) = false := decide_eq_false (by omega)
  have d6 : decide (6 < HH) = false := decide_eq_false (by omega)
  have w1 : IntKind.i64.wrap (HH - 1) = (r.h : Int) := by rw [show HH - 1 = (r.h : Int) by omega]; exact IntWalk.i64_in _ (by omega)
  have w1' : wrap64 (HH - 1) = (r.h : Int) := by rw [show HH - 1 = (r.h : Int) by omega]; exact IntWalk.wrap64_in _ (by omega)
  have j6 : (r.h : Int) < 6 := by omega
  have j0 : (0 : Int) ≤ (r.h : Int) := by omega
  obtain ⟨AS, CP, hsk, hskc, hskn⟩ := (h.sr r.h h6).form
  obtain ⟨LN, hLN⟩ : ∃ LN, LN = (nums (stk r.h).reverse).length := ⟨_, rfl⟩
  rw [← hLN] at hsk
  have hst := h.m.sb t ht
  have ws : IntKind.i64.wrap (st t + 1) = st t + 1 := IntWalk.i64_in _ (by omega)
  have ws' : wrap64 (st t + 1) = st t + 1 := IntWalk.wrap64_in _ (by omega)
  have HI := Lib.hid h
  have HX := Lib.hid hx
  have HT := Lib.hid ht
  have HH6 := Lib.hid h6
  have HTK := Lib.hid hgv
  have H0 := Lib.hid h0
  have HP := Lib.hid hp
  have HTKN := Lib.hid (show tkP X a t = none by unfold tkP; rw [hx]; simp only [if_neg (show ¬ r.tw = 0 by omega)])
  have HTW := Lib.hid (show (step (pP K.g) S r).2.tw = r.tw from tw1)
  have HSK := Lib.hid hsk
  have HTWE := Lib.hid hTW
  have HLNE := Lib.hid hLN
  have HZ := Lib.hid z3
  have HZ1 := Lib.hid z1
  have HGN := Lib.hid gn1
  have HS3 := Lib.hid hs3
  have HEM := Lib.hid eM
  have HSL := Lib.hid hsl
  have HZ0 := Lib.hid z0
  obtain ⟨SW1, hSW1⟩ : ∃ v, v = ((sw r.h + 1 : Nat) : Int) := ⟨_, rfl⟩
  have HSW1 := Lib.hid hSW1
  have y6 : IntKind.i64.wrap (((sw r.h : Nat) : Int) + 1) = SW1 := by rw [hSW1]; rw [show (((sw r.h : Nat) : Int) + 1) = ((sw r.h + 1 : Nat) : Int) by omega]; exact IntWalk.i64_in _ (by omega)
  have y6' : wrap64 (((sw r.h : Nat) : Int) + 1) = SW1 := by rw [hSW1]; rw [show (((sw r.h : Nat) : Int) + 1) = ((sw r.h + 1 : Nat) : Int) by omega]; exact IntWalk.wrap64_in _ (by omega)
  by_cases hc : cM = 1
  · subst hc
    obtain rfl : ML = 0 := by omega
    have HR0E := Lib.hid (show rest = [] by have e := hML; rw [z0] at e; simp [nums] at e; first | exact e | exact List.eq_nil_of_length_eq_zero e)
    have y1 : (1 : Int) ≤ ((0 + 1 : Nat) : Int) := by omega
    have y2 : ((0 + 1 : Nat) : Int) ≤ ((1 : Nat) : Int) := by omega
    have y3 : 0 + 1 ≤ 1 := lM1
    have y4 : 1 ≤ 1 := by omega
    have v0 : (sn t == ((sw r.h : Nat) : Int)) = true := by simp [he]
    have v1 : decide (sn t = ((sw r.h : Nat) : Int)) = true := by simp [he]
    replace ws := ws.trans hs3
    replace ws' := ws'.trans hs3
    simp only [decide_eq_true z1] at CS
    replace CS := Lib.hid CS
    replace CHt := Lib.hid CHt
    clear h hxo hof hx hgv h0 hp hHH hst tw1 hB hsk hskc hskn hLN hok k1 k2' hTW z0 z1 z3 gn1 g3 he hs3 hswb hsl eM lM1 hML lM2 hSW1
    go_enter Try.func70, Try.ntmps70
    go_wp2_with fail
    refine CHt.out.mono ?_
    rintro r1 W0 ⟨rfl, hb0⟩
    have R0 := HI.out.rw.below hb0
    have l8 := R0.rb.gv t HT.out
    rw [HTK.out] at l8
    simp only [ptrO, Option.map] at l8
    have CS1 := Lib.hid (CS.out W0 hb0)
    have HR0 := Lib.hid R0
    have HB0 := Lib.hid hb0
    clear R0 k14 k0 hb0
    go_wp2_with fail
    refine CS1.out.mono ?_
    rintro r1 W2 ⟨rfl, c1, hsa, hf⟩
    have R2 := HR0.out.pool hsa hf
    have F2 := (Fc.of_below (S := TA) (c := c) HB0.out).trans (hf.mono (T := TA) fun i e => T4_TA e)
    have m44 := R2.rb.st t HT.out
    have m44f := R2.rb.fz (44 + t)
    have HR2 := Lib.hid R2
    have HF2 := Lib.hid F2
    clear hsa hf R2 F2 l8 CS1 HR0
    go_wp2_with fail
    go_region
    have R3 := (HR2.out.set_st HT.out 3).below (bel_drew (Below.refl _ _))
    have F3 := (HF2.out.trans (Fc8 (b := b) (j := 44 + t) (v := .int .i64 3) HR2.out.cb)).then (bel_drew (Below.refl _ _))
    generalize (W2.setCell ⟨b, 44 + t, none⟩ (.int .i64 3)).drew = W3 at R3 F3 ⊢
    have n32 : W3.cell? ⟨b, 32 + r.h, none⟩ = some (.int .i64 ((sw r.h : Nat) : Int)) := R3.rb.sw r.h HH6.out
    have n26 := R3.rb.sk r.h HH6.out
    rw [HSK.out] at n26
    have n38 := R3.rb.sn t HT.out
    have n38f := R3.rb.fz (38 + t)
    have n44 := R3.rb.st t HT.out
    rw [set_same] at n44
    have n44f := R3.rb.fz (44 + t)
    have HR3 := Lib.hid R3
    have HF3 := Lib.hid F3
    clear R3 F3 m44 m44f HR2 HF2
    go_wp2_with fail
    go_quiet (fail)
    have R4 := HR3.out.below (below_drewN (Below.refl _ _) nq)
    have F4 := HF3.out.then (below_drewN (Below.refl _ _) nq)
    generalize W3.drewN nq = W5 at R4 F4 ⊢
    have R5 := R4
    have F5 := F4
    have p26 := R5.rb.sk r.h HH6.out
    rw [HSK.out] at p26
    obtain ⟨W6, hW6⟩ : ∃ W : World, W = (W5.alloc (.cells #[.int .i64 TW] 3)).drew := ⟨_, rfl⟩
    have B6 : Below W5.heap.size W5 W6 := by rw [hW6]; exact bel_drew (bel_new (Below.refl _ _) _)
    have R6 := R5.below B6
    have HC6 := Lib.hid (show W6.cell? ⟨W5.heap.size, 0, none⟩ = some (.int .i64 TW) by rw [hW6]; exact World.cell?_alloc_new _ _ _ _)
    have HRO6 := Lib.hid (show Ro W6 c1 (10 + r.h) (.slice AS LN CP) (nums (stk r.h).reverse) by have := R6.sr r.h HH6.out; rw [HSK.out] at this; exact this)
    have q26 := R6.rb.sk r.h HH6.out
    have q26f := R6.rb.fz (26 + r.h)
    have hb8 : ∀ (W7 : World) (c2 : Nat → Nat), Fc (fun i => i = 10 + r.h) W6 c1 W7 c2 → W7.heap[b]? = W6.heap[b]? := fun _ _ hf => hf.keep R6.rb.lt (by rw [R6.cb]; omega)
    have HB8 := Lib.hid hb8
    have HR6 := Lib.hid R6
    have HF6 := Lib.hid (F5.then B6)
    have HL26 := Lib.hid (show (nums (stk r.h).reverse).length ≤ 2000 by have := HSL.out; simp [nums]; omega)
    rw [HSK.out] at q26
    have HW6 := Lib.hid hW6
    rw [← HLNE.out] at HL26
    clear R4 F4 R5 F5 R6 B6 hb8 hW6 n32 n26 n38 n38f n44 n44f HR3 HF3
    go_wp2_with fail
    go_region_law ((refine stepR rfl (.tmp 115) (.tmp 117) rfl _ c1 (10 + r.h) W5.heap.size _ (nums (stk r.h).reverse) TW (by rfl) (by rfl) (by rw [← HW6.out]; exact HC6.out) (by rw [← HW6.out]; exact HRO6.out) (by rw [← HLNE.out]; exact HL26.out) ?_; rw [← HW6.out, ← HLNE.out]; intro g7 o7 m7 W7 ro7 f67; have kb := HB8.out _ _ f67; have s26 := (World.cell?_of_block (a := ⟨b, 26 + r.h, none⟩) kb).trans q26; have s26f := (World.frozen?_of_block (a := ⟨b, 26 + r.h, none⟩) kb).trans q26f))
    all_goals
      have R8 := HR6.out.app_sk HH6.out ro7 f67
      have F8 := HF6.out.trans ((f67.mono (T := TA) fun i e => by unfold TA; have := HH6.out; omega).trans (Fc8 (b := b) (j := 26 + r.h) (v := .slice (some ⟨g7, o7, none⟩) (LN + 1) m7) ((f67.co _ HR6.out.rb.lt).trans HR6.out.cb)))
      generalize up c1 W6.heap.size (10 + r.h) = c2 at R8 F8
      generalize W7.setCell ⟨b, 26 + r.h, none⟩ (.slice (some ⟨g7, o7, none⟩) (LN + 1) m7) = W8 at R8 F8 ⊢
      have p20 := R8.rb.mn t HT.out
      rw [HEM.out] at p20
      have p20f := R8.rb.fz (20 + t)
      have hro := R8.mr t HT.out
      rw [HEM.out] at hro
      have hrow := hro.zero
      have HROW := Lib.hid hrow
      have HR8 := Lib.hid R8
      have HF8 := Lib.hid F8
      clear R8 F8 ro7 f67 kb s26 s26f q26 q26f p26 hro hrow
      go_wp2_with fail
      go_region
      have R9 := (HR8.out.set_mn HT.out _ _ HROW.out).below (bel_drew (Below.refl _ _))
      have F9 := (HF8.out.trans (Fc8 (b := b) (j := 20 + t) (v := .slice (some ⟨gM, oM, none⟩) 0 0) HR8.out.cb)).then (bel_drew (Below.refl _ _))
      generalize (W8.setCell ⟨b, 20 + t, none⟩ (.slice (some ⟨gM, oM, none⟩) 0 0)).drew = W9 at R9 F9 ⊢
      have p8 := R9.rb.gv t HT.out
      rw [HTK.out] at p8
      simp only [ptrO, Option.map] at p8
      have p8f := R9.rb.fz (8 + t)
      have R10 := R9.set_gv HT.out none
      have F10 := F9.trans (Fc8 (b := b) (j := 8 + t) (v := ptrO none) R9.cb)
      have n32 : (W9.setCell ⟨b, 8 + t, none⟩ (.pointer none)).cell? ⟨b, 32 + r.h, none⟩ = some (.int .i64 ((sw r.h : Nat) : Int)) := R10.rb.sw r.h HH6.out
      have n32f : (W9.setCell ⟨b, 8 + t, none⟩ (.pointer none)).frozen? ⟨b, 32 + r.h, none⟩ = false := R10.rb.fz (32 + r.h)
      have HR10 := Lib.hid R10
      have HF10 := Lib.hid F10
      clear R9 F9 R10 F10 HR8 HF8 p20 p20f
      go_wp2_with fail
      go_region
      go_wp2
      go_ret
      have R11 := (HR10.out.set_sw HH6.out SW1).below (bel_drew (Below.refl _ _))
      have F11 := (HF10.out.trans (Fc8 (b := b) (j := 32 + r.h) (v := .int .i64 SW1) HR10.out.cb)).then (bel_drew (Below.refl _ _))
      exact ⟨rfl, c2, _, del X t, _, _, _, _, _, _, _, _, _, R11.run HZ.out R11.sa.del (by rw [tkP_del, set_id _ _ _ HTKN.out]) (gvP_del (X := X) (a := a) (t := t)).symm (by rw [HTWE.out, ← set_rk]; simp [nums]) (by rw [← set_rm, HR0E.out]; rfl) (by rw [HSW1.out]; exact set_int ..) rfl (by rw [HS3.out]), F11, (by rw [HGN.out]; simp only [HX.out]; rw [if_pos ⟨H0.out, del_same ..⟩]), (fun r' hr q _ => by rw [HX.out] at hr; cases hr; rw [HP.out] at q; exact absurd q (by decide)), fun r' q => by cases q; exact Vw.g8 HP.out (del_same ..) HZ0.out⟩
  · have hc2 : ¬ (cM : Int) = 1 := by omega
    have hc3 : ¬ cM - 1 = 0 := by omega
    have y1 : (1 : Int) ≤ ((ML + 1 : Nat) : Int) := by omega
    have y2 : ((ML + 1 : Nat) : Int) ≤ (cM : Int) := by omega
    have y3 : ML + 1 ≤ cM := lM1
    have y4 : 1 ≤ cM := by omega
    have v0 : (sn t == ((sw r.h : Nat) : Int)) = true := by simp [he]
    have v1 : decide (sn t = ((sw r.h : Nat) : Int)) = true := by simp [he]
    replace ws := ws.trans hs3
    replace ws' := ws'.trans hs3
    simp only [decide_eq_true z1] at CS
    replace CS := Lib.hid CS
    replace CHt := Lib.hid CHt
    clear h hxo hof hx hgv h0 hp hHH hst tw1 hB hsk hskc hskn hLN hok k1 k2' hTW z0 z1 z3 gn1 g3 he hs3 hswb hsl eM lM1 lM2 hSW1
    go_enter Try.func70, Try.ntmps70
    go_wp2_with fail
    refine CHt.out.mono ?_
    rintro r1 W0 ⟨rfl, hb0⟩
    have R0 := HI.out.rw.below hb0
    have l8 := R0.rb.gv t HT.out
    rw [HTK.out] at l8
    simp only [ptrO, Option.map] at l8
    have CS1 := Lib.hid (CS.out W0 hb0)
    have HR0 := Lib.hid R0
    have HB0 := Lib.hid hb0
    clear R0 k14 k0 hb0
    go_wp2_with fail
    refine CS1.out.mono ?_
    rintro r1 W2 ⟨rfl, c1, hsa, hf⟩
    have R2 := HR0.out.pool hsa hf
    have F2 := (Fc.of_below (S := TA) (c := c) HB0.out).trans (hf.mono (T := TA) fun i e => T4_TA e)
    have m44 := R2.rb.st t HT.out
    have m44f := R2.rb.fz (44 + t)
    have HR2 := Lib.hid R2
    have HF2 := Lib.hid F2
    clear hsa hf R2 F2 l8 CS1 HR0
    go_wp2_with fail
    go_region
    have R3 := (HR2.out.set_st HT.out 3).below (bel_drew (Below.refl _ _))
    have F3 := (HF2.out.trans (Fc8 (b := b) (j := 44 + t) (v := .int .i64 3) HR2.out.cb)).then (bel_drew (Below.refl _ _))
    generalize (W2.setCell ⟨b, 44 + t, none⟩ (.int .i64 3)).drew = W3 at R3 F3 ⊢
    have n32 : W3.cell? ⟨b, 32 + r.h, none⟩ = some (.int .i64 ((sw r.h : Nat) : Int)) := R3.rb.sw r.h HH6.out
    have n26 := R3.rb.sk r.h HH6.out
    rw [HSK.out] at n26
    have n38 := R3.rb.sn t HT.out
    have n38f := R3.rb.fz (38 + t)
    have n44 := R3.rb.st t HT.out
    rw [set_same] at n44
    have n44f := R3.rb.fz (44 + t)
    have HR3 := Lib.hid R3
    have HF3 := Lib.hid F3
    clear R3 F3 m44 m44f HR2 HF2
    go_wp2_with fail
    go_quiet (fail)
    have R4 := HR3.out.below (below_drewN (Below.refl _ _) nq)
    have F4 := HF3.out.then (below_drewN (Below.refl _ _) nq)
    generalize W3.drewN nq = W5 at R4 F4 ⊢
    have R5 := R4
    have F5 := F4
    have p26 := R5.rb.sk r.h HH6.out
    rw [HSK.out] at p26
    obtain ⟨W6, hW6⟩ : ∃ W : World, W = (W5.alloc (.cells #[.int .i64 TW] 3)).drew := ⟨_, rfl⟩
    have B6 : Below W5.heap.size W5 W6 := by rw [hW6]; exact bel_drew (bel_new (Below.refl _ _) _)
    have R6 := R5.below B6
    have HC6 := Lib.hid (show W6.cell? ⟨W5.heap.size, 0, none⟩ = some (.int .i64 TW) by rw [hW6]; exact World.cell?_alloc_new _ _ _ _)
    have HRO6 := Lib.hid (show Ro W6 c1 (10 + r.h) (.slice AS LN CP) (nums (stk r.h).reverse) by have := R6.sr r.h HH6.out; rw [HSK.out] at this; exact this)
    have q26 := R6.rb.sk r.h HH6.out
    have q26f := R6.rb.fz (26 + r.h)
    have hb8 : ∀ (W7 : World) (c2 : Nat → Nat), Fc (fun i => i = 10 + r.h) W6 c1 W7 c2 → W7.heap[b]? = W6.heap[b]? := fun _ _ hf => hf.keep R6.rb.lt (by rw [R6.cb]; omega)
    have HB8 := Lib.hid hb8
    have HR6 := Lib.hid R6
    have HF6 := Lib.hid (F5.then B6)
    have HL26 := Lib.hid (show (nums (stk r.h).reverse).length ≤ 2000 by have := HSL.out; simp [nums]; omega)
    rw [HSK.out] at q26
    have HW6 := Lib.hid hW6
    rw [← HLNE.out] at HL26
    clear R4 F4 R5 F5 R6 B6 hb8 hW6 n32 n26 n38 n38f n44 n44f HR3 HF3
    go_wp2_with fail
    go_region_law ((refine stepR rfl (.tmp 115) (.tmp 117) rfl _ c1 (10 + r.h) W5.heap.size _ (nums (stk r.h).reverse) TW (by rfl) (by rfl) (by rw [← HW6.out]; exact HC6.out) (by rw [← HW6.out]; exact HRO6.out) (by rw [← HLNE.out]; exact HL26.out) ?_; rw [← HW6.out, ← HLNE.out]; intro g7 o7 m7 W7 ro7 f67; have kb := HB8.out _ _ f67; have s26 := (World.cell?_of_block (a := ⟨b, 26 + r.h, none⟩) kb).trans q26; have s26f := (World.frozen?_of_block (a := ⟨b, 26 + r.h, none⟩) kb).trans q26f))
    all_goals
      have R8 := HR6.out.app_sk HH6.out ro7 f67
      have F8 := HF6.out.trans ((f67.mono (T := TA) fun i e => by unfold TA; have := HH6.out; omega).trans (Fc8 (b := b) (j := 26 + r.h) (v := .slice (some ⟨g7, o7, none⟩) (LN + 1) m7) ((f67.co _ HR6.out.rb.lt).trans HR6.out.cb)))
      generalize up c1 W6.heap.size (10 + r.h) = c2 at R8 F8
      generalize W7.setCell ⟨b, 26 + r.h, none⟩ (.slice (some ⟨g7, o7, none⟩) (LN + 1) m7) = W8 at R8 F8 ⊢
      have p20 := R8.rb.mn t HT.out
      rw [HEM.out] at p20
      have p20f := R8.rb.fz (20 + t)
      have hro := R8.mr t HT.out
      rw [HEM.out] at hro
      have hrow := (hro.at.2.2.2.2 ML rfl).2
      have HROW := Lib.hid hrow
      have HR8 := Lib.hid R8
      have HF8 := Lib.hid F8
      clear R8 F8 ro7 f67 kb s26 s26f q26 q26f p26 hro hrow
      go_wp2_with fail
      go_region
      have R9 := (HR8.out.set_mn HT.out _ _ HROW.out).below (bel_drew (Below.refl _ _))
      have F9 := (HF8.out.trans (Fc8 (b := b) (j := 20 + t) (v := .slice (some ⟨gM, oM + 1, none⟩) ML (cM - 1)) HR8.out.cb)).then (bel_drew (Below.refl _ _))
      generalize (W8.setCell ⟨b, 20 + t, none⟩ (.slice (some ⟨gM, oM + 1, none⟩) ML (cM - 1))).drew = W9 at R9 F9 ⊢
      have p8 := R9.rb.gv t HT.out
      rw [HTK.out] at p8
      simp only [ptrO, Option.map] at p8
      have p8f := R9.rb.fz (8 + t)
      have R10 := R9.set_gv HT.out none
      have F10 := F9.trans (Fc8 (b := b) (j := 8 + t) (v := ptrO none) R9.cb)
      have n32 : (W9.setCell ⟨b, 8 + t, none⟩ (.pointer none)).cell? ⟨b, 32 + r.h, none⟩ = some (.int .i64 ((sw r.h : Nat) : Int)) := R10.rb.sw r.h HH6.out
      have n32f : (W9.setCell ⟨b, 8 + t, none⟩ (.pointer none)).frozen? ⟨b, 32 + r.h, none⟩ = false := R10.rb.fz (32 + r.h)
      have HR10 := Lib.hid R10
      have HF10 := Lib.hid F10
      clear R9 F9 R10 F10 HR8 HF8 p20 p20f
      go_wp2_with fail
      go_region
      go_wp2
      go_ret
      have R11 := (HR10.out.set_sw HH6.out SW1).below (bel_drew (Below.refl _ _))
      have F11 := (HF10.out.trans (Fc8 (b := b) (j := 32 + r.h) (v := .int .i64 SW1) HR10.out.cb)).then (bel_drew (Below.refl _ _))
      exact ⟨rfl, c2, _, del X t, _, _, _, _, _, _, _, _, _, R11.run HZ.out R11.sa.del (by rw [tkP_del, set_id _ _ _ HTKN.out]) (gvP_del (X := X) (a := a) (t := t)).symm (by rw [HTWE.out, ← set_rk]; simp [nums]) (by rw [← set_rm]; rw [HZ0.out]; rfl) (by rw [HSW1.out]; exact set_int ..) rfl (by rw [HS3.out]), F11, (by rw [HGN.out]; simp only [HX.out]; rw [if_pos ⟨H0.out, del_same ..⟩]), (fun r' hr q _ => by rw [HX.out] at hr; cases hr; rw [HP.out] at q; exact absurd q (by decide)), fun r' q => by cases q; exact Vw.g8 HP.out (del_same ..) HZ0.out⟩
end
end Po
end Go.Proofs.Ytcipjjchclpgnaa
