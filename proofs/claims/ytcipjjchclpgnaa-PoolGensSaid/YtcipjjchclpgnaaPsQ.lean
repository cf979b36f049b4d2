/- take of a run of leapfroglaw14: contracts of the translated code, one for each case. Conditions: the run's invariant. (Written by tools/mkps8.py.) -/
import Derived.Test.YtcipjjchclpgnaaPsJ
namespace Go.Proofs.Ytcipjjchclpgnaa
open Go.RowKit Go.Sort
set_option linter.unusedVariables false
set_option linter.unusedSimpArgs false
set_option maxRecDepth 100000
namespace Po
open Wd
open Ly (Ge tot pP pK pW pk Cf LyAt KI)
open Dm (addr_lit info_parts spot_none RdK flatU infoU bel_alloc bel_trans own_keep below_drewN)
/-- what a step of a thread leaves: of its operation ro -/
def AcP (K : Kc) (b t : Nat) (ro : Option Op) (w : World) (c : Nat → Nat) (S : Pm) (X : Nat → Option Op) (stk mine : Nat → List Nat) (sn : Nat → Int) (sw : Nat → Nat) (B : Nat) (e : Ending) (w' : World) : Prop :=
  e = .returned (.bool true) ∧ ∃ c' S' X' a' stk' sw' of' mn' sk' mine' sn' st', RI K b w' c' S' X' a' stk' sw' (B + 1) of' mn' sk' mine' sn' st' ∧ Fc TA w c w' c' ∧ S'.gn = (match X t with | some r => if 0 < r.tw ∧ X' t = none then set S.gn r.tw (S.gn r.tw + 1) else S.gn | none => S.gn) ∧ (∀ r, X t = some r → r.pc = 4 → 0 < r.tw → X' t ≠ none) ∧ (∀ r, ro = some r → Vw r t stk mine sn sw X' stk' mine' sn' sw')
section
variable {K : Kc} {b : Nat} {w : World} {c : Nat → Nat} {S : Pm} {X : Nat → Option Op} {a : Nat → Nat} {stk : Nat → List Nat} {sw : Nat → Nat} {B : Nat} {of : Nat → Int} {mn sk : Nat → Value} {mine : Nat → List Nat} {sn st : Nat → Int} {t : Nat} {r : Op}
set_option maxHeartbeats 2000000 in
theorem take_4e (h : RI K b w c S X a stk sw B of mn sk mine sn st) (hB : B ≤ 1000) (hx : X t = some r) (h0 : r.tw = 0) (hp : r.pc = 4) (he : stk r.h = []) : Calls Try.prog 69 #[.pointer (some ⟨b, 0, none⟩), .int .i64 ((t : Nat) : Int)] w (AcP K b t (some r) w c S X stk mine sn sw B) := by
  have hxo := h.m.xo t r hx
  have ht := hxo.t6
  have h6 := (h.m.al.al.o t r hx).h6
  have hof := hxo.of
  rw [if_pos h0] at hof
  obtain ⟨gn1, tw1, g3, _⟩ := h.m.t4 hx h0 hp
  obtain ⟨z1, z2, z3⟩ := g3 he
  have CS := stepTS h.sa h.m.al (by omega) hx h0 hxo.pc
  unfold StS at CS
  rw [hp] at CS
  have htk : tkP X a t = some (a t) := by unfold tkP; rw [hx]; simp only [if_pos h0]
  have k2 := h.rb.tk t ht
  have k14 := h.rb.of t ht
  rw [htk] at k2
  rw [hof] at k14
  have i6 : (t : Int) < 6 := by omega
  have i0 : (0 : Int) ≤ (t : Int) := by omega
  obtain ⟨HH, hHH⟩ : ∃ HH, HH = ((r.h + 1 : Nat) : Int) := ⟨_, rfl⟩
  rw [← hHH] at k14
  have w1 : IntKind.i64.wrap (HH - 1) = (r.h : Int) := by rw [show HH - 1 = (r.h : Int) by omega]; exact IntWalk.i64_in _ (by omega)
  have w1' : wrap64 (HH - 1) = (r.h : Int) := by rw [show HH - 1 = (r.h : Int) by omega]; exact IntWalk.wrap64_in _ (by omega)
  have j6 : (r.h : Int) < 6 := by omega
  obtain ⟨AS, CP, hsk, hskc, hskn⟩ := (h.sr r.h h6).form
  obtain ⟨LN, hLN⟩ : ∃ LN, LN = (nums (stk r.h).reverse).length := ⟨_, rfl⟩
  rw [← hLN] at hsk
  have hLN2 : LN = (stk r.h).length := by rw [hLN]; simp [nums]
  have j0 : (0 : Int) ≤ (r.h : Int) := by omega
  have hst := h.m.sb t ht
  have ws : IntKind.i64.wrap (st t + 1) = st t + 1 := IntWalk.i64_in _ (by omega)
  have ws' : wrap64 (st t + 1) = st t + 1 := IntWalk.wrap64_in _ (by omega)
  have HB := Lib.hid hB
  have HP := Lib.hid hp
  have HI := Lib.hid h
  have HX := Lib.hid hx
  have HT := Lib.hid ht
  have HH6 := Lib.hid h6
  have HTK := Lib.hid htk
  have H0 := Lib.hid h0
  have HGN := Lib.hid gn1
  have HGV := Lib.hid (show gvP X a t = none by unfold gvP; rw [hx]; simp only [if_pos h0])
  have HTW := Lib.hid (show (step (pP K.g) S r).2.tw = r.tw from tw1.trans (by first | rfl | exact h0.symm))
  have HSK := Lib.hid hsk
  simp only [ptrO, Option.map] at k2
  have HZ := Lib.hid z3
  have HE := Lib.hid he
  have hl0 : LN = 0 := by rw [hLN2, he]; rfl
  subst hl0
  have HZ1 := Lib.hid z1
  have HZ2 := Lib.hid z2
  rw [decide_eq_true z1] at CS
  replace CS := Lib.hid CS
  clear h hxo hof hx htk h0 hp hHH hst gn1 tw1 hB hsk hskc hskn hLN hLN2 z1 z2 z3 g3 he
  go_enter Try.func69, Try.ntmps69
  go_wp2_with fail
  refine CS.out.mono ?_
  rintro r1 W1 ⟨rfl, c1, hsa, hf⟩
  have R1 := HI.out.rw.pool hsa hf
  have FA := hf.mono (T := TA) fun i e => T4_TA e
  have l2 := R1.rb.tk t HT.out
  rw [HTK.out] at l2
  simp only [ptrO, Option.map] at l2
  have CR := resTS_end hsa (upd_same ..) HZ1.out (HTW.out.trans H0.out)
  rw [HZ2.out] at CR
  replace CR := Lib.hid CR
  have HR1 := Lib.hid R1
  have HFA := Lib.hid FA
  clear hsa hf R1 FA k2 k14
  go_wp2_with fail
  refine CR.out.mono ?_
  rintro r1 W2 ⟨rfl, hb⟩
  have R2 := HR1.out.below hb
  have F2 := HFA.out.then hb
  have m44 := R2.rb.st t HT.out
  have m44f := R2.rb.fz (44 + t)
  have HR2 := Lib.hid R2
  have HF2 := Lib.hid F2
  clear R2 F2 hb l2 CR HR1
  go_wp2_with fail
  go_region
  have R3 := (HR2.out.set_st HT.out (st t + 1)).below (bel_drew (Below.refl _ _))
  have F3 := (HF2.out.trans (Fc8 (b := b) (j := 44 + t) (v := .int .i64 (st t + 1)) HR2.out.cb)).then (bel_drew (Below.refl _ _))
  generalize (W2.setCell ⟨b, 44 + t, none⟩ (.int .i64 (st t + 1))).drew = W3 at R3 F3 ⊢
  have n32 : W3.cell? ⟨b, 32 + r.h, none⟩ = some (.int .i64 ((sw r.h : Nat) : Int)) := R3.rb.sw r.h HH6.out
  have n26 := R3.rb.sk r.h HH6.out
  rw [HSK.out] at n26
  have n38 := R3.rb.sn t HT.out
  have n38f := R3.rb.fz (38 + t)
  have n44 := R3.rb.st t HT.out
  rw [set_same] at n44
  have n44f := R3.rb.fz (44 + t)
  have HR3 := Lib.hid R3
  have HF3 := Lib.hid F3
  clear R3 F3 m44 m44f HR2 HF2
  go_wp2_with fail
  go_region
  have R4 := ((HR3.out.set_sn HT.out ((sw r.h : Nat) : Int)).set_st HT.out 1).below (bel_drew (Below.refl _ _))
  have F4 := ((HF3.out.trans (Fc8 (b := b) (j := 38 + t) (v := .int .i64 ((sw r.h : Nat) : Int)) HR3.out.cb)).trans (Fc8 (b := b) (j := 44 + t) (v := .int .i64 1) HR3.out.cb)).then (bel_drew (Below.refl _ _))
  generalize ((W3.setCell ⟨b, 38 + t, none⟩ (.int .i64 ((sw r.h : Nat) : Int))).setCell ⟨b, 44 + t, none⟩ (.int .i64 1)).drew = W4 at R4 F4 ⊢
  have p26 := R4.rb.sk r.h HH6.out
  rw [HSK.out] at p26
  have p2 := R4.rb.tk t HT.out
  rw [HTK.out] at p2
  simp only [ptrO, Option.map] at p2
  have p2f := R4.rb.fz (2 + t)
  have HR4 := Lib.hid R4
  have HF4 := Lib.hid F4
  clear R4 F4 n32 n26 n38 n38f n44 n44f HR3 HF3
  go_wp2_with fail
  go_wp2
  go_ret
  have R5 := HR4.out.set_tk HT.out none
  exact ⟨rfl, c1, _, del X t, _, _, _, _, _, _, _, _, _, R5.run HZ.out R5.sa.del (tkP_del (X := X) (a := a) (t := t)).symm (by rw [gvP_del, set_id _ _ _ HGV.out]) rfl rfl rfl rfl (set_set ..), HF4.out.trans (Fc8 HR4.out.cb), (by rw [HGN.out]; simp only [HX.out, H0.out]; rw [if_neg (fun q => Nat.lt_irrefl 0 q.1)]), (fun r' hr _ q => by rw [HX.out] at hr; cases hr; rw [H0.out] at q; exact absurd q (Nat.lt_irrefl 0)), fun r' q => by cases q; exact Vw.e4 H0.out HE.out HP.out (del_same ..)⟩
set_option maxHeartbeats 2000000 in
theorem take_4n (h : RI K b w c S X a stk sw B of mn sk mine sn st) (hB : B ≤ 1000) (hx : X t = some r) (h0 : r.tw = 0) (hp : r.pc = 4) (he : stk r.h ≠ []) : Calls Try.prog 69 #[.pointer (some ⟨b, 0, none⟩), .int .i64 ((t : Nat) : Int)] w (AcP K b t (some r) w c S X stk mine sn sw B) := by
  have hxo := h.m.xo t r hx
  have ht := hxo.t6
  have h6 := (h.m.al.al.o t r hx).h6
  have hof := hxo.of
  rw [if_pos h0] at hof
  obtain ⟨gn1, tw1, _, g3⟩ := h.m.t4 hx h0 hp
  obtain ⟨z1, z3⟩ := g3 he
  have CS := stepTS h.sa h.m.al (by omega) hx h0 hxo.pc
  unfold StS at CS
  rw [hp] at CS
  have htk : tkP X a t = some (a t) := by unfold tkP; rw [hx]; simp only [if_pos h0]
  have k2 := h.rb.tk t ht
  have k14 := h.rb.of t ht
  rw [htk] at k2
  rw [hof] at k14
  have i6 : (t : Int) < 6 := by omega
  have i0 : (0 : Int) ≤ (t : Int) := by omega
  obtain ⟨HH, hHH⟩ : ∃ HH, HH = ((r.h + 1 : Nat) : Int) := ⟨_, rfl⟩
  rw [← hHH] at k14
  have w1 : IntKind.i64.wrap (HH - 1) = (r.h : Int) := by rw [show HH - 1 = (r.h : Int) by omega]; exact IntWalk.i64_in _ (by omega)
  have w1' : wrap64 (HH - 1) = (r.h : Int) := by rw [show HH - 1 = (r.h : Int) by omega]; exact IntWalk.wrap64_in _ (by omega)
  have j6 : (r.h : Int) < 6 := by omega
  obtain ⟨AS, CP, hsk, hskc, hskn⟩ := (h.sr r.h h6).form
  obtain ⟨LN, hLN⟩ : ∃ LN, LN = (nums (stk r.h).reverse).length := ⟨_, rfl⟩
  rw [← hLN] at hsk
  have hLN2 : LN = (stk r.h).length := by rw [hLN]; simp [nums]
  have j0 : (0 : Int) ≤ (r.h : Int) := by omega
  have hst := h.m.sb t ht
  have ws : IntKind.i64.wrap (st t + 1) = st t + 1 := IntWalk.i64_in _ (by omega)
  have ws' : wrap64 (st t + 1) = st t + 1 := IntWalk.wrap64_in _ (by omega)
  have HB := Lib.hid hB
  have HP := Lib.hid hp
  have HI := Lib.hid h
  have HX := Lib.hid hx
  have HT := Lib.hid ht
  have HH6 := Lib.hid h6
  have HTK := Lib.hid htk
  have H0 := Lib.hid h0
  have HGN := Lib.hid gn1
  have HGV := Lib.hid (show gvP X a t = none by unfold gvP; rw [hx]; simp only [if_pos h0])
  have HTW := Lib.hid (show (step (pP K.g) S r).2.tw = r.tw from tw1.trans (by first | rfl | exact h0.symm))
  have HSK := Lib.hid hsk
  simp only [ptrO, Option.map] at k2
  have HZ := Lib.hid z3
  have HGO := Lib.hid (show Go1 (upd X t (step (pP K.g) S r).2) t (if r.tw = 0 then 5 else 7) r from Go1.upd (by rw [if_pos h0]; exact step_p4T _ _ _ h0 hp z1) (step_same ..).2.2.1 (step_same ..).2.1)
  have hl0 : 0 < LN := by rw [hLN2]; cases e : stk r.h with | nil => exact absurd e he | cons x l => simp
  have u0 : ((LN : Int) == 0) = false := by simp; omega
  have u1 : decide ((LN : Int) = 0) = false := decide_eq_false (by omega)
  have u2 : decide (LN = 0) = false := decide_eq_false (by omega)
  have HZ1 := Lib.hid z1
  rw [decide_eq_false z1] at CS
  replace CS := Lib.hid CS
  clear h hxo hof hx htk h0 hp hHH hst gn1 tw1 hB hsk hskc hskn hLN hLN2 z1 z3 g3 he hl0
  go_enter Try.func69, Try.ntmps69
  go_wp2_with fail
  refine CS.out.mono ?_
  rintro r1 W1 ⟨rfl, c1, hsa, hf⟩
  have R1 := HI.out.rw.pool hsa hf
  have FA := hf.mono (T := TA) fun i e => T4_TA e
  have l2 := R1.rb.tk t HT.out
  rw [HTK.out] at l2
  simp only [ptrO, Option.map] at l2
  have CR := Lib.hid (((resTS_run hsa (upd_same ..) HZ1.out).mono fun e w' (q : _ ∧ w' = W1) => (⟨q.1, by rw [q.2]; exact Below.refl _ _⟩ : _ ∧ Below W1.heap.size W1 w')))
  have HR1 := Lib.hid R1
  have HFA := Lib.hid FA
  clear hsa hf R1 FA k2 k14
  go_wp2_with fail
  refine CR.out.mono ?_
  rintro r1 W2 ⟨rfl, hb⟩
  have R2 := HR1.out.below hb
  have F2 := HFA.out.then hb
  have m44 := R2.rb.st t HT.out
  have m44f := R2.rb.fz (44 + t)
  have HR2 := Lib.hid R2
  have HF2 := Lib.hid F2
  clear R2 F2 hb l2 CR HR1
  go_wp2_with fail
  go_region
  have R3 := (HR2.out.set_st HT.out (st t + 1)).below (bel_drew (Below.refl _ _))
  have F3 := (HF2.out.trans (Fc8 (b := b) (j := 44 + t) (v := .int .i64 (st t + 1)) HR2.out.cb)).then (bel_drew (Below.refl _ _))
  generalize (W2.setCell ⟨b, 44 + t, none⟩ (.int .i64 (st t + 1))).drew = W3 at R3 F3 ⊢
  have n32 : W3.cell? ⟨b, 32 + r.h, none⟩ = some (.int .i64 ((sw r.h : Nat) : Int)) := R3.rb.sw r.h HH6.out
  have n26 := R3.rb.sk r.h HH6.out
  rw [HSK.out] at n26
  have n38 := R3.rb.sn t HT.out
  have n38f := R3.rb.fz (38 + t)
  have n44 := R3.rb.st t HT.out
  rw [set_same] at n44
  have n44f := R3.rb.fz (44 + t)
  have HR3 := Lib.hid R3
  have HF3 := Lib.hid F3
  clear R3 F3 m44 m44f HR2 HF2
  go_wp2_with fail
  go_region
  have R4 := ((HR3.out.set_sn HT.out ((sw r.h : Nat) : Int)).set_st HT.out 1).below (bel_drew (Below.refl _ _))
  have F4 := ((HF3.out.trans (Fc8 (b := b) (j := 38 + t) (v := .int .i64 ((sw r.h : Nat) : Int)) HR3.out.cb)).trans (Fc8 (b := b) (j := 44 + t) (v := .int .i64 1) HR3.out.cb)).then (bel_drew (Below.refl _ _))
  generalize ((W3.setCell ⟨b, 38 + t, none⟩ (.int .i64 ((sw r.h : Nat) : Int))).setCell ⟨b, 44 + t, none⟩ (.int .i64 1)).drew = W4 at R4 F4 ⊢
  have p26 := R4.rb.sk r.h HH6.out
  rw [HSK.out] at p26
  have p2 := R4.rb.tk t HT.out
  rw [HTK.out] at p2
  simp only [ptrO, Option.map] at p2
  have p2f := R4.rb.fz (2 + t)
  have HR4 := Lib.hid R4
  have HF4 := Lib.hid F4
  clear R4 F4 n32 n26 n38 n38f n44 n44f HR3 HF3
  go_wp2
  go_ret
  have R5 := HR4.out
  exact ⟨rfl, c1, _, _, _, _, _, _, _, _, _, _, _, R5.run HZ.out R5.sa (tkP_upd HX.out _ HTW.out).symm (gvP_upd HX.out _ HTW.out).symm rfl rfl rfl rfl (set_set ..), HF4.out, (by rw [HGN.out]; simp only [HX.out, H0.out]; rw [if_neg (fun q => Nat.lt_irrefl 0 q.1)]), (fun r' hr _ q => by rw [HX.out] at hr; cases hr; rw [H0.out] at q; exact absurd q (Nat.lt_irrefl 0)), fun r' q => by cases q; exact Vw.g4 HP.out HGO.out (set_same ..)⟩
set_option maxHeartbeats 2000000 in
theorem take_5 (h : RI K b w c S X a stk sw B of mn sk mine sn st) (hB : B ≤ 1000) (hx : X t = some r) (h0 : r.tw = 0) (hp : r.pc = 5) : Calls Try.prog 69 #[.pointer (some ⟨b, 0, none⟩), .int .i64 ((t : Nat) : Int)] w (AcP K b t (some r) w c S X stk mine sn sw B) := by
  have hxo := h.m.xo t r hx
  have ht := hxo.t6
  have h6 := (h.m.al.al.o t r hx).h6
  have hof := hxo.of
  rw [if_pos h0] at hof
  obtain ⟨gn1, tw1, z1, z3⟩ := h.m.mid hx (.inl hp)
  have CS := stepTS h.sa h.m.al (by omega) hx h0 hxo.pc
  unfold StS at CS
  rw [hp] at CS
  have htk : tkP X a t = some (a t) := by unfold tkP; rw [hx]; simp only [if_pos h0]
  have k2 := h.rb.tk t ht
  have k14 := h.rb.of t ht
  rw [htk] at k2
  rw [hof] at k14
  have i6 : (t : Int) < 6 := by omega
  have i0 : (0 : Int) ≤ (t : Int) := by omega
  obtain ⟨HH, hHH⟩ : ∃ HH, HH = ((r.h + 1 : Nat) : Int) := ⟨_, rfl⟩
  rw [← hHH] at k14
  have w1 : IntKind.i64.wrap (HH - 1) = (r.h : Int) := by rw [show HH - 1 = (r.h : Int) by omega]; exact IntWalk.i64_in _ (by omega)
  have w1' : wrap64 (HH - 1) = (r.h : Int) := by rw [show HH - 1 = (r.h : Int) by omega]; exact IntWalk.wrap64_in _ (by omega)
  have j6 : (r.h : Int) < 6 := by omega
  obtain ⟨AS, CP, hsk, hskc, hskn⟩ := (h.sr r.h h6).form
  obtain ⟨LN, hLN⟩ : ∃ LN, LN = (nums (stk r.h).reverse).length := ⟨_, rfl⟩
  rw [← hLN] at hsk
  have hLN2 : LN = (stk r.h).length := by rw [hLN]; simp [nums]
  have j0 : (0 : Int) ≤ (r.h : Int) := by omega
  have hst := h.m.sb t ht
  have ws : IntKind.i64.wrap (st t + 1) = st t + 1 := IntWalk.i64_in _ (by omega)
  have ws' : wrap64 (st t + 1) = st t + 1 := IntWalk.wrap64_in _ (by omega)
  have HB := Lib.hid hB
  have HP := Lib.hid hp
  have HI := Lib.hid h
  have HX := Lib.hid hx
  have HT := Lib.hid ht
  have HH6 := Lib.hid h6
  have HTK := Lib.hid htk
  have H0 := Lib.hid h0
  have HGN := Lib.hid gn1
  have HGV := Lib.hid (show gvP X a t = none by unfold gvP; rw [hx]; simp only [if_pos h0])
  have HTW := Lib.hid (show (step (pP K.g) S r).2.tw = r.tw from tw1.trans (by first | rfl | exact h0.symm))
  have HSK := Lib.hid hsk
  simp only [ptrO, Option.map] at k2
  have HZ := Lib.hid z3
  have HZ1 := Lib.hid z1
  have HGO := Lib.hid (show Go1 (upd X t (step (pP K.g) S r).2) t (r.pc + 1) r from Go1.upd (step_p57 _ _ _ (.inl hp)) (step_same ..).2.2.1 (step_same ..).2.1)
  rw [decide_eq_false z1] at CS
  replace CS := Lib.hid CS
  clear h hxo hof hx htk h0 hp hHH hst gn1 tw1 hB hsk hskc hskn hLN hLN2 z1 z3
  go_enter Try.func69, Try.ntmps69
  go_wp2_with fail
  refine CS.out.mono ?_
  rintro r1 W1 ⟨rfl, c1, hsa, hf⟩
  have R1 := HI.out.rw.pool hsa hf
  have FA := hf.mono (T := TA) fun i e => T4_TA e
  have l2 := R1.rb.tk t HT.out
  rw [HTK.out] at l2
  simp only [ptrO, Option.map] at l2
  have CR := Lib.hid (((resTS_run hsa (upd_same ..) HZ1.out).mono fun e w' (q : _ ∧ w' = W1) => (⟨q.1, by rw [q.2]; exact Below.refl _ _⟩ : _ ∧ Below W1.heap.size W1 w')))
  have HR1 := Lib.hid R1
  have HFA := Lib.hid FA
  clear hsa hf R1 FA k2 k14
  go_wp2_with fail
  refine CR.out.mono ?_
  rintro r1 W2 ⟨rfl, hb⟩
  have R2 := HR1.out.below hb
  have F2 := HFA.out.then hb
  have m44 := R2.rb.st t HT.out
  have m44f := R2.rb.fz (44 + t)
  have HR2 := Lib.hid R2
  have HF2 := Lib.hid F2
  clear R2 F2 hb l2 CR HR1
  go_wp2_with fail
  go_region
  have R3 := (HR2.out.set_st HT.out (st t + 1)).below (bel_drew (Below.refl _ _))
  have F3 := (HF2.out.trans (Fc8 (b := b) (j := 44 + t) (v := .int .i64 (st t + 1)) HR2.out.cb)).then (bel_drew (Below.refl _ _))
  generalize (W2.setCell ⟨b, 44 + t, none⟩ (.int .i64 (st t + 1))).drew = W3 at R3 F3 ⊢
  have n32 : W3.cell? ⟨b, 32 + r.h, none⟩ = some (.int .i64 ((sw r.h : Nat) : Int)) := R3.rb.sw r.h HH6.out
  have n26 := R3.rb.sk r.h HH6.out
  rw [HSK.out] at n26
  have n38 := R3.rb.sn t HT.out
  have n38f := R3.rb.fz (38 + t)
  have n44 := R3.rb.st t HT.out
  rw [set_same] at n44
  have n44f := R3.rb.fz (44 + t)
  have HR3 := Lib.hid R3
  have HF3 := Lib.hid F3
  clear R3 F3 m44 m44f HR2 HF2
  go_wp2
  go_ret
  have R5 := HR3.out
  exact ⟨rfl, c1, _, _, _, _, _, _, _, _, _, _, _, R5.run HZ.out R5.sa (tkP_upd HX.out _ HTW.out).symm (gvP_upd HX.out _ HTW.out).symm rfl rfl rfl rfl rfl, HF3.out, (by rw [HGN.out]; simp only [HX.out, H0.out]; rw [if_neg (fun q => Nat.lt_irrefl 0 q.1)]), (fun r' hr _ q => by rw [HX.out] at hr; cases hr; rw [H0.out] at q; exact absurd q (Nat.lt_irrefl 0)), fun r' q => by cases q; exact Vw.m (.inl HP.out) HGO.out⟩
set_option maxHeartbeats 2000000 in
theorem take_6f (h : RI K b w c S X a stk sw B of mn sk mine sn st) (hB : B ≤ 1000) (hx : X t = some r) (h0 : r.tw = 0) (hp : r.pc = 6) (he : ¬ sn t = sw r.h) : Calls Try.prog 69 #[.pointer (some ⟨b, 0, none⟩), .int .i64 ((t : Nat) : Int)] w (AcP K b t (some r) w c S X stk mine sn sw B) := by
  have hxo := h.m.xo t r hx
  have ht := hxo.t6
  have h6 := (h.m.al.al.o t r hx).h6
  have hof := hxo.of
  rw [if_pos h0] at hof
  obtain ⟨hs3, gn1, tw1, _, g3⟩ := h.m.t6 hx hp (by omega)
  obtain ⟨z1, z3⟩ := g3 he
  have CS := stepTS h.sa h.m.al (by omega) hx h0 hxo.pc
  unfold StS at CS
  rw [hp] at CS
  have htk : tkP X a t = some (a t) := by unfold tkP; rw [hx]; simp only [if_pos h0]
  have k2 := h.rb.tk t ht
  have k14 := h.rb.of t ht
  rw [htk] at k2
  rw [hof] at k14
  have i6 : (t : Int) < 6 := by omega
  have i0 : (0 : Int) ≤ (t : Int) := by omega
  obtain ⟨HH, hHH⟩ : ∃ HH, HH = ((r.h + 1 : Nat) : Int) := ⟨_, rfl⟩
  rw [← hHH] at k14
  have w1 : IntKind.i64.wrap (HH - 1) = (r.h : Int) := by rw [show HH - 1 = (r.h : Int) by omega]; exact IntWalk.i64_in _ (by omega)
  have w1' : wrap64 (HH - 1) = (r.h : Int) := by rw [show HH - 1 = (r.h : Int) by omega]; exact IntWalk.wrap64_in _ (by omega)
  have j6 : (r.h : Int) < 6 := by omega
  obtain ⟨AS, CP, hsk, hskc, hskn⟩ := (h.sr r.h h6).form
  obtain ⟨LN, hLN⟩ : ∃ LN, LN = (nums (stk r.h).reverse).length := ⟨_, rfl⟩
  rw [← hLN] at hsk
  have hLN2 : LN = (stk r.h).length := by rw [hLN]; simp [nums]
  have j0 : (0 : Int) ≤ (r.h : Int) := by omega
  have hst := h.m.sb t ht
  have ws : IntKind.i64.wrap (st t + 1) = st t + 1 := IntWalk.i64_in _ (by omega)
  have ws' : wrap64 (st t + 1) = st t + 1 := IntWalk.wrap64_in _ (by omega)
  have HB := Lib.hid hB
  have HP := Lib.hid hp
  have HI := Lib.hid h
  have HX := Lib.hid hx
  have HT := Lib.hid ht
  have HH6 := Lib.hid h6
  have HTK := Lib.hid htk
  have H0 := Lib.hid h0
  have HGN := Lib.hid gn1
  have HGV := Lib.hid (show gvP X a t = none by unfold gvP; rw [hx]; simp only [if_pos h0])
  have HTW := Lib.hid (show (step (pP K.g) S r).2.tw = r.tw from tw1.trans (by first | rfl | exact h0.symm))
  have HSK := Lib.hid hsk
  simp only [ptrO, Option.map] at k2
  have HZ := Lib.hid z3
  have HZ1 := Lib.hid z1
  have HS3 := Lib.hid hs3
  have HE := Lib.hid he
  have v0 : (sn t == ((sw r.h : Nat) : Int)) = false := by simp [he]
  have v1 : decide (sn t = ((sw r.h : Nat) : Int)) = false := by simp [he]
  replace ws := ws.trans hs3
  replace ws' := ws'.trans hs3
  rw [decide_eq_false z1] at CS
  replace CS := Lib.hid CS
  clear h hxo hof hx htk h0 hp hHH hst gn1 tw1 hB hsk hskc hskn hLN hLN2 z1 z3 g3 he hs3
  go_enter Try.func69, Try.ntmps69
  go_wp2_with fail
  refine CS.out.mono ?_
  rintro r1 W1 ⟨rfl, c1, hsa, hf⟩
  have R1 := HI.out.rw.pool hsa hf
  have FA := hf.mono (T := TA) fun i e => T4_TA e
  have l2 := R1.rb.tk t HT.out
  rw [HTK.out] at l2
  simp only [ptrO, Option.map] at l2
  have CR := Lib.hid (((resTS_run hsa (upd_same ..) HZ1.out).mono fun e w' (q : _ ∧ w' = W1) => (⟨q.1, by rw [q.2]; exact Below.refl _ _⟩ : _ ∧ Below W1.heap.size W1 w')))
  have HR1 := Lib.hid R1
  have HFA := Lib.hid FA
  clear hsa hf R1 FA k2 k14
  go_wp2_with fail
  refine CR.out.mono ?_
  rintro r1 W2 ⟨rfl, hb⟩
  have R2 := HR1.out.below hb
  have F2 := HFA.out.then hb
  have m44 := R2.rb.st t HT.out
  have m44f := R2.rb.fz (44 + t)
  have HR2 := Lib.hid R2
  have HF2 := Lib.hid F2
  clear R2 F2 hb l2 CR HR1
  go_wp2_with fail
  go_region
  have R3 := (HR2.out.set_st HT.out 3).below (bel_drew (Below.refl _ _))
  have F3 := (HF2.out.trans (Fc8 (b := b) (j := 44 + t) (v := .int .i64 3) HR2.out.cb)).then (bel_drew (Below.refl _ _))
  generalize (W2.setCell ⟨b, 44 + t, none⟩ (.int .i64 3)).drew = W3 at R3 F3 ⊢
  have n32 : W3.cell? ⟨b, 32 + r.h, none⟩ = some (.int .i64 ((sw r.h : Nat) : Int)) := R3.rb.sw r.h HH6.out
  have n26 := R3.rb.sk r.h HH6.out
  rw [HSK.out] at n26
  have n38 := R3.rb.sn t HT.out
  have n38f := R3.rb.fz (38 + t)
  have n44 := R3.rb.st t HT.out
  rw [set_same] at n44
  have n44f := R3.rb.fz (44 + t)
  have HR3 := Lib.hid R3
  have HF3 := Lib.hid F3
  clear R3 F3 m44 m44f HR2 HF2
  go_wp2_with fail
  go_quiet (fail)
  go_wp2
  go_ret
  have R5 := HR3.out.below (below_drewN (Below.refl _ _) nq)
  exact ⟨rfl, c1, _, _, _, _, _, _, _, _, _, _, _, R5.run HZ.out R5.sa (tkP_upd HX.out _ HTW.out).symm (gvP_upd HX.out _ HTW.out).symm rfl rfl rfl rfl (by rw [HS3.out]), HF3.out.then (below_drewN (Below.refl _ _) nq), (by rw [HGN.out]; simp only [HX.out, H0.out]; rw [if_neg (fun q => Nat.lt_irrefl 0 q.1)]), (fun r' hr _ q => by rw [HX.out] at hr; cases hr; rw [H0.out] at q; exact absurd q (Nat.lt_irrefl 0)), fun r' q => by cases q; exact Vw.f (.inl HP.out) HE.out (fun r' q => by rw [upd_same] at q; cases q; exact HTW.out)⟩
set_option maxHeartbeats 2000000 in
theorem take_6s (h : RI K b w c S X a stk sw B of mn sk mine sn st) (hB : B ≤ 1000) (hx : X t = some r) (h0 : r.tw = 0) (hp : r.pc = 6) (he : sn t = sw r.h) : Calls Try.prog 69 #[.pointer (some ⟨b, 0, none⟩), .int .i64 ((t : Nat) : Int)] w (AcP K b t (some r) w c S X stk mine sn sw B) := by
  have hxo := h.m.xo t r hx
  have ht := hxo.t6
  have h6 := (h.m.al.al.o t r hx).h6
  have hof := hxo.of
  rw [if_pos h0] at hof
  obtain ⟨hs3, gn1, tw1, g3, _⟩ := h.m.t6 hx hp (by omega)
  obtain ⟨x, rest, z0, z1, z2, z4, z3⟩ := g3 he
  have hswb := h.m.al.al.b r.h
  have hml : (mine t).length ≤ 1024 := Nat.le_trans (nodup_len (tot K.g.t 6) (mine t) (h.m.nd t ht) fun m hm => ⟨(h.m.mi t ht m hm).1, (h.m.mi t ht m hm).2.1⟩) h.m.al.al.i.n1
  have hmn := h.mr t ht
  obtain ⟨gS, oS, cS, eS, lS1, lS2, cellS, rowS, _⟩ := (h.sr r.h h6).some (by rw [z0]; simp [nums])
  have CS := stepTS h.sa h.m.al (by omega) hx h0 hxo.pc
  unfold StS at CS
  rw [hp] at CS
  have htk : tkP X a t = some (a t) := by unfold tkP; rw [hx]; simp only [if_pos h0]
  have k2 := h.rb.tk t ht
  have k14 := h.rb.of t ht
  rw [htk] at k2
  rw [hof] at k14
  have i6 : (t : Int) < 6 := by omega
  have i0 : (0 : Int) ≤ (t : Int) := by omega
  obtain ⟨HH, hHH⟩ : ∃ HH, HH = ((r.h + 1 : Nat) : Int) := ⟨_, rfl⟩
  rw [← hHH] at k14
  have w1 : IntKind.i64.wrap (HH - 1) = (r.h : Int) := by rw [show HH - 1 = (r.h : Int) by omega]; exact IntWalk.i64_in _ (by omega)
  have w1' : wrap64 (HH - 1) = (r.h : Int) := by rw [show HH - 1 = (r.h : Int) by omega]; exact IntWalk.wrap64_in _ (by omega)
  have j6 : (r.h : Int) < 6 := by omega
  obtain ⟨AS, CP, hsk, hskc, hskn⟩ := (h.sr r.h h6).form
  obtain ⟨LN, hLN⟩ : ∃ LN, LN = (nums (stk r.h).reverse).length := ⟨_, rfl⟩
  rw [← hLN] at hsk
  have hLN2 : LN = (stk r.h).length := by rw [hLN]; simp [nums]
  have j0 : (0 : Int) ≤ (r.h : Int) := by omega
  have hst := h.m.sb t ht
  have ws : IntKind.i64.wrap (st t + 1) = st t + 1 := IntWalk.i64_in _ (by omega)
  have ws' : wrap64 (st t + 1) = st t + 1 := IntWalk.wrap64_in _ (by omega)
  have HB := Lib.hid hB
  have HP := Lib.hid hp
  have HI := Lib.hid h
  have HX := Lib.hid hx
  have HT := Lib.hid ht
  have HH6 := Lib.hid h6
  have HTK := Lib.hid htk
  have H0 := Lib.hid h0
  have HGN := Lib.hid gn1
  have HGV := Lib.hid (show gvP X a t = none by unfold gvP; rw [hx]; simp only [if_pos h0])
  have HTW := Lib.hid (show (step (pP K.g) S r).2.tw = r.tw from tw1.trans (by first | rfl | exact h0.symm))
  have HSK := Lib.hid hsk
  simp only [ptrO, Option.map] at k2
  have HZ := Lib.hid z3
  have HZ1 := Lib.hid z1
  have HZ2 := Lib.hid z2
  have HZ4 := Lib.hid z4
  have HS3 := Lib.hid hs3
  have HZ0 := Lib.hid z0
  have HML := Lib.hid hml
  have hLM : ∃ LM, LN = LM + 1 := ⟨rest.length, by rw [hLN2, z0]; rfl⟩
  obtain ⟨LM, hLM⟩ := hLM
  rw [← hLN] at eS lS1
  have u0 : ((LN : Int) == 0) = false := by simp; omega
  have u1 : decide ((LN : Int) = 0) = false := decide_eq_false (by omega)
  have u2 : decide (LN = 0) = false := decide_eq_false (by omega)
  have y1 : IntKind.i64.wrap ((LN : Int) - 1) = (LM : Int) := by rw [show (LN : Int) - 1 = (LM : Int) by omega]; exact IntWalk.i64_in _ (by unfold maxLen at lS2; omega)
  have y1' : wrap64 ((LN : Int) - 1) = (LM : Int) := by rw [show (LN : Int) - 1 = (LM : Int) by omega]; exact IntWalk.wrap64_in _ (by unfold maxLen at lS2; omega)
  have y2 : (LM : Int) < (LN : Int) := by omega
  have y3 : (0 : Int) ≤ (LM : Int) := by omega
  have y4 : (LM : Int) ≤ (cS : Int) := by omega
  have y5 : LM ≤ cS := by omega
  obtain ⟨SW1, hSW1⟩ : ∃ v, v = ((sw r.h + 1 : Nat) : Int) := ⟨_, rfl⟩
  have HSW1 := Lib.hid hSW1
  have y6 : IntKind.i64.wrap (((sw r.h : Nat) : Int) + 1) = SW1 := by rw [hSW1]; rw [show (((sw r.h : Nat) : Int) + 1) = ((sw r.h + 1 : Nat) : Int) by omega]; exact IntWalk.i64_in _ (by omega)
  have y6' : wrap64 (((sw r.h : Nat) : Int) + 1) = SW1 := by rw [hSW1]; rw [show (((sw r.h : Nat) : Int) + 1) = ((sw r.h + 1 : Nat) : Int) by omega]; exact IntWalk.wrap64_in _ (by omega)
  have HDL := Lib.hid (show (nums (stk r.h).reverse).dropLast = nums rest.reverse by rw [z0]; simp [nums])
  obtain ⟨XX, hXX⟩ : ∃ XX, XX = ((x : Nat) : Int) := ⟨_, rfl⟩
  have HXX := Lib.hid hXX
  have hcx : (nums (stk r.h).reverse)[LM]? = some XX := by
    have hl : LM = rest.length := by rw [z0] at hLN2; simp at hLN2; omega
    rw [z0, hl, hXX]; simp [nums]
  have HCX := Lib.hid hcx
  have HLM := Lib.hid hLM
  obtain ⟨AM, CM, hmv, _, _⟩ := hmn.form
  have HMV := Lib.hid hmv
  have HESK := Lib.hid eS
  replace HSK := HESK
  have v0 : (sn t == ((sw r.h : Nat) : Int)) = true := by simp [he]
  have v1 : decide (sn t = ((sw r.h : Nat) : Int)) = true := by simp [he]
  replace ws := ws.trans hs3
  replace ws' := ws'.trans hs3
  rw [decide_eq_true z1] at CS
  replace CS := Lib.hid CS
  clear h hxo hof hx htk h0 hp hHH hst gn1 tw1 hB hsk hskc hskn hLN hLN2 z0 z1 z2 z3 z4 g3 he hs3 hml hmn eS lS1 lS2 cellS rowS hcx hmv hXX hLM hswb hSW1 HESK
  go_enter Try.func69, Try.ntmps69
  go_wp2_with fail
  refine CS.out.mono ?_
  rintro r1 W1 ⟨rfl, c1, hsa, hf⟩
  have R1 := HI.out.rw.pool hsa hf
  have FA := hf.mono (T := TA) fun i e => T4_TA e
  have l2 := R1.rb.tk t HT.out
  rw [HTK.out] at l2
  simp only [ptrO, Option.map] at l2
  have CR := resTS_end hsa (upd_same ..) HZ1.out (HTW.out.trans H0.out)
  rw [HZ2.out, HZ4.out, ← HXX.out] at CR
  replace CR := Lib.hid CR

  have HR1 := Lib.hid R1
  have HFA := Lib.hid FA
  clear hsa hf R1 FA k2 k14
  go_wp2_with fail
  refine CR.out.mono ?_
  rintro r1 W2 ⟨rfl, hb⟩
  have R2 := HR1.out.below hb
  have F2 := HFA.out.then hb
  have m44 := R2.rb.st t HT.out
  have m44f := R2.rb.fz (44 + t)
  have HR2 := Lib.hid R2
  have HF2 := Lib.hid F2
  clear R2 F2 hb l2 CR HR1
  go_wp2_with fail
  go_region
  have R3 := (HR2.out.set_st HT.out 3).below (bel_drew (Below.refl _ _))
  have F3 := (HF2.out.trans (Fc8 (b := b) (j := 44 + t) (v := .int .i64 3) HR2.out.cb)).then (bel_drew (Below.refl _ _))
  generalize (W2.setCell ⟨b, 44 + t, none⟩ (.int .i64 3)).drew = W3 at R3 F3 ⊢
  have n32 : W3.cell? ⟨b, 32 + r.h, none⟩ = some (.int .i64 ((sw r.h : Nat) : Int)) := R3.rb.sw r.h HH6.out
  have n26 := R3.rb.sk r.h HH6.out
  rw [HSK.out] at n26
  have n38 := R3.rb.sn t HT.out
  have n38f := R3.rb.fz (38 + t)
  have n44 := R3.rb.st t HT.out
  rw [set_same] at n44
  have n44f := R3.rb.fz (44 + t)
  have HR3 := Lib.hid R3
  have HF3 := Lib.hid F3
  clear R3 F3 m44 m44f HR2 HF2
  go_wp2_with fail
  go_quiet (fail)
  have R4 := HR3.out.below (below_drewN (Below.refl _ _) nq)
  have F4 := HF3.out.then (below_drewN (Below.refl _ _) nq)
  generalize W3.drewN nq = W4 at R4 F4 ⊢
  have p26 := R4.rb.sk r.h HH6.out
  rw [HSK.out] at p26
  have p26f := R4.rb.fz (26 + r.h)
  have ro4 := R4.sr r.h HH6.out
  rw [HSK.out] at ro4
  have hcell := ro4.at.2.2.2.1 LM XX HCX.out
  have hrow := (ro4.at.2.2.2.2 LM HLM.out).1
  rw [HDL.out] at hrow
  have HR4 := Lib.hid R4
  have HF4 := Lib.hid F4
  have HROW := Lib.hid hrow
  clear R4 F4 ro4 hrow n32 n26 n38 n38f n44 n44f HR3 HF3
  go_wp2_with fail
  go_region
  have R5 := (HR4.out.set_sk HH6.out _ _ HROW.out).below (bel_drew (Below.refl _ _))
  have F5 := (HF4.out.trans (Fc8 (b := b) (j := 26 + r.h) (v := .slice (some ⟨gS, oS, none⟩) LM cS) HR4.out.cb)).then (bel_drew (Below.refl _ _))
  generalize (W4.setCell ⟨b, 26 + r.h, none⟩ (.slice (some ⟨gS, oS, none⟩) LM cS)).drew = W5 at R5 F5 ⊢
  have p20 := R5.rb.mn t HT.out
  rw [HMV.out] at p20
  obtain ⟨W6, hW6⟩ : ∃ W : World, W = (W5.alloc (.cells #[.int .i64 XX] 3)).drew := ⟨_, rfl⟩
  have B6 : Below W5.heap.size W5 W6 := by rw [hW6]; exact bel_drew (bel_new (Below.refl _ _) _)
  have R6 := R5.below B6
  have HC6 := Lib.hid (show W6.cell? ⟨W5.heap.size, 0, none⟩ = some (.int .i64 XX) by rw [hW6]; exact World.cell?_alloc_new _ _ _ _)
  have HRO6 := Lib.hid (show Ro W6 c1 (20 + t) (.slice AM (nums (mine t)).length CM) (nums (mine t)) by have := R6.mr t HT.out; rw [HMV.out] at this; exact this)
  have q20 := R6.rb.mn t HT.out
  have q20f := R6.rb.fz (20 + t)
  have q20l : (W5.alloc (.cells #[.int .i64 XX] 3)).cell? ⟨b, 20 + t, none⟩ = some (mn t) := (R5.below (bel_new (Below.refl _ _) _)).rb.mn t HT.out
  have hb8 : ∀ (W7 : World) (c2 : Nat → Nat), Fc (fun i => i = 20 + t) W6 c1 W7 c2 → W7.heap[b]? = W6.heap[b]? := fun _ _ hf => hf.keep R6.rb.lt (by rw [R6.cb]; omega)
  have HB8 := Lib.hid hb8
  have HR6 := Lib.hid R6
  have F6 := F5.then B6
  have HF6 := Lib.hid F6
  have HL20 := Lib.hid (show (nums (mine t)).length ≤ 2000 by have := HML.out; simp [nums]; omega)
  rw [HMV.out] at q20 q20l
  have HW6 := Lib.hid hW6
  clear R5 F5 R6 F6 B6 p26 p26f hcell HR4 HF4 hb8 hW6
  go_wp2_with fail
  go_region_law ((refine stepR rfl (.tmp 162) (.tmp 164) rfl _ c1 (20 + t) W5.heap.size _ (nums (mine t)) XX (by rfl) (by rfl) (by rw [← HW6.out]; exact HC6.out) (by rw [← HW6.out]; exact HRO6.out) HL20.out ?_; rw [← HW6.out]; intro g7 o7 m7 W7 ro7 f67; have kb := HB8.out _ _ f67; have s20 := (World.cell?_of_block (a := ⟨b, 20 + t, none⟩) kb).trans q20; have s20f := (World.frozen?_of_block (a := ⟨b, 20 + t, none⟩) kb).trans q20f))
  all_goals
    have R8 := HR6.out.app_mn HT.out ro7 f67
    have F8 := HF6.out.trans ((f67.mono (T := TA) fun i e => by unfold TA; have := HT.out; omega).trans (Fc8 (b := b) (j := 20 + t) (v := .slice (some ⟨g7, o7, none⟩) ((nums (mine t)).length + 1) m7) ((f67.co _ HR6.out.rb.lt).trans HR6.out.cb)))
    generalize up c1 W6.heap.size (20 + t) = c2 at R8 F8
    generalize W7.setCell ⟨b, 20 + t, none⟩ (.slice (some ⟨g7, o7, none⟩) ((nums (mine t)).length + 1) m7) = W8 at R8 F8 ⊢
    have n32 : W8.cell? ⟨b, 32 + r.h, none⟩ = some (.int .i64 ((sw r.h : Nat) : Int)) := R8.rb.sw r.h HH6.out
    have n32f := R8.rb.fz (32 + r.h)
    have HR8 := Lib.hid R8
    have HF8 := Lib.hid F8
    clear R8 F8 ro7 f67 kb s20 s20f q20 q20f p20
    go_wp2_with fail
    go_region
    have R9 := (HR8.out.set_sw HH6.out SW1).below (bel_drew (Below.refl _ _))
    have F9 := (HF8.out.trans (Fc8 (b := b) (j := 32 + r.h) (v := .int .i64 SW1) HR8.out.cb)).then (bel_drew (Below.refl _ _))
    generalize (W8.setCell ⟨b, 32 + r.h, none⟩ (.int .i64 SW1)).drew = W9 at R9 F9 ⊢
    have p2 := R9.rb.tk t HT.out
    rw [HTK.out] at p2
    simp only [ptrO, Option.map] at p2
    have p2f := R9.rb.fz (2 + t)
    have HR9 := Lib.hid R9
    have HF9 := Lib.hid F9
    clear R9 F9 n32 n32f HR8 HF8
    go_wp2
    go_ret
    have R10 := HR9.out.set_tk HT.out none
    exact ⟨rfl, c2, _, del X t, _, _, _, _, _, _, _, _, _, R10.run HZ.out R10.sa.del (tkP_del (X := X) (a := a) (t := t)).symm (by rw [gvP_del, set_id _ _ _ HGV.out]) (set_rk ..) (by rw [HXX.out, ← set_rm]; simp [nums]) (by rw [HSW1.out]; exact set_int ..) rfl (by rw [HS3.out]), HF9.out.trans (Fc8 HR9.out.cb), (by rw [HGN.out]; simp only [HX.out, H0.out]; rw [if_neg (fun q => Nat.lt_irrefl 0 q.1)]), (fun r' hr _ q => by rw [HX.out] at hr; cases hr; rw [H0.out] at q; exact absurd q (Nat.lt_irrefl 0)), fun r' q => by cases q; exact Vw.t6 HP.out (del_same ..) HZ0.out⟩
end
end Po
end Go.Proofs.Ytcipjjchclpgnaa
