/- act of a run of leapfroglaw14: contract of the translated code. Conditions: the run's invariant. (Written by tools/mkps10.py.) -/
import Derived.Test.YtcipjjchclpgnaaPsK
namespace Go.Proofs.Ytcipjjchclpgnaa
open Go.RowKit Go.Sort
set_option linter.unusedVariables false
set_option linter.unusedSimpArgs false
set_option maxRecDepth 100000
namespace Po
open Wd
open Ly (Ge tot pP pK pW pk Cf LyAt KI)
open Dm (addr_lit info_parts spot_none RdK flatU infoU bel_alloc bel_trans own_keep below_drewN)
section
variable {K : Kc} {b : Nat} {w : World} {c : Nat → Nat} {S : Pm} {X : Nat → Option Op} {a : Nat → Nat} {stk : Nat → List Nat} {sw : Nat → Nat} {B : Nat} {of : Nat → Int} {mn sk : Nat → Value} {mine : Nat → List Nat} {sn st : Nat → Int} {t : Nat} {r : Op}
theorem take_run (h : RI K b w c S X a stk sw B of mn sk mine sn st) (hB : B ≤ 1000) (hx : X t = some r) (h0 : r.tw = 0) : Calls Try.prog 69 #[.pointer (some ⟨b, 0, none⟩), .int .i64 ((t : Nat) : Int)] w (AcP K b t (some r) w c S X stk mine sn sw B) := by
  rcases (h.m.al.al.o t r hx).p with e | e | ⟨e, _⟩ | ⟨e, _⟩ | ⟨_, e, _⟩ | ⟨_, e, _⟩
  · exact absurd e (h.m.xo t r hx).pc
  · by_cases he : stk r.h = []
    · exact take_4e h hB hx h0 e he
    · exact take_4n h hB hx h0 e he
  · exact take_5 h hB hx h0 e
  · by_cases he : sn t = sw r.h
    · exact take_6s h hB hx h0 e he
    · exact take_6f h hB hx h0 e he
  · omega
  · omega
theorem give_run (h : RI K b w c S X a stk sw B of mn sk mine sn st) (hB : B ≤ 1000) (hx : X t = some r) (h0 : 0 < r.tw) : Calls Try.prog 70 #[.pointer (some ⟨b, 0, none⟩), .int .i64 ((t : Nat) : Int)] w (AcP K b t (some r) w c S X stk mine sn sw B) := by
  rcases (h.m.al.al.o t r hx).p with e | e | ⟨_, e, _⟩ | ⟨_, e, _⟩ | ⟨e, _⟩ | ⟨e, _⟩
  · exact absurd e (h.m.xo t r hx).pc
  · exact give_4 h hB hx h0 e
  · omega
  · omega
  · exact give_7 h hB hx h0 e
  · by_cases he : sn t = sw r.h
    · exact give_8s h hB hx h0 e he
    · exact give_8f h hB hx h0 e he
theorem AcP.of_new {c1 : Nat → Nat} {w1 : World} {S1 : Pm} {X1 : Nat → Option Op} {r0 : Op} (hx : X t = none) (h1 : X1 t = some r0) (h4 : r0.pc = 4) (hg : S1.gn = S.gn) (hf : Fc TA w c w1 c1) {e : Ending} {w' : World} (h : AcP K b t (some r0) w1 c1 S1 X1 stk mine sn sw B e w') : AcP K b t (some r0) w c S X stk mine sn sw B e w' := by
  obtain ⟨he, c2, S2, X2, a', stk', sw', of', mn', sk', mine', sn', st', hr, hf2, hgn, hnn, hv⟩ := h
  refine ⟨he, c2, S2, X2, a', stk', sw', of', mn', sk', mine', sn', st', hr, hf.trans hf2, ?_, (fun r hr => by rw [hx] at hr; cases hr), hv⟩
  rw [hgn]
  simp only [hx, h1]
  by_cases h0 : 0 < r0.tw
  · rw [if_neg (fun q => hnn r0 h1 h4 h0 q.2), hg]
  · rw [if_neg (fun q => h0 q.1), hg]
theorem act_take (h : RI K b w c S X a stk sw B of mn sk mine sn st) (hB : B ≤ 1000) (hx : X t = some r) (h0 : r.tw = 0) (g : Bool) (k : Int) : Calls Try.prog 54 #[.pointer (some ⟨b, 0, none⟩), .int .i64 ((t : Nat) : Int), .bool g, .int .i64 k] w (AcP K b t (some r) w c S X stk mine sn sw B) := by
  have ht := (h.m.xo t r hx).t6
  have CT := Lib.hid (take_run h hB hx h0)
  have k2 := h.rb.tk t ht
  rw [show tkP X a t = some (a t) by unfold tkP; rw [hx]; simp only [if_pos h0]] at k2
  simp only [ptrO, Option.map] at k2
  have i6 : (t : Int) < 6 := by omega
  have i0 : (0 : Int) ≤ (t : Int) := by omega
  clear h hx h0
  go_enter Try.func54, Try.ntmps54
  go_wp2_with fail
  refine CT.out.mono ?_
  rintro r1 w1 ⟨rfl, hp⟩
  go_wp2
  go_ret
  exact ⟨rfl, hp⟩
theorem act_give (h : RI K b w c S X a stk sw B of mn sk mine sn st) (hB : B ≤ 1000) (hx : X t = some r) (h0 : 0 < r.tw) (g : Bool) (k : Int) : Calls Try.prog 54 #[.pointer (some ⟨b, 0, none⟩), .int .i64 ((t : Nat) : Int), .bool g, .int .i64 k] w (AcP K b t (some r) w c S X stk mine sn sw B) := by
  have ht := (h.m.xo t r hx).t6
  have CT := Lib.hid (give_run h hB hx h0)
  have k2 := h.rb.tk t ht
  rw [show tkP X a t = none by unfold tkP; rw [hx]; simp only [if_neg (show ¬ r.tw = 0 by omega)]] at k2
  have k8 := h.rb.gv t ht
  rw [show gvP X a t = some (a t) by unfold gvP; rw [hx]; simp only [if_neg (show ¬ r.tw = 0 by omega)]] at k8
  simp only [ptrO, Option.map] at k2 k8
  have i6 : (t : Int) < 6 := by omega
  have i0 : (0 : Int) ≤ (t : Int) := by omega
  clear h hx h0
  go_enter Try.func54, Try.ntmps54
  go_wp2_with fail
  refine CT.out.mono ?_
  rintro r1 w1 ⟨rfl, hp⟩
  go_wp2
  go_ret
  exact ⟨rfl, hp⟩
set_option maxHeartbeats 1000000 in
theorem act_newT_no (h : RI K b w c S X a stk sw B of mn sk mine sn st) (hB : B ≤ 1000) (ht : t < 6) (hx : X t = none)  (k : Nat) (hk : k < 6) : Calls Try.prog 54 #[.pointer (some ⟨b, 0, none⟩), .int .i64 ((t : Nat) : Int), .bool false, .int .i64 ((k + 1 : Nat) : Int)] w (AcP K b t (some ⟨t, k, 0, 0, 4, 0, 0, 0, 0, 0⟩) w c S X stk mine sn sw B) := by
  have k2 := h.rb.tk t ht
  rw [show tkP X a t = none by unfold tkP; rw [hx]] at k2
  have k8 := h.rb.gv t ht
  rw [show gvP X a t = none by unfold gvP; rw [hx]] at k8
  have k14 := h.rb.of t ht
  have k14f := h.rb.fz (14 + t)
  simp only [ptrO, Option.map] at k2 k8
  have i6 : (t : Int) < 6 := by omega
  have i0 : (0 : Int) ≤ (t : Int) := by omega
  obtain ⟨HH, hHH⟩ : ∃ HH, HH = ((k + 1 : Nat) : Int) := ⟨_, rfl⟩
  rw [← hHH]
  obtain ⟨W1, hW1⟩ : ∃ W, W = w.setCell ⟨b, 14 + t, none⟩ (.int .i64 HH) := ⟨_, rfl⟩
  have R1 := h.rw.set_of ht HH
  rw [← hW1] at R1
  have F1 : Fc TA w c W1 c := by rw [hW1]; exact Fc8 h.cb
  have R1d := R1.below (bel_drew (Below.refl _ _))
  have CT := takeS R1d.sa hx ((t : Nat) : Int) HH 0
  unfold TkS at CT
  have e0 : tkE ((t : Nat) : Int) HH 0 = 0 := by unfold tkE; rw [if_pos (by omega), if_pos (by omega)]
  have CT2 : Calls Try.prog 14 #[.pointer (some ⟨K.x, 0, none⟩), .int .i64 ((t : Nat) : Int), .int .i64 HH, .int .i64 0] W1.drew fun e w' => ∃ y, e = .returned (.tuple #[.pointer (some ⟨y, 0, none⟩), .int .i64 0]) ∧ ∃ c', SA K w' c' S (upd X t ⟨t, k, 0, 0, 4, 0, 0, 0, 0, 0⟩) (upd2 a t y) ∧ Fc T4 W1.drew c w' c' := by
    refine CT.mono ?_
    rintro e w' (⟨q, _⟩ | ⟨_, p, b', d, y, q1, q2, q3, _, _, _, rfl, _, c', q4, q5, _⟩)
    · exact absurd e0 q
    · obtain rfl : p = t := by omega
      obtain rfl : b' = k := by omega
      obtain rfl : d = 0 := by omega
      exact ⟨y, rfl, c', q4, q5⟩
  have k1 := R1.rb.p
  have HC := Lib.hid CT2
  have HI := Lib.hid h
  have HX := Lib.hid hx
  have HT := Lib.hid ht
  have HB := Lib.hid hB
  have HR1 := Lib.hid R1
  have HRD := Lib.hid R1d
  have HF1 := Lib.hid F1
  have HK := Lib.hid hk
  have HHE := Lib.hid hHH
  have HW1 := Lib.hid hW1
  rw [hW1] at k1
  clear h hx R1 R1d F1 CT CT2 e0 hHH hW1 hB ht hk
  go_enter Try.func54, Try.ntmps54
  go_wp2_with fail
  rw [← HW1.out] at k1 ⊢
  go_region_held3 (fun w' => w'.cell? ⟨b, 1, none⟩ = some (.pointer (some ⟨K.x, 0, none⟩))) (first | exact k1 | with_reducible exact m1 | exact (oth (by omega)).trans m1) (first | (go_at_call 14; refine HC.out.mono ?_; rintro r1 W2 ⟨y, rfl, c2, hsa, hf⟩; have R2 := HRD.out.pool hsa hf; have m1 := R2.rb.p; have m2 := R2.rb.tk t HT.out; have m2f := R2.rb.fz (2 + t)))
  all_goals
    have R3 := R2.set_tk HT.out (some y)
    have F3 := ((HF1.out.then (bel_drew (Below.refl _ _))).trans (hf.mono (T := TA) fun i e => T4_TA e)).trans (Fc8 (b := b) (j := 2 + t) (v := ptrO (some y)) R2.cb)
    have RM1 := HI.out.m.newT HX.out HT.out HK.out
    rw [← HHE.out] at RM1
    have hri : RI K b _ c2 S (upd X t ⟨t, k, 0, 0, 4, 0, 0, 0, 0, 0⟩) (upd2 a t y) stk sw B (set of t HH) mn sk mine sn st := ⟨RM1, R3.sa, by rw [tkP_new HX.out _ y rfl, gvP_new HX.out _ y rfl]; exact R3.rb, R3.cb, R3.sr, R3.mr⟩
    have CTT := Lib.hid (take_run hri HB.out (upd_same ..) rfl)
    have k2 := hri.rb.tk t HT.out
    rw [tkP_new HX.out _ y rfl, set_same] at k2
    simp only [ptrO, Option.map] at k2
    have HF3 := Lib.hid F3
    clear hri R3 R2 F3 RM1 hsa hf
    go_wp2_with fail
    refine CTT.out.mono ?_
    rintro r1 w5 hp
    have HA := Lib.hid (AcP.of_new (S := S) HX.out (upd_same ..) rfl rfl HF3.out hp)
    obtain ⟨rfl, _⟩ := hp
    go_wp2
    go_ret
    exact HA.out
set_option maxHeartbeats 1000000 in
theorem act_newT_nil (h : RI K b w c S X a stk sw B of mn sk mine sn st) (hB : B ≤ 1000) (ht : t < 6) (hx : X t = none) (hm : mine t = []) (k : Nat) (hk : k < 6) : Calls Try.prog 54 #[.pointer (some ⟨b, 0, none⟩), .int .i64 ((t : Nat) : Int), .bool true, .int .i64 ((k + 1 : Nat) : Int)] w (AcP K b t (some ⟨t, k, 0, 0, 4, 0, 0, 0, 0, 0⟩) w c S X stk mine sn sw B) := by
  have k2 := h.rb.tk t ht
  rw [show tkP X a t = none by unfold tkP; rw [hx]] at k2
  have k8 := h.rb.gv t ht
  rw [show gvP X a t = none by unfold gvP; rw [hx]] at k8
  have k14 := h.rb.of t ht
  have k14f := h.rb.fz (14 + t)
  have k20 := h.rb.mn t ht
  obtain ⟨AM, CM, hmv, _, _⟩ := (h.mr t ht).form
  rw [hmv, hm] at k20
  simp only [nums, List.map_nil, List.length_nil] at k20
  simp only [ptrO, Option.map] at k2 k8
  have i6 : (t : Int) < 6 := by omega
  have i0 : (0 : Int) ≤ (t : Int) := by omega
  obtain ⟨HH, hHH⟩ : ∃ HH, HH = ((k + 1 : Nat) : Int) := ⟨_, rfl⟩
  rw [← hHH]
  obtain ⟨W1, hW1⟩ : ∃ W, W = w.setCell ⟨b, 14 + t, none⟩ (.int .i64 HH) := ⟨_, rfl⟩
  have R1 := h.rw.set_of ht HH
  rw [← hW1] at R1
  have F1 : Fc TA w c W1 c := by rw [hW1]; exact Fc8 h.cb
  have R1d := R1.below (bel_drew (Below.refl _ _))
  have CT := takeS R1d.sa hx ((t : Nat) : Int) HH 0
  unfold TkS at CT
  have e0 : tkE ((t : Nat) : Int) HH 0 = 0 := by unfold tkE; rw [if_pos (by omega), if_pos (by omega)]
  have CT2 : Calls Try.prog 14 #[.pointer (some ⟨K.x, 0, none⟩), .int .i64 ((t : Nat) : Int), .int .i64 HH, .int .i64 0] W1.drew fun e w' => ∃ y, e = .returned (.tuple #[.pointer (some ⟨y, 0, none⟩), .int .i64 0]) ∧ ∃ c', SA K w' c' S (upd X t ⟨t, k, 0, 0, 4, 0, 0, 0, 0, 0⟩) (upd2 a t y) ∧ Fc T4 W1.drew c w' c' := by
    refine CT.mono ?_
    rintro e w' (⟨q, _⟩ | ⟨_, p, b', d, y, q1, q2, q3, _, _, _, rfl, _, c', q4, q5, _⟩)
    · exact absurd e0 q
    · obtain rfl : p = t := by omega
      obtain rfl : b' = k := by omega
      obtain rfl : d = 0 := by omega
      exact ⟨y, rfl, c', q4, q5⟩
  have k1 := R1.rb.p
  have HC := Lib.hid CT2
  have HI := Lib.hid h
  have HX := Lib.hid hx
  have HT := Lib.hid ht
  have HB := Lib.hid hB
  have HR1 := Lib.hid R1
  have HRD := Lib.hid R1d
  have HF1 := Lib.hid F1
  have HK := Lib.hid hk
  have HHE := Lib.hid hHH
  have HW1 := Lib.hid hW1
  rw [hW1] at k1
  clear h hx R1 R1d F1 CT CT2 e0 hHH hW1 hB ht hk hmv hm
  go_enter Try.func54, Try.ntmps54
  go_wp2_with fail
  rw [← HW1.out] at k1 ⊢
  go_region_held3 (fun w' => w'.cell? ⟨b, 1, none⟩ = some (.pointer (some ⟨K.x, 0, none⟩))) (first | exact k1 | with_reducible exact m1 | exact (oth (by omega)).trans m1) (first | (go_at_call 14; refine HC.out.mono ?_; rintro r1 W2 ⟨y, rfl, c2, hsa, hf⟩; have R2 := HRD.out.pool hsa hf; have m1 := R2.rb.p; have m2 := R2.rb.tk t HT.out; have m2f := R2.rb.fz (2 + t)))
  all_goals
    have R3 := R2.set_tk HT.out (some y)
    have F3 := ((HF1.out.then (bel_drew (Below.refl _ _))).trans (hf.mono (T := TA) fun i e => T4_TA e)).trans (Fc8 (b := b) (j := 2 + t) (v := ptrO (some y)) R2.cb)
    have RM1 := HI.out.m.newT HX.out HT.out HK.out
    rw [← HHE.out] at RM1
    have hri : RI K b _ c2 S (upd X t ⟨t, k, 0, 0, 4, 0, 0, 0, 0, 0⟩) (upd2 a t y) stk sw B (set of t HH) mn sk mine sn st := ⟨RM1, R3.sa, by rw [tkP_new HX.out _ y rfl, gvP_new HX.out _ y rfl]; exact R3.rb, R3.cb, R3.sr, R3.mr⟩
    have CTT := Lib.hid (take_run hri HB.out (upd_same ..) rfl)
    have k2 := hri.rb.tk t HT.out
    rw [tkP_new HX.out _ y rfl, set_same] at k2
    simp only [ptrO, Option.map] at k2
    have HF3 := Lib.hid F3
    clear hri R3 R2 F3 RM1 hsa hf
    go_wp2_with fail
    refine CTT.out.mono ?_
    rintro r1 w5 hp
    have HA := Lib.hid (AcP.of_new (S := S) HX.out (upd_same ..) rfl rfl HF3.out hp)
    obtain ⟨rfl, _⟩ := hp
    go_wp2
    go_ret
    exact HA.out
set_option maxHeartbeats 1000000 in
theorem act_newG (h : RI K b w c S X a stk sw B of mn sk mine sn st) (hB : B ≤ 1000) (ht : t < 6) (hx : X t = none) {m : Nat} {rest : List Nat} (hm : mine t = m :: rest) (k : Int) : Calls Try.prog 54 #[.pointer (some ⟨b, 0, none⟩), .int .i64 ((t : Nat) : Int), .bool true, .int .i64 k] w (AcP K b t (some ⟨t, htG K.g m, m, 0, 4, 0, 0, 0, 0, 0⟩) w c S X stk mine sn sw B) := by
  have k2 := h.rb.tk t ht
  rw [show tkP X a t = none by unfold tkP; rw [hx]] at k2
  have k8 := h.rb.gv t ht
  rw [show gvP X a t = none by unfold gvP; rw [hx]] at k8
  have k14 := h.rb.of t ht
  have k14f := h.rb.fz (14 + t)
  have k20 := h.rb.mn t ht
  obtain ⟨gM, oM, cM, eM, lM1, lM2, cellM, _, _⟩ := (h.mr t ht).some (by rw [hm]; simp [nums])
  obtain ⟨ML, hML⟩ : ∃ ML, (nums (mine t)).length = ML + 1 := ⟨rest.length, by rw [hm]; simp [nums]⟩
  rw [hML] at eM
  rw [eM] at k20
  obtain ⟨HH, hHH⟩ : ∃ HH, HH = ((m : Nat) : Int) := ⟨_, rfl⟩
  have kc := cellM 0 HH (by rw [hm, hHH]; rfl)
  rw [Nat.add_zero] at kc
  have y1 : (0 : Int) < ((ML + 1 : Nat) : Int) := by omega
  have y2 : decide ((0 : Int) < ((ML + 1 : Nat) : Int)) = true := decide_eq_true (by omega)
  simp only [ptrO, Option.map] at k2 k8
  have i6 : (t : Int) < 6 := by omega
  have i0 : (0 : Int) ≤ (t : Int) := by omega
  have R1 := (h.rw.set_of ht HH).below (bel_drew (Below.refl _ _))
  have F1 := (Fc8 (b := b) (j := 14 + t) (v := .int .i64 HH) (w := w) h.cb).then (bel_drew (Below.refl _ _))
  obtain ⟨W1, hW1⟩ : ∃ W, W = (w.setCell ⟨b, 14 + t, none⟩ (.int .i64 HH)).drew := ⟨_, rfl⟩
  rw [← hW1] at R1 F1
  have R1d := R1.below (bel_drew (Below.refl _ _))
  have CT := giveS R1d.sa hx ((t : Nat) : Int) HH
  unfold GvS at CT
  have e0 : gvE (tot K.g.t 6) S ((t : Nat) : Int) HH = 0 := by rw [hHH]; exact (h.m.may hx ht hm).1
  have CT2 : Calls Try.prog 18 #[.pointer (some ⟨K.x, 0, none⟩), .int .i64 ((t : Nat) : Int), .int .i64 HH] W1.drew fun e w' => ∃ y, e = .returned (.tuple #[.pointer (some ⟨y, 0, none⟩), .int .i64 0]) ∧ ∃ c', SA K w' c' ⟨S.M, S.tk, set S.gv m true, S.gn⟩ (upd X t ⟨t, htG K.g m, m, 0, 4, 0, 0, 0, 0, 0⟩) (upd2 a t y) ∧ Fc T4 W1.drew c w' c' := by
    refine CT.mono ?_
    rintro e w' (⟨q, _⟩ | ⟨_, p, k', y, q1, q2, _, _, rfl, _, c', q4, q5⟩)
    · exact absurd e0 q
    · obtain rfl : p = t := by omega
      obtain rfl : m = k' + 1 := by omega
      exact ⟨y, rfl, c', q4, q5⟩
  have n1 := R1.rb.p
  have n14 := R1.rb.of t ht
  rw [set_same] at n14
  have hm0 : 0 < m := (h.m.mi t ht m (by rw [hm]; exact List.mem_cons_self ..)).1
  have HC := Lib.hid CT2
  have HI := Lib.hid h
  have HX := Lib.hid hx
  have HT := Lib.hid ht
  have HB := Lib.hid hB
  have HRD := Lib.hid R1d
  have HF1 := Lib.hid F1
  have HHE := Lib.hid hHH
  have HW1 := Lib.hid hW1
  have HM := Lib.hid hm
  have HM0 := Lib.hid hm0
  clear h hx R1 R1d F1 CT CT2 e0 hHH hW1 hB ht eM lM1 lM2 cellM hML hm hm0
  go_enter Try.func54, Try.ntmps54
  go_wp2_with fail
  go_region
  rw [← HW1.out]
  go_wp2_with fail
  go_region_held3 (fun w' => w'.cell? ⟨b, 1, none⟩ = some (.pointer (some ⟨K.x, 0, none⟩)) ∧ w'.cell? ⟨b, 14 + t, none⟩ = some (.int .i64 HH)) (first | exact ⟨n1, n14⟩ | with_reducible exact ⟨m1, m14⟩ | exact ⟨(oth (by omega)).trans m1, (oth (by omega)).trans m14⟩) (first | (go_at_call 18; refine HC.out.mono ?_; rintro r1 W2 ⟨y, rfl, c2, hsa, hf⟩; have R2 := HRD.out.pool hsa hf; have m1 := R2.rb.p; have m14 := R2.rb.of t HT.out; rw [set_same] at m14; have m8 := R2.rb.gv t HT.out; have m8f := R2.rb.fz (8 + t)))
  all_goals
    have R3 := R2.set_gv HT.out (some y)
    have F3 := ((HF1.out.then (bel_drew (Below.refl _ _))).trans (hf.mono (T := TA) fun i e => T4_TA e)).trans (Fc8 (b := b) (j := 8 + t) (v := ptrO (some y)) R2.cb)
    have RM1 := HI.out.m.newG HX.out HT.out HM.out
    rw [← HHE.out] at RM1
    have hri : RI K b _ c2 ⟨S.M, S.tk, set S.gv m true, S.gn⟩ (upd X t ⟨t, htG K.g m, m, 0, 4, 0, 0, 0, 0, 0⟩) (upd2 a t y) stk sw B (set of t HH) mn sk mine sn st := ⟨RM1, R3.sa, by rw [tkP_newG HX.out _ y (show m ≠ 0 by have := HM0.out; omega), gvP_newG HX.out _ y (show m ≠ 0 by have := HM0.out; omega)]; exact R3.rb, R3.cb, R3.sr, R3.mr⟩
    have CTT := Lib.hid (give_run hri HB.out (upd_same ..) HM0.out)
    have k2 := hri.rb.tk t HT.out
    rw [tkP_newG HX.out _ y (show m ≠ 0 by have := HM0.out; omega), show tkP X a t = none by unfold tkP; rw [HX.out]] at k2
    have k8 := hri.rb.gv t HT.out
    rw [gvP_newG HX.out _ y (show m ≠ 0 by have := HM0.out; omega), set_same] at k8
    simp only [ptrO, Option.map] at k2 k8
    have HF3 := Lib.hid F3
    clear hri R3 R2 F3 RM1 hsa hf
    go_wp2_with fail
    refine CTT.out.mono ?_
    rintro r1 w5 hp
    have HA := Lib.hid (AcP.of_new (S := S) HX.out (upd_same ..) rfl rfl HF3.out hp)
    obtain ⟨rfl, _⟩ := hp
    go_wp2
    go_ret
    exact HA.out
/-- the operation that a step of a thread is one of -/
def roA (K : Kc) (X : Nat → Option Op) (t : Nat) (g : Bool) (k : Nat) (mine : Nat → List Nat) : Option Op :=
  match X t with
  | some r => some r
  | none => if g = true ∧ mine t ≠ [] then some ⟨t, htG K.g ((mine t).headD 0), (mine t).headD 0, 0, 4, 0, 0, 0, 0, 0⟩ else some ⟨t, k, 0, 0, 4, 0, 0, 0, 0, 0⟩
/-- a step of a thread -/
theorem act_any (h : RI K b w c S X a stk sw B of mn sk mine sn st) (hB : B ≤ 1000) (ht : t < 6) (g : Bool) (k : Nat) (hk : k < 6) : Calls Try.prog 54 #[.pointer (some ⟨b, 0, none⟩), .int .i64 ((t : Nat) : Int), .bool g, .int .i64 ((k + 1 : Nat) : Int)] w (AcP K b t (roA K X t g k mine) w c S X stk mine sn sw B) := by
  unfold roA
  cases hx : X t with
  | some r =>
    by_cases h0 : r.tw = 0
    · exact act_take h hB hx h0 g _
    · exact act_give h hB hx (by omega) g _
  | none =>
    cases g with
    | false =>
      simp only [if_neg (show ¬ (false = true ∧ mine t ≠ []) from fun q => by cases q.1)]
      exact act_newT_no h hB ht hx k hk
    | true =>
      cases hm : mine t with
      | nil =>
        simp only [if_neg (show ¬ (true = true ∧ ([] : List Nat) ≠ []) from fun q => q.2 rfl)]
        exact act_newT_nil h hB ht hx hm k hk
      | cons m rest =>
        simp only [if_pos (show true = true ∧ m :: rest ≠ [] from ⟨rfl, by simp⟩), List.headD_cons]
        exact act_newG h hB ht hx hm _
end
end Po
end Go.Proofs.Ytcipjjchclpgnaa
