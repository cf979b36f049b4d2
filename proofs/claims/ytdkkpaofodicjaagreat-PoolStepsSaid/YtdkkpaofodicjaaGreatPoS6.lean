/- Step of leapfrogref14: contracts of the translated code, one for each step counter. Conditions: the bounds of each number's kind; logs of at most 50,000 accesses. (Made ahead in round 13; written by tools/mk14s.py.) -/
import Derived.Test.YtdkkpaofodicjaaGreatPoS
import Derived.Deep.RegionHeld3
namespace Go.Proofs.YtdkkpaofodicjaaGreat
open Go.RowKit Go.Sort
set_option linter.unusedVariables false
set_option linter.unusedSimpArgs false
set_option maxRecDepth 100000
namespace Po
open Wd
section
variable {w : World} {y x bm p : Nat} {q : Option Nat} {bl ta ga na n pp : Nat} {ht : Nat → Nat} {S : Pm} {stk : Nat → List Nat} {sw : Nat → Nat} {r : Op}
set_option maxHeartbeats 4000000 in
theorem step6_any (h : Cx w y x bm p q bl ta ga na n pp ht S stk sw r) (hp : r.pc = 6) (b0 : 0 ≤ r.hd) (b1 : r.hd ≤ 18446744073709551615) : Calls Tryz.prog 58 #[.pointer (some ⟨y, 0, none⟩)] w (StR y x bm p q bl ta ga na n (step pp S r).1 r (step pp S r).2 w) := by
  have n1 := h.i.n1
  have hpp := h.pp
  have h6 := h.k.h6
  have c0 := h.o.c0
  have c1 := h.o.c1
  have c2 := h.o.c2
  have c3 := h.o.c3
  have c5 := h.o.c5
  have c6 := h.o.c6
  have p0 := h.pr.c0
  have p1 := h.pr.c1
  have l5 := h.l.c5
  have l6 := h.l.c6
  have hd0 := (Wm.get_bd (M := S.M) (by obtain ⟨_, _, _, ha⟩ := h.a; exact ha.bd) (hA pp r.h))
  replace c5 : w.cell? ⟨y, 5, none⟩ = some (.int .u8 6) := by rw [hp] at c5; exact c5
  obtain ⟨HH, hHH⟩ : ∃ v, v = ((r.h + 1 : Nat) : Int) := ⟨_, rfl⟩
  obtain ⟨PP, hPP⟩ : ∃ v, v = ((pp : Nat) : Int) := ⟨_, rfl⟩
  obtain ⟨PK, hPK⟩ : ∃ v, v = ((pp + 6 : Nat) : Int) := ⟨_, rfl⟩
  obtain ⟨HA, hHA⟩ : ∃ v, v = hA pp r.h := ⟨_, rfl⟩
  obtain ⟨KK, hKK⟩ : ∃ v, v = PK - 1 := ⟨_, rfl⟩
  obtain ⟨TH, hTH⟩ : ∃ v, v = ((r.th : Nat) : Int) := ⟨_, rfl⟩
  obtain ⟨TW, hTW⟩ : ∃ v, v = ((r.tw : Nat) : Int) := ⟨_, rfl⟩
  have hHAe : HA = PP + HH - 1 := by rw [hHA, hPP, hHH]; unfold hA; omega
  rw [← hHH] at c2
  rw [← hPP] at l5
  rw [← hPK] at l6
  rw [← hTH] at c1
  rw [← hTW] at c3
  have w1 : IntKind.i64.wrap (PP + HH) = PP + HH := IntWalk.i64_in _ (by omega)
  have w1' : wrap64 (PP + HH) = PP + HH := IntWalk.wrap64_in _ (by omega)
  have w2 : IntKind.i64.wrap (PP + HH - 1) = HA := by rw [hHAe]; exact IntWalk.i64_in _ (by omega)
  have w2' : wrap64 (PP + HH - 1) = HA := by rw [hHAe]; exact IntWalk.wrap64_in _ (by omega)
  have w3 : IntKind.i64.wrap (PK - 1) = KK := by rw [hKK]; exact IntWalk.i64_in _ (by omega)
  have w3' : wrap64 (PK - 1) = KK := by rw [hKK]; exact IntWalk.wrap64_in _ (by omega)
  obtain ⟨sg, X, Y, hsn, hX1, hY, hYn⟩ : ∃ sg X Y : Nat, Seen n stk sw r.h r.hd sg X ∧ 1 ≤ X ∧ r.lk = (Y : Int) ∧ Y ≤ n := by
    rcases h.k.p with e | e | e | ⟨_, _, s, x, y, e, e1, e2, e3, _⟩ | e | e
    · omega
    · omega
    · omega
    · exact ⟨s, x, y, e, e1, e2, e3⟩
    · omega
    · omega
  have c7 := h.o.c7
  have hXn := hsn.2.1
  have hsw := h.sw r.h
  have hsg := hsn.2.2.1
  have hX : r.hd % 65536 = (X : Int) := by rw [hsn.1, wd_mod (by omega)]
  have hS : r.hd / 65536 = (sg : Int) := by rw [hsn.1, wd_div (by omega)]
  obtain ⟨TG, hTG⟩ : ∃ v, v = (sg : Int) := ⟨_, rfl⟩
  obtain ⟨LK, hLK⟩ : ∃ v, v = (Y : Int) := ⟨_, rfl⟩
  obtain ⟨NW, hNW⟩ : ∃ v, v = Fl.topV (TG + 1) LK := ⟨_, rfl⟩
  obtain ⟨NE, hNE⟩ : ∃ v, v = Fl.topE (TG + 1) LK := ⟨_, rfl⟩
  have hNW1 : NW = wd (sg + 1) Y := by
    rw [hNW, hTG, hLK]
    unfold Fl.topV
    rw [if_pos (by unfold Fl.topOk; simp; omega)]
    unfold wd; omega
  have hNW2 : topW (r.hd / 65536 + 1) r.lk = NW := by rw [hNW1, hS, hY]; exact topW_wd (by omega) (by omega)
  have nw0 : 0 ≤ NW ∧ NW ≤ 18446744073709551615 := by rw [hNW1]; unfold wd; omega
  rw [hY, ← hLK] at c7
  have w4 : IntKind.u64.wrap (TG + 1) = TG + 1 := by rw [IntKind.wrap_u64]; omega
  have w5 : IntKind.i64.wrap LK = LK := IntWalk.i64_in _ (by omega)
  have w5' : wrap64 LK = LK := IntWalk.wrap64_in _ (by omega)
  have CT := fun W => Fl.towerR_any r.hd b0 b1 W
  rw [hX] at CT
  replace CT := Lib.hid CT
  have CG := fun W => (Fl.tagR_any r.hd b0 b1 W).mono fun e w' (h : _ ∧ W = w') => (⟨h.1, h.2.symm⟩ : _ ∧ w' = W)
  rw [hS, ← hTG] at CG
  replace CG := Lib.hid CG
  have CO := fun W => (Fl.topR_any (TG + 1) LK (by omega) (by omega) W).mono fun e w' (h : _ ∧ W = w') => (⟨h.1, h.2.symm⟩ : _ ∧ w' = W)
  rw [← hNW, ← hNE] at CO
  replace CO := Lib.hid CO
  have HE : 0 = S.M.err TH HA := by rw [hTH, hHA]; exact h.err (a := pp + r.h) (by omega)
  by_cases hg : S.M.get (hA pp r.h) = r.hd
  · have HS := Lib.hid (show step pp S r = (⟨S.M.cas TH HA r.hd NW, set S.tk X true, S.gv, S.gn⟩, ⟨r.th, r.h, r.tw, r.tr, 0, r.hd, r.lk, (X : Int), r.fl, r.e⟩) by unfold step; rw [if_neg (by omega), if_neg (by omega), if_neg (by omega), if_pos hp, if_pos hg, hX, Int.toNat_natCast, hNW2, hTH, hHA])
    rw [HS.out]
    have CL := fun m => casRZ bm p q S.M TH HA r.hd NW true 0 ((w.drewN m).drew) (h.drewN m).drew.a h.lg nw0.1 nw0.2 HE (by rw [← HE]; simp [hHA, hg])
    rw [Wm.after_zero] at CL
    replace CL := Lib.hid CL
    have HXN := Lib.hid hXn
    have x1 : (X : Int) < ((n + 1 : Nat) : Int) := by omega
    have x2 : X < n + 1 := by omega
    have HDX := Lib.hid h.d
    have yne : y ≠ ta := h.d.y.2.1
    have CX := Lib.hid h
    have HP := Lib.hid hp
    have HTH := Lib.hid hTH
    have HTW := Lib.hid hTW
    clear h hHH hPP hPK hHA hKK hHAe HE h6 hpp n1 hd0 hX1 hsn hsw hsg hX hS hTG hLK hNW hNE hNW1 hNW2 nw0 hY hYn
    clear hXn hp hTH hTW hg
    go_enter Tryz.func58, Tryz.ntmps58
    go_wp2_with fail
    go_quiet (fail)
    go_wp2_with fail
    refine (CT.out _).mono ?_
    rintro r1 wz ⟨rfl, e⟩
    obtain rfl := e
    go_wp2_with fail
    go_quiet (first | (go_at_call 86; first | (with_reducible exact qL (CG.out _)) | (with_reducible exact qA (CG.out _))) | (go_at_call 85; first | (with_reducible exact qL (CO.out _)) | (with_reducible exact qA (CO.out _))))
    go_wp2_with fail
    go_region_held3 (fun w' => w'.cell? ⟨y, 1, none⟩ = some (.int .i64 TH) ∧ w'.cell? ⟨y, 6, none⟩ = some (.int .u64 r.hd)) (first | exact ⟨c1, c6⟩ | with_reducible exact ⟨m1, m6⟩) (first | (go_at_call 87; refine (CL.out _).mono ?_; rintro r1 w1 ⟨rfl, ha⟩; have ha2 : After 101 bm p q (S.M.cas TH HA r.hd NW) w w1 := After.ofN (ha.behind (Fr.of_below (bel_drew (Below.refl _ _)))); obtain ⟨hO, hP⟩ := CX.out.behind ha2; have m1 := hO.c1; have m6 := hO.c6; rw [← HTH.out] at m1))
    all_goals
      have hD := CX.out.d
      have o8 := hO.c8
      have o8f := hO.fz 8 (by omega)
      have h8 := hO.set8 (X : Int)
      have o5 := h8.c5
      have o5f := h8.fz 5 (by omega)
      have h5 : OR ((w1.setCell ⟨y, 8, none⟩ (.int .i64 (X : Int))).setCell ⟨y, 5, none⟩ (.int .u8 0)) y x ⟨r.th, r.h, r.tw, r.tr, 0, r.hd, r.lk, (X : Int), r.fl, r.e⟩ := h8.set5 0
      have hPR := (hP.sty hD 8 (.int .i64 (X : Int))).sty hD 5 (.int .u8 0)
      have o0 := h5.c0
      have p2 := hPR.c2
      have pt := (hPR.t X HXN.out).1
      have ptf := (hPR.t X HXN.out).2
      have hT := hPR.set_tk (t := X) HXN.out true
      have h5b := h5.keep (blk (a := ta) (j := X) (v := .bool true) yne)
      have z5 := h5b.c5
      have HA1 := Lib.hid ha2
      have HO := Lib.hid h5b
      have HPR := Lib.hid hT
      clear ha ha2 hO hP h8 h5 h5b hT hPR hD m1 m6
      go_wp2_with fail
      go_quiet (fail)
      go_wp2
      go_ret2
      exact CX.out.done HA1.out (Fr.drN _ (Fr.own (Fr.own (Fr.own (Fr.id _ _) (.inl rfl) _) (.inl rfl) _) (.inr (.inl rfl)) _)) (HPR.out.drN _) (HO.out.drN _) (by rw [HP.out]; rfl)
  · have HS := Lib.hid (show step pp S r = (⟨S.M.cas TH HA r.hd NW, S.tk, S.gv, S.gn⟩, ⟨r.th, r.h, r.tw, r.tr, if r.fl + 1 = r.tr then 0 else 4, r.hd, r.lk, r.got, r.fl + 1, if r.fl + 1 = r.tr then 11 else r.e⟩) by unfold step; rw [if_neg (by omega), if_neg (by omega), if_neg (by omega), if_pos hp, if_neg hg, hNW2, hTH, hHA])
    rw [HS.out]
    have CL := fun m => casRZ bm p q S.M TH HA r.hd NW false 0 ((w.drewN m).drew) (h.drewN m).drew.a h.lg nw0.1 nw0.2 HE (by rw [← HE]; simp [hHA, hg])
    rw [Wm.after_zero] at CL
    replace CL := Lib.hid CL
    by_cases ho : r.fl + 1 = r.tr
    · have u0 : (((r.fl : Int) + 1) == (r.tr : Int)) = true := by simp; omega
      have u1 : decide ((r.fl : Int) + 1 = (r.tr : Int)) = true := decide_eq_true (by omega)
      have u2 : decide (r.fl + 1 = r.tr) = true := decide_eq_true (by omega)
      simp only [if_pos ho]
      have c4 := h.o.c4
      have hfl := h.fl
      have w9 : IntKind.i64.wrap ((r.fl : Int) + 1) = (r.fl : Int) + 1 := IntWalk.i64_in _ (by omega)
      have w9' : wrap64 ((r.fl : Int) + 1) = (r.fl : Int) + 1 := IntWalk.wrap64_in _ (by omega)
      have CX := Lib.hid h
      have HP := Lib.hid hp
      have HTH := Lib.hid hTH
      clear h hHH hPP hPK hHA hKK hHAe HE h6 hpp n1 hd0 hX1 hsn hsw hsg hX hS hTG hLK hNW hNE hNW1 hNW2 nw0 hY hYn
      clear hXn hp hTH hTW hg ho hfl
      go_enter Tryz.func58, Tryz.ntmps58
      go_wp2_with fail
      go_quiet (fail)
      go_wp2_with fail
      refine (CT.out _).mono ?_
      rintro r1 wz ⟨rfl, e⟩
      obtain rfl := e
      go_wp2_with fail
      go_quiet (first | (go_at_call 86; first | (with_reducible exact qL (CG.out _)) | (with_reducible exact qA (CG.out _))) | (go_at_call 85; first | (with_reducible exact qL (CO.out _)) | (with_reducible exact qA (CO.out _))))
      go_wp2_with fail
      go_region_held3 (fun w' => w'.cell? ⟨y, 1, none⟩ = some (.int .i64 TH) ∧ w'.cell? ⟨y, 6, none⟩ = some (.int .u64 r.hd)) (first | exact ⟨c1, c6⟩ | with_reducible exact ⟨m1, m6⟩) (first | (go_at_call 87; refine (CL.out _).mono ?_; rintro r1 w1 ⟨rfl, ha⟩; have ha2 : After 101 bm p q (S.M.cas TH HA r.hd NW) w w1 := After.ofN (ha.behind (Fr.of_below (bel_drew (Below.refl _ _)))); obtain ⟨hO, hP⟩ := CX.out.behind ha2; have m1 := hO.c1; have m6 := hO.c6; rw [← HTH.out] at m1))
      all_goals
        have hD := CX.out.d
        have o9 := hO.c9
        have o9f := hO.fz 9 (by omega)
        have h9 : OR (w1.setCell ⟨y, 9, none⟩ (.int .i64 ((r.fl : Int) + 1))) y x ⟨r.th, r.h, r.tw, r.tr, r.pc, r.hd, r.lk, r.got, r.fl + 1, r.e⟩ := hO.set9 (r.fl + 1)
        have o5 := h9.c5
        have o5f := h9.fz 5 (by omega)
        have h5 : OR ((w1.setCell ⟨y, 9, none⟩ (.int .i64 ((r.fl : Int) + 1))).setCell ⟨y, 5, none⟩ (.int .u8 4)) y x ⟨r.th, r.h, r.tw, r.tr, 4, r.hd, r.lk, r.got, r.fl + 1, r.e⟩ := h9.set5 4
        have j9 : ((w1.setCell ⟨y, 9, none⟩ (.int .i64 ((r.fl : Int) + 1))).setCell ⟨y, 5, none⟩ (.int .u8 4)).cell? ⟨y, 9, none⟩ = some (.int .i64 ((r.fl : Int) + 1)) := h5.c9
        have j4 := h5.c4
        have j5 := h5.c5
        have j5f := h5.fz 5 (by omega)
        have HA1 := Lib.hid ha2
        have HO5 := Lib.hid h5
        have HPR := Lib.hid ((hP.sty hD 9 (.int .i64 ((r.fl : Int) + 1))).sty hD 5 (.int .u8 4))
        have HD := Lib.hid hD
        clear ha ha2 hO hP h9 h5 hD m1 m6 j5 j5f
        go_wp2_with fail
        go_quiet (fail)
        have hn := HO5.out.drN nq
        have n5 := hn.c5
        have n5f := hn.fz 5 (by omega)
        have h0 : OR ((((w1.setCell ⟨y, 9, none⟩ (.int .i64 ((r.fl : Int) + 1))).setCell ⟨y, 5, none⟩ (.int .u8 4)).drewN nq).setCell ⟨y, 5, none⟩ (.int .u8 0)) y x ⟨r.th, r.h, r.tw, r.tr, 0, r.hd, r.lk, r.got, r.fl + 1, r.e⟩ := hn.set5 0
        have l10 := h0.c10
        have l10f := h0.fz 10 (by omega)
        have h10 := h0.set10 11
        have z5 : (((((w1.setCell ⟨y, 9, none⟩ (.int .i64 ((r.fl : Int) + 1))).setCell ⟨y, 5, none⟩ (.int .u8 4)).drewN nq).setCell ⟨y, 5, none⟩ (.int .u8 0)).setCell ⟨y, 10, none⟩ (.int .i64 11)).cell? ⟨y, 5, none⟩ = some (.int .u8 0) := h10.c5
        have HO := Lib.hid h10
        clear hn h0 h10
        go_wp2_with fail
        go_quiet (fail)
        go_wp2
        go_ret2
        exact CX.out.done HA1.out (Fr.drN _ (Fr.own (Fr.own (Fr.drN _ (Fr.own (Fr.own (Fr.id _ _) (.inl rfl) _) (.inl rfl) _)) (.inl rfl) _) (.inl rfl) _)) ((((HPR.out.drN _).sty HD.out _ _).sty HD.out _ _).drN _) (HO.out.drN _) (by rw [HP.out]; rfl)
    · have u0 : (((r.fl : Int) + 1) == (r.tr : Int)) = false := by simp; omega
      have u1 : decide ((r.fl : Int) + 1 = (r.tr : Int)) = false := decide_eq_false (by omega)
      have u2 : decide (r.fl + 1 = r.tr) = false := decide_eq_false (by omega)
      simp only [if_neg ho]
      have c4 := h.o.c4
      have hfl := h.fl
      have w9 : IntKind.i64.wrap ((r.fl : Int) + 1) = (r.fl : Int) + 1 := IntWalk.i64_in _ (by omega)
      have w9' : wrap64 ((r.fl : Int) + 1) = (r.fl : Int) + 1 := IntWalk.wrap64_in _ (by omega)
      have CX := Lib.hid h
      have HP := Lib.hid hp
      have HTH := Lib.hid hTH
      clear h hHH hPP hPK hHA hKK hHAe HE h6 hpp n1 hd0 hX1 hsn hsw hsg hX hS hTG hLK hNW hNE hNW1 hNW2 nw0 hY hYn
      clear hXn hp hTH hTW hg ho hfl
      go_enter Tryz.func58, Tryz.ntmps58
      go_wp2_with fail
      go_quiet (fail)
      go_wp2_with fail
      refine (CT.out _).mono ?_
      rintro r1 wz ⟨rfl, e⟩
      obtain rfl := e
      go_wp2_with fail
      go_quiet (first | (go_at_call 86; first | (with_reducible exact qL (CG.out _)) | (with_reducible exact qA (CG.out _))) | (go_at_call 85; first | (with_reducible exact qL (CO.out _)) | (with_reducible exact qA (CO.out _))))
      go_wp2_with fail
      go_region_held3 (fun w' => w'.cell? ⟨y, 1, none⟩ = some (.int .i64 TH) ∧ w'.cell? ⟨y, 6, none⟩ = some (.int .u64 r.hd)) (first | exact ⟨c1, c6⟩ | with_reducible exact ⟨m1, m6⟩) (first | (go_at_call 87; refine (CL.out _).mono ?_; rintro r1 w1 ⟨rfl, ha⟩; have ha2 : After 101 bm p q (S.M.cas TH HA r.hd NW) w w1 := After.ofN (ha.behind (Fr.of_below (bel_drew (Below.refl _ _)))); obtain ⟨hO, hP⟩ := CX.out.behind ha2; have m1 := hO.c1; have m6 := hO.c6; rw [← HTH.out] at m1))
      all_goals
        have hD := CX.out.d
        have o9 := hO.c9
        have o9f := hO.fz 9 (by omega)
        have h9 : OR (w1.setCell ⟨y, 9, none⟩ (.int .i64 ((r.fl : Int) + 1))) y x ⟨r.th, r.h, r.tw, r.tr, r.pc, r.hd, r.lk, r.got, r.fl + 1, r.e⟩ := hO.set9 (r.fl + 1)
        have o5 := h9.c5
        have o5f := h9.fz 5 (by omega)
        have h5 : OR ((w1.setCell ⟨y, 9, none⟩ (.int .i64 ((r.fl : Int) + 1))).setCell ⟨y, 5, none⟩ (.int .u8 4)) y x ⟨r.th, r.h, r.tw, r.tr, 4, r.hd, r.lk, r.got, r.fl + 1, r.e⟩ := h9.set5 4
        have j9 : ((w1.setCell ⟨y, 9, none⟩ (.int .i64 ((r.fl : Int) + 1))).setCell ⟨y, 5, none⟩ (.int .u8 4)).cell? ⟨y, 9, none⟩ = some (.int .i64 ((r.fl : Int) + 1)) := h5.c9
        have j4 := h5.c4
        have j5 := h5.c5
        have j5f := h5.fz 5 (by omega)
        have HA1 := Lib.hid ha2
        have HO := Lib.hid h5
        have HPR := Lib.hid ((hP.sty hD 9 (.int .i64 ((r.fl : Int) + 1))).sty hD 5 (.int .u8 4))
        clear ha ha2 hO hP h9 h5 hD m1 m6
        go_wp2_with fail
        go_quiet (fail)
        go_wp2_with fail
        go_quiet (fail)
        go_wp2
        go_ret2
        exact CX.out.done HA1.out (Fr.drN _ (Fr.drN _ (Fr.own (Fr.own (Fr.id _ _) (.inl rfl) _) (.inl rfl) _))) ((HPR.out.drN _).drN _) ((HO.out.drN _).drN _) (by rw [HP.out]; rfl)
end
end Po
end Go.Proofs.YtdkkpaofodicjaaGreat
