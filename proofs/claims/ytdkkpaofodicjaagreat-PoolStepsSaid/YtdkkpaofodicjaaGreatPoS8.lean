/- Step of leapfrogref14: contracts of the translated code, one for each step counter. Conditions: the bounds of each number's kind; logs of at most 50,000 accesses. (Made ahead in round 13; written by tools/mk14s.py.) -/
import Derived.Test.YtdkkpaofodicjaaGreatPoS
import Derived.Deep.RegionHeld3
namespace Go.Proofs.YtdkkpaofodicjaaGreat
open Go.RowKit Go.Sort
set_option linter.unusedVariables false
set_option linter.unusedSimpArgs false
set_option maxRecDepth 100000
namespace Po
open Wd
section
variable {w : World} {y x bm p : Nat} {q : Option Nat} {bl ta ga na n pp : Nat} {ht : Nat → Nat} {S : Pm} {stk : Nat → List Nat} {sw : Nat → Nat} {r : Op}
/-- the step counter of a giving operation goes back to 4 -/
theorem Cx.four (h : Cx w y x bm p q bl ta ga na n pp ht S stk sw r) (h0 : 0 < r.tw) (hp : r.pc = 8) (m : Nat) : Cx ((w.drewN m).setCell ⟨y, 5, none⟩ (.int .u8 4)) y x bm p q bl ta ga na n pp ht S stk sw ⟨r.th, r.h, r.tw, r.tr, 4, r.hd, r.lk, r.got, r.fl, r.e⟩ := by
  have hN := h.drewN m
  have yb := h.d.y
  exact ⟨hN.a.keep fun i _ hi => blk (h.d.m i hi).1, hN.pr.sty h.d 5 _, hN.o.set5 4, ⟨(blkc (fun e => yb.2.2.2.2 e.symm)).trans hN.l.c5, (blkc (fun e => yb.2.2.2.2 e.symm)).trans hN.l.c6⟩, h.i, ⟨h.k.h6, h.k.th, fun _ _ => h.k.g h0 (by omega), .inr (.inl rfl)⟩, h.d, h.pp, h.lg, h.fl, h.gn, h.sw⟩
theorem Cx.done4 (h : Cx w y x bm p q bl ta ga na n pp ht S stk sw r) {m : Nat} {r4 : Op} (h4 : Cx ((w.drewN m).setCell ⟨y, 5, none⟩ (.int .u8 4)) y x bm p q bl ta ga na n pp ht S stk sw r4) {w1 w' : World} {S' : Pm} {r' : Op} {e : Ending} (ha : After 101 bm p q S'.M ((w.drewN m).setCell ⟨y, 5, none⟩ (.int .u8 4)) w1) (hf : Fr (Own y ta ga na) w1 w') (hP : PR w' x bm bl ta ga na n S') (hO : OR w' y x r') (he : e = .returned (.tuple #[.int .u8 ((r.pc : Nat) : Int), .bool (decide (r'.pc = 0))])) : StR y x bm p q bl ta ga na n S' r r' w e w' := by
  obtain ⟨q', h1, h2, h3⟩ := h4.fin ha hf
  have hs : ((w.drewN m).setCell ⟨y, 5, none⟩ (.int .u8 4)).heap.size = w.heap.size := by first | (simp; done) | (simp; rfl)
  rw [hs] at h2
  exact ⟨he, q', h1, h2, hP, hO, Fr.trans (Fr.set (S := fun i => Of bm p q i ∨ Own y ta ga na i) (Fr.drN m (Fr.id _ w)) _ _ (.inr (.inl rfl))) h3 fun _ _ e => e⟩
set_option maxHeartbeats 4000000 in
theorem step8_any (h : Cx w y x bm p q bl ta ga na n pp ht S stk sw r) (hp : r.pc = 8) (b0 : 0 ≤ r.hd) (b1 : r.hd ≤ 18446744073709551615) : Calls Tryz.prog 58 #[.pointer (some ⟨y, 0, none⟩)] w (StR y x bm p q bl ta ga na n (step pp S r).1 r (step pp S r).2 w) := by
  have n1 := h.i.n1
  have hpp := h.pp
  have h6 := h.k.h6
  have c0 := h.o.c0
  have c1 := h.o.c1
  have c2 := h.o.c2
  have c3 := h.o.c3
  have c5 := h.o.c5
  have c6 := h.o.c6
  have p0 := h.pr.c0
  have p1 := h.pr.c1
  have l5 := h.l.c5
  have l6 := h.l.c6
  have hd0 := (Wm.get_bd (M := S.M) (by obtain ⟨_, _, _, ha⟩ := h.a; exact ha.bd) (hA pp r.h))
  replace c5 : w.cell? ⟨y, 5, none⟩ = some (.int .u8 8) := by rw [hp] at c5; exact c5
  obtain ⟨HH, hHH⟩ : ∃ v, v = ((r.h + 1 : Nat) : Int) := ⟨_, rfl⟩
  obtain ⟨PP, hPP⟩ : ∃ v, v = ((pp : Nat) : Int) := ⟨_, rfl⟩
  obtain ⟨PK, hPK⟩ : ∃ v, v = ((pp + 6 : Nat) : Int) := ⟨_, rfl⟩
  obtain ⟨HA, hHA⟩ : ∃ v, v = hA pp r.h := ⟨_, rfl⟩
  obtain ⟨KK, hKK⟩ : ∃ v, v = PK - 1 := ⟨_, rfl⟩
  obtain ⟨TH, hTH⟩ : ∃ v, v = ((r.th : Nat) : Int) := ⟨_, rfl⟩
  obtain ⟨TW, hTW⟩ : ∃ v, v = ((r.tw : Nat) : Int) := ⟨_, rfl⟩
  have hHAe : HA = PP + HH - 1 := by rw [hHA, hPP, hHH]; unfold hA; omega
  rw [← hHH] at c2
  rw [← hPP] at l5
  rw [← hPK] at l6
  rw [← hTH] at c1
  rw [← hTW] at c3
  have w1 : IntKind.i64.wrap (PP + HH) = PP + HH := IntWalk.i64_in _ (by omega)
  have w1' : wrap64 (PP + HH) = PP + HH := IntWalk.wrap64_in _ (by omega)
  have w2 : IntKind.i64.wrap (PP + HH - 1) = HA := by rw [hHAe]; exact IntWalk.i64_in _ (by omega)
  have w2' : wrap64 (PP + HH - 1) = HA := by rw [hHAe]; exact IntWalk.wrap64_in _ (by omega)
  have w3 : IntKind.i64.wrap (PK - 1) = KK := by rw [hKK]; exact IntWalk.i64_in _ (by omega)
  have w3' : wrap64 (PK - 1) = KK := by rw [hKK]; exact IntWalk.wrap64_in _ (by omega)
  obtain ⟨sg, X, h0, hsn⟩ : ∃ sg X : Nat, 0 < r.tw ∧ Seen n stk sw r.h r.hd sg X := by
    rcases h.k.p with e | e | e | e | e | ⟨_, e0, s, x, e, _⟩
    · omega
    · omega
    · omega
    · omega
    · omega
    · exact ⟨s, x, e0, e⟩
  have hYn := (h.k.g h0 (by omega)).1
  have hXn := hsn.2.1
  have hsw := h.sw r.h
  have hsg := hsn.2.2.1
  have hX : r.hd % 65536 = (X : Int) := by rw [hsn.1, wd_mod (by omega)]
  have hS : r.hd / 65536 = (sg : Int) := by rw [hsn.1, wd_div (by omega)]
  obtain ⟨TG, hTG⟩ : ∃ v, v = (sg : Int) := ⟨_, rfl⟩
  obtain ⟨NW, hNW⟩ : ∃ v, v = Fl.topV (TG + 1) TW := ⟨_, rfl⟩
  obtain ⟨NE, hNE⟩ : ∃ v, v = Fl.topE (TG + 1) TW := ⟨_, rfl⟩
  have hNW1 : NW = wd (sg + 1) r.tw := by
    rw [hNW, hTG, hTW]
    unfold Fl.topV
    rw [if_pos (by unfold Fl.topOk; simp; omega)]
    unfold wd; omega
  have hNW2 : topW (r.hd / 65536 + 1) r.tw = NW := by rw [hNW1, hS]; exact topW_wd (by omega) (by omega)
  have nw0 : 0 ≤ NW ∧ NW ≤ 18446744073709551615 := by rw [hNW1]; unfold wd; omega
  have w4 : IntKind.u64.wrap (TG + 1) = TG + 1 := by rw [IntKind.wrap_u64]; omega
  have CT := fun W => Fl.towerR_any r.hd b0 b1 W
  rw [hX] at CT
  replace CT := Lib.hid CT
  have CG := fun W => (Fl.tagR_any r.hd b0 b1 W).mono fun e w' (h : _ ∧ W = w') => (⟨h.1, h.2.symm⟩ : _ ∧ w' = W)
  rw [hS, ← hTG] at CG
  replace CG := Lib.hid CG
  have CO := fun W => (Fl.topR_any (TG + 1) TW (by omega) (by omega) W).mono fun e w' (h : _ ∧ W = w') => (⟨h.1, h.2.symm⟩ : _ ∧ w' = W)
  rw [← hNW, ← hNE] at CO
  replace CO := Lib.hid CO
  have HE : 0 = S.M.err TH HA := by rw [hTH, hHA]; exact h.err (a := pp + r.h) (by omega)
  by_cases hg : S.M.get (hA pp r.h) = r.hd
  · have HS := Lib.hid (show step pp S r = (⟨S.M.cas TH HA r.hd NW, set S.tk r.tw false, set S.gv r.tw false, set S.gn r.tw (S.gn r.tw + 1)⟩, ⟨r.th, r.h, r.tw, r.tr, 0, r.hd, r.lk, r.got, r.fl, r.e⟩) by unfold step; rw [if_neg (by omega), if_neg (by omega), if_neg (by omega), if_neg (by omega), if_pos hp, if_pos hg, hNW2, hTH, hHA])
    rw [HS.out]
    have CL := fun m => casRZ bm p q S.M TH HA r.hd NW true 0 (((w.drewN m).setCell ⟨y, 5, none⟩ (.int .u8 4)).drew) (h.four h0 hp m).drew.a h.lg nw0.1 nw0.2 HE (by rw [← HE]; simp [hHA, hg])
    rw [Wm.after_zero] at CL
    replace CL := Lib.hid CL
    have C4 := fun m => h.four h0 hp m
    replace C4 := Lib.hid C4
    have g1 : ∀ m, ((w.drewN m).setCell ⟨y, 5, none⟩ (.int .u8 4)).drew.cell? ⟨y, 1, none⟩ = some (.int .i64 TH) := fun m => by rw [hTH]; exact (C4.out m).o.c1
    have g6 : ∀ m, ((w.drewN m).setCell ⟨y, 5, none⟩ (.int .u8 4)).drew.cell? ⟨y, 6, none⟩ = some (.int .u64 r.hd) := fun m => (C4.out m).o.c6
    have f5 := h.o.fz 5 (by omega)
    have CX := Lib.hid h
    have HP := Lib.hid hp
    have HTH := Lib.hid hTH
    have HTWh := Lib.hid hTW
    have H0 := Lib.hid h0
    have HYN := Lib.hid hYn
    have HDX := Lib.hid h.d
    have HGN := Lib.hid h.gn
    clear h hHH hPP hPK hHA hKK hHAe HE h6 hpp n1 hd0 hsn hsw hsg hX hS hTG hNW hNE hNW1 hNW2 nw0 hXn hp hTH hTW hg hYn h0
    go_enter Tryz.func58, Tryz.ntmps58
    go_wp2_with fail
    go_quiet (fail)
    go_wp2_with fail
    refine (CT.out _).mono ?_
    rintro r1 wz ⟨rfl, e⟩
    obtain rfl := e
    go_wp2_with fail
    go_quiet (first | (go_at_call 86; first | (with_reducible exact qL (CG.out _)) | (with_reducible exact qA (CG.out _))) | (go_at_call 85; first | (with_reducible exact qL (CO.out _)) | (with_reducible exact qA (CO.out _))))
    go_wp2_with fail
    go_region_held3 (fun w' => w'.cell? ⟨y, 1, none⟩ = some (.int .i64 TH) ∧ w'.cell? ⟨y, 6, none⟩ = some (.int .u64 r.hd)) (first | exact ⟨g1 _, g6 _⟩ | with_reducible exact ⟨m1, m6⟩) (first | (go_at_call 87; refine (CL.out _).mono ?_; rintro r1 w1 ⟨rfl, ha⟩; have ha2 := ha.behind (Fr.of_below (S := Of bm p q) (bel_drew (Below.refl _ _))); obtain ⟨hO, hP⟩ := (C4.out _).behind ha2; have m1 := hO.c1; have m6 := hO.c6; rw [← HTH.out] at m1))
    all_goals
      have hD := HDX.out
      have yD := hD.y
      have o5 := hO.c5
      have o5f := hO.fz 5 (by omega)
      have h0 : OR (w1.setCell ⟨y, 5, none⟩ (.int .u8 0)) y x ⟨r.th, r.h, r.tw, r.tr, 0, r.hd, r.lk, r.got, r.fl, r.e⟩ := hO.set5 0
      have hPR := hP.sty hD 5 (.int .u8 0)
      obtain ⟨W2, hW2⟩ : ∃ W, W = w1.setCell ⟨y, 5, none⟩ (.int .u8 0) := ⟨_, rfl⟩
      rw [← hW2] at h0 hPR
      have hTN := HYN.out
      have x1 : ((r.tw : Nat) : Int) < ((n + 1 : Nat) : Int) := by omega
      have x2 : r.tw < n + 1 := by omega
      have x0 : (0 : Int) ≤ ((r.tw : Nat) : Int) := by omega
      have x3 : ((r.tw : Nat) : Int) < (n : Int) + 1 := by omega
      have d0 := h0
      have dP := hPR
      have aP := dP.set_tk (t := r.tw) hTN false
      have bP := dP.set_gv (t := r.tw) hTN false
      have abP := aP.set_gv (t := r.tw) hTN false
      have baP := bP.set_tk (t := r.tw) hTN false
      have a0 := d0.keep (blk (a := ta) (j := r.tw) (v := .bool false) yD.2.1)
      have b0' := d0.keep (blk (a := ga) (j := r.tw) (v := .bool false) yD.2.2.1)
      have ab0 := a0.keep (blk (a := ga) (j := r.tw) (v := .bool false) yD.2.2.1)
      have ba0 := b0'.keep (blk (a := ta) (j := r.tw) (v := .bool false) yD.2.1)
      have s1 := (dP.t r.tw hTN).1
      have s2 := (dP.t r.tw hTN).2
      have s3 := (dP.g r.tw hTN).1
      have s4 := (dP.g r.tw hTN).2
      have s5 := (aP.g r.tw hTN).1
      have s6 := (aP.g r.tw hTN).2
      have s7 := (bP.t r.tw hTN).1
      have s8 := (bP.t r.tw hTN).2
      have HA1 := Lib.hid ha2
      have HW2 := Lib.hid hW2
      have HD0 := Lib.hid d0.dr
      have HDP := Lib.hid dP.dr
      have HA0 := Lib.hid a0.dr
      have HAP := Lib.hid aP.dr
      have HB0 := Lib.hid b0'.dr
      have HBP := Lib.hid bP.dr
      have HAB0 := Lib.hid ab0.dr
      have HABP := Lib.hid abP.dr
      have HBA0 := Lib.hid ba0.dr
      have HBAP := Lib.hid baP.dr
      clear ha ha2 hO hP h0 hPR d0 dP aP bP abP baP a0 b0' ab0 ba0 hD yD m1 m6 hW2
      go_wp2_with fail
      rw [← HW2.out]
      go_region_held3 (fun w' => w'.cell? ⟨y, 0, none⟩ = some (.pointer (some ⟨x, 0, none⟩)) ∧ w'.cell? ⟨y, 3, none⟩ = some (.int .i64 ((r.tw : Nat) : Int)) ∧ w'.cell? ⟨x, 2, none⟩ = some (.slice (some ⟨ta, 0, none⟩) (n + 1) (n + 1)) ∧ w'.cell? ⟨x, 3, none⟩ = some (.slice (some ⟨ga, 0, none⟩) (n + 1) (n + 1))) (first | with_reducible exact ⟨HD0.out.c0, HD0.out.c3, HDP.out.c2, HDP.out.c3⟩ | with_reducible exact ⟨HA0.out.c0, HA0.out.c3, HAP.out.c2, HAP.out.c3⟩ | with_reducible exact ⟨HB0.out.c0, HB0.out.c3, HBP.out.c2, HBP.out.c3⟩ | with_reducible exact ⟨HAB0.out.c0, HAB0.out.c3, HABP.out.c2, HABP.out.c3⟩ | with_reducible exact ⟨HBA0.out.c0, HBA0.out.c3, HBAP.out.c2, HBAP.out.c3⟩) (fail)
      all_goals
        have k0 := HAB0.out.c0
        have k3 := HAB0.out.c3
        have k4 := HABP.out.c4
        have kq := (HABP.out.q r.tw HYN.out).1
        have kqf := (HABP.out.q r.tw HYN.out).2
        have hgn := HGN.out r.tw
        have v1 : IntKind.i64.wrap (((S.gn r.tw : Nat) : Int) + 1) = ((S.gn r.tw : Nat) : Int) + 1 := IntWalk.i64_in _ (by omega)
        have v1' : wrap64 (((S.gn r.tw : Nat) : Int) + 1) = ((S.gn r.tw : Nat) : Int) + 1 := IntWalk.wrap64_in _ (by omega)
        have hX0 := HAB0.out
        have hXP := HABP.out
        obtain ⟨W3, hW3⟩ : ∃ W, W = ((W2.setCell ⟨ta, r.tw, none⟩ (.bool false)).setCell ⟨ga, r.tw, none⟩ (.bool false)).drew := ⟨_, rfl⟩
        rw [← hW3] at k0 k3 k4 kq kqf hX0 hXP
        have hF := hXP.set_gn (t := r.tw) HYN.out (S.gn r.tw + 1)
        have hF0 := hX0.keep (blk (a := na) (j := r.tw) (v := .int .i64 (((S.gn r.tw : Nat) : Int) + 1)) HDX.out.y.2.2.2.1)
        have z5 := hF0.c5
        have HF := Lib.hid hF
        have HF0 := Lib.hid hF0
        have HW3 := Lib.hid hW3
        clear hF hF0 hX0 hXP hW3
        go_wp2_with fail
        rw [← HW3.out]
        go_region
        all_goals
          have z5' : (W3.setCell ⟨na, r.tw, none⟩ (.int .i64 (((S.gn r.tw : Nat) : Int) + 1))).cell? ⟨y, 5, none⟩ = some (.int .u8 0) := z5
          clear z5
          go_wp2_with fail
          go_quiet (fail)
          go_wp2
          go_ret2
          have e3 := HW3.out
          have e2 := HW2.out
          have hF : PR (W3.setCell ⟨na, r.tw, none⟩ (.int .i64 (((S.gn r.tw : Nat) : Int) + 1))) x bm bl ta ga na n ⟨S.M.cas TH HA r.hd NW, set S.tk r.tw false, set S.gv r.tw false, set S.gn r.tw (S.gn r.tw + 1)⟩ := HF.out
          have hF0 := HF0.out
          subst e3
          subst e2
          exact CX.out.done4 (C4.out _) HA1.out (Fr.drN _ (Fr.dr (Fr.own (Fr.dr (Fr.own (Fr.own (Fr.own (Fr.id _ _) (.inl rfl) _) (.inr (.inl rfl)) _) (.inr (.inr (.inl rfl))) _)) (.inr (.inr (.inr rfl))) _))) (hF.dr.drN _) (hF0.dr.drN _) (by rw [HP.out]; rfl)
  · have HS := Lib.hid (show step pp S r = (⟨S.M.cas TH HA r.hd NW, S.tk, S.gv, S.gn⟩, ⟨r.th, r.h, r.tw, r.tr, 4, r.hd, r.lk, r.got, r.fl, r.e⟩) by unfold step; rw [if_neg (by omega), if_neg (by omega), if_neg (by omega), if_neg (by omega), if_pos hp, if_neg hg, hNW2, hTH, hHA])
    rw [HS.out]
    have CL := fun m => casRZ bm p q S.M TH HA r.hd NW false 0 (((w.drewN m).setCell ⟨y, 5, none⟩ (.int .u8 4)).drew) (h.four h0 hp m).drew.a h.lg nw0.1 nw0.2 HE (by rw [← HE]; simp [hHA, hg])
    rw [Wm.after_zero] at CL
    replace CL := Lib.hid CL
    have C4 := fun m => h.four h0 hp m
    replace C4 := Lib.hid C4
    have g1 : ∀ m, ((w.drewN m).setCell ⟨y, 5, none⟩ (.int .u8 4)).drew.cell? ⟨y, 1, none⟩ = some (.int .i64 TH) := fun m => by rw [hTH]; exact (C4.out m).o.c1
    have g6 : ∀ m, ((w.drewN m).setCell ⟨y, 5, none⟩ (.int .u8 4)).drew.cell? ⟨y, 6, none⟩ = some (.int .u64 r.hd) := fun m => (C4.out m).o.c6
    have f5 := h.o.fz 5 (by omega)
    have CX := Lib.hid h
    have HP := Lib.hid hp
    have HTH := Lib.hid hTH
    have HTWh := Lib.hid hTW
    have H0 := Lib.hid h0
    have HYN := Lib.hid hYn
    have HDX := Lib.hid h.d
    have HGN := Lib.hid h.gn
    clear h hHH hPP hPK hHA hKK hHAe HE h6 hpp n1 hd0 hsn hsw hsg hX hS hTG hNW hNE hNW1 hNW2 nw0 hXn hp hTH hTW hg hYn h0
    go_enter Tryz.func58, Tryz.ntmps58
    go_wp2_with fail
    go_quiet (fail)
    go_wp2_with fail
    refine (CT.out _).mono ?_
    rintro r1 wz ⟨rfl, e⟩
    obtain rfl := e
    go_wp2_with fail
    go_quiet (first | (go_at_call 86; first | (with_reducible exact qL (CG.out _)) | (with_reducible exact qA (CG.out _))) | (go_at_call 85; first | (with_reducible exact qL (CO.out _)) | (with_reducible exact qA (CO.out _))))
    go_wp2_with fail
    go_region_held3 (fun w' => w'.cell? ⟨y, 1, none⟩ = some (.int .i64 TH) ∧ w'.cell? ⟨y, 6, none⟩ = some (.int .u64 r.hd)) (first | exact ⟨g1 _, g6 _⟩ | with_reducible exact ⟨m1, m6⟩) (first | (go_at_call 87; refine (CL.out _).mono ?_; rintro r1 w1 ⟨rfl, ha⟩; have ha2 := ha.behind (Fr.of_below (S := Of bm p q) (bel_drew (Below.refl _ _))); obtain ⟨hO, hP⟩ := (C4.out _).behind ha2; have m1 := hO.c1; have m6 := hO.c6; rw [← HTH.out] at m1))
    all_goals
      have z5 := hO.c5
      have HA1 := Lib.hid ha2
      have HO := Lib.hid hO
      have HPR := Lib.hid hP
      clear ha ha2 hO hP m1 m6
      go_wp2_with fail
      go_quiet (fail)
      go_wp2
      go_ret2
      exact CX.out.done4 (C4.out _) HA1.out (Fr.drN _ (Fr.id _ _)) (HPR.out.drN _) (HO.out.drN _) (by rw [HP.out]; rfl)
end
end Po
end Go.Proofs.YtdkkpaofodicjaaGreat
