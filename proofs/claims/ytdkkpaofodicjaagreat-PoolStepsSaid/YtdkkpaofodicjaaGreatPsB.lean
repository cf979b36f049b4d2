/- Package pool: fail, look, follow, take, lay, give: contracts of the translated code. Conditions: those of XPsA; links that are small. (Written by tools/mkps3.py.) -/
import Derived.Test.YtdkkpaofodicjaaGreatPsA
import Derived.Test.YtdkkpaofodicjaaGreatPsM
namespace Go.Proofs.YtdkkpaofodicjaaGreat
open Go.RowKit Go.Sort
set_option linter.unusedVariables false
set_option linter.unusedSimpArgs false
set_option maxRecDepth 100000
namespace Po
open Wd
open Ly (Ge tot pP pK pW pk Cf LyAt)
open Dm (addr_lit info_parts spot_none RdK flatU infoU bel_alloc bel_trans own_keep below_drewN)
theorem qL {P : Program} {f : FuncId} {args : Array Value} {w : World} {n : Nat} {v : Value}
    (h : Calls P f args (w.drewN n) fun e w' => e = .returned v ∧ w' = w.drewN n) : Calls P f args (w.drewN n) fun e w' => e = .returned v ∧ ∃ m, w' = w.drewN m :=
  h.mono fun _ _ ⟨he, hm⟩ => ⟨he, n, hm⟩
theorem qA {P : Program} {f : FuncId} {args : Array Value} {w : World} {a n : Nat} {v : Value}
    (h : Calls P f args (w.drewN (a + n)) fun e w' => e = .returned v ∧ w' = w.drewN (a + n)) : Calls P f args (w.drewN (a + n)) fun e w'' => e = .returned v ∧ ∃ m, w'' = w.drewN (a + m) :=
  h.mono fun _ _ ⟨he, hm⟩ => ⟨he, n, hm⟩
section
variable {K : Kc} {w : World} {c : Nat → Nat} {y : Nat} {S : Pm} {r : Op}
/-- a call that answers v and leaves S' and r' -/
def Af (K : Kc) (y : Nat) (S' : Pm) (r' : Op) (w : World) (c : Nat → Nat) (v : Value) (e : Ending) (w' : World) : Prop := e = .returned v ∧ Lf K y S' r' w c w'
theorem fail_any (h : CA K w c y S r) (h0 : r.tw = 0) (hf : r.fl ≤ 1000000) : Calls Tryz.prog 80 #[.pointer (some ⟨y, 0, none⟩)] w (Af K y S ⟨r.th, r.h, r.tw, r.tr, r.pc, r.hd, r.lk, r.got, r.fl + 1, if r.fl + 1 = r.tr then 11 else r.e⟩ w c (.int .u8 (if r.fl + 1 = r.tr then 0 else 4))) := by
  unfold Af
  obtain ⟨c6, c7, _, _, c10⟩ := h.o.t h0
  have f7 := h.o.fz 7 (.inr ⟨h0, by omega⟩)
  have f10 := h.o.fz 10 (.inr ⟨h0, by omega⟩)
  have w9 : IntKind.i64.wrap ((r.fl : Int) + 1) = (r.fl : Int) + 1 := IntWalk.i64_in _ (by omega)
  have w9' : wrap64 ((r.fl : Int) + 1) = (r.fl : Int) + 1 := IntWalk.wrap64_in _ (by omega)
  have L1 := (Lf.of h).op (j := 7) (v := .int .i64 (((r.fl + 1 : Nat) : Int))) (r2 := ⟨r.th, r.h, r.tw, r.tr, r.pc, r.hd, r.lk, r.got, r.fl + 1, r.e⟩) fun c1 o => o.set7 h0 (r.fl + 1)
  have e1 : ((r.fl + 1 : Nat) : Int) = (r.fl : Int) + 1 := by omega
  rw [e1] at L1
  by_cases ho : r.fl + 1 = r.tr
  · have u0 : (((r.fl : Int) + 1) == (r.tr : Int)) = true := by simp; omega
    have u1 : decide ((r.fl : Int) + 1 = (r.tr : Int)) = true := decide_eq_true (by omega)
    simp only [if_pos ho]
    have HL := Lib.hid L1
    have H0 := Lib.hid h0
    clear h h0 hf ho L1 e1
    go_enter Tryz.func80, Tryz.ntmps80
    go_wp2_with fail
    go_quiet (fail)
    have L2 := HL.out.then (below_drewN (Below.refl _ _) nq)
    have HL3 := Lib.hid (L2.op (j := 10) (v := .int .i64 11) (r2 := ⟨r.th, r.h, r.tw, r.tr, r.pc, r.hd, r.lk, r.got, r.fl + 1, 11⟩) fun c1 o => o.set10 H0.out 11)
    clear L2
    go_wp2
    go_ret
    exact ⟨rfl, HL3.out⟩
  · have u0 : (((r.fl : Int) + 1) == (r.tr : Int)) = false := by simp; omega
    have u1 : decide ((r.fl : Int) + 1 = (r.tr : Int)) = false := decide_eq_false (by omega)
    simp only [if_neg ho]
    have HL := Lib.hid L1
    clear h h0 hf ho L1 e1
    go_enter Tryz.func80, Tryz.ntmps80
    go_wp2_with fail
    go_quiet (fail)
    go_wp2
    go_ret
    exact ⟨rfl, HL.out.then (below_drewN (Below.refl _ _) nq)⟩
theorem lookT_any (h : CA K w c y S r) (hs : Sm K S r) (h0 : r.tw = 0) : Calls Tryz.prog 46 #[.pointer (some ⟨y, 0, none⟩)] w (Af K y ⟨S.M.load ((r.th : Nat) : Int) (hA (pP K.g) r.h), S.tk, S.gv, S.gn⟩ ⟨r.th, r.h, r.tw, r.tr, r.pc, S.M.get (hA (pP K.g) r.h), r.lk, r.got, r.fl, if S.M.get (hA (pP K.g) r.h) % 65536 = 0 then 6 else r.e⟩ w c (.int .u8 (if S.M.get (hA (pP K.g) r.h) % 65536 = 0 then 0 else 5))) := by
  unfold Af
  have CL := load_any h hs
  have hd0 := Wm.get_bd (M := S.M) (by obtain ⟨_, _, ⟨_, _, _, ha⟩, _⟩ := h.m; exact ha.bd) (hA (pP K.g) r.h)
  generalize S.M.get (hA (pP K.g) r.h) = V at *
  have CT := fun W => Lib.hid (Fl.tower_any V hd0.1 hd0.2 W)
  replace CL := Lib.hid CL
  have H0 := Lib.hid h0
  clear h hs hd0
  by_cases g2 : V % 65536 = 0
  · have g3 : (V % 65536 == 0) = true := by simp [g2]
    have g4 : decide (V % 65536 = 0) = true := decide_eq_true g2
    simp only [if_pos g2]
    clear g2 h0
    go_enter Tryz.func46, Tryz.ntmps46
    go_wp2_with fail
    refine CL.out.mono ?_
    rintro r1 w1 ⟨rfl, hl⟩
    obtain ⟨k1, h1, f1⟩ := hl
    have c4 := h1.o.c4
    have c10 := (h1.o.t H0.out).2.2.2.2
    have f10 := h1.o.fz 10 (.inr ⟨H0.out, by omega⟩)
    have HL := Lib.hid (show Lf K y _ _ w c w1 from ⟨k1, h1, f1⟩)
    clear h1 f1
    go_wp2_with fail
    refine (CT _).out.mono ?_
    rintro r1 wz ⟨rfl, e⟩
    obtain rfl := e
    go_wp2
    go_ret
    exact ⟨rfl, HL.out.op fun c1 o => o.set10 H0.out 6⟩
  · have g3 : (V % 65536 == 0) = false := by simp [g2]
    have g4 : decide (V % 65536 = 0) = false := decide_eq_false g2
    simp only [if_neg g2]
    clear g2 h0
    go_enter Tryz.func46, Tryz.ntmps46
    go_wp2_with fail
    refine CL.out.mono ?_
    rintro r1 w1 ⟨rfl, hl⟩
    obtain ⟨k1, h1, f1⟩ := hl
    have c4 := h1.o.c4
    have HL := Lib.hid (show Lf K y _ _ w c w1 from ⟨k1, h1, f1⟩)
    clear h1 f1
    go_wp2_with fail
    refine (CT _).out.mono ?_
    rintro r1 wz ⟨rfl, e⟩
    obtain rfl := e
    go_wp2
    go_ret
    exact ⟨rfl, HL.out⟩
theorem lookG_any (h : CA K w c y S r) (hs : Sm K S r) : Calls Tryz.prog 52 #[.pointer (some ⟨y, 0, none⟩)] w (Af K y ⟨S.M.load ((r.th : Nat) : Int) (hA (pP K.g) r.h), S.tk, S.gv, S.gn⟩ ⟨r.th, r.h, r.tw, r.tr, r.pc, S.M.get (hA (pP K.g) r.h), r.lk, r.got, r.fl, r.e⟩ w c (.int .u8 7)) := by
  unfold Af
  have CL := Lib.hid (load_any h hs)
  clear h hs
  go_enter Tryz.func52, Tryz.ntmps52
  go_wp2_with fail
  refine CL.out.mono ?_
  rintro r1 w1 ⟨rfl, hl⟩
  have HL := Lib.hid hl
  clear hl
  go_wp2
  go_ret
  exact ⟨rfl, HL.out⟩
set_option maxHeartbeats 1000000 in
theorem follow_any (h : CA K w c y S r) (hs : Sm K S r) (h0 : r.tw = 0) (X : Nat) (hX : r.hd % 65536 = (X : Int)) (hX1 : 1 ≤ X) (hX2 : X ≤ tot K.g.t 6) (hV : S.M.get (lA (pP K.g) X) ≤ 9223372036854775807) : Calls Tryz.prog 47 #[.pointer (some ⟨y, 0, none⟩)] w (Af K y ⟨S.M.load ((r.th : Nat) : Int) (lA (pP K.g) X), S.tk, S.gv, S.gn⟩ ⟨r.th, r.h, r.tw, r.tr, r.pc, r.hd, S.M.get (lA (pP K.g) X), r.got, r.fl, r.e⟩ w c (.int .u8 6)) := by
  unfold Af
  have hn := h.ok.tt
  have h1 := h.drewN 1
  obtain ⟨p, q, hp, hq⟩ := h1.m
  have c0 := h.o.c0
  have c1 := h.o.c1
  have c4 := h.o.c4
  have p0 := h.p.c0
  have hd0 := Wm.get_bd (M := S.M) (by obtain ⟨_, _, ⟨_, _, _, ha⟩, _⟩ := h.m; exact ha.bd) (lA (pP K.g) X)
  have hE : S.M.err ((r.th : Nat) : Int) (lA (pP K.g) X) = 0 := hs.err (a := pP K.g + 5 + X) (by omega)
  have hLA : (pP K.g : Int) + 5 + (X : Int) = lA (pP K.g) X := by unfold lA; omega
  have CG := Fl.tower_any r.hd hs.hd.1 hs.hd.2 w.drew
  rw [hX] at CG
  replace CG := Lib.hid CG
  have CT := link_any h1.p.c1 h1.ly.at (X : Int) hs.pp (by omega) (by omega)
  rw [hLA] at CT
  replace CT := Lib.hid CT
  have CL := fun W (hb : Below (w.drewN 1).heap.size (w.drewN 1) W) => Wd.load_any K.bm p q S.M ((r.th : Nat) : Int) (lA (pP K.g) X) W (hp.below hb) hs.lg
  unfold LoP wrdT at CL
  simp only [hE, if_true, Wm.after_zero] at CL
  replace CL := Lib.hid CL
  have HX := Lib.hid h1
  have HP := Lib.hid hp
  have HQ := Lib.hid hq
  have H0 := Lib.hid h0
  have HG := fun W hb => Lib.hid (HX.out.below (w1 := W) hb)
  clear h h1 hp hq hs hE hLA hX hX1 hX2 hn h0
  generalize hHA : lA (pP K.g) X = HA at *
  generalize hTH : ((r.th : Nat) : Int) = TH at *
  generalize hVV : S.M.get HA = V at *
  have wv : IntKind.i64.wrap V = V := IntWalk.i64_in _ (by omega)
  have wv' : wrap64 V = V := IntWalk.wrap64_in _ (by omega)
  go_enter Tryz.func47, Tryz.ntmps47
  go_wp2_with fail
  go_region_held3 (fun w' => w'.cell? ⟨y, 0, none⟩ = some (.pointer (some ⟨K.x, 0, none⟩)) ∧ w'.cell? ⟨y, 1, none⟩ = some (.int .i64 TH) ∧ w'.cell? ⟨y, 4, none⟩ = some (.int .u64 r.hd) ∧ w'.cell? ⟨K.x, 0, none⟩ = some (.pointer (some ⟨K.bm, 0, none⟩))) (first | exact ⟨c0, c1, c4, p0⟩ | with_reducible exact ⟨d0, d1, d4, d3⟩ | with_reducible exact ⟨e0, e1, e4, e3⟩) (first | (go_at_call 64; refine CG.out.mono ?_; rintro r1 wz ⟨rfl, e⟩; obtain rfl := e) | (go_at_call 65; refine CT.out.mono ?_; rintro r1 w1 ⟨rfl, hb⟩; have HX1 := (HG w1 hb).out; have d0 := HX1.o.c0; have d1 := HX1.o.c1; have d3 := HX1.p.c0; have d4 := HX1.o.c4; rw [hTH] at d1) | (go_at_call 78; refine (CL.out w1 hb).mono ?_; rintro r1 w2 ⟨rfl, ha⟩; obtain ⟨k2, HX2, F2⟩ := HX1.mem (HP.out.below hb) HQ.out ha; have e0 := HX2.o.c0; have e1 := HX2.o.c1; have e3 := HX2.p.c0; have e4 := HX2.o.c4; have e8 := (HX2.o.t H0.out).2.2.1; have f8 := HX2.o.fz 8 (.inr ⟨H0.out, by omega⟩); rw [hTH] at e1))
  all_goals
    have L2 : Lf K y ⟨S.M.load TH HA, S.tk, S.gv, S.gn⟩ r w c w2 := ⟨k2, HX2, (Fc.of_below ((below_drewN (Below.refl _ w) 1).trans hb)).trans F2⟩
    have HL := Lib.hid (L2.op (j := 8) (v := .int .i64 V) fun c1 o => o.set8 H0.out V)
    clear L2
    go_wp2
    go_ret
    exact ⟨rfl, HL.out⟩
set_option maxHeartbeats 1000000 in
theorem lay_any (h : CA K w c y S r) (hs : Sm K S r) (h0 : 0 < r.tw) (hX2 : r.tw ≤ tot K.g.t 6) : Calls Tryz.prog 53 #[.pointer (some ⟨y, 0, none⟩)] w (Af K y ⟨S.M.stor ((r.th : Nat) : Int) (lA (pP K.g) r.tw) (r.hd % 65536), S.tk, S.gv, S.gn⟩ r w c (.int .u8 8)) := by
  unfold Af
  have hn := h.ok.tt
  have h1 := h.drewN 1
  obtain ⟨p, q, hp, hq⟩ := h1.m
  have c0 := h.o.c0
  have c1 := h.o.c1
  have c4 := h.o.c4
  have c6 := h.o.g h0
  have p0 := h.p.c0
  have hE : S.M.err ((r.th : Nat) : Int) (lA (pP K.g) r.tw) = 0 := hs.err (a := pP K.g + 5 + r.tw) (by omega)
  have hLA : (pP K.g : Int) + 5 + (r.tw : Int) = lA (pP K.g) r.tw := by unfold lA; omega
  have CG := fun W => Lib.hid (Fl.tower_any r.hd hs.hd.1 hs.hd.2 W)
  have CT := link_any h1.p.c1 h1.ly.at (r.tw : Int) hs.pp (by omega) (by omega)
  rw [hLA] at CT
  replace CT := Lib.hid CT
  have hd0 := hs.hd.1
  have CL := fun W (hb : Below (w.drewN 1).heap.size (w.drewN 1) W) => Wd.store_any K.bm p q S.M ((r.th : Nat) : Int) (lA (pP K.g) r.tw) (r.hd % 65536) W (hp.below hb) hs.lg (by omega) (by omega)
  unfold StP at CL
  simp only [hE, Wm.after_zero] at CL
  replace CL := Lib.hid CL
  have HX := Lib.hid h1
  have HP := Lib.hid hp
  have HQ := Lib.hid hq
  have H0 := Lib.hid h0
  have HG := fun W hb => Lib.hid (HX.out.below (w1 := W) hb)
  have wv : IntKind.u64.wrap (r.hd % 65536) = r.hd % 65536 := by rw [IntKind.wrap_u64]; omega
  clear h h1 hp hq hs hE hLA hX2 hn h0 hd0
  generalize hHA : lA (pP K.g) r.tw = HA at *
  generalize hTH : ((r.th : Nat) : Int) = TH at *
  generalize hTW : ((r.tw : Nat) : Int) = TW at *
  generalize hVV : r.hd % 65536 = V at *
  go_enter Tryz.func53, Tryz.ntmps53
  go_wp2_with fail
  go_region_held3 (fun w' => w'.cell? ⟨y, 0, none⟩ = some (.pointer (some ⟨K.x, 0, none⟩)) ∧ w'.cell? ⟨y, 1, none⟩ = some (.int .i64 TH) ∧ w'.cell? ⟨y, 4, none⟩ = some (.int .u64 r.hd) ∧ w'.cell? ⟨K.x, 0, none⟩ = some (.pointer (some ⟨K.bm, 0, none⟩)) ∧ w'.cell? ⟨y, 6, none⟩ = some (.int .i64 TW)) (first | exact ⟨c0, c1, c4, p0, c6⟩ | with_reducible exact ⟨d0, d1, d4, d3, d6⟩ | with_reducible exact ⟨e0, e1, e4, e3, e6⟩) (first | (go_at_call 64; refine (CG _).out.mono ?_; rintro r1 wz ⟨rfl, e⟩; obtain rfl := e) | (go_at_call 65; refine CT.out.mono ?_; rintro r1 w1 ⟨rfl, hb⟩; have HX1 := (HG w1 hb).out; have d0 := HX1.o.c0; have d1 := HX1.o.c1; have d3 := HX1.p.c0; have d4 := HX1.o.c4; have d6 := HX1.o.g H0.out; rw [hTH] at d1; rw [hTW] at d6) | (go_at_call 82; refine (CL.out w1 hb).mono ?_; rintro r1 w2 ⟨rfl, ha⟩; obtain ⟨k2, HX2, F2⟩ := HX1.mem (HP.out.below hb) HQ.out ha; have e0 := HX2.o.c0; have e1 := HX2.o.c1; have e3 := HX2.p.c0; have e4 := HX2.o.c4; have e6 := HX2.o.g H0.out; rw [hTH] at e1; rw [hTW] at e6))
  all_goals
    have HL := Lib.hid (show Lf K y ⟨S.M.stor TH HA V, S.tk, S.gv, S.gn⟩ r w c w2 from ⟨k2, HX2, (Fc.of_below ((below_drewN (Below.refl _ w) 1).trans hb)).trans F2⟩)
    go_wp2
    go_ret
    exact ⟨rfl, HL.out⟩
set_option maxHeartbeats 1000000 in
theorem take_any (h : CA K w c y S r) (hs : Sm K S r) (h0 : r.tw = 0) (hf : r.fl ≤ 1000000) (X : Nat) (hX : r.hd % 65536 = ((X + 1 : Nat) : Int)) (hX2 : X < tot K.g.t 6) : Calls Tryz.prog 48 #[.pointer (some ⟨y, 0, none⟩)] w (fun e w' =>
    if S.M.get (hA (pP K.g) r.h) = r.hd then Af K y ⟨S.M.cas ((r.th : Nat) : Int) (hA (pP K.g) r.h) r.hd (topW (r.hd / 65536 + 1) r.lk), set S.tk (X + 1) true, S.gv, S.gn⟩ ⟨r.th, r.h, r.tw, r.tr, r.pc, r.hd, r.lk, ((X + 1 : Nat) : Int), r.fl, r.e⟩ w c (.int .u8 0) e w'
    else Af K y ⟨S.M.cas ((r.th : Nat) : Int) (hA (pP K.g) r.h) r.hd (topW (r.hd / 65536 + 1) r.lk), S.tk, S.gv, S.gn⟩ ⟨r.th, r.h, r.tw, r.tr, r.pc, r.hd, r.lk, r.got, r.fl + 1, if r.fl + 1 = r.tr then 11 else r.e⟩ w c (.int .u8 (if r.fl + 1 = r.tr then 0 else 4)) e w') := by
  have hn := h.ok.tt
  have c8 := (h.o.t h0).2.2.1
  have CS := swap_any (h.drewN 1) (hs) r.lk
  have CG := Fl.tower_any r.hd hs.hd.1 hs.hd.2
  obtain ⟨T, hT⟩ : ∃ T, T = ((X + 1 : Nat) : Int) := ⟨_, rfl⟩
  rw [← hT]
  rw [← hT] at hX
  rw [hX] at CG
  have CR0 : ∀ {W : World} {x bm bl ta n : Nat} {S : Pm} (h : PA W x bm bl ta n S) (ht : X < n) (hn : n ≤ 1024), Calls Tryz.prog 50 #[.pointer (some ⟨x, 0, none⟩), .int .i64 T] W fun e w' => e = .returned (.pointer (some ⟨ta, X * 3, none⟩)) ∧ w' = W := fun h ht hn => by rw [hT]; exact record_ok h X ht hn
  clear hT
  have H0 := Lib.hid h0
  have HF := Lib.hid hf
  have HN := Lib.hid hn
  have HX2 := Lib.hid hX2
  clear h hs h0 hf hX hn hX2
  by_cases g : S.M.get (hA (pP K.g) r.h) = r.hd
  · simp only [if_pos g]
    rw [decide_eq_true g] at CS
    clear g
    generalize S.M.cas ((r.th : Nat) : Int) (hA (pP K.g) r.h) r.hd (topW (r.hd / 65536 + 1) r.lk) = M1 at *
    replace CS := Lib.hid CS
    unfold Af
    go_enter Tryz.func48, Tryz.ntmps48
    go_wp2_with fail
    go_region_held3 (fun w' => w'.cell? ⟨y, 8, none⟩ = some (.int .i64 r.lk)) (first | exact c8 | with_reducible exact d8) (first | (go_at_call 79; refine CS.out.mono ?_; rintro r1 w1 ⟨rfl, hl⟩; obtain ⟨k1, HX1, F1⟩ := hl; have d8 := (HX1.o.t H0.out).2.2.1))
    all_goals
      have d4 := HX1.o.c4
      have d9 := (HX1.o.t H0.out).2.2.2.1
      have f9 := HX1.o.fz 9 (.inr ⟨H0.out, by omega⟩)
      have CG1 := Lib.hid (CG w1)
      have L1 : Lf K y ⟨M1, S.tk, S.gv, S.gn⟩ r w c w1 := ⟨k1, HX1, (Fc.of_below (below_drewN (Below.refl _ w) 1)).trans F1⟩
      have L2 := L1.op (j := 9) (v := .int .i64 T) fun c1 o => o.set9 H0.out T
      obtain ⟨k2, HX3, F2⟩ := L2
      have b0 := HX3.o.c0
      have b9 := (HX3.o.t H0.out).2.2.2.1
      have CR := fun m => Lib.hid (CR0 (HX3.drewN m).p HX2.out HN.out)
      have HL2 := Lib.hid (show Lf K y _ _ w c _ from ⟨k2, HX3, F2⟩)
      clear HX1 F1 L1 HX3 F2
      go_wp2_with fail
      refine CG1.out.mono ?_
      rintro r1 wz ⟨rfl, e⟩
      obtain rfl := e
      go_wp2_with fail
      go_quiet (first | (go_at_call 50; first | (with_reducible exact qL (CR _).out) | (with_reducible exact qA (CR _).out)))
      have L3 := HL2.out.then (below_drewN (Below.refl _ _) nq)
      obtain ⟨k3, HX4, F3⟩ := L3
      have b3 := (HX4.p.r X HX2.out).1
      have bf := HX4.p.f (X * 3)
      have HL3 := Lib.hid ((show Lf K y _ _ w c _ from ⟨k3, HX4, F3⟩).rc (S2 := ⟨M1, set S.tk (X + 1) true, S.gv, S.gn⟩) rfl fun hpa => hpa.set_tk X true)
      clear HX4 F3
      go_wp2
      go_ret
      exact ⟨rfl, HL3.out⟩
  · simp only [if_neg g]
    rw [decide_eq_false g] at CS
    clear g CG CR0
    obtain ⟨V4, hV4⟩ : ∃ v : Int, v = (if r.fl + 1 = r.tr then 0 else 4) := ⟨_, rfl⟩
    obtain ⟨E4, hE4⟩ : ∃ v : Int, v = (if r.fl + 1 = r.tr then 11 else r.e) := ⟨_, rfl⟩
    rw [← hV4, ← hE4]
    have HV4 := Lib.hid hV4
    have HE4 := Lib.hid hE4
    clear hV4 hE4
    unfold Af
    generalize S.M.cas ((r.th : Nat) : Int) (hA (pP K.g) r.h) r.hd (topW (r.hd / 65536 + 1) r.lk) = M1 at *
    replace CS := Lib.hid CS
    go_enter Tryz.func48, Tryz.ntmps48
    go_wp2_with fail
    go_region_held3 (fun w' => w'.cell? ⟨y, 8, none⟩ = some (.int .i64 r.lk)) (first | exact c8 | with_reducible exact d8) (first | (go_at_call 79; refine CS.out.mono ?_; rintro r1 w1 ⟨rfl, hl⟩; obtain ⟨k1, HX1, F1⟩ := hl; have d8 := (HX1.o.t H0.out).2.2.1))
    all_goals
      have CF := fail_any HX1 H0.out HF.out
      unfold Af at CF
      simp only [← HV4.out, ← HE4.out] at CF
      replace CF := Lib.hid CF
      have L1 := Lib.hid (show Lf K y ⟨M1, S.tk, S.gv, S.gn⟩ r w c w1 from ⟨k1, HX1, (Fc.of_below (below_drewN (Below.refl _ w) 1)).trans F1⟩)
      have F1' := Lib.hid F1
      clear HX1 F1
      go_wp2_with fail
      refine CF.out.mono ?_
      rintro r1 w2 ⟨rfl, hl⟩
      obtain ⟨k2, HX3, F2⟩ := hl
      have HL := Lib.hid (show Lf K y ⟨M1, S.tk, S.gv, S.gn⟩ ⟨r.th, r.h, r.tw, r.tr, r.pc, r.hd, r.lk, r.got, r.fl + 1, E4⟩ w c w2 from ⟨k2, HX3, ((Fc.of_below (below_drewN (Below.refl _ w) 1)).trans F1'.out).trans F2⟩)
      clear HX3 F2
      go_wp2
      go_ret
      exact ⟨rfl, HL.out⟩
set_option maxHeartbeats 1000000 in
theorem give_any (h : CA K w c y S r) (hs : Sm K S r) (X : Nat) (h0 : r.tw = X + 1) (hX2 : X < tot K.g.t 6) (hg : ∀ t, S.gn t ≤ 1000000) : Calls Tryz.prog 54 #[.pointer (some ⟨y, 0, none⟩)] w (fun e w' =>
    if S.M.get (hA (pP K.g) r.h) = r.hd then Af K y ⟨S.M.cas ((r.th : Nat) : Int) (hA (pP K.g) r.h) r.hd (topW (r.hd / 65536 + 1) ((X + 1 : Nat) : Int)), set S.tk (X + 1) false, set S.gv (X + 1) false, set S.gn (X + 1) (S.gn (X + 1) + 1)⟩ r w c (.int .u8 0) e w'
    else Af K y ⟨S.M.cas ((r.th : Nat) : Int) (hA (pP K.g) r.h) r.hd (topW (r.hd / 65536 + 1) ((X + 1 : Nat) : Int)), S.tk, S.gv, S.gn⟩ r w c (.int .u8 4) e w') := by
  have hn := h.ok.tt
  have c6 := h.o.g (by omega)
  rw [h0] at c6
  have CS := swap_any (h.drewN 1) hs ((X + 1 : Nat) : Int)
  obtain ⟨T, hT⟩ : ∃ T, T = ((X + 1 : Nat) : Int) := ⟨_, rfl⟩
  simp only [← hT] at c6 CS ⊢
  have HT := Lib.hid hT
  have CR0 : ∀ {W : World} {x bm bl ta n : Nat} {S : Pm} (h : PA W x bm bl ta n S) (ht : X < n) (hn : n ≤ 1024), Calls Tryz.prog 50 #[.pointer (some ⟨x, 0, none⟩), .int .i64 T] W fun e w' => e = .returned (.pointer (some ⟨ta, X * 3, none⟩)) ∧ w' = W := fun h ht hn => by rw [hT]; exact record_ok h X ht hn
  clear hT
  have H0 := Lib.hid h0
  have HN := Lib.hid hn
  have HX2 := Lib.hid hX2
  have HG := Lib.hid hg
  clear h hs h0 hn hX2 hg
  by_cases g : S.M.get (hA (pP K.g) r.h) = r.hd
  · simp only [if_pos g]
    rw [decide_eq_true g] at CS
    clear g
    generalize S.M.cas ((r.th : Nat) : Int) (hA (pP K.g) r.h) r.hd (topW (r.hd / 65536 + 1) T) = M1 at *
    replace CS := Lib.hid CS
    have hgx := HG.out (X + 1)
    have w9 : IntKind.i64.wrap ((S.gn (X + 1) : Int) + 1) = (S.gn (X + 1) : Int) + 1 := IntWalk.i64_in _ (by omega)
    have w9' : wrap64 ((S.gn (X + 1) : Int) + 1) = (S.gn (X + 1) : Int) + 1 := IntWalk.wrap64_in _ (by omega)
    clear hgx
    unfold Af
    go_enter Tryz.func54, Tryz.ntmps54
    go_wp2_with fail
    go_region_held3 (fun w' => w'.cell? ⟨y, 6, none⟩ = some (.int .i64 T)) (first | exact c6 | with_reducible exact d6) (first | (go_at_call 79; refine CS.out.mono ?_; rintro r1 w1 ⟨rfl, hl⟩; obtain ⟨k1, HX1, F1⟩ := hl; have d6 := HX1.o.g (by rw [H0.out]; omega); rw [H0.out, ← HT.out] at d6))
    all_goals
      have b0 := HX1.o.c0
      have CR := fun m => Lib.hid (CR0 (HX1.drewN m).p HX2.out HN.out)
      have L1 := Lib.hid (show Lf K y ⟨M1, S.tk, S.gv, S.gn⟩ r w c w1 from ⟨k1, HX1, (Fc.of_below (below_drewN (Below.refl _ w) 1)).trans F1⟩)
      clear HX1 F1
      go_wp2_with fail
      go_quiet (first | (go_at_call 50; first | (with_reducible exact qL (CR _).out) | (with_reducible exact qA (CR _).out)))
      have L2 := L1.out.then (below_drewN (Below.refl _ _) nq)
      obtain ⟨k3, HX4, F3⟩ := L2
      have b3 := (HX4.p.r X HX2.out).1
      have bf := HX4.p.f (X * 3)
      have L3 := (show Lf K y _ _ w c _ from ⟨k3, HX4, F3⟩).rc (S2 := ⟨M1, set S.tk (X + 1) false, S.gv, S.gn⟩) rfl fun hpa => hpa.set_tk X false
      clear HX4 F3
      obtain ⟨k4, HX5, F4⟩ := L3
      have b4 := (HX5.p.r X HX2.out).2.1
      have bf4 := HX5.p.f (X * 3 + 1)
      have L4 := (show Lf K y _ _ w c _ from ⟨k4, HX5, F4⟩).rc (S2 := ⟨M1, set S.tk (X + 1) false, set S.gv (X + 1) false, S.gn⟩) rfl fun hpa => hpa.set_gv X false
      clear HX5 F4
      obtain ⟨k5, HX6, F5⟩ := L4
      have b5 := (HX6.p.r X HX2.out).2.2
      have bf5 := HX6.p.f (X * 3 + 2)
      have L5 := (show Lf K y _ _ w c _ from ⟨k5, HX6, F5⟩).rc (S2 := ⟨M1, set S.tk (X + 1) false, set S.gv (X + 1) false, set S.gn (X + 1) (S.gn (X + 1) + 1)⟩) rfl fun hpa => hpa.set_gn X (S.gn (X + 1) + 1)
      clear HX6 F5
      rw [show ((S.gn (X + 1) + 1 : Nat) : Int) = (S.gn (X + 1) : Int) + 1 by omega] at L5
      have HL5 := Lib.hid L5
      clear L5
      go_wp2
      go_ret
      exact ⟨rfl, HL5.out⟩
  · simp only [if_neg g]
    rw [decide_eq_false g] at CS
    clear g
    generalize S.M.cas ((r.th : Nat) : Int) (hA (pP K.g) r.h) r.hd (topW (r.hd / 65536 + 1) T) = M1 at *
    replace CS := Lib.hid CS
    unfold Af
    go_enter Tryz.func54, Tryz.ntmps54
    go_wp2_with fail
    go_region_held3 (fun w' => w'.cell? ⟨y, 6, none⟩ = some (.int .i64 T)) (first | exact c6 | with_reducible exact d6) (first | (go_at_call 79; refine CS.out.mono ?_; rintro r1 w1 ⟨rfl, hl⟩; obtain ⟨k1, HX1, F1⟩ := hl; have d6 := HX1.o.g (by rw [H0.out]; omega); rw [H0.out, ← HT.out] at d6))
    all_goals
      have L1 := Lib.hid (show Lf K y ⟨M1, S.tk, S.gv, S.gn⟩ r w c w1 from ⟨k1, HX1, (Fc.of_below (below_drewN (Below.refl _ w) 1)).trans F1⟩)
      clear HX1 F1
      go_wp2
      go_ret
      exact ⟨rfl, L1.out⟩
end
end Po
end Go.Proofs.YtdkkpaofodicjaaGreat
