/- Package pool: record, top, link, load, swap: contracts of the translated code. Conditions: the bounds of each number's kind; logs of at most 50,000 accesses. -/
import Derived.Test.YtdkkpaofodicjaaGreatPsC
import Derived.Test.YtdkkpaofodicjaaGreatPsT
namespace Go.Proofs.YtdkkpaofodicjaaGreat
open Go.RowKit Go.Sort
set_option linter.unusedVariables false
set_option linter.unusedSimpArgs false
set_option maxRecDepth 100000
namespace Po
open Wd
open Ly (Ge tot pP pK pW pk Cf LyAt)
open Dm (addr_lit info_parts spot_none RdK flatU infoU bel_alloc bel_trans own_keep below_drewN)
theorem record_ok {w : World} {x bm bl ta n : Nat} {S : Pm} (h : PA w x bm bl ta n S) (t : Nat) (ht : t < n) (hn : n ≤ 1024) : Calls Tryz.prog 50 #[.pointer (some ⟨x, 0, none⟩), .int .i64 (((t + 1 : Nat) : Int))] w fun e w' => e = .returned (.pointer (some ⟨ta, t * 3, none⟩)) ∧ w' = w := by
  have c2 := h.c2
  clear h
  obtain ⟨T, hT⟩ : ∃ T, T = ((t + 1 : Nat) : Int) := ⟨_, rfl⟩
  rw [← hT]
  have d0 : decide (T < 1) = false := decide_eq_false (by omega)
  have d1 : decide ((n : Int) < T) = false := decide_eq_false (by omega)
  have w1 : IntKind.i64.wrap (T - 1) = (t : Int) := by rw [show T - 1 = (t : Int) by omega]; exact IntWalk.i64_in _ (by omega)
  have w1' : wrap64 (T - 1) = (t : Int) := by rw [show T - 1 = (t : Int) by omega]; exact IntWalk.wrap64_in _ (by omega)
  have i0 : (0 : Int) ≤ (t : Int) := by omega
  have i1 : (t : Int) < (n : Int) := by omega
  clear hT
  go_enter Tryz.func50, Tryz.ntmps50
  go_wp2
  go_ret
  exact ⟨rfl, rfl⟩
theorem record_no {w : World} {x bm bl ta n : Nat} {S : Pm} (h : PA w x bm bl ta n S) (t : Int) (ht : ¬ (1 ≤ t ∧ t ≤ n)) : Calls Tryz.prog 50 #[.pointer (some ⟨x, 0, none⟩), .int .i64 t] w fun e w' => e = .returned (.pointer none) ∧ w' = w := by
  have c2 := h.c2
  clear h
  by_cases h0 : t < 1
  · have d0 : decide (t < 1) = true := decide_eq_true h0
    clear ht h0
    go_enter Tryz.func50, Tryz.ntmps50
    go_wp2
    go_ret
    exact ⟨rfl, rfl⟩
  · have d0 : decide (t < 1) = false := decide_eq_false h0
    have d1 : decide ((n : Int) < t) = true := decide_eq_true (by omega)
    clear ht h0
    go_enter Tryz.func50, Tryz.ntmps50
    go_wp2
    go_ret
    exact ⟨rfl, rfl⟩
theorem field_pl5 (a0 a1 a2 a3 a4 a5 a6 a7 a8 a9 : Value) (W : World) : (Instr.field 85 (.agg #[a0, a1, a2, a3, a4, a5, a6, a7, a8, a9]) 5).run Tryz.prog W = .ok a5 W := by
  have hp : (part 3 #[a0, a1, a2, a3, a4, a5, a6, a7, a8, a9] 5).run Tryz.prog W = .ok a5 W := run_part_plain W (by kernel_rfl) rfl
  simp [Instr.field, run_underlying Tryz.underlying85, asAgg, hp]
theorem field_pl6 (a0 a1 a2 a3 a4 a5 a6 a7 a8 a9 : Value) (W : World) : (Instr.field 85 (.agg #[a0, a1, a2, a3, a4, a5, a6, a7, a8, a9]) 6).run Tryz.prog W = .ok a6 W := by
  have hp : (part 3 #[a0, a1, a2, a3, a4, a5, a6, a7, a8, a9] 6).run Tryz.prog W = .ok a6 W := run_part_plain W (by kernel_rfl) rfl
  simp [Instr.field, run_underlying Tryz.underlying85, asAgg, hp]
theorem field_pl9 (a0 a1 a2 a3 a4 a5 a6 a7 a8 a9 : Value) (W : World) : (Instr.field 85 (.agg #[a0, a1, a2, a3, a4, a5, a6, a7, a8, a9]) 9).run Tryz.prog W = .ok a9 W := by
  have hp : (part 3 #[a0, a1, a2, a3, a4, a5, a6, a7, a8, a9] 9).run Tryz.prog W = .ok a9 W := run_part_plain W (by kernel_rfl) rfl
  simp [Instr.field, run_underlying Tryz.underlying85, asAgg, hp]
theorem top_any {w : World} {x bl : Nat} {f : Cf} {l : List Int} {g : Ge} (c1 : w.cell? ⟨x, 1, none⟩ = some (.pointer (some ⟨bl, 0, none⟩))) (hl : LyAt w bl f l g) (h : Nat) (hpp : pP g ≤ 1000000) (h6 : h < 6) : Calls Tryz.prog 63 #[.pointer (some ⟨x, 0, none⟩), .int .i64 ((h + 1 : Nat) : Int)] w fun e w' => e = .returned (.int .i64 (hA (pP g) h)) ∧ Below w.heap.size w w' := by
  have CP := Ly.places_any hl
  unfold Ly.plV at CP
  rw [show Ly.plN g 5 = pP g from rfl] at CP
  have w1 : IntKind.i64.wrap ((pP g : Int) + ((h + 1 : Nat) : Int)) = (pP g : Int) + ((h + 1 : Nat) : Int) := IntWalk.i64_in _ (by omega)
  have w1' : wrap64 ((pP g : Int) + ((h + 1 : Nat) : Int)) = (pP g : Int) + ((h + 1 : Nat) : Int) := IntWalk.wrap64_in _ (by omega)
  have e1 : (pP g : Int) + ((h + 1 : Nat) : Int) - 1 = hA (pP g) h := by unfold hA; omega
  have w2 : IntKind.i64.wrap ((pP g : Int) + ((h + 1 : Nat) : Int) - 1) = hA (pP g) h := by rw [e1]; exact IntWalk.i64_in _ (by unfold hA; omega)
  have w2' : wrap64 ((pP g : Int) + ((h + 1 : Nat) : Int) - 1) = hA (pP g) h := by rw [e1]; exact IntWalk.wrap64_in _ (by unfold hA; omega)
  have hf := field_pl5
  clear hl e1 hpp h6
  generalize hA (pP g) h = HA at *
  generalize ((h + 1 : Nat) : Int) = HH at *
  replace CP := Lib.hid CP
  go_enter Tryz.func63, Tryz.ntmps63
  go_wp2_with fail
  refine CP.out.mono ?_
  rintro r w1 ⟨rfl, hb⟩
  go_wp2
  go_ret
  exact ⟨rfl, hb⟩
theorem link_any {w : World} {x bl : Nat} {f : Cf} {l : List Int} {g : Ge} (c1 : w.cell? ⟨x, 1, none⟩ = some (.pointer (some ⟨bl, 0, none⟩))) (hl : LyAt w bl f l g) (t : Int) (hpp : pP g ≤ 1000000) (t0 : 0 ≤ t) (t1 : t ≤ 70000) : Calls Tryz.prog 65 #[.pointer (some ⟨x, 0, none⟩), .int .i64 t] w fun e w' => e = .returned (.int .i64 ((pP g : Int) + 5 + t)) ∧ Below w.heap.size w w' := by
  have CP := Ly.places_any hl
  unfold Ly.plV at CP
  rw [show Ly.plN g 6 = pK g from rfl, pK_pP] at CP
  have e0 : ((pP g + 6 : Nat) : Int) = (pP g : Int) + 6 := by omega
  have w1 : IntKind.i64.wrap (((pP g + 6 : Nat) : Int) + t) = ((pP g + 6 : Nat) : Int) + t := IntWalk.i64_in _ (by omega)
  have w1' : wrap64 (((pP g + 6 : Nat) : Int) + t) = ((pP g + 6 : Nat) : Int) + t := IntWalk.wrap64_in _ (by omega)
  have e1 : ((pP g + 6 : Nat) : Int) + t - 1 = (pP g : Int) + 5 + t := by omega
  have w2 : IntKind.i64.wrap (((pP g + 6 : Nat) : Int) + t - 1) = (pP g : Int) + 5 + t := by rw [e1]; exact IntWalk.i64_in _ (by omega)
  have w2' : wrap64 (((pP g + 6 : Nat) : Int) + t - 1) = (pP g : Int) + 5 + t := by rw [e1]; exact IntWalk.wrap64_in _ (by omega)
  have hf := field_pl6
  clear hl e1 hpp t0 t1 e0
  generalize (pP g : Int) + 5 + t = LA at *
  generalize pP g + 6 = PK at *
  replace CP := Lib.hid CP
  go_enter Tryz.func65, Tryz.ntmps65
  go_wp2_with fail
  refine CP.out.mono ?_
  rintro r w1 ⟨rfl, hb⟩
  go_wp2
  go_ret
  exact ⟨rfl, hb⟩
section
variable {K : Kc} {w : World} {c : Nat → Nat} {y : Nat} {S : Pm} {r : Op}
/-- the numbers are small, the addresses are in the memory -/
structure Sm (K : Kc) (S : Pm) (r : Op) : Prop where
  pp : pP K.g ≤ 1000000
  h6 : r.h < 6
  th : r.th < 64
  len : pP K.g + 6 + tot K.g.t 6 ≤ S.M.W.length
  lg : S.M.L.length ≤ 50000
  hd : 0 ≤ r.hd ∧ r.hd ≤ 18446744073709551615
theorem Sm.err (h : Sm K S r) {a : Nat} (ha : a < pP K.g + 6 + tot K.g.t 6) : S.M.err ((r.th : Nat) : Int) (a : Nat) = 0 := by
  have h1 := h.th
  have h2 := h.len
  exact Wm.err_ok (by omega) (by omega) (by omega) (by omega)
set_option maxHeartbeats 1000000 in
theorem load_any (h : CA K w c y S r) (hs : Sm K S r) : Calls Tryz.prog 77 #[.pointer (some ⟨y, 0, none⟩)] w fun e w' => e = .returned (.tuple #[]) ∧ Lf K y ⟨S.M.load ((r.th : Nat) : Int) (hA (pP K.g) r.h), S.tk, S.gv, S.gn⟩ ⟨r.th, r.h, r.tw, r.tr, r.pc, S.M.get (hA (pP K.g) r.h), r.lk, r.got, r.fl, r.e⟩ w c w' := by
  have h0 := h.drewN 1
  obtain ⟨p, q, hp, hq⟩ := h0.m
  have c0 := h.o.c0
  have c1 := h.o.c1
  have c2 := h.o.c2
  have p0 := h.p.c0
  have hxy := h.xy
  have hE : S.M.err ((r.th : Nat) : Int) (hA (pP K.g) r.h) = 0 := hs.err (a := pP K.g + r.h) (by have := hs.h6; omega)
  have CT := Lib.hid (top_any h0.p.c1 h0.ly.at r.h hs.pp hs.h6)
  have CL := fun W (hb : Below (w.drewN 1).heap.size (w.drewN 1) W) => Wd.load_any K.bm p q S.M ((r.th : Nat) : Int) (hA (pP K.g) r.h) W (hp.below hb) hs.lg
  unfold LoP wrdT at CL
  simp only [hE, if_true, Wm.after_zero] at CL
  replace CL := Lib.hid CL
  have HX := Lib.hid h0
  have HP := Lib.hid hp
  have HQ := Lib.hid hq
  have HG := fun W hb => Lib.hid (HX.out.below (w1 := W) hb)
  clear h h0 hp hq hs hE
  generalize hHA : hA (pP K.g) r.h = HA at *
  generalize hTH : ((r.th : Nat) : Int) = TH at *
  generalize hHH : ((r.h + 1 : Nat) : Int) = HH at *
  generalize hV : S.M.get HA = V at *
  go_enter Tryz.func77, Tryz.ntmps77
  go_wp2_with fail
  go_region_held3 (fun w' => w'.cell? ⟨y, 0, none⟩ = some (.pointer (some ⟨K.x, 0, none⟩)) ∧ w'.cell? ⟨y, 1, none⟩ = some (.int .i64 TH) ∧ w'.cell? ⟨y, 2, none⟩ = some (.int .i64 HH) ∧ w'.cell? ⟨K.x, 0, none⟩ = some (.pointer (some ⟨K.bm, 0, none⟩))) (first | exact ⟨c0, c1, c2, p0⟩ | with_reducible exact ⟨d0, d1, d2, d3⟩ | with_reducible exact ⟨e0, e1, e2, e3⟩ | exact ⟨(oth (by omega)).trans e0, (oth (by omega)).trans e1, (oth (by omega)).trans e2, (blkc hxy).trans e3⟩) (first | (go_at_call 63; refine CT.out.mono ?_; rintro r1 w1 ⟨rfl, hb⟩; have HX1 := (HG w1 hb).out; have d0 := HX1.o.c0; have d1 := HX1.o.c1; have d2 := HX1.o.c2; have d3 := HX1.p.c0; rw [hHH] at d2; rw [hTH] at d1) | (go_at_call 78; refine (CL.out w1 hb).mono ?_; rintro r1 w2 ⟨rfl, ha⟩; obtain ⟨k2, HX2, F2⟩ := HX1.mem (HP.out.below hb) HQ.out ha; have e0 := HX2.o.c0; have e1 := HX2.o.c1; have e2 := HX2.o.c2; have e3 := HX2.p.c0; have e4 := HX2.o.c4; have e5 := HX2.o.fz 4 (.inl (by omega)); rw [hHH] at e2; rw [hTH] at e1))
  all_goals
    have L2 : Lf K y ⟨S.M.load TH HA, S.tk, S.gv, S.gn⟩ r w c w2 := ⟨k2, HX2, (Fc.of_below ((below_drewN (Below.refl _ w) 1).trans hb)).trans F2⟩
    have h4 : Lf K y ⟨S.M.load TH HA, S.tk, S.gv, S.gn⟩ ⟨r.th, r.h, r.tw, r.tr, r.pc, V, r.lk, r.got, r.fl, r.e⟩ w c (w2.setCell ⟨y, 4, none⟩ (.int .u64 V)) := L2.op fun c1 o => o.set4 V
    go_wp2
    go_end0
    exact ⟨rfl, h4⟩
/-- the word that a swap stores -/
theorem topV_topW {tag n : Int} (h : 0 ≤ tag) : Fl.topV tag n = topW tag n := by
  unfold Fl.topV Fl.topOk topW
  by_cases e : tag ≤ 1099511627775 ∧ 0 ≤ n ∧ n ≤ 1024
  · rw [if_pos (by simpa using e), if_pos ⟨h, e⟩]
  · rw [if_neg (by simpa using e), if_neg (fun q => e q.2)]
theorem topW_bd {tag n : Int} : 0 ≤ topW tag n ∧ topW tag n ≤ 18446744073709551615 := by
  unfold topW
  split <;> omega
set_option maxHeartbeats 1000000 in
theorem swap_any (h : CA K w c y S r) (hs : Sm K S r) (t : Int) : Calls Tryz.prog 79 #[.pointer (some ⟨y, 0, none⟩), .int .i64 t] w fun e w' => e = .returned (.bool (decide (S.M.get (hA (pP K.g) r.h) = r.hd))) ∧ Lf K y ⟨S.M.cas ((r.th : Nat) : Int) (hA (pP K.g) r.h) r.hd (topW (r.hd / 65536 + 1) t), S.tk, S.gv, S.gn⟩ r w c w' := by
  have h0 := h.drewN 1
  obtain ⟨p, q, hp, hq⟩ := h0.m
  have c0 := h.o.c0
  have c1 := h.o.c1
  have c2 := h.o.c2
  have c4 := h.o.c4
  have p0 := h.p.c0
  have hxy := h.xy
  have hd0 := hs.hd.1
  have hd1 := hs.hd.2
  have hE : S.M.err ((r.th : Nat) : Int) (hA (pP K.g) r.h) = 0 := hs.err (a := pP K.g + r.h) (by have := hs.h6; omega)
  obtain ⟨TG, hTG⟩ : ∃ TG, TG = r.hd / 65536 + 1 := ⟨_, rfl⟩
  have hTG0 : 0 ≤ TG := by omega
  have hTG1 : TG ≤ 18446744073709551615 := by omega
  have wt : IntKind.u64.wrap (r.hd / 65536 + 1) = TG := by rw [IntKind.wrap_u64]; omega
  have CG := Lib.hid (Fl.tag_any r.hd hd0 hd1 w)
  have CP := Fl.top_any TG t hTG0 hTG1 w
  rw [topV_topW hTG0] at CP
  obtain ⟨NW, hNW⟩ : ∃ v, v = topW TG t := ⟨_, rfl⟩
  obtain ⟨NE, hNE⟩ : ∃ v, v = Fl.topE TG t := ⟨_, rfl⟩
  rw [← hNW, ← hNE] at CP
  replace CP := Lib.hid CP
  have nw := topW_bd (tag := TG) (n := t)
  rw [← hNW] at nw
  have CT := Lib.hid (top_any h0.p.c1 h0.ly.at r.h hs.pp hs.h6)
  have CL := fun W (hb : Below (w.drewN 1).heap.size (w.drewN 1) W) => Wd.cas_any K.bm p q S.M ((r.th : Nat) : Int) (hA (pP K.g) r.h) r.hd NW W (hp.below hb) hs.lg nw.1 nw.2
  unfold CaP casT at CL
  simp only [hE, true_and, Wm.after_zero] at CL
  replace CL := Lib.hid CL
  have HX := Lib.hid h0
  have HP := Lib.hid hp
  have HQ := Lib.hid hq
  have HG := fun W hb => Lib.hid (HX.out.below (w1 := W) hb)
  rw [← hTG, ← hNW]
  clear h h0 hp hq hs hE hNW hNE hTG nw hTG0 hTG1
  generalize hHA : hA (pP K.g) r.h = HA at *
  generalize hTH : ((r.th : Nat) : Int) = TH at *
  generalize hHH : ((r.h + 1 : Nat) : Int) = HH at *
  generalize decide (S.M.get HA = r.hd) = bb at *
  go_enter Tryz.func79, Tryz.ntmps79
  go_wp2_with fail
  refine CG.out.mono ?_
  rintro r1 wz ⟨rfl, e⟩
  obtain rfl := e
  go_wp2_with fail
  refine CP.out.mono ?_
  rintro r1 wz ⟨rfl, e⟩
  obtain rfl := e
  go_wp2_with fail
  go_region_held3 (fun w' => w'.cell? ⟨y, 0, none⟩ = some (.pointer (some ⟨K.x, 0, none⟩)) ∧ w'.cell? ⟨y, 1, none⟩ = some (.int .i64 TH) ∧ w'.cell? ⟨y, 2, none⟩ = some (.int .i64 HH) ∧ w'.cell? ⟨y, 4, none⟩ = some (.int .u64 r.hd) ∧ w'.cell? ⟨K.x, 0, none⟩ = some (.pointer (some ⟨K.bm, 0, none⟩))) (first | exact ⟨c0, c1, c2, c4, p0⟩ | with_reducible exact ⟨d0, d1, d2, d4, d3⟩ | with_reducible exact ⟨e0, e1, e2, e4, e3⟩) (first | (go_at_call 63; refine CT.out.mono ?_; rintro r1 w1 ⟨rfl, hb⟩; have HX1 := (HG w1 hb).out; have d0 := HX1.o.c0; have d1 := HX1.o.c1; have d2 := HX1.o.c2; have d3 := HX1.p.c0; have d4 := HX1.o.c4; rw [hHH] at d2; rw [hTH] at d1) | (go_at_call 96; refine (CL.out w1 hb).mono ?_; rintro r1 w2 ⟨rfl, ha⟩; obtain ⟨k2, HX2, F2⟩ := HX1.mem (HP.out.below hb) HQ.out ha; have e0 := HX2.o.c0; have e1 := HX2.o.c1; have e2 := HX2.o.c2; have e3 := HX2.p.c0; have e4 := HX2.o.c4; rw [hHH] at e2; rw [hTH] at e1))
  all_goals
    have L2 : Lf K y ⟨S.M.cas TH HA r.hd NW, S.tk, S.gv, S.gn⟩ r w c w2 := ⟨k2, HX2, (Fc.of_below ((below_drewN (Below.refl _ w) 1).trans hb)).trans F2⟩
    go_wp2
    go_ret
    exact ⟨rfl, L2⟩
end
end Po
end Go.Proofs.YtdkkpaofodicjaaGreat
