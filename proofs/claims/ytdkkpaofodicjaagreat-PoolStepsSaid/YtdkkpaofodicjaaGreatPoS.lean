/- Step of leapfrogref14: contracts of the translated code, one for each step counter. Conditions: the bounds of each number's kind; logs of at most 50,000 accesses. (Made ahead in round 13; written by tools/mk14s.py.) -/
import Derived.Test.YtdkkpaofodicjaaGreatPoR
import Derived.Deep.RegionHeld3
namespace Go.Proofs.YtdkkpaofodicjaaGreat
open Go.RowKit Go.Sort
set_option linter.unusedVariables false
set_option linter.unusedSimpArgs false
set_option maxRecDepth 100000
namespace Po
open Wd
/-- the places of the pools and the links, in the layout at bl -/
structure PL (w : World) (bl : Nat) (PP PK : Int) : Prop where
  c5 : w.cell? ⟨bl, 21, none⟩ = some (.int .i64 PP)
  c6 : w.cell? ⟨bl, 22, none⟩ = some (.int .i64 PK)
/-- blocks that are not the same -/
structure Di (bm p : Nat) (q : Option Nat) (y x ta ga na bl : Nat) : Prop where
  m : ∀ i, Of bm p q i → i ≠ y ∧ i ≠ x ∧ i ≠ ta ∧ i ≠ ga ∧ i ≠ na ∧ i ≠ bl
  y : y ≠ x ∧ y ≠ ta ∧ y ≠ ga ∧ y ≠ na ∧ y ≠ bl
  b : bl ≠ ta ∧ bl ≠ ga ∧ bl ≠ na
/-- what a step needs -/
structure Cx (w : World) (y x bm p : Nat) (q : Option Nat) (bl ta ga na n pp : Nat) (ht : Nat → Nat) (S : Pm) (stk : Nat → List Nat) (sw : Nat → Nat) (r : Op) : Prop where
  a : At 101 w bm p q S.M
  pr : PR w x bm bl ta ga na n S
  o : OR w y x r
  l : PL w bl ((pp : Nat) : Int) ((pp + 6 : Nat) : Int)
  i : In pp n ht S stk sw
  k : Ok pp n ht S stk sw r
  d : Di bm p q y x ta ga na bl
  pp : pp ≤ 1000000
  lg : S.M.L.length ≤ 50000
  fl : r.fl ≤ 1000000
  gn : ∀ t, S.gn t ≤ 1000000
  sw : ∀ h, sw h ≤ 100000
def Own (y ta ga na : Nat) : Nat → Prop := fun i => i = y ∨ i = ta ∨ i = ga ∨ i = na
/-- what a step leaves -/
def StR (y x bm p : Nat) (q : Option Nat) (bl ta ga na n : Nat) (S' : Pm) (r r' : Op) (w : World) (e : Ending) (w' : World) : Prop :=
  e = .returned (.tuple #[.int .u8 ((r.pc : Nat) : Int), .bool (decide (r'.pc = 0))]) ∧
  ∃ q', At 101 w' bm p q' S'.M ∧ (∀ g, q' = some g → q = some g ∨ w.heap.size ≤ g) ∧ PR w' x bm bl ta ga na n S' ∧ OR w' y x r' ∧ Fr (fun i => Of bm p q i ∨ Own y ta ga na i) w w'
theorem Fr.own {y ta ga na b j : Nat} {w w1 : World} (h : Fr (Own y ta ga na) w w1) (hb : Own y ta ga na b) (v : Value) : Fr (Own y ta ga na) w (w1.setCell ⟨b, j, none⟩ v) := Fr.set h _ _ hb
theorem Fr.dr {T : Nat → Prop} {w w1 : World} (h : Fr T w w1) : Fr T w w1.drew := h.trans (Fr.of_below (bel_drew (Below.refl _ _))) fun _ _ e => e
theorem OR.dr {w : World} {y x : Nat} {r : Op} (h : OR w y x r) : OR w.drew y x r := h.keep rfl
theorem PR.dr {w : World} {x bm bl ta ga na n : Nat} {S : Pm} (h : PR w x bm bl ta ga na n S) : PR w.drew x bm bl ta ga na n S := ⟨h.c0, h.c1, h.c2, h.c3, h.c4, h.t, h.g, h.q, h.d1, h.d2, h.d3, h.d4, h.d5, h.d6⟩
/-- a store into the operation leaves the pools -/
theorem PR.sty {w : World} {y x bm p bl ta ga na n : Nat} {q : Option Nat} {S : Pm} (h : PR w x bm bl ta ga na n S) (d : Di bm p q y x ta ga na bl) (j : Nat) (v : Value) : PR (w.setCell ⟨y, j, none⟩ v) x bm bl ta ga na n S := by
  have := d.y
  exact h.keep (M := S.M) fun i hi => blk fun e => by rcases hi with e2 | e2 | e2 | e2 <;> omega
theorem stop_any {w : World} {y x : Nat} {r : Op} (h : OR w y x r) (hp : r.pc = 0) : Calls Tryz.prog 58 #[.pointer (some ⟨y, 0, none⟩)] w fun e w' => e = .returned (.tuple #[.int .u8 0, .bool false]) ∧ w' = w := by
  have c5 := h.c5
  rw [hp] at c5
  clear h hp
  go_enter Tryz.func58, Tryz.ntmps58
  go_wp2
  go_ret2
  exact ⟨rfl, rfl⟩
section
variable {w : World} {y x bm p : Nat} {q : Option Nat} {bl ta ga na n pp : Nat} {ht : Nat → Nat} {S : Pm} {stk : Nat → List Nat} {sw : Nat → Nat} {r : Op}
/-- behind a change of the memory -/
theorem Cx.behind (h : Cx w y x bm p q bl ta ga na n pp ht S stk sw r) {w1 : World} {M : Wm} (ha : After 101 bm p q M w w1) : OR w1 y x r ∧ PR w1 x bm bl ta ga na n ⟨M, S.tk, S.gv, S.gn⟩ := by
  obtain ⟨q', h1, h2, h3⟩ := ha
  have n1 : ∀ b, b < w.heap.size → (∀ i, Of bm p q i → i ≠ b) → w1.heap[b]? = w.heap[b]? := fun b hb hn => h3.block b hb fun e => hn b e rfl
  refine ⟨h.o.keep (n1 y h.o.lt fun i hi => (h.d.m i hi).1), h.pr.keep fun i hi => ?_⟩
  have lt := h.pr.lt
  rcases hi with e | e | e | e
  · subst e; exact n1 _ lt.1 fun j hj => (h.d.m j hj).2.1
  · subst e; exact n1 _ lt.2.1 fun j hj => (h.d.m j hj).2.2.1
  · subst e; exact n1 _ lt.2.2.1 fun j hj => (h.d.m j hj).2.2.2.1
  · subst e; exact n1 _ lt.2.2.2 fun j hj => (h.d.m j hj).2.2.2.2.1
theorem Cx.fin (h : Cx w y x bm p q bl ta ga na n pp ht S stk sw r) {w1 w' : World} {M : Wm} (ha : After 101 bm p q M w w1) (hf : Fr (Own y ta ga na) w1 w') : ∃ q', At 101 w' bm p q' M ∧ (∀ g, q' = some g → q = some g ∨ w.heap.size ≤ g) ∧ Fr (fun i => Of bm p q i ∨ Own y ta ga na i) w w' := by
  obtain ⟨q', h1, h2, h3⟩ := ha
  have lt := h.pr.lt
  have ly := h.o.lt
  have hn : ∀ i, Of bm p q' i → ¬ Own y ta ga na i := fun i hi ho => by
    rcases hi with e | e | e
    · have := h.d.m i (.inl e); rcases ho with e2 | e2 | e2 | e2 <;> omega
    · have := h.d.m i (.inr (.inl e)); rcases ho with e2 | e2 | e2 | e2 <;> omega
    · rcases h2 i e with e | e
      · have := h.d.m i (.inr (.inr e)); rcases ho with e2 | e2 | e2 | e2 <;> omega
      · rcases ho with e2 | e2 | e2 | e2 <;> omega
  exact ⟨q', h1.keep fun i hi ho => hf.block i hi (hn i ho), h2, ⟨hf.os.trans h3.os, hf.tape.trans h3.tape, hf.output.trans h3.output, Nat.le_trans h3.size hf.size, fun i hi hno => (hf.block i (Nat.lt_of_lt_of_le hi h3.size) fun e => hno (.inr e)).trans (h3.block i hi fun e => hno (.inl e))⟩⟩
theorem Cx.drewN (h : Cx w y x bm p q bl ta ga na n pp ht S stk sw r) (m : Nat) : Cx (w.drewN m) y x bm p q bl ta ga na n pp ht S stk sw r :=
  ⟨h.a.below (Dm.below_drewN (Below.refl _ _) m), ⟨h.pr.c0, h.pr.c1, h.pr.c2, h.pr.c3, h.pr.c4, h.pr.t, h.pr.g, h.pr.q, h.pr.d1, h.pr.d2, h.pr.d3, h.pr.d4, h.pr.d5, h.pr.d6⟩, h.o.keep rfl, ⟨h.l.c5, h.l.c6⟩, h.i, h.k, h.d, h.pp, h.lg, h.fl, h.gn, h.sw⟩
theorem Fr.drN {T : Nat → Prop} {w w1 : World} (m : Nat) (h : Fr T w w1) : Fr T w (w1.drewN m) := h.trans (Fr.of_below (Dm.below_drewN (Below.refl _ _) m)) fun _ _ e => e
theorem OR.drN {w : World} {y x : Nat} {r : Op} (h : OR w y x r) (m : Nat) : OR (w.drewN m) y x r := h.keep rfl
theorem PR.drN {w : World} {x bm bl ta ga na n : Nat} {S : Pm} (h : PR w x bm bl ta ga na n S) (m : Nat) : PR (w.drewN m) x bm bl ta ga na n S := ⟨h.c0, h.c1, h.c2, h.c3, h.c4, h.t, h.g, h.q, h.d1, h.d2, h.d3, h.d4, h.d5, h.d6⟩
theorem After.ofN {b p : Nat} {q : Option Nat} {M : Wm} {w w1 : World} {m : Nat} (h : After 101 b p q M (w.drewN m) w1) : After 101 b p q M w w1 := h.behind (Fr.of_below (Dm.below_drewN (Below.refl _ _) m))
theorem Cx.drew (h : Cx w y x bm p q bl ta ga na n pp ht S stk sw r) : Cx w.drew y x bm p q bl ta ga na n pp ht S stk sw r :=
  ⟨h.a.below (bel_drew (Below.refl _ _)), h.pr.dr, h.o.dr, ⟨h.l.c5, h.l.c6⟩, h.i, h.k, h.d, h.pp, h.lg, h.fl, h.gn, h.sw⟩
theorem Cx.done (h : Cx w y x bm p q bl ta ga na n pp ht S stk sw r) {w1 w' : World} {S' : Pm} {r' : Op} {e : Ending} (ha : After 101 bm p q S'.M w w1) (hf : Fr (Own y ta ga na) w1 w') (hP : PR w' x bm bl ta ga na n S') (hO : OR w' y x r') (he : e = .returned (.tuple #[.int .u8 ((r.pc : Nat) : Int), .bool (decide (r'.pc = 0))])) : StR y x bm p q bl ta ga na n S' r r' w e w' := by
  obtain ⟨q', h1, h2, h3⟩ := h.fin ha hf
  exact ⟨he, q', h1, h2, hP, hO, h3⟩
theorem Fr.id (T : Nat → Prop) (w : World) : Fr T w w := Fr.of_below (Below.refl _ _)
theorem Cx.err (h : Cx w y x bm p q bl ta ga na n pp ht S stk sw r) {a : Nat} (ha : a < pp + 6 + n) : 0 = S.M.err ((r.th : Nat) : Int) (a : Nat) := by
  have h1 := h.k.th
  have h2 := h.i.len
  exact (Wm.err_ok (by omega) (by omega) (by omega) (by omega)).symm
set_option maxHeartbeats 4000000 in
theorem step4_any (h : Cx w y x bm p q bl ta ga na n pp ht S stk sw r) (hp : r.pc = 4) (b0 : 0 ≤ r.hd) (b1 : r.hd ≤ 18446744073709551615) : Calls Tryz.prog 58 #[.pointer (some ⟨y, 0, none⟩)] w (StR y x bm p q bl ta ga na n (step pp S r).1 r (step pp S r).2 w) := by
  have n1 := h.i.n1
  have hpp := h.pp
  have h6 := h.k.h6
  have c0 := h.o.c0
  have c1 := h.o.c1
  have c2 := h.o.c2
  have c3 := h.o.c3
  have c5 := h.o.c5
  have c6 := h.o.c6
  have p0 := h.pr.c0
  have p1 := h.pr.c1
  have l5 := h.l.c5
  have l6 := h.l.c6
  have hd0 := (Wm.get_bd (M := S.M) (by obtain ⟨_, _, _, ha⟩ := h.a; exact ha.bd) (hA pp r.h))
  replace c5 : w.cell? ⟨y, 5, none⟩ = some (.int .u8 4) := by rw [hp] at c5; exact c5
  obtain ⟨HH, hHH⟩ : ∃ v, v = ((r.h + 1 : Nat) : Int) := ⟨_, rfl⟩
  obtain ⟨PP, hPP⟩ : ∃ v, v = ((pp : Nat) : Int) := ⟨_, rfl⟩
  obtain ⟨PK, hPK⟩ : ∃ v, v = ((pp + 6 : Nat) : Int) := ⟨_, rfl⟩
  obtain ⟨HA, hHA⟩ : ∃ v, v = hA pp r.h := ⟨_, rfl⟩
  obtain ⟨KK, hKK⟩ : ∃ v, v = PK - 1 := ⟨_, rfl⟩
  obtain ⟨TH, hTH⟩ : ∃ v, v = ((r.th : Nat) : Int) := ⟨_, rfl⟩
  obtain ⟨TW, hTW⟩ : ∃ v, v = ((r.tw : Nat) : Int) := ⟨_, rfl⟩
  have hHAe : HA = PP + HH - 1 := by rw [hHA, hPP, hHH]; unfold hA; omega
  rw [← hHH] at c2
  rw [← hPP] at l5
  rw [← hPK] at l6
  rw [← hTH] at c1
  rw [← hTW] at c3
  have w1 : IntKind.i64.wrap (PP + HH) = PP + HH := IntWalk.i64_in _ (by omega)
  have w1' : wrap64 (PP + HH) = PP + HH := IntWalk.wrap64_in _ (by omega)
  have w2 : IntKind.i64.wrap (PP + HH - 1) = HA := by rw [hHAe]; exact IntWalk.i64_in _ (by omega)
  have w2' : wrap64 (PP + HH - 1) = HA := by rw [hHAe]; exact IntWalk.wrap64_in _ (by omega)
  have w3 : IntKind.i64.wrap (PK - 1) = KK := by rw [hKK]; exact IntWalk.i64_in _ (by omega)
  have w3' : wrap64 (PK - 1) = KK := by rw [hKK]; exact IntWalk.wrap64_in _ (by omega)
  obtain ⟨V, hV⟩ : ∃ v, v = S.M.get HA := ⟨_, rfl⟩
  rw [← hHA, ← hV] at hd0
  have CT := fun W => Lib.hid (Fl.towerR_any r.hd b0 b1 W)
  have CV := fun W => Lib.hid (Fl.towerR_any V hd0.1 hd0.2 W)
  have HE : 0 = S.M.err TH HA := by rw [hTH, hHA]; exact h.err (a := pp + r.h) (by omega)
  have CL := fun m => loadRZ bm p q S.M TH HA V 0 (w.drewN m) (h.drewN m).a h.lg HE (by rw [← HE, if_pos rfl, hV])
  rw [Wm.after_zero] at CL
  replace CL := Lib.hid CL
  have CX := Lib.hid h
  have HS := Lib.hid (show step pp S r = (⟨S.M.load TH HA, S.tk, S.gv, S.gn⟩, ⟨r.th, r.h, r.tw, r.tr, if 0 < r.tw then 7 else if V % 65536 = 0 then 0 else 5, V, r.lk, r.got, r.fl, if r.tw = 0 ∧ V % 65536 = 0 then 6 else r.e⟩) by unfold step; rw [if_pos hp, hTH, hV, hHA])
  have HP := Lib.hid hp
  rw [HS.out]
  have htw : (0 < r.tw) ↔ 0 < TW := by omega
  have htw0 : (r.tw = 0) ↔ TW = 0 := by omega
  clear h hp hHH hPP hPK hHA hKK hTH hHAe hV HE h6 hpp n1
  have HT := Lib.hid hTW
  by_cases g0 : 0 < r.tw
  · have g1 : decide (0 < TW) = true := decide_eq_true (htw.1 g0)
    simp only [if_pos g0, if_neg (show ¬ (r.tw = 0 ∧ V % 65536 = 0) from fun e => by omega)]
    clear htw htw0 g0 hTW
    go_enter Tryz.func58, Tryz.ntmps58
    go_wp2_with fail
    go_quiet (fail)
    go_wp2_with fail
    refine (CT _).out.mono ?_
    rintro r1 wz ⟨rfl, e⟩
    obtain rfl := e
    go_wp2_with fail
    refine (CL.out _).mono ?_
    rintro r1 w1 ⟨rfl, ha⟩
    obtain ⟨hO, hP⟩ := CX.out.behind (After.ofN ha)
    have hD := CX.out.d
    have o6 := hO.c6
    have o6f := hO.fz 6 (by omega)
    have h6 := hO.set6 V
    have o3 := h6.c3
    rw [← HT.out] at o3
    have o5 := h6.c5
    have o5f := h6.fz 5 (by omega)
    have o6b := h6.c6
    have o10 := h6.c10
    have o10f := h6.fz 10 (by omega)
    have h5 := h6.set5 7
    have z5 := h5.c5
    have HA1 := Lib.hid (After.ofN ha)
    have HO := Lib.hid h5
    have HPR := Lib.hid ((hP.sty hD 6 (.int .u64 V)).sty hD 5 (.int .u8 7))
    clear ha hO hP h6 h5 hD
    go_wp2_with fail
    go_quiet (fail)
    go_wp2
    go_ret2
    exact CX.out.done HA1.out (Fr.drN _ (Fr.own (Fr.own (Fr.id _ _) (.inl rfl) _) (.inl rfl) _)) (HPR.out.drN _) (HO.out.drN _) (by rw [HP.out]; rfl)
  · have g1 : decide (0 < TW) = false := decide_eq_false (fun e => g0 (htw.2 e))
    have hz0 : r.tw = 0 := by omega
    simp only [if_neg g0]
    by_cases g2 : V % 65536 = 0
    · have g3 : (V % 65536 == 0) = true := by simp [g2]
      have g4 : decide (V % 65536 = 0) = true := decide_eq_true g2
      simp only [if_pos g2, if_pos (show r.tw = 0 ∧ V % 65536 = 0 from ⟨hz0, g2⟩)]
      clear htw htw0 g0 hTW hz0 g2
      go_enter Tryz.func58, Tryz.ntmps58
      go_wp2_with fail
      go_quiet (fail)
      go_wp2_with fail
      refine (CT _).out.mono ?_
      rintro r1 wz ⟨rfl, e⟩
      obtain rfl := e
      go_wp2_with fail
      refine (CL.out _).mono ?_
      rintro r1 w1 ⟨rfl, ha⟩
      obtain ⟨hO, hP⟩ := CX.out.behind (After.ofN ha)
      have hD := CX.out.d
      have o6 := hO.c6
      have o6f := hO.fz 6 (by omega)
      have h6 := hO.set6 V
      have o3 := h6.c3
      rw [← HT.out] at o3
      have o5 := h6.c5
      have o5f := h6.fz 5 (by omega)
      have o6b := h6.c6
      have o10 := h6.c10
      have o10f := h6.fz 10 (by omega)
      have h5 := h6.set5 0
      have h10 := h5.set10 6
      have z5 := h10.c5
      have y10 := h5.c10
      have y10f := h5.fz 10 (by omega)
      have HA1 := Lib.hid (After.ofN ha)
      have HO := Lib.hid h10
      have HPR := Lib.hid (((hP.sty hD 6 (.int .u64 V)).sty hD 5 (.int .u8 0)).sty hD 10 (.int .i64 6))
      clear ha hO hP h6 h5 h10 hD
      go_wp2_with fail
      refine (CV _).out.mono ?_
      rintro r1 wz ⟨rfl, e⟩
      obtain rfl := e
      go_wp2_with fail
      go_quiet (fail)
      go_wp2
      go_ret2
      exact CX.out.done HA1.out (Fr.drN _ (Fr.own (Fr.own (Fr.own (Fr.id _ _) (.inl rfl) _) (.inl rfl) _) (.inl rfl) _)) (HPR.out.drN _) (HO.out.drN _) (by rw [HP.out]; rfl)
    · have g3 : (V % 65536 == 0) = false := by simp [g2]
      have g4 : decide (V % 65536 = 0) = false := decide_eq_false g2
      simp only [if_neg g2, if_neg (show ¬ (r.tw = 0 ∧ V % 65536 = 0) from fun e => g2 e.2)]
      clear htw htw0 g0 hTW hz0 g2
      go_enter Tryz.func58, Tryz.ntmps58
      go_wp2_with fail
      go_quiet (fail)
      go_wp2_with fail
      refine (CT _).out.mono ?_
      rintro r1 wz ⟨rfl, e⟩
      obtain rfl := e
      go_wp2_with fail
      refine (CL.out _).mono ?_
      rintro r1 w1 ⟨rfl, ha⟩
      obtain ⟨hO, hP⟩ := CX.out.behind (After.ofN ha)
      have hD := CX.out.d
      have o6 := hO.c6
      have o6f := hO.fz 6 (by omega)
      have h6 := hO.set6 V
      have o3 := h6.c3
      rw [← HT.out] at o3
      have o5 := h6.c5
      have o5f := h6.fz 5 (by omega)
      have o6b := h6.c6
      have o10 := h6.c10
      have o10f := h6.fz 10 (by omega)
      have h5 := h6.set5 5
      have z5 := h5.c5
      have HA1 := Lib.hid (After.ofN ha)
      have HO := Lib.hid h5
      have HPR := Lib.hid ((hP.sty hD 6 (.int .u64 V)).sty hD 5 (.int .u8 5))
      clear ha hO hP h6 h5 hD
      go_wp2_with fail
      refine (CV _).out.mono ?_
      rintro r1 wz ⟨rfl, e⟩
      obtain rfl := e
      go_wp2_with fail
      go_quiet (fail)
      go_wp2
      go_ret2
      exact CX.out.done HA1.out (Fr.drN _ (Fr.own (Fr.own (Fr.id _ _) (.inl rfl) _) (.inl rfl) _)) (HPR.out.drN _) (HO.out.drN _) (by rw [HP.out]; rfl)
set_option maxHeartbeats 4000000 in
theorem step5_any (h : Cx w y x bm p q bl ta ga na n pp ht S stk sw r) (hp : r.pc = 5) (b0 : 0 ≤ r.hd) (b1 : r.hd ≤ 18446744073709551615) : Calls Tryz.prog 58 #[.pointer (some ⟨y, 0, none⟩)] w (StR y x bm p q bl ta ga na n (step pp S r).1 r (step pp S r).2 w) := by
  have n1 := h.i.n1
  have hpp := h.pp
  have h6 := h.k.h6
  have c0 := h.o.c0
  have c1 := h.o.c1
  have c2 := h.o.c2
  have c3 := h.o.c3
  have c5 := h.o.c5
  have c6 := h.o.c6
  have p0 := h.pr.c0
  have p1 := h.pr.c1
  have l5 := h.l.c5
  have l6 := h.l.c6
  have hd0 := (Wm.get_bd (M := S.M) (by obtain ⟨_, _, _, ha⟩ := h.a; exact ha.bd) (hA pp r.h))
  replace c5 : w.cell? ⟨y, 5, none⟩ = some (.int .u8 5) := by rw [hp] at c5; exact c5
  obtain ⟨HH, hHH⟩ : ∃ v, v = ((r.h + 1 : Nat) : Int) := ⟨_, rfl⟩
  obtain ⟨PP, hPP⟩ : ∃ v, v = ((pp : Nat) : Int) := ⟨_, rfl⟩
  obtain ⟨PK, hPK⟩ : ∃ v, v = ((pp + 6 : Nat) : Int) := ⟨_, rfl⟩
  obtain ⟨HA, hHA⟩ : ∃ v, v = hA pp r.h := ⟨_, rfl⟩
  obtain ⟨KK, hKK⟩ : ∃ v, v = PK - 1 := ⟨_, rfl⟩
  obtain ⟨TH, hTH⟩ : ∃ v, v = ((r.th : Nat) : Int) := ⟨_, rfl⟩
  obtain ⟨TW, hTW⟩ : ∃ v, v = ((r.tw : Nat) : Int) := ⟨_, rfl⟩
  have hHAe : HA = PP + HH - 1 := by rw [hHA, hPP, hHH]; unfold hA; omega
  rw [← hHH] at c2
  rw [← hPP] at l5
  rw [← hPK] at l6
  rw [← hTH] at c1
  rw [← hTW] at c3
  have w1 : IntKind.i64.wrap (PP + HH) = PP + HH := IntWalk.i64_in _ (by omega)
  have w1' : wrap64 (PP + HH) = PP + HH := IntWalk.wrap64_in _ (by omega)
  have w2 : IntKind.i64.wrap (PP + HH - 1) = HA := by rw [hHAe]; exact IntWalk.i64_in _ (by omega)
  have w2' : wrap64 (PP + HH - 1) = HA := by rw [hHAe]; exact IntWalk.wrap64_in _ (by omega)
  have w3 : IntKind.i64.wrap (PK - 1) = KK := by rw [hKK]; exact IntWalk.i64_in _ (by omega)
  have w3' : wrap64 (PK - 1) = KK := by rw [hKK]; exact IntWalk.wrap64_in _ (by omega)
  obtain ⟨X, hX1, hXn, hX⟩ : ∃ X : Nat, 1 ≤ X ∧ X ≤ n ∧ r.hd % 65536 = (X : Int) := by
    rcases h.k.p with e | e | ⟨_, _, s, x, e, e1⟩ | e | e | e
    · omega
    · omega
    · exact ⟨x, e1, e.2.1, by rw [e.1, wd_mod (by have := e.2.1; omega)]⟩
    · omega
    · omega
    · omega
  obtain ⟨TP, hTP⟩ : ∃ v, v = (X : Int) := ⟨_, rfl⟩
  obtain ⟨LA, hLA⟩ : ∃ v, v = lA pp X := ⟨_, rfl⟩
  have hLAe : LA = KK + TP := by rw [hLA, hKK, hPK, hTP]; unfold lA; omega
  have w4 : IntKind.i64.wrap (KK + TP) = LA := by rw [hLAe]; exact IntWalk.i64_in _ (by omega)
  have w4' : wrap64 (KK + TP) = LA := by rw [hLAe]; exact IntWalk.wrap64_in _ (by omega)
  obtain ⟨V, hV⟩ : ∃ v, v = S.M.get LA := ⟨_, rfl⟩
  have CT := fun W => Fl.towerR_any r.hd b0 b1 W
  rw [hX, ← hTP] at CT
  replace CT := Lib.hid CT
  have HE : 0 = S.M.err TH LA := by rw [hTH, hLA]; exact h.err (a := pp + 5 + X) (by omega)
  have CL := fun m => loadRZ bm p q S.M TH LA V 0 (w.drewN m) (h.drewN m).a h.lg HE (by rw [← HE, if_pos rfl, hV])
  rw [Wm.after_zero] at CL
  replace CL := Lib.hid CL
  have CX := Lib.hid h
  have HS := Lib.hid (show step pp S r = (⟨S.M.load TH LA, S.tk, S.gv, S.gn⟩, ⟨r.th, r.h, r.tw, r.tr, 6, r.hd, V, r.got, r.fl, r.e⟩) by unfold step; rw [if_neg (by omega), if_pos hp, hTH, hX, Int.toNat_natCast, hV, hLA])
  have HP := Lib.hid hp
  rw [HS.out]
  clear h hp hHH hPP hPK hHA hKK hTH hHAe hV HE h6 hpp n1 hX hTP hLA hLAe hd0 hTW hX1 hXn
  go_enter Tryz.func58, Tryz.ntmps58
  go_wp2_with fail
  go_quiet (fail)
  go_wp2_with fail
  refine (CT.out _).mono ?_
  rintro r1 wz ⟨rfl, e⟩
  obtain rfl := e
  go_wp2_with fail
  refine (CL.out _).mono ?_
  rintro r1 w1 ⟨rfl, ha⟩
  obtain ⟨hO, hP⟩ := CX.out.behind (After.ofN ha)
  have hD := CX.out.d
  have o7 := hO.c7
  have o7f := hO.fz 7 (by omega)
  have h7 := hO.set7 V
  have o5 := h7.c5
  have o5f := h7.fz 5 (by omega)
  have h5 := h7.set5 6
  have z5 := h5.c5
  have HA1 := Lib.hid (After.ofN ha)
  have HO := Lib.hid h5
  have HPR := Lib.hid ((hP.sty hD 7 (.int .u64 V)).sty hD 5 (.int .u8 6))
  clear ha hO hP h7 h5 hD
  go_wp2_with fail
  go_quiet (fail)
  go_wp2
  go_ret2
  exact CX.out.done HA1.out (Fr.drN _ (Fr.own (Fr.own (Fr.id _ _) (.inl rfl) _) (.inl rfl) _)) (HPR.out.drN _) (HO.out.drN _) (by rw [HP.out]; rfl)
set_option maxHeartbeats 4000000 in
theorem step7_any (h : Cx w y x bm p q bl ta ga na n pp ht S stk sw r) (hp : r.pc = 7) (b0 : 0 ≤ r.hd) (b1 : r.hd ≤ 18446744073709551615) : Calls Tryz.prog 58 #[.pointer (some ⟨y, 0, none⟩)] w (StR y x bm p q bl ta ga na n (step pp S r).1 r (step pp S r).2 w) := by
  have n1 := h.i.n1
  have hpp := h.pp
  have h6 := h.k.h6
  have c0 := h.o.c0
  have c1 := h.o.c1
  have c2 := h.o.c2
  have c3 := h.o.c3
  have c5 := h.o.c5
  have c6 := h.o.c6
  have p0 := h.pr.c0
  have p1 := h.pr.c1
  have l5 := h.l.c5
  have l6 := h.l.c6
  have hd0 := (Wm.get_bd (M := S.M) (by obtain ⟨_, _, _, ha⟩ := h.a; exact ha.bd) (hA pp r.h))
  replace c5 : w.cell? ⟨y, 5, none⟩ = some (.int .u8 7) := by rw [hp] at c5; exact c5
  obtain ⟨HH, hHH⟩ : ∃ v, v = ((r.h + 1 : Nat) : Int) := ⟨_, rfl⟩
  obtain ⟨PP, hPP⟩ : ∃ v, v = ((pp : Nat) : Int) := ⟨_, rfl⟩
  obtain ⟨PK, hPK⟩ : ∃ v, v = ((pp + 6 : Nat) : Int) := ⟨_, rfl⟩
  obtain ⟨HA, hHA⟩ : ∃ v, v = hA pp r.h := ⟨_, rfl⟩
  obtain ⟨KK, hKK⟩ : ∃ v, v = PK - 1 := ⟨_, rfl⟩
  obtain ⟨TH, hTH⟩ : ∃ v, v = ((r.th : Nat) : Int) := ⟨_, rfl⟩
  obtain ⟨TW, hTW⟩ : ∃ v, v = ((r.tw : Nat) : Int) := ⟨_, rfl⟩
  have hHAe : HA = PP + HH - 1 := by rw [hHA, hPP, hHH]; unfold hA; omega
  rw [← hHH] at c2
  rw [← hPP] at l5
  rw [← hPK] at l6
  rw [← hTH] at c1
  rw [← hTW] at c3
  have w1 : IntKind.i64.wrap (PP + HH) = PP + HH := IntWalk.i64_in _ (by omega)
  have w1' : wrap64 (PP + HH) = PP + HH := IntWalk.wrap64_in _ (by omega)
  have w2 : IntKind.i64.wrap (PP + HH - 1) = HA := by rw [hHAe]; exact IntWalk.i64_in _ (by omega)
  have w2' : wrap64 (PP + HH - 1) = HA := by rw [hHAe]; exact IntWalk.wrap64_in _ (by omega)
  have w3 : IntKind.i64.wrap (PK - 1) = KK := by rw [hKK]; exact IntWalk.i64_in _ (by omega)
  have w3' : wrap64 (PK - 1) = KK := by rw [hKK]; exact IntWalk.wrap64_in _ (by omega)
  obtain ⟨X, h0, hX⟩ : ∃ X : Nat, 0 < r.tw ∧ X ≤ n ∧ r.hd % 65536 = (X : Int) := by
    rcases h.k.p with e | e | e | e | ⟨_, e0, s, x, e⟩ | e
    · omega
    · omega
    · omega
    · omega
    · exact ⟨x, e0, e.2.1, by rw [e.1, wd_mod (by have := e.2.1; omega)]⟩
    · omega
  obtain ⟨hXn, hX⟩ := hX
  have g1 := (h.k.g h0 (by omega)).1
  obtain ⟨TP, hTP⟩ : ∃ v, v = (X : Int) := ⟨_, rfl⟩
  obtain ⟨LA, hLA⟩ : ∃ v, v = lA pp r.tw := ⟨_, rfl⟩
  have hLAe : LA = KK + TW := by rw [hLA, hKK, hPK, hTW]; unfold lA; omega
  have w4 : IntKind.i64.wrap (KK + TW) = LA := by rw [hLAe]; exact IntWalk.i64_in _ (by omega)
  have w4' : wrap64 (KK + TW) = LA := by rw [hLAe]; exact IntWalk.wrap64_in _ (by omega)
  have w5 : IntKind.u64.wrap TP = TP := by rw [IntKind.wrap_u64]; omega
  have CT := fun W => Fl.towerR_any r.hd b0 b1 W
  rw [hX, ← hTP] at CT
  replace CT := Lib.hid CT
  have HE : 0 = S.M.err TH LA := by rw [hTH, hLA]; exact h.err (a := pp + 5 + r.tw) (by omega)
  have CL := fun m => storeRZ bm p q S.M TH LA TP 0 ((w.drewN m).drew) (h.drewN m).drew.a h.lg (by omega) (by omega) HE
  rw [Wm.after_zero] at CL
  replace CL := Lib.hid CL
  have CX := Lib.hid h
  have HS := Lib.hid (show step pp S r = (⟨S.M.stor TH LA TP, S.tk, S.gv, S.gn⟩, ⟨r.th, r.h, r.tw, r.tr, 8, r.hd, r.lk, r.got, r.fl, r.e⟩) by unfold step; rw [if_neg (by omega), if_neg (by omega), if_pos hp, hTH, hX, hLA, hTP])
  have HP := Lib.hid hp
  rw [HS.out]
  have ylt := h.o.lt
  have HT := Lib.hid hTW
  have HTH := Lib.hid hTH
  clear h hp hHH hPP hPK hHA hKK hTH hHAe HE h6 hpp n1 hX hTP hLA hLAe hd0 hTW hXn g1 h0
  go_enter Tryz.func58, Tryz.ntmps58
  go_wp2_with fail
  go_quiet (fail)
  go_wp2_with fail
  refine (CT.out _).mono ?_
  rintro r1 wz ⟨rfl, e⟩
  obtain rfl := e
  go_wp2_with fail
  go_region_held3 (fun w' => w'.cell? ⟨y, 1, none⟩ = some (.int .i64 TH) ∧ w'.cell? ⟨y, 3, none⟩ = some (.int .i64 TW)) (first | exact ⟨c1, c3⟩ | with_reducible exact ⟨m1, m3⟩) (first | (go_at_call 84; refine (CL.out _).mono ?_; rintro r1 w1 ⟨rfl, ha⟩; have ha2 : After 101 bm p q (S.M.stor TH LA TP) w w1 := After.ofN (ha.behind (Fr.of_below (bel_drew (Below.refl _ _)))); obtain ⟨hO, hP⟩ := CX.out.behind ha2; have m1 := hO.c1; have m3 := hO.c3; rw [← HT.out] at m3; rw [← HTH.out] at m1))
  all_goals
    have hD := CX.out.d
    have o5 := hO.c5
    have o5f := hO.fz 5 (by omega)
    have h5 := hO.set5 8
    have z5 := h5.c5
    have HA1 := Lib.hid ha2
    have HO := Lib.hid h5
    have HPR := Lib.hid (hP.sty hD 5 (.int .u8 8))
    clear ha ha2 hO hP h5 hD m1 m3
    go_wp2_with fail
    go_quiet (fail)
    go_wp2
    go_ret2
    exact CX.out.done HA1.out (Fr.drN _ (Fr.own (Fr.id _ _) (.inl rfl) _)) (HPR.out.drN _) (HO.out.drN _) (by rw [HP.out]; rfl)
end
end Po
end Go.Proofs.YtdkkpaofodicjaaGreat
