/- Package pool: Step: contracts of the translated code. Conditions: those of XPsB. (Written by tools/mkps4.py.) -/
import Derived.Test.YtdkkpaofodicjaaGreatPsB
namespace Go.Proofs.YtdkkpaofodicjaaGreat
open Go.RowKit Go.Sort
set_option linter.unusedVariables false
set_option linter.unusedSimpArgs false
set_option maxRecDepth 100000
namespace Po
open Wd
open Ly (Ge tot pP pK pW pk Cf LyAt)
open Dm (addr_lit info_parts spot_none RdK flatU infoU bel_alloc bel_trans own_keep below_drewN)
/-- all that a step needs -/
structure Sx (K : Kc) (S : Pm) (stk : Nat → List Nat) (sw : Nat → Nat) (r : Op) : Prop where
  i : In (pP K.g) (tot K.g.t 6) (htG K.g) S stk sw
  k : Ok (pP K.g) (tot K.g.t 6) (htG K.g) S stk sw r
  pp : pP K.g ≤ 1000000
  lg : S.M.L.length ≤ 50000
  fl : r.fl ≤ 1000000
  gn : ∀ t, S.gn t ≤ 1000000
  hd : 0 ≤ r.hd ∧ r.hd ≤ 18446744073709551615
theorem Sx.sm {K : Kc} {S : Pm} {stk : Nat → List Nat} {sw : Nat → Nat} {r : Op} (h : Sx K S stk sw r) : Sm K S r := ⟨h.pp, h.k.h6, h.k.th, h.i.len, h.lg, h.hd⟩
section
variable {K : Kc} {w : World} {c : Nat → Nat} {y : Nat} {S : Pm} {r : Op} {stk : Nat → List Nat} {sw : Nat → Nat}
/-- what a step leaves -/
def StA (K : Kc) (y : Nat) (S : Pm) (r : Op) (w : World) (c : Nat → Nat) (e : Ending) (w' : World) : Prop :=
  Af K y (step (pP K.g) S r).1 (step (pP K.g) S r).2 w c (.tuple #[.int .u8 ((r.pc : Nat) : Int), .bool (decide ((step (pP K.g) S r).2.pc = 0))]) e w'
theorem stop_t (h : CA K w c y S r) (hp : r.pc = 0) : Calls Tryz.prog 57 #[.pointer (some ⟨y, 0, none⟩)] w fun e w' => e = .returned (.tuple #[.int .u8 0, .bool false]) ∧ w' = w := by
  have CN := next_t h.o
  rw [hp] at CN
  replace CN := Lib.hid CN
  clear h hp
  go_enter Tryz.func57, Tryz.ntmps57
  go_wp2_with fail
  refine CN.out.mono ?_
  rintro r1 w1 ⟨rfl, e⟩
  obtain rfl := e.symm
  go_wp2
  go_ret2
  exact ⟨rfl, rfl⟩
theorem stop_g (h : CA K w c y S r) (hp : r.pc = 0) : Calls Tryz.prog 62 #[.pointer (some ⟨y, 0, none⟩)] w fun e w' => e = .returned (.tuple #[.int .u8 0, .bool false]) ∧ w' = w := by
  have CN := next_g h.o
  rw [hp] at CN
  replace CN := Lib.hid CN
  clear h hp
  go_enter Tryz.func62, Tryz.ntmps62
  go_wp2_with fail
  refine CN.out.mono ?_
  rintro r1 w1 ⟨rfl, e⟩
  obtain rfl := e.symm
  go_wp2
  go_ret2
  exact ⟨rfl, rfl⟩
/-- Step around its callee: it answers v and leaves S' and r' -/
theorem around_t4 (h : CA K w c y S r) (h0 : r.tw = 0) (hp : r.pc = 4) {S' : Pm} {r' : Op} {v : Nat} (C : Calls Tryz.prog 46 #[.pointer (some ⟨y, 0, none⟩)] w (Af K y S' r' w c (.int .u8 ((v : Nat) : Int)))) : Calls Tryz.prog 57 #[.pointer (some ⟨y, 0, none⟩)] w (Af K y S' ⟨r'.th, r'.h, r'.tw, r'.tr, v, r'.hd, r'.lk, r'.got, r'.fl, r'.e⟩ w c (.tuple #[.int .u8 4, .bool (decide (v = 0))])) := by
  have CN := next_t h.o
  have c3 := h.o.c3
  rw [hp] at CN c3
  obtain ⟨m, c5, hm, _, _⟩ := h.o.mp
  rw [if_pos h0] at hm
  have LK := look_t4 hm
  replace CN := Lib.hid CN
  have C1 := Lib.hid C
  clear h hp C hm h0
  have e4 : ((4 : Nat) : Int) = 4 := rfl
  go_enter Tryz.func57, Tryz.ntmps57
  go_wp2_with fail
  refine CN.out.mono ?_
  rintro r1 w1 ⟨rfl, e⟩
  obtain rfl := e.symm
  go_wp2_with fail
  refine C1.out.mono ?_
  rintro r1 w2 ⟨rfl, hl⟩
  obtain ⟨k2, HX, F2⟩ := hl
  have d3 := HX.o.c3
  have f3 := HX.o.fz 3 (.inl (by omega))
  have L2 := (show Lf K y S' r' w c w2 from ⟨k2, HX, F2⟩).op (j := 3) (v := .int .u8 ((v : Nat) : Int)) fun c1 o => o.set3 v
  have x3 : (w2.setCell ⟨y, 3, none⟩ (.int .u8 ((v : Nat) : Int))).cell? ⟨y, 3, none⟩ = some (.int .u8 ((v : Nat) : Int)) := World.cell?_setCell_same _ _ _ d3
  have HL := Lib.hid L2
  have hq : (((v : Nat) : Int) == 0) = decide (v = 0) := by
    by_cases hv : v = 0
    · subst hv; rfl
    · rw [decide_eq_false hv]; simp; omega
  have hq' : decide (((v : Nat) : Int) = 0) = decide (v = 0) := by
    by_cases hv : v = 0
    · subst hv; rfl
    · rw [decide_eq_false hv]; simp; omega
  clear HX F2 L2
  generalize hbb : decide (v = 0) = bb at *
  generalize hvv : ((v : Nat) : Int) = V at *
  go_wp2_with fail
  go_quiet (fail)
  go_wp2
  go_ret2
  exact ⟨rfl, HL.out.then (below_drewN (Below.refl _ _) nq)⟩
/-- Step around its callee: it answers v and leaves S' and r' -/
theorem around_t5 (h : CA K w c y S r) (h0 : r.tw = 0) (hp : r.pc = 5) {S' : Pm} {r' : Op} {v : Nat} (C : Calls Tryz.prog 47 #[.pointer (some ⟨y, 0, none⟩)] w (Af K y S' r' w c (.int .u8 ((v : Nat) : Int)))) : Calls Tryz.prog 57 #[.pointer (some ⟨y, 0, none⟩)] w (Af K y S' ⟨r'.th, r'.h, r'.tw, r'.tr, v, r'.hd, r'.lk, r'.got, r'.fl, r'.e⟩ w c (.tuple #[.int .u8 5, .bool (decide (v = 0))])) := by
  have CN := next_t h.o
  have c3 := h.o.c3
  rw [hp] at CN c3
  obtain ⟨m, c5, hm, _, _⟩ := h.o.mp
  rw [if_pos h0] at hm
  have LK := look_t5 hm
  replace CN := Lib.hid CN
  have C1 := Lib.hid C
  clear h hp C hm h0
  have e4 : ((5 : Nat) : Int) = 5 := rfl
  go_enter Tryz.func57, Tryz.ntmps57
  go_wp2_with fail
  refine CN.out.mono ?_
  rintro r1 w1 ⟨rfl, e⟩
  obtain rfl := e.symm
  go_wp2_with fail
  refine C1.out.mono ?_
  rintro r1 w2 ⟨rfl, hl⟩
  obtain ⟨k2, HX, F2⟩ := hl
  have d3 := HX.o.c3
  have f3 := HX.o.fz 3 (.inl (by omega))
  have L2 := (show Lf K y S' r' w c w2 from ⟨k2, HX, F2⟩).op (j := 3) (v := .int .u8 ((v : Nat) : Int)) fun c1 o => o.set3 v
  have x3 : (w2.setCell ⟨y, 3, none⟩ (.int .u8 ((v : Nat) : Int))).cell? ⟨y, 3, none⟩ = some (.int .u8 ((v : Nat) : Int)) := World.cell?_setCell_same _ _ _ d3
  have HL := Lib.hid L2
  have hq : (((v : Nat) : Int) == 0) = decide (v = 0) := by
    by_cases hv : v = 0
    · subst hv; rfl
    · rw [decide_eq_false hv]; simp; omega
  have hq' : decide (((v : Nat) : Int) = 0) = decide (v = 0) := by
    by_cases hv : v = 0
    · subst hv; rfl
    · rw [decide_eq_false hv]; simp; omega
  clear HX F2 L2
  generalize hbb : decide (v = 0) = bb at *
  generalize hvv : ((v : Nat) : Int) = V at *
  go_wp2_with fail
  go_quiet (fail)
  go_wp2
  go_ret2
  exact ⟨rfl, HL.out.then (below_drewN (Below.refl _ _) nq)⟩
/-- Step around its callee: it answers v and leaves S' and r' -/
theorem around_t6 (h : CA K w c y S r) (h0 : r.tw = 0) (hp : r.pc = 6) {S' : Pm} {r' : Op} {v : Nat} (C : Calls Tryz.prog 48 #[.pointer (some ⟨y, 0, none⟩)] w (Af K y S' r' w c (.int .u8 ((v : Nat) : Int)))) : Calls Tryz.prog 57 #[.pointer (some ⟨y, 0, none⟩)] w (Af K y S' ⟨r'.th, r'.h, r'.tw, r'.tr, v, r'.hd, r'.lk, r'.got, r'.fl, r'.e⟩ w c (.tuple #[.int .u8 6, .bool (decide (v = 0))])) := by
  have CN := next_t h.o
  have c3 := h.o.c3
  rw [hp] at CN c3
  obtain ⟨m, c5, hm, _, _⟩ := h.o.mp
  rw [if_pos h0] at hm
  have LK := look_t6 hm
  replace CN := Lib.hid CN
  have C1 := Lib.hid C
  clear h hp C hm h0
  have e4 : ((6 : Nat) : Int) = 6 := rfl
  go_enter Tryz.func57, Tryz.ntmps57
  go_wp2_with fail
  refine CN.out.mono ?_
  rintro r1 w1 ⟨rfl, e⟩
  obtain rfl := e.symm
  go_wp2_with fail
  refine C1.out.mono ?_
  rintro r1 w2 ⟨rfl, hl⟩
  obtain ⟨k2, HX, F2⟩ := hl
  have d3 := HX.o.c3
  have f3 := HX.o.fz 3 (.inl (by omega))
  have L2 := (show Lf K y S' r' w c w2 from ⟨k2, HX, F2⟩).op (j := 3) (v := .int .u8 ((v : Nat) : Int)) fun c1 o => o.set3 v
  have x3 : (w2.setCell ⟨y, 3, none⟩ (.int .u8 ((v : Nat) : Int))).cell? ⟨y, 3, none⟩ = some (.int .u8 ((v : Nat) : Int)) := World.cell?_setCell_same _ _ _ d3
  have HL := Lib.hid L2
  have hq : (((v : Nat) : Int) == 0) = decide (v = 0) := by
    by_cases hv : v = 0
    · subst hv; rfl
    · rw [decide_eq_false hv]; simp; omega
  have hq' : decide (((v : Nat) : Int) = 0) = decide (v = 0) := by
    by_cases hv : v = 0
    · subst hv; rfl
    · rw [decide_eq_false hv]; simp; omega
  clear HX F2 L2
  generalize hbb : decide (v = 0) = bb at *
  generalize hvv : ((v : Nat) : Int) = V at *
  go_wp2_with fail
  go_quiet (fail)
  go_wp2
  go_ret2
  exact ⟨rfl, HL.out.then (below_drewN (Below.refl _ _) nq)⟩
/-- Step around its callee: it answers v and leaves S' and r' -/
theorem around_g4 (h : CA K w c y S r) (h0 : 0 < r.tw) (hp : r.pc = 4) {S' : Pm} {r' : Op} {v : Nat} (C : Calls Tryz.prog 52 #[.pointer (some ⟨y, 0, none⟩)] w (Af K y S' r' w c (.int .u8 ((v : Nat) : Int)))) : Calls Tryz.prog 62 #[.pointer (some ⟨y, 0, none⟩)] w (Af K y S' ⟨r'.th, r'.h, r'.tw, r'.tr, v, r'.hd, r'.lk, r'.got, r'.fl, r'.e⟩ w c (.tuple #[.int .u8 4, .bool (decide (v = 0))])) := by
  have CN := next_g h.o
  have c3 := h.o.c3
  rw [hp] at CN c3
  obtain ⟨m, c5, hm, _, _⟩ := h.o.mp
  rw [if_neg (by omega)] at hm
  have LK := look_g4 hm
  replace CN := Lib.hid CN
  have C1 := Lib.hid C
  clear h hp C hm h0
  have e4 : ((4 : Nat) : Int) = 4 := rfl
  go_enter Tryz.func62, Tryz.ntmps62
  go_wp2_with fail
  refine CN.out.mono ?_
  rintro r1 w1 ⟨rfl, e⟩
  obtain rfl := e.symm
  go_wp2_with fail
  refine C1.out.mono ?_
  rintro r1 w2 ⟨rfl, hl⟩
  obtain ⟨k2, HX, F2⟩ := hl
  have d3 := HX.o.c3
  have f3 := HX.o.fz 3 (.inl (by omega))
  have L2 := (show Lf K y S' r' w c w2 from ⟨k2, HX, F2⟩).op (j := 3) (v := .int .u8 ((v : Nat) : Int)) fun c1 o => o.set3 v
  have x3 : (w2.setCell ⟨y, 3, none⟩ (.int .u8 ((v : Nat) : Int))).cell? ⟨y, 3, none⟩ = some (.int .u8 ((v : Nat) : Int)) := World.cell?_setCell_same _ _ _ d3
  have HL := Lib.hid L2
  have hq : (((v : Nat) : Int) == 0) = decide (v = 0) := by
    by_cases hv : v = 0
    · subst hv; rfl
    · rw [decide_eq_false hv]; simp; omega
  have hq' : decide (((v : Nat) : Int) = 0) = decide (v = 0) := by
    by_cases hv : v = 0
    · subst hv; rfl
    · rw [decide_eq_false hv]; simp; omega
  clear HX F2 L2
  generalize hbb : decide (v = 0) = bb at *
  generalize hvv : ((v : Nat) : Int) = V at *
  go_wp2_with fail
  go_quiet (fail)
  go_wp2
  go_ret2
  exact ⟨rfl, HL.out.then (below_drewN (Below.refl _ _) nq)⟩
/-- Step around its callee: it answers v and leaves S' and r' -/
theorem around_g7 (h : CA K w c y S r) (h0 : 0 < r.tw) (hp : r.pc = 7) {S' : Pm} {r' : Op} {v : Nat} (C : Calls Tryz.prog 53 #[.pointer (some ⟨y, 0, none⟩)] w (Af K y S' r' w c (.int .u8 ((v : Nat) : Int)))) : Calls Tryz.prog 62 #[.pointer (some ⟨y, 0, none⟩)] w (Af K y S' ⟨r'.th, r'.h, r'.tw, r'.tr, v, r'.hd, r'.lk, r'.got, r'.fl, r'.e⟩ w c (.tuple #[.int .u8 7, .bool (decide (v = 0))])) := by
  have CN := next_g h.o
  have c3 := h.o.c3
  rw [hp] at CN c3
  obtain ⟨m, c5, hm, _, _⟩ := h.o.mp
  rw [if_neg (by omega)] at hm
  have LK := look_g7 hm
  replace CN := Lib.hid CN
  have C1 := Lib.hid C
  clear h hp C hm h0
  have e4 : ((7 : Nat) : Int) = 7 := rfl
  go_enter Tryz.func62, Tryz.ntmps62
  go_wp2_with fail
  refine CN.out.mono ?_
  rintro r1 w1 ⟨rfl, e⟩
  obtain rfl := e.symm
  go_wp2_with fail
  refine C1.out.mono ?_
  rintro r1 w2 ⟨rfl, hl⟩
  obtain ⟨k2, HX, F2⟩ := hl
  have d3 := HX.o.c3
  have f3 := HX.o.fz 3 (.inl (by omega))
  have L2 := (show Lf K y S' r' w c w2 from ⟨k2, HX, F2⟩).op (j := 3) (v := .int .u8 ((v : Nat) : Int)) fun c1 o => o.set3 v
  have x3 : (w2.setCell ⟨y, 3, none⟩ (.int .u8 ((v : Nat) : Int))).cell? ⟨y, 3, none⟩ = some (.int .u8 ((v : Nat) : Int)) := World.cell?_setCell_same _ _ _ d3
  have HL := Lib.hid L2
  have hq : (((v : Nat) : Int) == 0) = decide (v = 0) := by
    by_cases hv : v = 0
    · subst hv; rfl
    · rw [decide_eq_false hv]; simp; omega
  have hq' : decide (((v : Nat) : Int) = 0) = decide (v = 0) := by
    by_cases hv : v = 0
    · subst hv; rfl
    · rw [decide_eq_false hv]; simp; omega
  clear HX F2 L2
  generalize hbb : decide (v = 0) = bb at *
  generalize hvv : ((v : Nat) : Int) = V at *
  go_wp2_with fail
  go_quiet (fail)
  go_wp2
  go_ret2
  exact ⟨rfl, HL.out.then (below_drewN (Below.refl _ _) nq)⟩
/-- Step around its callee: it answers v and leaves S' and r' -/
theorem around_g8 (h : CA K w c y S r) (h0 : 0 < r.tw) (hp : r.pc = 8) {S' : Pm} {r' : Op} {v : Nat} (C : Calls Tryz.prog 54 #[.pointer (some ⟨y, 0, none⟩)] w (Af K y S' r' w c (.int .u8 ((v : Nat) : Int)))) : Calls Tryz.prog 62 #[.pointer (some ⟨y, 0, none⟩)] w (Af K y S' ⟨r'.th, r'.h, r'.tw, r'.tr, v, r'.hd, r'.lk, r'.got, r'.fl, r'.e⟩ w c (.tuple #[.int .u8 8, .bool (decide (v = 0))])) := by
  have CN := next_g h.o
  have c3 := h.o.c3
  rw [hp] at CN c3
  obtain ⟨m, c5, hm, _, _⟩ := h.o.mp
  rw [if_neg (by omega)] at hm
  have LK := look_g8 hm
  replace CN := Lib.hid CN
  have C1 := Lib.hid C
  clear h hp C hm h0
  have e4 : ((8 : Nat) : Int) = 8 := rfl
  go_enter Tryz.func62, Tryz.ntmps62
  go_wp2_with fail
  refine CN.out.mono ?_
  rintro r1 w1 ⟨rfl, e⟩
  obtain rfl := e.symm
  go_wp2_with fail
  refine C1.out.mono ?_
  rintro r1 w2 ⟨rfl, hl⟩
  obtain ⟨k2, HX, F2⟩ := hl
  have d3 := HX.o.c3
  have f3 := HX.o.fz 3 (.inl (by omega))
  have L2 := (show Lf K y S' r' w c w2 from ⟨k2, HX, F2⟩).op (j := 3) (v := .int .u8 ((v : Nat) : Int)) fun c1 o => o.set3 v
  have x3 : (w2.setCell ⟨y, 3, none⟩ (.int .u8 ((v : Nat) : Int))).cell? ⟨y, 3, none⟩ = some (.int .u8 ((v : Nat) : Int)) := World.cell?_setCell_same _ _ _ d3
  have HL := Lib.hid L2
  have hq : (((v : Nat) : Int) == 0) = decide (v = 0) := by
    by_cases hv : v = 0
    · subst hv; rfl
    · rw [decide_eq_false hv]; simp; omega
  have hq' : decide (((v : Nat) : Int) = 0) = decide (v = 0) := by
    by_cases hv : v = 0
    · subst hv; rfl
    · rw [decide_eq_false hv]; simp; omega
  clear HX F2 L2
  generalize hbb : decide (v = 0) = bb at *
  generalize hvv : ((v : Nat) : Int) = V at *
  go_wp2_with fail
  go_quiet (fail)
  go_wp2
  go_ret2
  exact ⟨rfl, HL.out.then (below_drewN (Below.refl _ _) nq)⟩
theorem nat_if (p : Prop) [Decidable p] (a b : Nat) : (if p then (a : Int) else (b : Int)) = (((if p then a else b : Nat)) : Int) := by split <;> rfl
theorem stepT_any (h : CA K w c y S r) (hs : Sx K S stk sw r) (h0 : r.tw = 0) (hp : r.pc ≠ 0) : Calls Tryz.prog 57 #[.pointer (some ⟨y, 0, none⟩)] w (StA K y S r w c) := by
  unfold StA
  have n1 := hs.i.n1
  rcases hs.k.p with e | e | ⟨e, _, s, x, h1, h2⟩ | ⟨e, _, s, x, z, h1, h2, _⟩ | ⟨e, e1, _⟩ | ⟨e, e1, _⟩
  · exact absurd e hp
  · have C := lookT_any h hs.sm h0
    rw [show (if S.M.get (hA (pP K.g) r.h) % 65536 = 0 then (0 : Int) else 5) = (((if S.M.get (hA (pP K.g) r.h) % 65536 = 0 then 0 else 5 : Nat)) : Int) from nat_if _ 0 5] at C
    have C2 := around_t4 h h0 e C
    unfold step
    rw [if_pos e, e]
    simp only [if_neg (show ¬ 0 < r.tw by omega), h0, true_and] at C2 ⊢
    exact C2
  · have hm : r.hd % 65536 = (x : Int) := by rw [h1.1]; exact wd_mod (by have := h1.2.1; omega)
    obtain ⟨z, hz, hzn⟩ := hs.i.lb x h2 h1.2.1
    have C := follow_any h hs.sm h0 x hm h2 h1.2.1 (by rw [hz]; omega)
    have C2 := around_t5 (v := 6) h h0 e C
    unfold step
    rw [if_neg (by omega), if_pos e, e, hm, Int.toNat_natCast]
    exact C2
  · have hm : r.hd % 65536 = (x : Int) := by rw [h1.1]; exact wd_mod (by have := h1.2.1; omega)
    obtain ⟨X, rfl⟩ : ∃ X, x = X + 1 := ⟨x - 1, by omega⟩
    have C := take_any h hs.sm h0 hs.fl X hm (by have := h1.2.1; omega)
    unfold step
    rw [if_neg (by omega), if_neg (by omega), if_neg (by omega), if_pos e]
    by_cases g : S.M.get (hA (pP K.g) r.h) = r.hd
    · simp only [if_pos g] at C ⊢
      have C2 := around_t6 (v := 0) h h0 e C
      rw [e, hm, Int.toNat_natCast]
      exact C2
    · simp only [if_neg g] at C ⊢
      rw [show (if r.fl + 1 = r.tr then (0 : Int) else 4) = (((if r.fl + 1 = r.tr then 0 else 4 : Nat)) : Int) from nat_if _ 0 4] at C
      have C2 := around_t6 h h0 e C
      rw [e]
      exact C2
  · omega
  · omega
theorem stepG_any (h : CA K w c y S r) (hs : Sx K S stk sw r) (h0 : 0 < r.tw) (hp : r.pc ≠ 0) : Calls Tryz.prog 62 #[.pointer (some ⟨y, 0, none⟩)] w (StA K y S r w c) := by
  unfold StA
  have n1 := hs.i.n1
  obtain ⟨g1, _⟩ := hs.k.g h0 hp
  rcases hs.k.p with e | e | ⟨e, e1, _⟩ | ⟨e, e1, _⟩ | ⟨e, _, s, x, h1⟩ | ⟨e, _, s, x, h1, _⟩
  · exact absurd e hp
  · have C2 := around_g4 (v := 7) h h0 e (lookG_any h hs.sm)
    unfold step
    rw [if_pos e, e]
    simp only [if_pos h0, if_neg (show ¬ (r.tw = 0 ∧ S.M.get (hA (pP K.g) r.h) % 65536 = 0) from fun q => by omega)]
    exact C2
  · omega
  · omega
  · have C2 := around_g7 (v := 8) h h0 e (lay_any h hs.sm h0 g1)
    unfold step
    rw [if_neg (by omega), if_neg (by omega), if_pos e, e]
    exact C2
  · obtain ⟨X, hX⟩ : ∃ X, r.tw = X + 1 := ⟨r.tw - 1, by omega⟩
    have C := give_any h hs.sm X hX (by omega) hs.gn
    unfold step
    rw [if_neg (by omega), if_neg (by omega), if_neg (by omega), if_neg (by omega), if_pos e]
    by_cases g : S.M.get (hA (pP K.g) r.h) = r.hd
    · simp only [if_pos g] at C ⊢
      have C2 := around_g8 (v := 0) h h0 e C
      rw [e]
      simp only [← hX] at C2
      exact C2
    · simp only [if_neg g] at C ⊢
      have C2 := around_g8 (v := 4) h h0 e C
      rw [e]
      simp only [← hX] at C2
      exact C2
end
end Po
end Go.Proofs.YtdkkpaofodicjaaGreat
