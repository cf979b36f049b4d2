/- The walk of the law PoolExamples, from the contracts of package pool on closed states. Conditions: none. (Written by tools/mk14w3.py.) -/
import Derived.Test.YtcipjjchclpgnaaPsP2
namespace Go.Proofs.Ytcipjjchclpgnaa
open Go.RowKit Go.Sort
set_option linter.unusedVariables false
set_option linter.unusedSimpArgs false
set_option maxRecDepth 100000
namespace Po
open Wd
theorem Ex.bel {x bl B : Nat} {w : World} {c : Nat → Nat} {Z : Zt} {a : Nat → Nat} {n : Nat} (h : Ex x bl B w c Z a n) {w1 : World} {c1 : Nat → Nat} (hf : Fc T4 w c w1 c1) : Below B w w1 := by
  obtain ⟨K, hk⟩ := h
  exact hf.below hk.sz hk.low (by unfold T4; omega)
end Po
namespace Wk
open Wd Po
open Ly (Ge tot pP pW LyAt KI)
open Dm (RdK bel_alloc bel_trans)
theorem litE {w : World} {b : Nat} (l : List Int) {cs : Array Value} {T : TypeId} (hb : b = w.heap.size) (h : ∀ (i : Nat) (z : Int), l[i]? = some z → cs[i]? = some (.int .i64 z)) : KI.Rd (w.alloc (.cells cs T)) (some ⟨b, 0, none⟩) l := by
  subst hb; exact litI w l cs T h
theorem lv1 (x : Int) : ∀ (i : Nat) (z : Int), [x][i]? = some z → #[(.int .i64 x : Value)][i]? = some (.int .i64 z) := by
  intro i z h
  match i, h with
  | 0, h => simp at h; subst h; rfl
  | i + 1, h => simp at h
theorem lv2 (x y : Int) : ∀ (i : Nat) (z : Int), [x, y][i]? = some z → #[(.int .i64 x : Value), .int .i64 y][i]? = some (.int .i64 z) := by
  intro i z h
  match i, h with
  | 0, h => simp at h; subst h; rfl
  | 1, h => simp at h; subst h; rfl
  | i + 2, h => simp at h
theorem listsB {x bl B : Nat} {w : World} {c : Nat → Nat} {Z : Zt} {a : Nat → Nat} {n : Nat} (h : Ex x bl B w c Z a n) {l1 l2 : List Nat} (hv : lvB Z l1 l2 [] = true) {m1 m2 : Nat} (e1 : l1.length = m1) (e2 : l2.length = m2) (b1 : m1 ≤ 100) (b2 : m2 ≤ 100) (W : World) (A1 A2 : Option Addr) (c1 c2 : Nat) (hb : Below w.heap.size w W) (r1 : KI.Rd W A1 (nums l1)) (r2 : KI.Rd W A2 (nums l2)) : Calls Try.prog 12 #[.pointer (some ⟨x, 0, none⟩), .slice A1 m1 c1, .slice A2 m2 c2] W fun e w' => e = .returned (.bool true) ∧ Below w.heap.size w w' := by
  refine (lists_any (h.below hb) hv r1 r2 e1 e2 b1 b2).mono ?_
  rintro e w' ⟨q, hb'⟩
  exact ⟨q, hb.trans (hb'.mono hb.size)⟩
theorem outB {x bl B : Nat} {w : World} {c : Nat → Nat} {Z : Zt} {a : Nat → Nat} {n : Nat} (h : Ex x bl B w c Z a n) {l : List Int} (hv : outL Z.1 4 = l) {m : Nat} (hm : l.length = m) (W : World) (hb : Below w.heap.size w W) : Calls Try.prog 13 #[.pointer (some ⟨x, 0, none⟩)] W fun e w' => ∃ Ao co, e = .returned (.slice Ao m co) ∧ KI.Rd w' Ao l ∧ Below w.heap.size w w' := by
  refine (h.below hb).out.mono ?_
  rintro e w' ⟨v, rfl, own, hb'⟩
  rw [hv] at own
  obtain ⟨_, Ao, co, rfl, _, rdo, _, _⟩ := KI.row own
  rw [hm]
  exact ⟨Ao, co, rfl, rdo, hb.trans (hb'.mono hb.size)⟩
theorem equB {w : World} {A B : Option Addr} {m : Nat} {c d : Nat} (l : List Int) (W : World) (hm : l.length = m) (hx : m ≤ 100) (hb : Below w.heap.size w W) (h1 : KI.Rd W A l) (h2 : KI.Rd W B l) : Calls Try.prog 17 #[.slice A m c, .slice B m d] W fun e w' => e = .returned (.bool true) ∧ Below w.heap.size w w' := by
  refine (equI_same A B m c d l W hm (by omega) h1 h2).mono ?_
  rintro e w' ⟨q, hb'⟩
  exact ⟨q, hb.trans (hb'.mono hb.size)⟩
theorem lit_one (w : World) : RdK .u64 (w.alloc (.cells #[.int .u64 0] 57)) (some ⟨w.heap.size, 0, none⟩) [0] := fun k hk => by
  refine ⟨_, _, rfl, ?_⟩
  rw [World.cell?_alloc_new]
  match k, hk with
  | 0, _ => rfl
set_option maxRecDepth 100000 in
set_option maxHeartbeats 8000000 in
theorem walk_poolExamples (w : World) : Calls Try.prog 3 #[] w fun e w' => e = .returned (.bool true) ∧ Below w.heap.size w w' := by
  have C1 := fun W => Lib.hid (show Calls Try.prog 8 #[.agg #[.int .i64 2, .int .i64 1, .int .i64 0, .int .i64 0, .int .i64 0, .int .i64 0]] W fun e w' => e = .returned (cfgV (cf0 tE)) ∧ Below W.heap.size W w' from config_any tE W)
  have C2 := fun W => Lib.hid (newL fewE W)
  have HOK := Lib.hid (show gE.ok from g0_ok fewE)
  go_enter Try.func3, Try.ntmps3
  go_wp2_with fail
  refine (C1 _).out.mono ?_
  rintro r1 W1 ⟨rfl, hb1⟩
  have HB1 := Lib.hid (show Below w.heap.size w W1 from hb1)
  clear hb1
  go_wp2_with fail
  refine (C2 _).out.mono ?_
  rintro r1 W2 ⟨bl, f, rfl, hl, hb2⟩
  have hl : LyAt W2 bl f [] gE := hl
  have CI := Lib.hid (Ly.initial_any hl HOK.out)
  have HB2 := Lib.hid (HB1.out.trans (hb2.mono HB1.out.size))
  have HL := Lib.hid hl
  clear hb2 hl
  go_wp2_with fail
  refine CI.out.mono ?_
  rintro r1 W3 ⟨rfl, hrow, hb3⟩
  have CM := Lib.hid (newM HOK.out pWE.1 (by have := pWE.2.1; omega) hrow)
  have HB3 := Lib.hid hb3
  clear hb3 hrow
  go_wp2_with fail
  refine CM.out.mono ?_
  rintro r1 W4 ⟨bm, p, rfl, hm, hbm, hp, hb4⟩
  have HB4 := Lib.hid (HB3.out.trans (hb4.mono HB3.out.size))
  have CP := Lib.hid (new_any hm (HL.out.below HB4.out) HOK.out pWE.1 (by have := pWE.2.1; omega) (Ly.ini_len gE))
  have HBM := Lib.hid (Nat.le_trans HB3.out.size hbm)
  have HBP := Lib.hid (Nat.le_trans HB3.out.size hp)
  have HM := Lib.hid hm
  clear hm hbm hp hb4
  go_wp2_with fail
  refine CP.out.mono ?_
  rintro r1 V1 ⟨ta, hta, rfl, hpa, hb5⟩
  obtain ⟨c0, hsa, hlow⟩ := SA.made HOK.out HL.out HB4.out HM.out HBM.out HBP.out hb5 hpa hta (fun _ => 0)
  obtain ⟨a0, ha0⟩ : ∃ a : Nat → Nat, a = fun _ => 0 := ⟨_, rfl⟩
  rw [← ha0] at hsa
  have HB := Lib.hid (HB2.out.trans ((HB4.out.trans (hb5.mono HB4.out.size)).mono HB2.out.size))
  have hex : Ex (ta + 1) bl w.heap.size V1 c0 E0 a0 0 := ⟨⟨ta + 1, bm, bl, ta, f, [], gE⟩, rfl, rfl, rfl, hsa, ⟨_, _, AlB.made HOK.out (by rw [gE_p]; omega)⟩, fun i hi => hlow i (Nat.lt_of_lt_of_le hi HB2.out.size), HB.out.size⟩
  obtain ⟨x, hx⟩ : ∃ x, x = ta + 1 := ⟨_, rfl⟩
  rw [← hx] at hex ⊢
  have HX := Lib.hid hex
  clear hx hex ha0 hsa hlow hpa hta hb5 CP CM CI C1 C2 HM HBM HBP HL HB1 HB2 HB3 HB4
  have CLS := Lib.hid (listsB HX.out z0l (m1 := 2) (m2 := 1) rfl rfl (by omega) (by omega))
  have COU := Lib.hid (outB HX.out z0o (m := 0) rfl)
  go_wp2_with fail
  refine (CLS.out _ _ _ _ _ (by (repeat (first | exact Below.refl _ _ | exact BX1 | exact bel_new BX1 _  | refine bel_new ?_ _ | refine bel_drew ?_))) (by (first | exact litE [1, 2] (by first | rfl | rw [World.size_alloc] | simp) (lv2 1 2) | exact (litE [1, 2] (by first | rfl | rw [World.size_alloc] | simp) (lv2 1 2)).below (bel_new (Below.refl _ _) _) | exact (litE [1, 2] (by first | rfl | rw [World.size_alloc] | simp) (lv2 1 2)).below (bel_drew (Below.refl _ _)) | exact (litE [1, 2] (by first | rfl | rw [World.size_alloc] | simp) (lv2 1 2)).below (bel_new (bel_new (Below.refl _ _) _) _))) (by (first | exact litE [3] (by first | rfl | rw [World.size_alloc] | simp) (lv1 3) | exact (litE [3] (by first | rfl | rw [World.size_alloc] | simp) (lv1 3)).below (bel_new (Below.refl _ _) _) | exact (litE [3] (by first | rfl | rw [World.size_alloc] | simp) (lv1 3)).below (bel_drew (Below.refl _ _)) | exact (litE [3] (by first | rfl | rw [World.size_alloc] | simp) (lv1 3)).below (bel_new (bel_new (Below.refl _ _) _) _)))).mono ?_
  rintro r1 V11 ⟨rfl, BX1⟩
  go_wp2_with fail
  refine (COU.out _ (by (repeat (first | exact Below.refl _ _ | exact BX1 | exact bel_new BX1 _  | refine bel_new ?_ _ | refine bel_drew ?_)))).mono ?_
  rintro r1 V12 ⟨Ao, co, rfl, rdo, BX1⟩
  have BD := Lib.hid BX1
  have HX := Lib.hid (show Ex x bl w.heap.size V12 c0 E0 a0 0 from HX.out.below BD.out)
  have HB := Lib.hid (HB.out.trans (BD.out.mono HB.out.size))
  clear BD BX1
  go_wp2_with fail
  refine (show Calls Try.prog 14 #[.pointer (some ⟨x, 0, none⟩), .int .i64 0, .int .i64 1, .int .i64 0] V12 fun e w' => ∃ y a', e = .returned (.tuple #[.pointer (some ⟨y, 0, none⟩), .int .i64 0]) ∧ a' 0 = y ∧ (∀ j, j ≠ 0 → a' j = a0 j) ∧ ExT x bl w.heap.size V12 c0 Z1 a' 0 w' from HX.out.take 0 0 0 0 (by omega) (by omega) (by omega) z0n rfl rfl rfl).mono ?_
  rintro r1 V13 ⟨y0, a1, rfl, hy, ho, ht⟩
  have Y0 := Lib.hid hy
  obtain ⟨cV13, hx, hf⟩ := ht
  have HB := Lib.hid (HB.out.trans (HX.out.bel hf))
  have HX := Lib.hid (show Ex x bl w.heap.size V13 cV13 Z1 a1 0 from hx)
  clear hx hf hy ho
  go_wp2_with fail
  refine (show Calls Try.prog 15 #[.pointer (some ⟨y0, 0, none⟩)] V13 fun e w' => e = .returned (.tuple #[.int .i64 0, .int .i64 0, .int .i64 8]) ∧ w' = V13 from HX.out.resRun Y0.out z1r).mono ?_
  rintro r1 W ⟨rfl, e⟩
  obtain rfl := e.symm
  obtain ⟨V14, hW1⟩ : ∃ V, V = V13.alloc (.cells #[.int .u8 4, .int .u8 5, .int .u8 6] 5) := ⟨_, rfl⟩
  have bA : Below V13.heap.size V13 V14 := by rw [hW1]; exact bel_new (Below.refl _ _) _
  have hf0 : Fc (fun _ => False) V13 cV13 V14 (up cV13 V13.heap.size 30) := Fc.of_below_up bA
  have hq : V14.heap[V13.heap.size]? = some (.cells #[.int .u8 4, .int .u8 5, .int .u8 6] 5 (0, 0)) := by rw [hW1]; exact heap_alloc_new V13 _
  have hlt0 : V13.heap.size < V14.heap.size := by rw [hW1, World.size_alloc]; omega
  have HX := Lib.hid (show Ex x bl w.heap.size V14 (up cV13 V13.heap.size 30) Z1 a1 0 from HX.out.fc hf0 fun _ _ e => e)
  have HB := Lib.hid (HB.out.trans (bA.mono HB.out.size))
  have hc30 : up cV13 V13.heap.size 30 V13.heap.size = 30 := up_ge (Nat.le_refl _)
  generalize up cV13 V13.heap.size 30 = cV14 at HX hc30
  have KP := Lib.hid (fun (V : World) (c' : Nat → Nat) (hf : Fc T4 V14 cV14 V c') (j : Nat) (v : Value) (hj : #[(.int .u8 4 : Value), (.int .u8 5 : Value), (.int .u8 6 : Value)][j]? = some v) => (show V.cell? ⟨V13.heap.size, j, none⟩ = some v from cell_heap ((hf.keep hlt0 (by rw [hc30]; unfold T4; omega)).trans hq) hj))
  clear bA hf0 hq hlt0 hc30
  go_wp2_with fail
  try rw [← hW1]
  clear hW1
  go_loopw [10] (fun vi wr => (vi = .int .i64 0 ∧ ∃ c', Ex x bl w.heap.size wr c' Z1 a1 0 ∧ Fc T4 V14 cV14 wr c') ∨ (vi = .int .i64 1 ∧ ∃ c', Ex x bl w.heap.size wr c' Z2 a1 1 ∧ Fc T4 V14 cV14 wr c') ∨ (vi = .int .i64 2 ∧ ∃ c', Ex x bl w.heap.size wr c' Z3 a1 2 ∧ Fc T4 V14 cV14 wr c') ∨ (vi = .int .i64 3 ∧ ∃ c', Ex x bl w.heap.size wr c' Z4 a1 3 ∧ Fc T4 V14 cV14 wr c')) (fun vi _ => (3 - intOf vi).toNat)
  case atStart => exact .inl ⟨rfl, cV14, HX.out, Fc.id _ _ _⟩
  case round =>
    rcases hrel with ⟨rfl, c', hx, hf⟩ | ⟨rfl, c', hx, hf⟩ | ⟨rfl, c', hx, hf⟩ | ⟨rfl, c', hx, hf⟩
    · have CS := Lib.hid (show Calls Try.prog 16 #[.pointer (some ⟨y0, 0, none⟩)] wr fun e w' => e = .returned (.tuple #[.int .u8 4, .bool false]) ∧ ExT x bl w.heap.size wr c' Z2 a1 1 w' from hx.stepT (by omega) (i := 0) (pc := 4) Y0.out z1)
      have HF := Lib.hid hf
      clear hx hf
      go_wp2_with fail
      refine CS.out.mono ?_
      rintro r1 V ⟨rfl, c2, hx2, hf2⟩
      have kw := KP.out V c2 (HF.out.trans hf2) 0 _ rfl
      have HF2 := Lib.hid (HF.out.trans hf2)
      have HX2 := Lib.hid hx2
      clear hx2 hf2
      go_wp2
      go_roundw
      case rel => exact .inr (.inl ⟨by first | rfl | go_num, c2, HX2.out, HF2.out⟩)
      case measure => simp [intOf]
    · have CS := Lib.hid (show Calls Try.prog 16 #[.pointer (some ⟨y0, 0, none⟩)] wr fun e w' => e = .returned (.tuple #[.int .u8 5, .bool false]) ∧ ExT x bl w.heap.size wr c' Z3 a1 2 w' from hx.stepT (by omega) (i := 0) (pc := 5) Y0.out z2)
      have HF := Lib.hid hf
      clear hx hf
      go_wp2_with fail
      refine CS.out.mono ?_
      rintro r1 V ⟨rfl, c2, hx2, hf2⟩
      have kw := KP.out V c2 (HF.out.trans hf2) 1 _ rfl
      have HF2 := Lib.hid (HF.out.trans hf2)
      have HX2 := Lib.hid hx2
      clear hx2 hf2
      go_wp2
      go_roundw
      case rel => exact .inr (.inr (.inl ⟨by first | rfl | go_num, c2, HX2.out, HF2.out⟩))
      case measure => simp [intOf]
    · have CS := Lib.hid (show Calls Try.prog 16 #[.pointer (some ⟨y0, 0, none⟩)] wr fun e w' => e = .returned (.tuple #[.int .u8 6, .bool true]) ∧ ExT x bl w.heap.size wr c' Z4 a1 3 w' from hx.stepT (by omega) (i := 0) (pc := 6) Y0.out z3)
      have HF := Lib.hid hf
      clear hx hf
      go_wp2_with fail
      refine CS.out.mono ?_
      rintro r1 V ⟨rfl, c2, hx2, hf2⟩
      have kw := KP.out V c2 (HF.out.trans hf2) 2 _ rfl
      have HF2 := Lib.hid (HF.out.trans hf2)
      have HX2 := Lib.hid hx2
      clear hx2 hf2
      go_wp2
      go_roundw
      case rel => exact .inr (.inr (.inr (⟨by first | rfl | go_num, c2, HX2.out, HF2.out⟩)))
      case measure => simp [intOf]
    · have HB := Lib.hid (HB.out.trans (HX.out.bel hf))
      have HX := Lib.hid hx
      obtain ⟨V15, hV⟩ : ∃ V, V = wr := ⟨_, rfl⟩
      rw [← hV] at HX HB ⊢
      clear hx hf KP hV
      go_wp2_with fail
      refine (show Calls Try.prog 15 #[.pointer (some ⟨y0, 0, none⟩)] V15 fun e w' => e = .returned (.tuple #[.int .i64 1, .int .i64 0, .int .i64 0]) ∧ Below V15.heap.size V15 w' from HX.out.resEnd Y0.out z4r).mono ?_
      rintro r1 V16 ⟨rfl, hb⟩
      have BD := Lib.hid hb
      have HX := Lib.hid (show Ex x bl w.heap.size V16 c' Z4 a1 3 from HX.out.below BD.out)
      have HB := Lib.hid (HB.out.trans (BD.out.mono HB.out.size))
      clear hb BD
      have COU := Lib.hid (outB HX.out z4o (m := 1) rfl)
      have CLS := Lib.hid (listsB HX.out z4l (m1 := 1) (m2 := 1) rfl rfl (by omega) (by omega))
      go_wp2_with fail
      refine (COU.out _ (by (repeat (first | exact Below.refl _ _ | exact BX1 | exact bel_new BX1 _  | refine bel_new ?_ _ | refine bel_drew ?_)))).mono ?_
      rintro r1 V17 ⟨Ao, co, rfl, rdo, BX1⟩
      go_wp2_with fail
      refine (equB (w := V16) (m := 1) [1] _ rfl (by omega) (by (repeat (first | exact Below.refl _ _ | exact BX1 | exact bel_new BX1 _  | refine bel_new ?_ _ | refine bel_drew ?_))) (by first | exact rdo | exact rdo.below (bel_new (Below.refl _ _) _)) (by (first | exact litE [1] (by first | rfl | rw [World.size_alloc] | simp) (lv1 1) | exact (litE [1] (by first | rfl | rw [World.size_alloc] | simp) (lv1 1)).below (bel_new (Below.refl _ _) _) | exact (litE [1] (by first | rfl | rw [World.size_alloc] | simp) (lv1 1)).below (bel_drew (Below.refl _ _)) | exact (litE [1] (by first | rfl | rw [World.size_alloc] | simp) (lv1 1)).below (bel_new (bel_new (Below.refl _ _) _) _)))).mono ?_
      rintro r1 V18 ⟨rfl, BX1⟩
      go_wp2_with fail
      refine (CLS.out _ _ _ _ _ (by (repeat (first | exact Below.refl _ _ | exact BX1 | exact bel_new BX1 _  | refine bel_new ?_ _ | refine bel_drew ?_))) (by (first | exact litE [2] (by first | rfl | rw [World.size_alloc] | simp) (lv1 2) | exact (litE [2] (by first | rfl | rw [World.size_alloc] | simp) (lv1 2)).below (bel_new (Below.refl _ _) _) | exact (litE [2] (by first | rfl | rw [World.size_alloc] | simp) (lv1 2)).below (bel_drew (Below.refl _ _)) | exact (litE [2] (by first | rfl | rw [World.size_alloc] | simp) (lv1 2)).below (bel_new (bel_new (Below.refl _ _) _) _))) (by (first | exact litE [3] (by first | rfl | rw [World.size_alloc] | simp) (lv1 3) | exact (litE [3] (by first | rfl | rw [World.size_alloc] | simp) (lv1 3)).below (bel_new (Below.refl _ _) _) | exact (litE [3] (by first | rfl | rw [World.size_alloc] | simp) (lv1 3)).below (bel_drew (Below.refl _ _)) | exact (litE [3] (by first | rfl | rw [World.size_alloc] | simp) (lv1 3)).below (bel_new (bel_new (Below.refl _ _) _) _)))).mono ?_
      rintro r1 V19 ⟨rfl, BX1⟩
      have BD := Lib.hid BX1
      have HX := Lib.hid (show Ex x bl w.heap.size V19 c' Z4 a1 3 from HX.out.below BD.out)
      have HB := Lib.hid (HB.out.trans (BD.out.mono HB.out.size))
      clear BD BX1
      go_wp2_with fail
      refine (show Calls Try.prog 14 #[.pointer (some ⟨x, 0, none⟩), .int .i64 0, .int .i64 3, .int .i64 0] V19 fun e w' => ∃ y a', e = .returned (.tuple #[.pointer (some ⟨y, 0, none⟩), .int .i64 0]) ∧ a' 1 = y ∧ (∀ j, j ≠ 1 → a' j = a1 j) ∧ ExT x bl w.heap.size V19 c' Z5 a' 3 w' from HX.out.take 1 0 2 0 (by omega) (by omega) (by omega) z4n rfl rfl rfl).mono ?_
      rintro r1 V20 ⟨y1, a2, rfl, hy, ho, ht⟩
      have Y1 := Lib.hid hy
      have Y0 := Lib.hid ((ho 0 (by decide)).trans Y0.out)
      obtain ⟨cV20, hx, hf⟩ := ht
      have HB := Lib.hid (HB.out.trans (HX.out.bel hf))
      have HX := Lib.hid (show Ex x bl w.heap.size V20 cV20 Z5 a2 3 from hx)
      clear hx hf hy ho
      go_wp2_with fail
      refine (show Calls Try.prog 16 #[.pointer (some ⟨y1, 0, none⟩)] V20 fun e w' => e = .returned (.tuple #[.int .u8 4, .bool true]) ∧ ExT x bl w.heap.size V20 cV20 Z6 a2 4 w' from HX.out.stepT (by omega) (i := 1) (pc := 4) Y1.out z5).mono ?_
      rintro r1 V21 ⟨rfl, ht⟩
      obtain ⟨cV21, hx, hf⟩ := ht
      have HB := Lib.hid (HB.out.trans (HX.out.bel hf))
      have HX := Lib.hid (show Ex x bl w.heap.size V21 cV21 Z6 a2 4 from hx)
      clear hx hf
      go_wp2_with fail
      refine (show Calls Try.prog 15 #[.pointer (some ⟨y1, 0, none⟩)] V21 fun e w' => e = .returned (.tuple #[.int .i64 0, .int .i64 0, .int .i64 6]) ∧ Below V21.heap.size V21 w' from HX.out.resEnd Y1.out z6r).mono ?_
      rintro r1 V22 ⟨rfl, hb⟩
      have BD := Lib.hid hb
      have HX := Lib.hid (show Ex x bl w.heap.size V22 cV21 Z6 a2 4 from HX.out.below BD.out)
      have HB := Lib.hid (HB.out.trans (BD.out.mono HB.out.size))
      clear hb BD
      go_wp2_with fail
      refine (show Calls Try.prog 18 #[.pointer (some ⟨x, 0, none⟩), .int .i64 1, .int .i64 2] V22 fun e w' => e = .returned (.tuple #[.pointer none, .int .i64 8]) ∧ w' = V22 from HX.out.giveNo 1 (by omega) z6m z6g (by omega) rfl).mono ?_
      rintro r1 W ⟨rfl, e⟩
      obtain rfl := e.symm
      go_wp2_with fail
      refine (show Calls Try.prog 18 #[.pointer (some ⟨x, 0, none⟩), .int .i64 1, .int .i64 1] V22 fun e w' => ∃ y a', e = .returned (.tuple #[.pointer (some ⟨y, 0, none⟩), .int .i64 0]) ∧ a' 2 = y ∧ (∀ j, j ≠ 2 → a' j = a2 j) ∧ ExT x bl w.heap.size V22 cV21 Z7 a' 4 w' from HX.out.give 2 1 0 (by omega) (by omega) z6n z6h rfl rfl).mono ?_
      rintro r1 V23 ⟨y2, a3, rfl, hy, ho, ht⟩
      have Y2 := Lib.hid hy
      have Y0 := Lib.hid ((ho 0 (by decide)).trans Y0.out)
      have Y1 := Lib.hid ((ho 1 (by decide)).trans Y1.out)
      obtain ⟨cV23, hx, hf⟩ := ht
      have HB := Lib.hid (HB.out.trans (HX.out.bel hf))
      have HX := Lib.hid (show Ex x bl w.heap.size V23 cV23 Z7 a3 4 from hx)
      clear hx hf hy ho
      go_wp2_with fail
      refine (show Calls Try.prog 18 #[.pointer (some ⟨x, 0, none⟩), .int .i64 1, .int .i64 1] V23 fun e w' => e = .returned (.tuple #[.pointer none, .int .i64 8]) ∧ w' = V23 from HX.out.giveNo 0 (by omega) z7m z7g (by omega) rfl).mono ?_
      rintro r1 W ⟨rfl, e⟩
      obtain rfl := e.symm
      obtain ⟨V24, hW1⟩ : ∃ V, V = V23.alloc (.cells #[.int .u8 4, .int .u8 7, .int .u8 8] 5) := ⟨_, rfl⟩
      have bA : Below V23.heap.size V23 V24 := by rw [hW1]; exact bel_new (Below.refl _ _) _
      have hf0 : Fc (fun _ => False) V23 cV23 V24 (up cV23 V23.heap.size 30) := Fc.of_below_up bA
      have hq : V24.heap[V23.heap.size]? = some (.cells #[.int .u8 4, .int .u8 7, .int .u8 8] 5 (0, 0)) := by rw [hW1]; exact heap_alloc_new V23 _
      have hlt0 : V23.heap.size < V24.heap.size := by rw [hW1, World.size_alloc]; omega
      have HX := Lib.hid (show Ex x bl w.heap.size V24 (up cV23 V23.heap.size 30) Z7 a3 4 from HX.out.fc hf0 fun _ _ e => e)
      have HB := Lib.hid (HB.out.trans (bA.mono HB.out.size))
      have hc30 : up cV23 V23.heap.size 30 V23.heap.size = 30 := up_ge (Nat.le_refl _)
      generalize up cV23 V23.heap.size 30 = cV24 at HX hc30
      have KP := Lib.hid (fun (V : World) (c' : Nat → Nat) (hf : Fc T4 V24 cV24 V c') (j : Nat) (v : Value) (hj : #[(.int .u8 4 : Value), (.int .u8 7 : Value), (.int .u8 8 : Value)][j]? = some v) => (show V.cell? ⟨V23.heap.size, j, none⟩ = some v from cell_heap ((hf.keep hlt0 (by rw [hc30]; unfold T4; omega)).trans hq) hj))
      clear bA hf0 hq hlt0 hc30
      go_wp2_with fail
      try rw [← hW1]
      clear hW1
      go_loopw [26] (fun vi wr => (vi = .int .i64 0 ∧ ∃ c', Ex x bl w.heap.size wr c' Z7 a3 4 ∧ Fc T4 V24 cV24 wr c') ∨ (vi = .int .i64 1 ∧ ∃ c', Ex x bl w.heap.size wr c' Z8 a3 5 ∧ Fc T4 V24 cV24 wr c') ∨ (vi = .int .i64 2 ∧ ∃ c', Ex x bl w.heap.size wr c' Z9 a3 6 ∧ Fc T4 V24 cV24 wr c') ∨ (vi = .int .i64 3 ∧ ∃ c', Ex x bl w.heap.size wr c' Z10 a3 7 ∧ Fc T4 V24 cV24 wr c')) (fun vi _ => (3 - intOf vi).toNat)
      case atStart => exact .inl ⟨rfl, cV24, HX.out, Fc.id _ _ _⟩
      case round =>
        rcases hrel with ⟨rfl, c', hx, hf⟩ | ⟨rfl, c', hx, hf⟩ | ⟨rfl, c', hx, hf⟩ | ⟨rfl, c', hx, hf⟩
        · have CS := Lib.hid (show Calls Try.prog 19 #[.pointer (some ⟨y2, 0, none⟩)] wr fun e w' => e = .returned (.tuple #[.int .u8 4, .bool false]) ∧ ExT x bl w.heap.size wr c' Z8 a3 5 w' from hx.stepG (by omega) (i := 2) (pc := 4) Y2.out z7)
          have HF := Lib.hid hf
          clear hx hf
          go_wp2_with fail
          refine CS.out.mono ?_
          rintro r1 V ⟨rfl, c2, hx2, hf2⟩
          have kw := KP.out V c2 (HF.out.trans hf2) 0 _ rfl
          have HF2 := Lib.hid (HF.out.trans hf2)
          have HX2 := Lib.hid hx2
          clear hx2 hf2
          go_wp2
          go_roundw
          case rel => exact .inr (.inl ⟨by first | rfl | go_num, c2, HX2.out, HF2.out⟩)
          case measure => simp [intOf]
        · have CS := Lib.hid (show Calls Try.prog 19 #[.pointer (some ⟨y2, 0, none⟩)] wr fun e w' => e = .returned (.tuple #[.int .u8 7, .bool false]) ∧ ExT x bl w.heap.size wr c' Z9 a3 6 w' from hx.stepG (by omega) (i := 2) (pc := 7) Y2.out z8)
          have HF := Lib.hid hf
          clear hx hf
          go_wp2_with fail
          refine CS.out.mono ?_
          rintro r1 V ⟨rfl, c2, hx2, hf2⟩
          have kw := KP.out V c2 (HF.out.trans hf2) 1 _ rfl
          have HF2 := Lib.hid (HF.out.trans hf2)
          have HX2 := Lib.hid hx2
          clear hx2 hf2
          go_wp2
          go_roundw
          case rel => exact .inr (.inr (.inl ⟨by first | rfl | go_num, c2, HX2.out, HF2.out⟩))
          case measure => simp [intOf]
        · have CS := Lib.hid (show Calls Try.prog 19 #[.pointer (some ⟨y2, 0, none⟩)] wr fun e w' => e = .returned (.tuple #[.int .u8 8, .bool true]) ∧ ExT x bl w.heap.size wr c' Z10 a3 7 w' from hx.stepG (by omega) (i := 2) (pc := 8) Y2.out z9)
          have HF := Lib.hid hf
          clear hx hf
          go_wp2_with fail
          refine CS.out.mono ?_
          rintro r1 V ⟨rfl, c2, hx2, hf2⟩
          have kw := KP.out V c2 (HF.out.trans hf2) 2 _ rfl
          have HF2 := Lib.hid (HF.out.trans hf2)
          have HX2 := Lib.hid hx2
          clear hx2 hf2
          go_wp2
          go_roundw
          case rel => exact .inr (.inr (.inr (⟨by first | rfl | go_num, c2, HX2.out, HF2.out⟩)))
          case measure => simp [intOf]
        · have HB := Lib.hid (HB.out.trans (HX.out.bel hf))
          have HX := Lib.hid hx
          obtain ⟨V25, hV⟩ : ∃ V, V = wr := ⟨_, rfl⟩
          rw [← hV] at HX HB ⊢
          clear hx hf KP hV
          go_wp2_with fail
          refine (show Calls Try.prog 20 #[.pointer (some ⟨x, 0, none⟩), .int .i64 1] V25 fun e w' => e = .returned (.tuple #[.int .i64 1, .int .i64 0]) ∧ w' = V25 from by have q := HX.out.gen 1; rw [z10g] at q; exact q).mono ?_
          rintro r1 W ⟨rfl, e⟩
          obtain rfl := e.symm
          have CLS := Lib.hid (listsB HX.out z10l (m1 := 2) (m2 := 1) rfl rfl (by omega) (by omega))
          go_wp2_with fail
          refine (CLS.out _ _ _ _ _ (by (repeat (first | exact Below.refl _ _ | exact BX1 | exact bel_new BX1 _  | refine bel_new ?_ _ | refine bel_drew ?_))) (by (first | exact litE [1, 2] (by first | rfl | rw [World.size_alloc] | simp) (lv2 1 2) | exact (litE [1, 2] (by first | rfl | rw [World.size_alloc] | simp) (lv2 1 2)).below (bel_new (Below.refl _ _) _) | exact (litE [1, 2] (by first | rfl | rw [World.size_alloc] | simp) (lv2 1 2)).below (bel_drew (Below.refl _ _)) | exact (litE [1, 2] (by first | rfl | rw [World.size_alloc] | simp) (lv2 1 2)).below (bel_new (bel_new (Below.refl _ _) _) _))) (by (first | exact litE [3] (by first | rfl | rw [World.size_alloc] | simp) (lv1 3) | exact (litE [3] (by first | rfl | rw [World.size_alloc] | simp) (lv1 3)).below (bel_new (Below.refl _ _) _) | exact (litE [3] (by first | rfl | rw [World.size_alloc] | simp) (lv1 3)).below (bel_drew (Below.refl _ _)) | exact (litE [3] (by first | rfl | rw [World.size_alloc] | simp) (lv1 3)).below (bel_new (bel_new (Below.refl _ _) _) _)))).mono ?_
          rintro r1 V26 ⟨rfl, BX1⟩
          have BD := Lib.hid BX1
          have HX := Lib.hid (show Ex x bl w.heap.size V26 c' Z10 a3 7 from HX.out.below BD.out)
          have HB := Lib.hid (HB.out.trans (BD.out.mono HB.out.size))
          clear BD BX1
          go_wp2_with fail
          refine (show Calls Try.prog 14 #[.pointer (some ⟨x, 0, none⟩), .int .i64 0, .int .i64 1, .int .i64 1] V26 fun e w' => ∃ y a', e = .returned (.tuple #[.pointer (some ⟨y, 0, none⟩), .int .i64 0]) ∧ a' 3 = y ∧ (∀ j, j ≠ 3 → a' j = a3 j) ∧ ExT x bl w.heap.size V26 c' Z11 a' 7 w' from HX.out.take 3 0 0 1 (by omega) (by omega) (by omega) z10n rfl rfl rfl).mono ?_
          rintro r1 V27 ⟨y3, a4, rfl, hy, ho, ht⟩
          have Y3 := Lib.hid hy
          obtain ⟨cV27, hx, hf⟩ := ht
          have HB := Lib.hid (HB.out.trans (HX.out.bel hf))
          have HX := Lib.hid (show Ex x bl w.heap.size V27 cV27 Z11 a4 7 from hx)
          clear hx hf hy ho
          go_wp2_with fail
          refine (show Calls Try.prog 14 #[.pointer (some ⟨x, 0, none⟩), .int .i64 1, .int .i64 1, .int .i64 0] V27 fun e w' => ∃ y a', e = .returned (.tuple #[.pointer (some ⟨y, 0, none⟩), .int .i64 0]) ∧ a' 4 = y ∧ (∀ j, j ≠ 4 → a' j = a4 j) ∧ ExT x bl w.heap.size V27 cV27 Z12 a' 7 w' from HX.out.take 4 1 0 0 (by omega) (by omega) (by omega) z11n rfl rfl rfl).mono ?_
          rintro r1 V28 ⟨y4, a5, rfl, hy, ho, ht⟩
          have Y4 := Lib.hid hy
          have Y3 := Lib.hid ((ho 3 (by decide)).trans Y3.out)
          obtain ⟨cV28, hx, hf⟩ := ht
          have HB := Lib.hid (HB.out.trans (HX.out.bel hf))
          have HX := Lib.hid (show Ex x bl w.heap.size V28 cV28 Z12 a5 7 from hx)
          clear hx hf hy ho
          go_wp2_with fail
          refine (show Calls Try.prog 16 #[.pointer (some ⟨y3, 0, none⟩)] V28 fun e w' => e = .returned (.tuple #[.int .u8 4, .bool false]) ∧ ExT x bl w.heap.size V28 cV28 Z13 a5 8 w' from HX.out.stepT (by omega) (i := 3) (pc := 4) Y3.out z12).mono ?_
          rintro r1 V29 ⟨rfl, ht⟩
          obtain ⟨cV29, hx, hf⟩ := ht
          have HB := Lib.hid (HB.out.trans (HX.out.bel hf))
          have HX := Lib.hid (show Ex x bl w.heap.size V29 cV29 Z13 a5 8 from hx)
          clear hx hf
          go_wp2_with fail
          refine (show Calls Try.prog 16 #[.pointer (some ⟨y3, 0, none⟩)] V29 fun e w' => e = .returned (.tuple #[.int .u8 5, .bool false]) ∧ ExT x bl w.heap.size V29 cV29 Z14 a5 9 w' from HX.out.stepT (by omega) (i := 3) (pc := 5) Y3.out z13).mono ?_
          rintro r1 V30 ⟨rfl, ht⟩
          obtain ⟨cV30, hx, hf⟩ := ht
          have HB := Lib.hid (HB.out.trans (HX.out.bel hf))
          have HX := Lib.hid (show Ex x bl w.heap.size V30 cV30 Z14 a5 9 from hx)
          clear hx hf
          go_wp2_with fail
          refine (show Calls Try.prog 16 #[.pointer (some ⟨y4, 0, none⟩)] V30 fun e w' => e = .returned (.tuple #[.int .u8 4, .bool false]) ∧ ExT x bl w.heap.size V30 cV30 Z15 a5 10 w' from HX.out.stepT (by omega) (i := 4) (pc := 4) Y4.out z14).mono ?_
          rintro r1 V31 ⟨rfl, ht⟩
          obtain ⟨cV31, hx, hf⟩ := ht
          have HB := Lib.hid (HB.out.trans (HX.out.bel hf))
          have HX := Lib.hid (show Ex x bl w.heap.size V31 cV31 Z15 a5 10 from hx)
          clear hx hf
          go_wp2_with fail
          refine (show Calls Try.prog 16 #[.pointer (some ⟨y4, 0, none⟩)] V31 fun e w' => e = .returned (.tuple #[.int .u8 5, .bool false]) ∧ ExT x bl w.heap.size V31 cV31 Z16 a5 11 w' from HX.out.stepT (by omega) (i := 4) (pc := 5) Y4.out z15).mono ?_
          rintro r1 V32 ⟨rfl, ht⟩
          obtain ⟨cV32, hx, hf⟩ := ht
          have HB := Lib.hid (HB.out.trans (HX.out.bel hf))
          have HX := Lib.hid (show Ex x bl w.heap.size V32 cV32 Z16 a5 11 from hx)
          clear hx hf
          go_wp2_with fail
          refine (show Calls Try.prog 16 #[.pointer (some ⟨y4, 0, none⟩)] V32 fun e w' => e = .returned (.tuple #[.int .u8 6, .bool true]) ∧ ExT x bl w.heap.size V32 cV32 Z17 a5 12 w' from HX.out.stepT (by omega) (i := 4) (pc := 6) Y4.out z16).mono ?_
          rintro r1 V33 ⟨rfl, ht⟩
          obtain ⟨cV33, hx, hf⟩ := ht
          have HB := Lib.hid (HB.out.trans (HX.out.bel hf))
          have HX := Lib.hid (show Ex x bl w.heap.size V33 cV33 Z17 a5 12 from hx)
          clear hx hf
          go_wp2_with fail
          refine (show Calls Try.prog 16 #[.pointer (some ⟨y3, 0, none⟩)] V33 fun e w' => e = .returned (.tuple #[.int .u8 6, .bool true]) ∧ ExT x bl w.heap.size V33 cV33 Z18 a5 13 w' from HX.out.stepT (by omega) (i := 3) (pc := 6) Y3.out z17).mono ?_
          rintro r1 V34 ⟨rfl, ht⟩
          obtain ⟨cV34, hx, hf⟩ := ht
          have HB := Lib.hid (HB.out.trans (HX.out.bel hf))
          have HX := Lib.hid (show Ex x bl w.heap.size V34 cV34 Z18 a5 13 from hx)
          clear hx hf
          go_wp2_with fail
          refine (show Calls Try.prog 15 #[.pointer (some ⟨y3, 0, none⟩)] V34 fun e w' => e = .returned (.tuple #[.int .i64 0, .int .i64 1, .int .i64 11]) ∧ Below V34.heap.size V34 w' from HX.out.resEnd Y3.out z18).mono ?_
          rintro r1 V35 ⟨rfl, hb⟩
          have BD := Lib.hid hb
          have HX := Lib.hid (show Ex x bl w.heap.size V35 cV34 Z18 a5 13 from HX.out.below BD.out)
          have HB := Lib.hid (HB.out.trans (BD.out.mono HB.out.size))
          clear hb BD
          have CN := Lib.hid (Wd.new_any (some ⟨V35.heap.size, 0, none⟩) 1 1 [0] (V35.alloc (.cells #[.int .u64 0] 57)) rfl (by unfold maxLen; omega) (lit_one V35) (fun x hx => by simp at hx; omega))
          have BA := Lib.hid (show Below V35.heap.size V35 (V35.alloc (.cells #[.int .u64 0] 57)) from bel_new (Below.refl _ _) _)
          go_wp2_with fail
          refine CN.out.mono ?_
          rintro r1 U1 (⟨he, _⟩ | ⟨_, bs, ps, rfl, ha, hbs, hps, b1⟩)
          · exact absurd (show newE 1 = 0 from rfl) he
          have BD := Lib.hid (BA.out.trans (b1.mono BA.out.size))
          have HX := Lib.hid (show Ex x bl w.heap.size U1 cV34 Z18 a5 13 from HX.out.below BD.out)
          have HB := Lib.hid (HB.out.trans (BD.out.mono HB.out.size))
          obtain ⟨f2, l2, hly⟩ := HX.out.lay
          have CB := Lib.hid (new_bad ha hly pWE.1 (by have := pWE.2.1; omega) (by show 1 < _; exact pWE.2.2))
          clear ha hbs hps b1 BD BA CN hly
          go_wp2_with fail
          refine CB.out.mono ?_
          rintro r1 U2 ⟨rfl, hb⟩
          have BD := Lib.hid hb
          have HX := Lib.hid (show Ex x bl w.heap.size U2 cV34 Z18 a5 13 from HX.out.below BD.out)
          have HB := Lib.hid (HB.out.trans (BD.out.mono HB.out.size))
          clear hb BD CB
          go_wp2_with fail
          refine (show Calls Try.prog 11 #[.pointer none, .pointer (some ⟨bl, 0, none⟩)] U2 _ from new_nil none (some ⟨bl, 0, none⟩) U2 (.inl rfl) (fun x h => by cases h)).mono ?_
          rintro r1 W ⟨rfl, e⟩
          obtain rfl := e.symm
          go_wp2_with fail
          refine (show Calls Try.prog 14 #[.pointer none, .int .i64 0, .int .i64 1, .int .i64 0] U2 _ from take_nil 0 1 0 U2).mono ?_
          rintro r1 W ⟨rfl, e⟩
          obtain rfl := e.symm
          go_wp2_with fail
          refine (show Calls Try.prog 18 #[.pointer none, .int .i64 0, .int .i64 1] U2 _ from give_nil 0 1 U2).mono ?_
          rintro r1 W ⟨rfl, e⟩
          obtain rfl := e.symm
          go_wp2_with fail
          refine (show Calls Try.prog 21 #[.pointer none, .int .i64 1] U2 _ from list_nil 1 U2).mono ?_
          rintro r1 W ⟨rfl, e⟩
          obtain rfl := e.symm
          go_wp2_with fail
          refine (show Calls Try.prog 20 #[.pointer none, .int .i64 1] U2 _ from gen_nil 1 U2).mono ?_
          rintro r1 W ⟨rfl, e⟩
          obtain rfl := e.symm
          go_wp2_with fail
          refine (show Calls Try.prog 15 #[.pointer none] U2 _ from res_nil U2).mono ?_
          rintro r1 W ⟨rfl, e⟩
          obtain rfl := e.symm
          go_wp2_with fail
          refine (show Calls Try.prog 19 #[.pointer none] U2 _ from step_gnil U2).mono ?_
          rintro r1 W ⟨rfl, e⟩
          obtain rfl := e.symm
          go_wp2_with fail
          refine (show Calls Try.prog 13 #[.pointer none] U2 _ from out_nil U2).mono ?_
          rintro r1 W ⟨rfl, e⟩
          obtain rfl := e.symm
          go_wp2
          go_ret
          exact ⟨rfl, HB.out⟩
end Wk
end Go.Proofs.Ytcipjjchclpgnaa
