/- leapfroglaw14.Op.step: contracts of the translated code. Conditions: those of each lemma. (Written by tools/mkps15.py.) -/
import Derived.Test.YtdkkpaofodicjaaGreatPsD
namespace Go.Proofs.YtdkkpaofodicjaaGreat
open Go.RowKit Go.Sort
set_option linter.unusedVariables false
set_option linter.unusedSimpArgs false
set_option maxRecDepth 100000
namespace Po
open Wd
section
variable {K : Kc} {R : Kr} {w : World} {c : Nat → Nat} {S : Pm} {X : Nat → Option Op} {a b : Nat → Nat} {B : Nat} {i : Nat} {r : Op}
theorem rsV_eq (r : Op) : ∃ g f e, rsV r = .tuple #[.int .i64 g, .int .i64 f, .int .i64 e] := by
  unfold rsV
  split
  · exact ⟨_, _, _, rfl⟩
  · exact ⟨_, _, _, rfl⟩
theorem stO_tw (K : Kc) (S : Pm) (r : Op) : (stO K S r).tw = r.tw := by
  unfold stO
  split
  · rfl
  · exact (step_same _ _ _).2.2.1
set_option maxHeartbeats 2000000 in
theorem opStepA (h : Bo K R w c S X a b B) (hB : B ≤ 50000) (hx : X i = some r) (h0 : r.tw = 0) : Calls Tryz.prog 19 #[.agg #[.pointer (some ⟨a i, 0, none⟩), .pointer none, .pointer (some ⟨b i, 0, none⟩)]] w fun e w' => e = .returned (.bool true) ∧ ∃ c', Bo K R w' c' (stS K S r) (upd X i (stO K S r)) a b (B + 1) ∧ Fc TB w c w' c' := by
  obtain ⟨W0, hW0⟩ : ∃ W, W = w.alloc (.cells #[.pointer (some ⟨a i, 0, none⟩), .pointer none, .pointer (some ⟨b i, 0, none⟩)] 62) := ⟨_, rfl⟩
  have bA : Below w.heap.size w W0 := by rw [hW0]; exact bel_new (Below.refl _ _) _
  have hf0 : Fc (fun _ => False) w c W0 (up c w.heap.size 30) := Fc.of_below_up bA
  have hq : W0.heap[w.heap.size]? = some (.cells #[.pointer (some ⟨a i, 0, none⟩), .pointer none, .pointer (some ⟨b i, 0, none⟩)] 62 (0, 0)) := by rw [hW0]; exact heap_alloc_new w _
  have hlt0 : w.heap.size < W0.heap.size := by rw [hW0, World.size_alloc]; omega
  have hc30 : up c w.heap.size 30 w.heap.size = 30 := up_ge (Nat.le_refl _)
  have h' := h.fc hf0 fun _ _ e => e
  generalize up c w.heap.size 30 = c0 at hf0 hc30 h'
  have KP := Lib.hid (fun (V : World) (c' : Nat → Nat) (hf : Fc TB W0 c0 V c') (j : Nat) (v : Value) (hj : #[(.pointer (some ⟨a i, 0, none⟩) : Value), .pointer none, .pointer (some ⟨b i, 0, none⟩)][j]? = some v) => (show V.cell? ⟨w.heap.size, j, none⟩ = some v from cell_heap ((hf.keep hlt0 (by rw [hc30]; unfold TB; omega)).trans hq) hj))
  have HF0 := Lib.hid (hf0.mono (T := TB) fun _ e => e.elim)
  have HBX := Lib.hid (fun (V : World) (hb : Below W0.heap.size W0 V) (j : Nat) (v : Value) (hj : #[(.pointer (some ⟨a i, 0, none⟩) : Value), .pointer none, .pointer (some ⟨b i, 0, none⟩)][j]? = some v) => (show V.cell? ⟨w.heap.size, j, none⟩ = some v from cell_heap ((hb.block _ hlt0).trans hq) hj))
  clear bA hf0 hq hlt0 hc30 h
  have h := h'
  clear h'
  have HN := Lib.hid (fun (W : World) (hb : Below W0.heap.size W0 W) => nextR_any ((h.below hb).sr.o i r hx).1)
  have HA := Lib.hid (fun (W : World) (hb : Below W0.heap.size W0 W) => next_t ((h.below hb).sa.o i r hx).1)
  have HS := Lib.hid (fun (W : World) (hb : Below W0.heap.size W0 W) => (h.below hb).stepA hB hx h0)
  obtain ⟨Pc, hP⟩ : ∃ v : Int, v = ((r.pc : Nat) : Int) := ⟨_, rfl⟩
  obtain ⟨D, hD⟩ : ∃ v : Bool, v = dnV K S r := ⟨_, rfl⟩
  obtain ⟨r2, hr2⟩ : ∃ v, v = stO K S r := ⟨_, rfl⟩
  obtain ⟨Qc, hQ⟩ : ∃ v : Int, v = ((r2.pc : Nat) : Int) := ⟨_, rfl⟩
  obtain ⟨g, f, e, hV⟩ := rsV_eq r2
  have hx2 : upd X i r2 i = some r2 := upd_same ..
  have tw2 : r2.tw = r.tw := by rw [hr2]; exact stO_tw ..
  rw [← hP] at HN HA HS
  rw [← hD] at HS
  have q1 : (Pc != Pc) = false := by simp
  have q2 : (Qc == Qc) = true := by simp
  have HQ := Lib.hid (show ∀ (W : World) (c' : Nat → Nat) (S' : Pm) (n : Nat), Bo K R W c' S' (upd X i (stO K S r)) a b n → r2.pc = (stO K S r).pc from fun _ _ _ _ _ => by rw [hr2])
  obtain ⟨ya, hya⟩ : ∃ y, y = a i := ⟨_, rfl⟩
  obtain ⟨yb, hyb⟩ : ∃ y, y = b i := ⟨_, rfl⟩
  rw [← hya, ← hyb]
  rw [← hya] at HA HS HBX KP hW0
  rw [← hyb] at HN HBX KP hW0
  have HR := Lib.hid (fun (W : World) (c' : Nat → Nat) (q : Bm K R W c' S X a b B i r) => (show Calls Tryz.prog 58 #[.pointer (some ⟨yb, 0, none⟩)] W fun e w' => e = .returned (.tuple #[.int .u8 Pc, .bool D]) ∧ ∃ c', Bo K R w' c' (stS K S r) (upd X i r2) a b (B + 1) ∧ Fc TB W _ w' c' from by rw [hyb, hP, hD, hr2]; exact q.stepR hB hx))
  have HN2 := Lib.hid (fun (W : World) (c' : Nat → Nat) (S' : Pm) (n : Nat) (q : Bo K R W c' S' (upd X i r2) a b n) => (show Calls Tryz.prog 55 #[.pointer (some ⟨yb, 0, none⟩)] W fun e w' => e = .returned (.int .u8 Qc) ∧ w' = W from by rw [hyb, hQ]; exact nextR_any (q.sr.o i r2 hx2).1))
  have HA2 := Lib.hid (fun (W : World) (c' : Nat → Nat) (S' : Pm) (n : Nat) (q : Bo K R W c' S' (upd X i r2) a b n) => (show Calls Tryz.prog 56 #[.pointer (some ⟨ya, 0, none⟩)] W fun e w' => e = .returned (.int .u8 Qc) ∧ w' = W from by rw [hya, hQ]; exact next_t (q.sa.o i r2 hx2).1))
  have H1 := Lib.hid (fun (W : World) (c' : Nat → Nat) (S' : Pm) (n : Nat) (q : Bo K R W c' S' (upd X i r2) a b n) => (show Calls Tryz.prog 59 #[.pointer (some ⟨ya, 0, none⟩)] W fun e' w' => e' = .returned (.tuple #[.int .i64 g, .int .i64 f, .int .i64 e]) ∧ Below W.heap.size W w' from by rw [hya, ← hV]; exact q.resA hx2 (by rw [tw2]; exact h0)))
  have H2 := Lib.hid (fun (W : World) (c' : Nat → Nat) (S' : Pm) (n : Nat) (q : Bo K R W c' S' (upd X i r2) a b n) => (show Calls Tryz.prog 60 #[.pointer (some ⟨yb, 0, none⟩)] W fun e' w' => e' = .returned (.tuple #[.int .i64 g, .int .i64 f, .int .i64 e]) ∧ Below W.heap.size W w' from by rw [hyb, ← hV]; exact q.resB hx2))
  rw [← hr2]
  clear h hx h0 hP hD hr2 hQ hV hx2 tw2 hya hyb HQ
  go_enter Tryz.func19, Tryz.ntmps19
  go_wp2_with fail
  rw [← hW0]
  have x0 := HBX.out W0 (Below.refl _ _) 0 _ rfl
  have x1 := HBX.out W0 (Below.refl _ _) 1 _ rfl
  have x2 := HBX.out W0 (Below.refl _ _) 2 _ rfl
  clear hW0
  refine (HN.out _ (by (repeat (first | exact Below.refl _ _ | refine bel_new ?_ _ | refine bel_drew ?_)))).mono ?_
  rintro r1 W1 ⟨rfl, e1⟩
  obtain rfl := e1.symm
  go_wp2_with fail
  refine (HA.out _ (by (repeat (first | exact Below.refl _ _ | refine bel_new ?_ _ | refine bel_drew ?_)))).mono ?_
  rintro r1 W1 ⟨rfl, e1⟩
  obtain rfl := e1.symm
  go_wp2_with fail
  refine (HS.out _ (by (repeat (first | exact Below.refl _ _ | refine bel_new ?_ _ | refine bel_drew ?_)))).mono ?_
  rintro r1 W2 ⟨rfl, c2, hbm, hf2⟩
  have HM := Lib.hid hbm
  have HF := Lib.hid (show Fc TB W0 c0 W2 c2 from (Fc.of_below (by (repeat (first | exact Below.refl _ _ | refine bel_new ?_ _ | refine bel_drew ?_)))).trans hf2)
  have z0 := KP.out _ _ HF.out 0 _ rfl
  have z1 := KP.out _ _ HF.out 1 _ rfl
  have z2 := KP.out _ _ HF.out 2 _ rfl
  clear hbm hf2
  go_wp2_with fail
  refine (HR.out _ _ HM.out).mono ?_
  rintro r1 W3 ⟨rfl, c3, hbo, hf3⟩
  have HO := Lib.hid hbo
  have HF := Lib.hid (HF.out.trans hf3)
  have y0 := KP.out _ _ HF.out 0 _ rfl
  have y1 := KP.out _ _ HF.out 1 _ rfl
  have y2 := KP.out _ _ HF.out 2 _ rfl
  clear hbo hf3
  go_wp2_with fail
  refine (H1.out _ _ _ _ HO.out).mono ?_
  rintro r1 W4 ⟨rfl, hb⟩
  have HO := Lib.hid (HO.out.below hb)
  have HF := Lib.hid (HF.out.then hb)
  have y5_0 := KP.out _ _ HF.out 0 _ rfl
  have y5_1 := KP.out _ _ HF.out 1 _ rfl
  have y6_2 := KP.out _ _ HF.out 2 _ rfl
  clear hb
  go_wp2_with fail
  refine (H2.out _ _ _ _ HO.out).mono ?_
  rintro r1 W5 ⟨rfl, hb⟩
  have HO := Lib.hid (HO.out.below hb)
  have HF := Lib.hid (HF.out.then hb)
  have y6_0 := KP.out _ _ HF.out 0 _ rfl
  have y6_1 := KP.out _ _ HF.out 1 _ rfl
  have y7_2 := KP.out _ _ HF.out 2 _ rfl
  clear hb
  have q3 : (D == D) = true := by simp
  have q4 : (Pc == Pc) = true := by simp
  have q5 : (g == g) = true := by simp
  have q6 : (f == f) = true := by simp
  have q7 : (e == e) = true := by simp
  have u0 := KP.out _ _ HF.out 0 _ rfl
  have u2 := KP.out _ _ HF.out 2 _ rfl
  obtain ⟨WW, hWW⟩ : ∃ V : World, V = W5 := ⟨_, rfl⟩
  rw [← hWW] at HO HF u0 u2 ⊢
  clear hWW
  go_wp2_with fail
  go_region_held3 (fun w' => w'.cell? ⟨w.heap.size, 0, none⟩ = some (.pointer (some ⟨ya, 0, none⟩)) ∧ w'.cell? ⟨w.heap.size, 2, none⟩ = some (.pointer (some ⟨yb, 0, none⟩))) (exact ⟨u0, u2⟩) (first | (go_at_call 56; refine (HA2.out _ _ _ _ (by first | exact HO.out | exact HO.out.below (bel_drew (Below.refl _ _)))).mono ?_; rintro r1 W6 ⟨rfl, e1⟩; obtain rfl := e1.symm) | (go_at_call 55; refine (HN2.out _ _ _ _ (by first | exact HO.out | exact HO.out.below (bel_drew (Below.refl _ _)))).mono ?_; rintro r1 W6 ⟨rfl, e1⟩; obtain rfl := e1.symm))
  all_goals
    go_wp2
    go_ret
    first
      | exact ⟨rfl, _, HO.out, HF0.out.trans HF.out⟩
      | exact ⟨rfl, _, HO.out.below (bel_drew (Below.refl _ _)), HF0.out.trans (HF.out.then (bel_drew (Below.refl _ _)))⟩
set_option maxHeartbeats 2000000 in
theorem opStepB (h : Bo K R w c S X a b B) (hB : B ≤ 50000) (hx : X i = some r) (h0 : 0 < r.tw) : Calls Tryz.prog 19 #[.agg #[.pointer none, .pointer (some ⟨a i, 0, none⟩), .pointer (some ⟨b i, 0, none⟩)]] w fun e w' => e = .returned (.bool true) ∧ ∃ c', Bo K R w' c' (stS K S r) (upd X i (stO K S r)) a b (B + 1) ∧ Fc TB w c w' c' := by
  obtain ⟨W0, hW0⟩ : ∃ W, W = w.alloc (.cells #[.pointer none, .pointer (some ⟨a i, 0, none⟩), .pointer (some ⟨b i, 0, none⟩)] 62) := ⟨_, rfl⟩
  have bA : Below w.heap.size w W0 := by rw [hW0]; exact bel_new (Below.refl _ _) _
  have hf0 : Fc (fun _ => False) w c W0 (up c w.heap.size 30) := Fc.of_below_up bA
  have hq : W0.heap[w.heap.size]? = some (.cells #[.pointer none, .pointer (some ⟨a i, 0, none⟩), .pointer (some ⟨b i, 0, none⟩)] 62 (0, 0)) := by rw [hW0]; exact heap_alloc_new w _
  have hlt0 : w.heap.size < W0.heap.size := by rw [hW0, World.size_alloc]; omega
  have hc30 : up c w.heap.size 30 w.heap.size = 30 := up_ge (Nat.le_refl _)
  have h' := h.fc hf0 fun _ _ e => e
  generalize up c w.heap.size 30 = c0 at hf0 hc30 h'
  have KP := Lib.hid (fun (V : World) (c' : Nat → Nat) (hf : Fc TB W0 c0 V c') (j : Nat) (v : Value) (hj : #[(.pointer none : Value), .pointer (some ⟨a i, 0, none⟩), .pointer (some ⟨b i, 0, none⟩)][j]? = some v) => (show V.cell? ⟨w.heap.size, j, none⟩ = some v from cell_heap ((hf.keep hlt0 (by rw [hc30]; unfold TB; omega)).trans hq) hj))
  have HF0 := Lib.hid (hf0.mono (T := TB) fun _ e => e.elim)
  have HBX := Lib.hid (fun (V : World) (hb : Below W0.heap.size W0 V) (j : Nat) (v : Value) (hj : #[(.pointer none : Value), .pointer (some ⟨a i, 0, none⟩), .pointer (some ⟨b i, 0, none⟩)][j]? = some v) => (show V.cell? ⟨w.heap.size, j, none⟩ = some v from cell_heap ((hb.block _ hlt0).trans hq) hj))
  clear bA hf0 hq hlt0 hc30 h
  have h := h'
  clear h'
  have HN := Lib.hid (fun (W : World) (hb : Below W0.heap.size W0 W) => nextR_any ((h.below hb).sr.o i r hx).1)
  have HA := Lib.hid (fun (W : World) (hb : Below W0.heap.size W0 W) => next_g ((h.below hb).sa.o i r hx).1)
  have HS := Lib.hid (fun (W : World) (hb : Below W0.heap.size W0 W) => (h.below hb).stepB hB hx h0)
  obtain ⟨Pc, hP⟩ : ∃ v : Int, v = ((r.pc : Nat) : Int) := ⟨_, rfl⟩
  obtain ⟨D, hD⟩ : ∃ v : Bool, v = dnV K S r := ⟨_, rfl⟩
  obtain ⟨r2, hr2⟩ : ∃ v, v = stO K S r := ⟨_, rfl⟩
  obtain ⟨Qc, hQ⟩ : ∃ v : Int, v = ((r2.pc : Nat) : Int) := ⟨_, rfl⟩
  obtain ⟨g, f, e, hV⟩ := rsV_eq r2
  have hx2 : upd X i r2 i = some r2 := upd_same ..
  have tw2 : r2.tw = r.tw := by rw [hr2]; exact stO_tw ..
  rw [← hP] at HN HA HS
  rw [← hD] at HS
  have q1 : (Pc != Pc) = false := by simp
  have q2 : (Qc == Qc) = true := by simp
  have HQ := Lib.hid (show ∀ (W : World) (c' : Nat → Nat) (S' : Pm) (n : Nat), Bo K R W c' S' (upd X i (stO K S r)) a b n → r2.pc = (stO K S r).pc from fun _ _ _ _ _ => by rw [hr2])
  obtain ⟨ya, hya⟩ : ∃ y, y = a i := ⟨_, rfl⟩
  obtain ⟨yb, hyb⟩ : ∃ y, y = b i := ⟨_, rfl⟩
  rw [← hya, ← hyb]
  rw [← hya] at HA HS HBX KP hW0
  rw [← hyb] at HN HBX KP hW0
  have HR := Lib.hid (fun (W : World) (c' : Nat → Nat) (q : Bm K R W c' S X a b B i r) => (show Calls Tryz.prog 58 #[.pointer (some ⟨yb, 0, none⟩)] W fun e w' => e = .returned (.tuple #[.int .u8 Pc, .bool D]) ∧ ∃ c', Bo K R w' c' (stS K S r) (upd X i r2) a b (B + 1) ∧ Fc TB W _ w' c' from by rw [hyb, hP, hD, hr2]; exact q.stepR hB hx))
  have HN2 := Lib.hid (fun (W : World) (c' : Nat → Nat) (S' : Pm) (n : Nat) (q : Bo K R W c' S' (upd X i r2) a b n) => (show Calls Tryz.prog 55 #[.pointer (some ⟨yb, 0, none⟩)] W fun e w' => e = .returned (.int .u8 Qc) ∧ w' = W from by rw [hyb, hQ]; exact nextR_any (q.sr.o i r2 hx2).1))
  have HA2 := Lib.hid (fun (W : World) (c' : Nat → Nat) (S' : Pm) (n : Nat) (q : Bo K R W c' S' (upd X i r2) a b n) => (show Calls Tryz.prog 61 #[.pointer (some ⟨ya, 0, none⟩)] W fun e w' => e = .returned (.int .u8 Qc) ∧ w' = W from by rw [hya, hQ]; exact next_g (q.sa.o i r2 hx2).1))
  rw [← hr2]
  clear h hx h0 hP hD hr2 hQ hV hx2 tw2 hya hyb HQ
  go_enter Tryz.func19, Tryz.ntmps19
  go_wp2_with fail
  rw [← hW0]
  have x0 := HBX.out W0 (Below.refl _ _) 0 _ rfl
  have x1 := HBX.out W0 (Below.refl _ _) 1 _ rfl
  have x2 := HBX.out W0 (Below.refl _ _) 2 _ rfl
  clear hW0
  refine (HN.out _ (by (repeat (first | exact Below.refl _ _ | refine bel_new ?_ _ | refine bel_drew ?_)))).mono ?_
  rintro r1 W1 ⟨rfl, e1⟩
  obtain rfl := e1.symm
  go_wp2_with fail
  refine (HA.out _ (by (repeat (first | exact Below.refl _ _ | refine bel_new ?_ _ | refine bel_drew ?_)))).mono ?_
  rintro r1 W1 ⟨rfl, e1⟩
  obtain rfl := e1.symm
  go_wp2_with fail
  refine (HS.out _ (by (repeat (first | exact Below.refl _ _ | refine bel_new ?_ _ | refine bel_drew ?_)))).mono ?_
  rintro r1 W2 ⟨rfl, c2, hbm, hf2⟩
  have HM := Lib.hid hbm
  have HF := Lib.hid (show Fc TB W0 c0 W2 c2 from (Fc.of_below (by (repeat (first | exact Below.refl _ _ | refine bel_new ?_ _ | refine bel_drew ?_)))).trans hf2)
  have z0 := KP.out _ _ HF.out 0 _ rfl
  have z1 := KP.out _ _ HF.out 1 _ rfl
  have z2 := KP.out _ _ HF.out 2 _ rfl
  clear hbm hf2
  go_wp2_with fail
  refine (HR.out _ _ HM.out).mono ?_
  rintro r1 W3 ⟨rfl, c3, hbo, hf3⟩
  have HO := Lib.hid hbo
  have HF := Lib.hid (HF.out.trans hf3)
  have y0 := KP.out _ _ HF.out 0 _ rfl
  have y1 := KP.out _ _ HF.out 1 _ rfl
  have y2 := KP.out _ _ HF.out 2 _ rfl
  clear hbo hf3
  have q3 : (D == D) = true := by simp
  have q4 : (Pc == Pc) = true := by simp
  have u0 := KP.out _ _ HF.out 1 _ rfl
  have u2 := KP.out _ _ HF.out 2 _ rfl
  obtain ⟨WW, hWW⟩ : ∃ V : World, V = W3 := ⟨_, rfl⟩
  rw [← hWW] at HO HF u0 u2 ⊢
  clear hWW
  go_wp2_with fail
  go_region_held3 (fun w' => w'.cell? ⟨w.heap.size, 1, none⟩ = some (.pointer (some ⟨ya, 0, none⟩)) ∧ w'.cell? ⟨w.heap.size, 2, none⟩ = some (.pointer (some ⟨yb, 0, none⟩))) (exact ⟨u0, u2⟩) (first | (go_at_call 61; refine (HA2.out _ _ _ _ (by first | exact HO.out | exact HO.out.below (bel_drew (Below.refl _ _)))).mono ?_; rintro r1 W6 ⟨rfl, e1⟩; obtain rfl := e1.symm) | (go_at_call 55; refine (HN2.out _ _ _ _ (by first | exact HO.out | exact HO.out.below (bel_drew (Below.refl _ _)))).mono ?_; rintro r1 W6 ⟨rfl, e1⟩; obtain rfl := e1.symm))
  all_goals
    go_wp2
    go_ret
    first
      | exact ⟨rfl, _, HO.out, HF0.out.trans HF.out⟩
      | exact ⟨rfl, _, HO.out.below (bel_drew (Below.refl _ _)), HF0.out.trans (HF.out.then (bel_drew (Below.refl _ _)))⟩
end
end Po
end Go.Proofs.YtdkkpaofodicjaaGreat
