/- Pop of leapfrogref07: contract of the translated code. Conditions: the bounds of each number's kind. -/
import Derived.Test.YtbndgbjenmknmaaDoorMgV
namespace Go.Proofs.YtbndgbjenmknmaaDoor
open Go.RowKit Go.Sort
set_option linter.unusedVariables false
set_option linter.unusedSimpArgs false
namespace Mg
open Om (Pr below_drewN bel_alloc)
open Dm (flatI row_rd)
theorem MrAt.box {w : World} {b g : Nat} {M : Mg} (h : MrAt w b M) (hg : b < g) (o : Nat) (x : Value) : MrAt (w.setCell ⟨g, o, none⟩ x) b M :=
  h.keep (Below.heap_setCell w ⟨g, o, none⟩ x b (Nat.ne_of_lt hg))
theorem Chg.new {b g : Nat} {w w' : World} (h : Chg b w w') (hg : w.heap.size ≤ g) (o : Nat) (v : Value) : Chg b w (w'.setCell ⟨g, o, none⟩ v) :=
  ⟨h.os, h.tape, h.output, Nat.le_trans h.size (Nat.le_of_eq (by simp)), fun k hk hn => (Below.heap_setCell w' ⟨g, o, none⟩ v k (by show k ≠ g; omega)).trans (h.block k hk hn)⟩
theorem far {w : World} {b g o o' : Nat} {x : Value} {r : Option Value} (hg : b < g) (h : w.cell? ⟨g, o, none⟩ = r) : (w.setCell ⟨b, o', none⟩ x).cell? ⟨g, o, none⟩ = r := by
  rw [World.cell?_setCell_other _ _ _ _ (fun e => by cases e; exact Nat.lt_irrefl _ hg)]; exact h
theorem box2 {w : World} {g : Nat} {x y p q : Value} (c0 : w.cell? ⟨g, 0, none⟩ = some p) (c1 : w.cell? ⟨g, 1, none⟩ = some q) :
    ((w.setCell ⟨g, 0, none⟩ x).setCell ⟨g, 1, none⟩ y).cell? ⟨g, 0, none⟩ = some x ∧ ((w.setCell ⟨g, 0, none⟩ x).setCell ⟨g, 1, none⟩ y).cell? ⟨g, 1, none⟩ = some y := by
  refine ⟨?_, ?_⟩
  · rw [World.cell?_setCell_other _ _ _ _ (fun e => by cases e)]; exact World.cell?_setCell_same _ _ _ c0
  · exact World.cell?_setCell_same _ _ _ (show (w.setCell ⟨g, 0, none⟩ x).cell? ⟨g, 1, none⟩ = some q by rw [World.cell?_setCell_other _ _ _ _ (fun e => by cases e)]; exact c1)
/-- the keys of the candidates are numbers of 64 bits -/
def Mg.U (M : Mg) : Prop := ∀ v, v < 64 → 0 ≤ (M.p v).1 ∧ (M.p v).1 ≤ 18446744073709551615
def popT (x : Pr) (l : Int) (is : Bool) (e : Int) : Value := .tuple #[.agg #[.int .u64 x.1, .int .u64 x.2], .int .i64 l, .bool is, .int .i64 e]
/-- what Pop returns, and what the merge is then -/
def Mg.pops (M : Mg) (r : Value) (N : Mg) : Prop :=
  (M.missN 64 ≠ [] ∧ r = popT (0, 0) 0 false 8 ∧ N = M) ∨ (M.missN 64 = [] ∧ (∀ v, v < 64 → M.hs v = false) ∧ r = popT (0, 0) 0 false 0 ∧ N = M) ∨ (M.missN 64 = [] ∧ ∃ v, M.least v ∧ r = popT (M.p v) v true 0 ∧ N = M.popped v)
theorem popR_nil (w : World) :
    Calls Tryd.prog 27 #[.pointer none] w fun e w' => e = .returned (popT (0, 0) 0 false 1) ∧ Below w.heap.size w w' := by
  go_enter Tryd.func27, Tryd.ntmps27
  go_wp2
  exact bodyPost_ret (v := popT (0, 0) 0 false 1) (by simp [popT, results, Tryd.results27, go_sem]) rfl ⟨rfl, bel_alloc (Below.refl _ _) _⟩
set_option maxHeartbeats 4000000 in
theorem popR (M : Mg) (b : Nat) (w : World) (hm : MrAt w b M) (hu : M.U) :
    Calls Tryd.prog 27 #[.pointer (some ⟨b, 0, none⟩)] w fun e w' => ∃ r N, e = .returned r ∧ M.pops r N ∧ MrAt w' b N ∧ Chg b w w' := by
  obtain ⟨W, hW⟩ : ∃ W, W = (w.alloc (.cells #[.int .u64 0, .int .u64 0] 39)) := ⟨_, rfl⟩
  have B0 : Below w.heap.size w W := by rw [hW]; exact bel_alloc (Below.refl _ _) _
  have hsz : W.heap.size = w.heap.size + 1 := by rw [hW]; simp
  have k0 : W.cell? ⟨w.heap.size, 0, none⟩ = some (.int .u64 0) := by rw [hW]; simp
  have k1 : W.cell? ⟨w.heap.size, 1, none⟩ = some (.int .u64 0) := by rw [hW]; simp
  have z0 : W.frozen? ⟨w.heap.size, 0, none⟩ = false := by rw [hW]; simp
  have z1 : W.frozen? ⟨w.heap.size, 1, none⟩ = false := by rw [hW]; simp
  have hbl := hm.lt
  have hm := hm.below B0
  have HB := Lib.hid B0; clear B0
  have HWW := Lib.hid hW; clear hW
  have H := Lib.hid hm
  have CM := missingR M b W hm
  have CL := fun W h => Lib.hid (leastR M b W h)
  clear hm
  by_cases hmi : M.missN 64 = []
  · rw [hmi] at CM
    simp only [List.length_nil] at CM
    have CM := Lib.hid CM
    go_enter Tryd.func27, Tryd.ntmps27
    go_wp2_with fail
    rw [← HWW.out]
    refine CM.out.mono ?_
    rintro r w1 ⟨⟨v, rfl, ow⟩, b1⟩
    have k0 := (World.cell?_of_block (a := ⟨w.heap.size, 0, none⟩) (b1.block w.heap.size (by omega))).trans k0
    have k1 := (World.cell?_of_block (a := ⟨w.heap.size, 1, none⟩) (b1.block w.heap.size (by omega))).trans k1
    have z0 := (World.frozen?_of_block (a := ⟨w.heap.size, 0, none⟩) (b1.block w.heap.size (by omega))).trans z0
    have z1 := (World.frozen?_of_block (a := ⟨w.heap.size, 1, none⟩) (b1.block w.heap.size (by omega))).trans z1
    have s1 := b1.size
    obtain ⟨e1, A, c, rfl, _⟩ := row_rd ow
    clear ow e1
    have HMI := Lib.hid hmi; clear hmi
    go_wp2_with fail
    refine (CL _ (H.out.below b1)).out.mono ?_
    rintro r w2 ⟨x, rfl, hx, b2⟩
    have k0 := (World.cell?_of_block (a := ⟨w.heap.size, 0, none⟩) (b2.block w.heap.size (by omega))).trans k0
    have k1 := (World.cell?_of_block (a := ⟨w.heap.size, 1, none⟩) (b2.block w.heap.size (by omega))).trans k1
    have z0 := (World.frozen?_of_block (a := ⟨w.heap.size, 0, none⟩) (b2.block w.heap.size (by omega))).trans z0
    have z1 := (World.frozen?_of_block (a := ⟨w.heap.size, 1, none⟩) (b2.block w.heap.size (by omega))).trans z1
    rcases hx with ⟨rfl, hx⟩ | ⟨v, rfl, hv, hl⟩
    · have HX := Lib.hid hx; clear hx
      go_wp2
      exact bodyPost_ret (v := popT (0, 0) 0 false 0) (by simp [popT, results, Tryd.results27, go_sem, k0, k1]) rfl ⟨_, _, rfl, .inr (.inl ⟨HMI.out, HX.out, rfl, rfl⟩), (((H.out.below b1).below b2).box hbl _ _).box hbl _ _, (((Chg.of_below HB.out).trans (Chg.of_below (b1.trans (b2.mono b1.size)))).new (Nat.le_refl _) _ _).new (Nat.le_refl _) _ _⟩
    · have HL := Lib.hid (show M.least v from ⟨hv, hl⟩)
      have HW := Lib.hid ((H.out.below b1).below b2)
      have t1 : decide ((v : Int) < 0) = false := decide_eq_false (by omega)
      have q1 := HW.out.hs v hv
      have q2 := HW.out.pk v hv
      have q3 := HW.out.pv v hv
      have q4 := HW.out.fl
      have q5 := HW.out.fu
      have f1 := HW.out.fz (64 + v) (by omega)
      have f2 := HW.out.fz 320 (by omega)
      have f3 := HW.out.fz 321 (by omega)
      clear hl
      by_cases hk : (M.p v).1 = 18446744073709551615
      · have t2 : ((M.p v).1 == 18446744073709551615) = true := by rw [hk]; rfl
        go_wp2
        obtain ⟨e0, e1⟩ := box2 (x := .int .u64 18446744073709551615) (y := .int .u64 (M.p v).2) (far (o' := 321) (x := .bool true) hbl (far (o' := 64 + v) (x := .bool false) hbl k0)) (far (o' := 321) (x := .bool true) hbl (far (o' := 64 + v) (x := .bool false) hbl k1))
        have HF := Lib.hid ((((HW.out.drop hv).setFu true).box hbl 0 (.int .u64 18446744073709551615)).box hbl 1 (.int .u64 (M.p v).2))
        have HG := Lib.hid ((((((Chg.of_below (b := b) HB.out).trans (Chg.of_below (b1.trans (b2.mono b1.size)))).set (64 + v) (.bool false)).set 321 (.bool true)).new (Nat.le_refl _) 0 (.int .u64 18446744073709551615)).new (Nat.le_refl _) 1 (.int .u64 (M.p v).2))
        have HP := Lib.hid (show M.popped v = { M.drop v with fu := true } by unfold Mg.popped; rw [if_pos hk])
        have HT := Lib.hid (show popT (M.p v) v true 0 = .tuple #[.agg #[.int .u64 18446744073709551615, .int .u64 (M.p v).2], .int .i64 v, .bool true, .int .i64 0] by unfold popT; rw [hk])
        generalize (((w2.setCell ⟨b, 64 + v, none⟩ (.bool false)).setCell ⟨b, 321, none⟩ (.bool true)).setCell ⟨w.heap.size, 0, none⟩ (.int .u64 18446744073709551615)).setCell ⟨w.heap.size, 1, none⟩ (.int .u64 (M.p v).2) = w5 at *
        exact bodyPost_ret (v := .tuple #[.agg #[.int .u64 18446744073709551615, .int .u64 (M.p v).2], .int .i64 v, .bool true, .int .i64 0]) (by simp [results, Tryd.results27, go_sem, e0, e1]) rfl ⟨_, _, rfl, .inr (.inr ⟨HMI.out, v, HL.out, HT.out.symm, rfl⟩), by rw [HP.out]; exact HF.out, HG.out⟩
      · have t2 : ((M.p v).1 == 18446744073709551615) = false := beq_eq_false_iff_ne.2 hk
        obtain ⟨u0, u1⟩ := hu v hv
        have t3 : IntKind.u64.wrap ((M.p v).1 + 1) = (M.p v).1 + 1 := IntWalk.u64_in _ (by omega)
        go_wp2
        try rw [t3]
        obtain ⟨e0, e1⟩ := box2 (x := .int .u64 (M.p v).1) (y := .int .u64 (M.p v).2) (far (o' := 320) (x := .int .u64 ((M.p v).1 + 1)) hbl (far (o' := 64 + v) (x := .bool false) hbl k0)) (far (o' := 320) (x := .int .u64 ((M.p v).1 + 1)) hbl (far (o' := 64 + v) (x := .bool false) hbl k1))
        have HF := Lib.hid ((((HW.out.drop hv).setFl ((M.p v).1 + 1)).box hbl 0 (.int .u64 (M.p v).1)).box hbl 1 (.int .u64 (M.p v).2))
        have HG := Lib.hid ((((((Chg.of_below (b := b) HB.out).trans (Chg.of_below (b1.trans (b2.mono b1.size)))).set (64 + v) (.bool false)).set 320 (.int .u64 ((M.p v).1 + 1))).new (Nat.le_refl _) 0 (.int .u64 (M.p v).1)).new (Nat.le_refl _) 1 (.int .u64 (M.p v).2))
        have HP := Lib.hid (show M.popped v = { M.drop v with fl := (M.p v).1 + 1 } by unfold Mg.popped; rw [if_neg hk])
        generalize (((w2.setCell ⟨b, 64 + v, none⟩ (.bool false)).setCell ⟨b, 320, none⟩ (.int .u64 ((M.p v).1 + 1))).setCell ⟨w.heap.size, 0, none⟩ (.int .u64 (M.p v).1)).setCell ⟨w.heap.size, 1, none⟩ (.int .u64 (M.p v).2) = w5 at *
        exact bodyPost_ret (v := popT (M.p v) v true 0) (by simp [popT, results, Tryd.results27, go_sem, e0, e1]) rfl ⟨_, _, rfl, .inr (.inr ⟨HMI.out, v, HL.out, rfl, rfl⟩), by rw [HP.out]; exact HF.out, HG.out⟩
  · have CM := Lib.hid CM
    go_enter Tryd.func27, Tryd.ntmps27
    go_wp2_with fail
    rw [← HWW.out]
    refine CM.out.mono ?_
    rintro r w1 ⟨⟨v, rfl, ow⟩, b1⟩
    have k0 := (World.cell?_of_block (a := ⟨w.heap.size, 0, none⟩) (b1.block w.heap.size (by omega))).trans k0
    have k1 := (World.cell?_of_block (a := ⟨w.heap.size, 1, none⟩) (b1.block w.heap.size (by omega))).trans k1
    have z0 := (World.frozen?_of_block (a := ⟨w.heap.size, 0, none⟩) (b1.block w.heap.size (by omega))).trans z0
    have z1 := (World.frozen?_of_block (a := ⟨w.heap.size, 1, none⟩) (b1.block w.heap.size (by omega))).trans z1
    have s1 := b1.size
    obtain ⟨e1, A, c, rfl, _⟩ := row_rd ow
    clear ow e1
    have t0 : decide (0 < (M.missN 64).length) = true := decide_eq_true (List.length_pos_iff.2 hmi)
    have HMI := Lib.hid hmi; clear hmi
    go_wp2
    exact bodyPost_ret (v := popT (0, 0) 0 false 8) (by simp [popT, results, Tryd.results27, go_sem, k0, k1]) rfl ⟨_, _, rfl, .inl ⟨HMI.out, rfl, rfl⟩, ((H.out.below b1).box hbl _ _).box hbl _ _, (((Chg.of_below HB.out).trans (Chg.of_below b1)).new (Nat.le_refl _) _ _).new (Nat.le_refl _) _ _⟩
end Mg
end Go.Proofs.YtbndgbjenmknmaaDoor
