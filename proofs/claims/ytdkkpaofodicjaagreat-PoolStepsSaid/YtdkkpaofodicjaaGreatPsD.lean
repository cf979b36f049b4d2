/- The program's pool and the reference's side by side: the same state, the same operations, two memories. Conditions: those of the contracts. -/
import Derived.Test.YtdkkpaofodicjaaGreatPsW
import Derived.Test.YtdkkpaofodicjaaGreatPsY
namespace Go.Proofs.YtdkkpaofodicjaaGreat
open Go.RowKit Go.Sort
set_option linter.unusedVariables false
set_option linter.unusedSimpArgs false
set_option maxRecDepth 100000
namespace Po
open Wd
open Ly (Ge tot pP pK pW pk Cf LyAt KI)
section
variable {K : Kc} {R : Kr} {w : World} {c : Nat → Nat} {S : Pm} {X : Nat → Option Op} {a b : Nat → Nat} {B : Nat} {i : Nat} {r : Op}
theorem SA.fcO (h : SA K w c S X a) {T : Nat → Prop} {w1 : World} {c1 : Nat → Nat} (hf : Fc T w c w1 c1) (hT : ∀ i, i = 0 ∨ i = 1 ∨ i = 3 ∨ i = 5 ∨ i = 7 → ¬ T i) : SA K w1 c1 S X a :=
  ⟨h.m.keep hf (hT _ (by omega)), h.p.fc hf (by rw [h.cx]; exact hT _ (by omega)) (by rw [h.ct]; exact hT _ (by omega)) (M := S.M), (hf.co _ h.p.lt).trans h.ct, (hf.co _ h.p.xlt).trans h.cx, h.ly.fc hf (hT _ (by omega)), h.ok, fun i r hx => by
    obtain ⟨h1, h2⟩ := h.o i r hx
    exact ⟨h1.fc hf (by rw [h2]; exact hT _ (by omega)) (hT _ (by omega)), (hf.co _ h1.lt).trans h2⟩, h.un⟩
/-- what both change -/
def TB : Nat → Prop := fun j => 1 ≤ j ∧ j ≤ 9
theorem T4_TB {j : Nat} (h : T4 j) : TB j := by unfold TB; rcases h with e | e | e | e <;> omega
theorem TR_TB {j : Nat} (h : TR j) : TB j := by unfold TB; rcases h with e | e | e <;> omega
/-- both, in one state -/
structure Bo (K : Kc) (R : Kr) (w : World) (c : Nat → Nat) (S : Pm) (X : Nat → Option Op) (a b : Nat → Nat) (B : Nat) : Prop where
  sa : SA K w c S X a
  sr : SR R w c S X b
  al : ∃ stk sw, AlB K S stk sw X B
  n : R.n = tot K.g.t 6
  pp : R.pp = pP K.g
  ht : R.ht = htG K.g
theorem Bo.fc (h : Bo K R w c S X a b B) {T : Nat → Prop} {w1 : World} {c1 : Nat → Nat} (hf : Fc T w c w1 c1) (hT : ∀ i, i ≤ 8 → ¬ T i) : Bo K R w1 c1 S X a b B :=
  ⟨h.sa.fc hf fun i hi => hT i (by omega), h.sr.fc hf fun i hi => hT i (by omega), h.al, h.n, h.pp, h.ht⟩
theorem Bo.below (h : Bo K R w c S X a b B) {w1 : World} (hb : Below w.heap.size w w1) : Bo K R w1 c S X a b B := h.fc (Fc.of_below (S := fun _ => False) hb) fun _ _ e => e
/-- an answer of Result -/
def rsV (r : Op) : Value := if r.pc = 0 then .tuple #[.int .i64 r.got, .int .i64 ((r.fl : Nat) : Int), .int .i64 r.e] else .tuple #[.int .i64 0, .int .i64 0, .int .i64 8]
theorem Bo.resA (h : Bo K R w c S X a b B) (hx : X i = some r) (h0 : r.tw = 0) : Calls Tryz.prog 59 #[.pointer (some ⟨a i, 0, none⟩)] w fun e w' => e = .returned (rsV r) ∧ Below w.heap.size w w' := by
  unfold rsV
  by_cases hp : r.pc = 0
  · rw [if_pos hp]; exact resTS_end h.sa hx hp h0
  · rw [if_neg hp]
    refine (resTS_run h.sa hx hp).mono ?_
    rintro e w' ⟨q, rfl⟩
    exact ⟨q, Below.refl _ _⟩
theorem Bo.resB (h : Bo K R w c S X a b B) (hx : X i = some r) : Calls Tryz.prog 60 #[.pointer (some ⟨b i, 0, none⟩)] w fun e w' => e = .returned (rsV r) ∧ Below w.heap.size w w' := by
  unfold rsV
  obtain ⟨o1, _⟩ := h.sr.o i r hx
  by_cases hp : r.pc = 0
  · rw [if_pos hp]; exact resR_end o1 hp
  · rw [if_neg hp]
    refine (resR_run o1 hp).mono ?_
    rintro e w' ⟨q, rfl⟩
    exact ⟨q, Below.refl _ _⟩
/-- a step of both: what the first answers, the second answers -/
def dnV (K : Kc) (S : Pm) (r : Op) : Bool := decide (r.pc ≠ 0 ∧ (step (pP K.g) S r).2.pc = 0)
def stS (K : Kc) (S : Pm) (r : Op) : Pm := if r.pc = 0 then S else (step (pP K.g) S r).1
def stO (K : Kc) (S : Pm) (r : Op) : Op := if r.pc = 0 then r else (step (pP K.g) S r).2
/-- between the two: the program has done its step -/
structure Bm (K : Kc) (R : Kr) (w : World) (c : Nat → Nat) (S : Pm) (X : Nat → Option Op) (a b : Nat → Nat) (B i : Nat) (r : Op) : Prop where
  sa : SA K w c (stS K S r) (upd X i (stO K S r)) a
  sr : SR R w c S X b
  al : ∃ stk sw, AlB K S stk sw X B
  n : R.n = tot K.g.t 6
  pp : R.pp = pP K.g
  ht : R.ht = htG K.g
theorem upd_id {X : Nat → Option Op} {i : Nat} {r : Op} (h : X i = some r) : upd X i r = X := by
  funext j
  by_cases e : j = i
  · subst e; rw [upd_same, h]
  · rw [upd_other e]
theorem Bo.stepA (h : Bo K R w c S X a b B) (hB : B ≤ 50000) (hx : X i = some r) (h0 : r.tw = 0) : Calls Tryz.prog 57 #[.pointer (some ⟨a i, 0, none⟩)] w fun e w' => e = .returned (.tuple #[.int .u8 ((r.pc : Nat) : Int), .bool (dnV K S r)]) ∧ ∃ c', Bm K R w' c' S X a b B i r ∧ Fc TB w c w' c' := by
  obtain ⟨stk, sw, hal⟩ := h.al
  by_cases hp : r.pc = 0
  · refine (stop_t (h.sa.to hx) hp).mono ?_
    rintro e w' ⟨rfl, rfl⟩
    refine ⟨by rw [hp]; unfold dnV; rw [decide_eq_false (by simp [hp])]; rfl, c, ⟨?_, h.sr, h.al, h.n, h.pp, h.ht⟩, Fc.id _ _ _⟩
    unfold stS stO
    rw [if_pos hp, if_pos hp, upd_id hx]
    exact h.sa
  · refine (stepTS h.sa hal hB hx h0 hp).mono ?_
    rintro e w' ⟨rfl, c', q1, q2⟩
    refine ⟨by unfold dnV; simp [hp], c', ⟨?_, h.sr.fc q2 (by unfold T4; omega), h.al, h.n, h.pp, h.ht⟩, q2.mono fun _ => T4_TB⟩
    unfold stS stO
    rw [if_neg hp, if_neg hp]
    exact q1
theorem Bo.stepB (h : Bo K R w c S X a b B) (hB : B ≤ 50000) (hx : X i = some r) (h0 : 0 < r.tw) : Calls Tryz.prog 62 #[.pointer (some ⟨a i, 0, none⟩)] w fun e w' => e = .returned (.tuple #[.int .u8 ((r.pc : Nat) : Int), .bool (dnV K S r)]) ∧ ∃ c', Bm K R w' c' S X a b B i r ∧ Fc TB w c w' c' := by
  obtain ⟨stk, sw, hal⟩ := h.al
  by_cases hp : r.pc = 0
  · refine (stop_g (h.sa.to hx) hp).mono ?_
    rintro e w' ⟨rfl, rfl⟩
    refine ⟨by rw [hp]; unfold dnV; rw [decide_eq_false (by simp [hp])]; rfl, c, ⟨?_, h.sr, h.al, h.n, h.pp, h.ht⟩, Fc.id _ _ _⟩
    unfold stS stO
    rw [if_pos hp, if_pos hp, upd_id hx]
    exact h.sa
  · refine (stepGS h.sa hal hB hx h0 hp).mono ?_
    rintro e w' ⟨rfl, c', q1, q2⟩
    refine ⟨by unfold dnV; simp [hp], c', ⟨?_, h.sr.fc q2 (by unfold T4; omega), h.al, h.n, h.pp, h.ht⟩, q2.mono fun _ => T4_TB⟩
    unfold stS stO
    rw [if_neg hp, if_neg hp]
    exact q1
theorem Bm.stepR (h : Bm K R w c S X a b B i r) (hB : B ≤ 50000) (hx : X i = some r) : Calls Tryz.prog 58 #[.pointer (some ⟨b i, 0, none⟩)] w fun e w' => e = .returned (.tuple #[.int .u8 ((r.pc : Nat) : Int), .bool (dnV K S r)]) ∧ ∃ c', Bo K R w' c' (stS K S r) (upd X i (stO K S r)) a b (B + 1) ∧ Fc TB w c w' c' := by
  obtain ⟨stk, sw, hal⟩ := h.al
  by_cases hp : r.pc = 0
  · refine (stop_any (h.sr.o i r hx).1 hp).mono ?_
    rintro e w' ⟨rfl, rfl⟩
    refine ⟨by rw [hp]; unfold dnV; rw [decide_eq_false (by simp [hp])]; rfl, c, ⟨h.sa, ?_, ?_, h.n, h.pp, h.ht⟩, Fc.id _ _ _⟩
    · unfold stS stO
      rw [if_pos hp, if_pos hp, upd_id hx]
      exact h.sr
    · unfold stS stO
      rw [if_pos hp, if_pos hp, upd_id hx]
      exact ⟨stk, sw, hal.more (Nat.le_succ _)⟩
  · have hbd := h.sr
    have hal2 := hal.al
    have hW : BdW S.M.W := by
      obtain ⟨_, _, ⟨_, _, _, ha⟩, _⟩ := h.sr.m
      exact ha.bd
    obtain ⟨stk', sw', q3⟩ := hal.al.step hx hp (by omega)
    have q4 := hal.next hx hW q3
    refine (stepRS h.sr (stk := stk) (sw := sw) (by rw [h.pp, h.n, h.ht]; exact hal.al.i) hx (by rw [h.pp, h.n, h.ht]; exact hal.al.o i r hx) (by rw [h.pp]; exact hal.pp) (Nat.le_trans hal.lg hB) (Nat.le_trans (hal.fl i r hx).1 (by omega)) (fun t => Nat.le_trans (hal.gn t) (by omega)) (fun t => Nat.le_trans (hal.al.b t) (by omega)) (hal.fl i r hx).2 hp).mono ?_
    rintro e w' ⟨rfl, c', q1, q2⟩
    rw [h.pp] at q1 ⊢
    refine ⟨by unfold dnV; simp [hp], c', ⟨?_, ?_, ?_, h.n, h.pp, h.ht⟩, q2.mono fun _ => TR_TB⟩
    · exact h.sa.fcO q2 (by unfold TR; omega)
    · unfold stS stO; rw [if_neg hp, if_neg hp]; exact q1
    · unfold stS stO; rw [if_neg hp, if_neg hp]; exact ⟨stk', sw', q4⟩
end
end Po
end Go.Proofs.YtdkkpaofodicjaaGreat
