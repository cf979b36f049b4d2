/- A merge of leapfrogref07 in memory, and its calls: contracts of the translated code. Conditions: the bounds of each number's kind. -/
import Derived.Test.YtbndgbjenmknmaaDoorOmP
import Derived.Test.YtbndgbjenmknmaaDoorMgM
namespace Go.Proofs.YtbndgbjenmknmaaDoor
open Go.RowKit Go.Sort
set_option linter.unusedVariables false
set_option linter.unusedSimpArgs false
namespace Mg
open Om (Pr)
/-- at the block b lies the merge M -/
structure MrAt (w : World) (b : Nat) (M : Mg) : Prop where
  ls : ∀ v, v < 64 → w.cell? ⟨b, v, none⟩ = some (.bool (M.ls v))
  hs : ∀ v, v < 64 → w.cell? ⟨b, 64 + v, none⟩ = some (.bool (M.hs v))
  en : ∀ v, v < 64 → w.cell? ⟨b, 128 + v, none⟩ = some (.bool (M.en v))
  pk : ∀ v, v < 64 → w.cell? ⟨b, 192 + v * 2, none⟩ = some (.int .u64 (M.p v).1)
  pv : ∀ v, v < 64 → w.cell? ⟨b, 192 + v * 2 + 1, none⟩ = some (.int .u64 (M.p v).2)
  fl : w.cell? ⟨b, 320, none⟩ = some (.int .u64 M.fl)
  fu : w.cell? ⟨b, 321, none⟩ = some (.bool M.fu)
  fz : ∀ k, k < 322 → w.frozen? ⟨b, k, none⟩ = false
theorem MrAt.keep {w w' : World} {b : Nat} {M : Mg} (h : MrAt w b M) (hb : w'.heap[b]? = w.heap[b]?) : MrAt w' b M :=
  ⟨fun v hv => (World.cell?_of_block (a := ⟨b, v, none⟩) hb).trans (h.ls v hv), fun v hv => (World.cell?_of_block (a := ⟨b, 64 + v, none⟩) hb).trans (h.hs v hv), fun v hv => (World.cell?_of_block (a := ⟨b, 128 + v, none⟩) hb).trans (h.en v hv), fun v hv => (World.cell?_of_block (a := ⟨b, 192 + v * 2, none⟩) hb).trans (h.pk v hv), fun v hv => (World.cell?_of_block (a := ⟨b, 192 + v * 2 + 1, none⟩) hb).trans (h.pv v hv), (World.cell?_of_block (a := ⟨b, 320, none⟩) hb).trans h.fl, (World.cell?_of_block (a := ⟨b, 321, none⟩) hb).trans h.fu, fun k hk => (World.frozen?_of_block (a := ⟨b, k, none⟩) hb).trans (h.fz k hk)⟩
theorem MrAt.lt {w : World} {b : Nat} {M : Mg} (h : MrAt w b M) : b < w.heap.size := World.block_lt_of_cell? w ⟨b, 320, none⟩ h.fl
theorem MrAt.below {w w' : World} {b : Nat} {M : Mg} (h : MrAt w b M) (hb : Below w.heap.size w w') : MrAt w' b M := h.keep (hb.block b h.lt)
/-- only the block b has changed, and what is new -/
def Chg (b : Nat) (w w' : World) : Prop := w.grownBy w' (some b)
theorem Chg.trans {b : Nat} {u v w : World} (h : Chg b u v) (k : Chg b v w) : Chg b u w :=
  ⟨k.os.trans h.os, k.tape.trans h.tape, k.output.trans h.output, Nat.le_trans h.size k.size, fun i hi hn => (k.block i (Nat.lt_of_lt_of_le hi h.size) hn).trans (h.block i hi hn)⟩
theorem Chg.of_below {b : Nat} {w w' : World} (h : Below w.heap.size w w') : Chg b w w' := ⟨h.os, h.tape, h.output, h.size, fun k hk _ => h.block k hk⟩
theorem Chg.below {b B : Nat} {w w' : World} (h : Chg b w w') (hB : B ≤ b) (hw : B ≤ w.heap.size) : Below B w w' := ⟨h.os, h.tape, h.output, h.size, fun k hk => h.block k (by omega) (fun e => by injection e; omega)⟩
theorem Chg.set {b : Nat} {w w' : World} (h : Chg b w w') (o : Nat) (v : Value) : Chg b w (w'.setCell ⟨b, o, none⟩ v) :=
  h.trans ⟨rfl, rfl, rfl, Nat.le_of_eq (by simp), fun k hk hn => Below.heap_setCell w' ⟨b, o, none⟩ v k (fun e => hn (by rw [e]))⟩
/-- one cell of a merge is written -/
theorem MrAt.upd {w : World} {b : Nat} {M M' : Mg} (h : MrAt w b M) (o : Nat) (x : Value)
    (hls : ∀ v, v < 64 → v ≠ o ∧ M'.ls v = M.ls v ∨ o = v ∧ x = .bool (M'.ls v))
    (hhs : ∀ v, v < 64 → o ≠ 64 + v ∧ M'.hs v = M.hs v ∨ o = 64 + v ∧ x = .bool (M'.hs v))
    (hen : ∀ v, v < 64 → o ≠ 128 + v ∧ M'.en v = M.en v ∨ o = 128 + v ∧ x = .bool (M'.en v))
    (hpk : ∀ v, v < 64 → o ≠ 192 + v * 2 ∧ (M'.p v).1 = (M.p v).1 ∨ o = 192 + v * 2 ∧ x = .int .u64 (M'.p v).1)
    (hpv : ∀ v, v < 64 → o ≠ 192 + v * 2 + 1 ∧ (M'.p v).2 = (M.p v).2 ∨ o = 192 + v * 2 + 1 ∧ x = .int .u64 (M'.p v).2)
    (hfl : o ≠ 320 ∧ M'.fl = M.fl ∨ o = 320 ∧ x = .int .u64 M'.fl)
    (hfu : o ≠ 321 ∧ M'.fu = M.fu ∨ o = 321 ∧ x = .bool M'.fu) : MrAt (w.setCell ⟨b, o, none⟩ x) b M' := by
  have same : ∀ {o' : Nat} {y : Value}, w.cell? ⟨b, o', none⟩ = some y → o = o' → (w.setCell ⟨b, o, none⟩ x).cell? ⟨b, o', none⟩ = some x := fun {o'} {y} hy e => by subst e; exact World.cell?_setCell_same _ _ _ hy
  have other : ∀ {o' : Nat} {y : Value}, w.cell? ⟨b, o', none⟩ = some y → o ≠ o' → (w.setCell ⟨b, o, none⟩ x).cell? ⟨b, o', none⟩ = some y := fun {o'} {y} hy e => by
    rw [World.cell?_setCell_other _ _ _ _ (fun e' => e (by cases e'; rfl))]; exact hy
  refine ⟨fun v hv => ?_, fun v hv => ?_, fun v hv => ?_, fun v hv => ?_, fun v hv => ?_, ?_, ?_, fun k hk => by rw [World.frozen?_setCell]; exact h.fz k hk⟩
  · rcases hls v hv with ⟨e, q⟩ | ⟨e, q⟩
    · rw [q]; exact other (h.ls v hv) (Ne.symm e)
    · rw [← q]; exact same (h.ls v hv) e
  · rcases hhs v hv with ⟨e, q⟩ | ⟨e, q⟩
    · rw [q]; exact other (h.hs v hv) e
    · rw [← q]; exact same (h.hs v hv) e
  · rcases hen v hv with ⟨e, q⟩ | ⟨e, q⟩
    · rw [q]; exact other (h.en v hv) e
    · rw [← q]; exact same (h.en v hv) e
  · rcases hpk v hv with ⟨e, q⟩ | ⟨e, q⟩
    · rw [q]; exact other (h.pk v hv) e
    · rw [← q]; exact same (h.pk v hv) e
  · rcases hpv v hv with ⟨e, q⟩ | ⟨e, q⟩
    · rw [q]; exact other (h.pv v hv) e
    · rw [← q]; exact same (h.pv v hv) e
  · rcases hfl with ⟨e, q⟩ | ⟨e, q⟩
    · rw [q]; exact other h.fl e
    · rw [← q]; exact same h.fl e
  · rcases hfu with ⟨e, q⟩ | ⟨e, q⟩
    · rw [q]; exact other h.fu e
    · rw [← q]; exact same h.fu e
/-- whether the list v has a candidate is written -/
theorem MrAt.setHs {w : World} {b : Nat} {M : Mg} (h : MrAt w b M) {v : Nat} (hv : v < 64) (x : Bool) : MrAt (w.setCell ⟨b, 64 + v, none⟩ (.bool x)) b { M with hs := fun u => if u = v then x else M.hs u } := by
  refine h.upd (64 + v) _ (fun u hu => .inl ⟨by omega, rfl⟩) (fun u hu => ?_) (fun u hu => .inl ⟨by omega, rfl⟩) (fun u hu => .inl ⟨by omega, rfl⟩) (fun u hu => .inl ⟨by omega, rfl⟩) (.inl ⟨by omega, rfl⟩) (.inl ⟨by omega, rfl⟩)
  by_cases e : u = v
  · subst e; exact .inr ⟨rfl, by simp⟩
  · exact .inl ⟨by omega, by simp [e]⟩
theorem MrAt.drop {w : World} {b : Nat} {M : Mg} (h : MrAt w b M) {v : Nat} (hv : v < 64) : MrAt (w.setCell ⟨b, 64 + v, none⟩ (.bool false)) b (M.drop v) := h.setHs hv false
theorem MrAt.done {w : World} {b : Nat} {M : Mg} (h : MrAt w b M) {v : Nat} (hv : v < 64) : MrAt (w.setCell ⟨b, 128 + v, none⟩ (.bool true)) b (M.done v) := by
  refine h.upd (128 + v) _ (fun u hu => .inl ⟨by omega, rfl⟩) (fun u hu => .inl ⟨by omega, rfl⟩) (fun u hu => ?_) (fun u hu => .inl ⟨by omega, rfl⟩) (fun u hu => .inl ⟨by omega, rfl⟩) (.inl ⟨by omega, rfl⟩) (.inl ⟨by omega, rfl⟩)
  by_cases e : u = v
  · subst e; exact .inr ⟨rfl, by simp [Mg.done]⟩
  · exact .inl ⟨by omega, by simp [Mg.done, e]⟩
theorem MrAt.setFl {w : World} {b : Nat} {M : Mg} (h : MrAt w b M) (x : Int) : MrAt (w.setCell ⟨b, 320, none⟩ (.int .u64 x)) b { M with fl := x } :=
  h.upd 320 _ (fun u hu => .inl ⟨by omega, rfl⟩) (fun u hu => .inl ⟨by omega, rfl⟩) (fun u hu => .inl ⟨by omega, rfl⟩) (fun u hu => .inl ⟨by omega, rfl⟩) (fun u hu => .inl ⟨by omega, rfl⟩) (.inr ⟨rfl, rfl⟩) (.inl ⟨by omega, rfl⟩)
theorem MrAt.setFu {w : World} {b : Nat} {M : Mg} (h : MrAt w b M) (x : Bool) : MrAt (w.setCell ⟨b, 321, none⟩ (.bool x)) b { M with fu := x } :=
  h.upd 321 _ (fun u hu => .inl ⟨by omega, rfl⟩) (fun u hu => .inl ⟨by omega, rfl⟩) (fun u hu => .inl ⟨by omega, rfl⟩) (fun u hu => .inl ⟨by omega, rfl⟩) (fun u hu => .inl ⟨by omega, rfl⟩) (.inl ⟨by omega, rfl⟩) (.inr ⟨rfl, rfl⟩)
/-- the candidate of the list v is written, cell by cell -/
theorem MrAt.setP {w : World} {b : Nat} {M : Mg} (h : MrAt w b M) {v : Nat} (hv : v < 64) (x y : Int) : MrAt ((w.setCell ⟨b, 192 + v * 2, none⟩ (.int .u64 x)).setCell ⟨b, 192 + v * 2 + 1, none⟩ (.int .u64 y)) b { M with p := fun u => if u = v then (x, y) else M.p u } := by
  have h1 : MrAt (w.setCell ⟨b, 192 + v * 2, none⟩ (.int .u64 x)) b { M with p := fun u => if u = v then (x, (M.p v).2) else M.p u } := by
    refine h.upd (192 + v * 2) _ (fun u hu => .inl ⟨by omega, rfl⟩) (fun u hu => .inl ⟨by omega, rfl⟩) (fun u hu => .inl ⟨by omega, rfl⟩) (fun u hu => ?_) (fun u hu => .inl ⟨by omega, ?_⟩) (.inl ⟨by omega, rfl⟩) (.inl ⟨by omega, rfl⟩)
    · by_cases e : u = v
      · subst e; exact .inr ⟨rfl, by simp⟩
      · exact .inl ⟨by omega, by simp [e]⟩
    · by_cases e : u = v
      · subst e; simp
      · simp [e]
  refine h1.upd (192 + v * 2 + 1) _ (fun u hu => .inl ⟨by omega, rfl⟩) (fun u hu => .inl ⟨by omega, rfl⟩) (fun u hu => .inl ⟨by omega, rfl⟩) (fun u hu => .inl ⟨by omega, ?_⟩) (fun u hu => ?_) (.inl ⟨by omega, rfl⟩) (.inl ⟨by omega, rfl⟩)
  · by_cases e : u = v
    · subst e; simp
    · simp [e]
  · by_cases e : u = v
    · subst e; exact .inr ⟨rfl, by simp⟩
    · exact .inl ⟨by omega, by simp [e]⟩
theorem err_cases (M : Mg) (l : Int) : (l < 0 ∧ M.err l = 3) ∨ (0 ≤ l ∧ 64 ≤ l ∧ M.err l = 3) ∨ (∃ v : Nat, v < 64 ∧ l = v ∧ M.ls v = false ∧ M.err l = 3) ∨ (∃ v : Nat, v < 64 ∧ l = v ∧ M.ls v = true ∧ M.hs v = true ∧ M.err l = 8) ∨ (∃ v : Nat, v < 64 ∧ l = v ∧ M.ls v = true ∧ M.hs v = false ∧ M.en v = true ∧ M.err l = 8) ∨ (∃ v : Nat, v < 64 ∧ l = v ∧ M.ls v = true ∧ M.hs v = false ∧ M.en v = false ∧ M.err l = 0) := by
  by_cases h0 : l < 0
  · exact .inl ⟨h0, by unfold Mg.err; rw [if_pos (.inl h0)]⟩
  by_cases h1 : 64 ≤ l
  · exact .inr (.inl ⟨by omega, h1, by unfold Mg.err; rw [if_pos (.inr (.inl h1))]⟩)
  obtain ⟨v, rfl⟩ := Int.eq_ofNat_of_zero_le (show 0 ≤ l by omega)
  have hv : v < 64 := by omega
  have et : (v : Int).toNat = v := rfl
  refine .inr (.inr ?_)
  cases e1 : M.ls v
  · exact .inl ⟨v, hv, rfl, e1, by unfold Mg.err; rw [if_pos (.inr (.inr e1))]⟩
  refine .inr ?_
  have n1 : ¬ ((v : Int) < 0 ∨ (64 : Int) ≤ v ∨ M.ls (v : Int).toNat = false) := by rw [et, e1]; simp; omega
  cases e2 : M.hs v
  · refine .inr ?_
    cases e3 : M.en v
    · exact .inr ⟨v, hv, rfl, e1, e2, e3, by unfold Mg.err; rw [if_neg n1, if_neg (by rw [et, e2, e3]; simp)]⟩
    · exact .inl ⟨v, hv, rfl, e1, e2, e3, by unfold Mg.err; rw [if_neg n1, if_pos (by rw [et, e2, e3]; simp)]⟩
  · exact .inl ⟨v, hv, rfl, e1, e2, by unfold Mg.err; rw [if_neg n1, if_pos (by rw [et, e2]; simp)]⟩
set_option maxHeartbeats 4000000 in
theorem lacksR (M : Mg) (b : Nat) (l : Int) (w : World) (hm : MrAt w b M) (l0 : (-9223372036854775808) ≤ l) (l1 : l ≤ 9223372036854775807) :
    Calls Tryd.prog 43 #[.pointer (some ⟨b, 0, none⟩), .int .i64 l] w fun e w' => e = .returned (.int .i64 (M.err l)) ∧ w' = w := by
  have H := Lib.hid hm; clear hm
  rcases err_cases M l with ⟨h, e⟩ | ⟨h, h', e⟩ | ⟨v, hv, rfl, h1, e⟩ | ⟨v, hv, rfl, h1, h2, e⟩ | ⟨v, hv, rfl, h1, h2, h3, e⟩ | ⟨v, hv, rfl, h1, h2, h3, e⟩
  · rw [e]
    have t0 : decide (l < 0) = true := decide_eq_true h
    go_enter Tryd.func43, Tryd.ntmps43
    go_wp2
    go_ret
    exact ⟨rfl, rfl⟩
  · rw [e]
    have t0 : decide (l < 0) = false := decide_eq_false (by omega)
    have t1 : decide (64 ≤ l) = true := decide_eq_true h'
    go_enter Tryd.func43, Tryd.ntmps43
    go_wp2
    go_ret
    exact ⟨rfl, rfl⟩
  all_goals
    rw [e]
    have t0 : decide ((v : Int) < 0) = false := decide_eq_false (by omega)
    have t1 : decide (64 ≤ (v : Int)) = false := decide_eq_false (by omega)
    have q0 := H.out.ls v hv
    have q1 := H.out.hs v hv
    have q2 := H.out.en v hv
    simp only [h1] at q0
    (try simp only [h2] at q1)
    (try simp only [h3] at q2)
    go_enter Tryd.func43, Tryd.ntmps43
    go_wp2
    go_ret
    exact ⟨rfl, rfl⟩
end Mg
end Go.Proofs.YtbndgbjenmknmaaDoor
