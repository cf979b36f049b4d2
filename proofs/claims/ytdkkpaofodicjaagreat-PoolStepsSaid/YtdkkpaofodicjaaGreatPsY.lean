/- The reference's pools and operations side by side, told apart by colours (2 memory, 4 operations, 6 rows, 8 pool and layout); Take, Give, Step on them. Conditions: those of the contracts. -/
import Derived.Test.YtdkkpaofodicjaaGreatPsF
import Derived.Test.YtdkkpaofodicjaaGreatPoT
import Derived.Test.YtdkkpaofodicjaaGreatPoG
import Derived.Test.YtdkkpaofodicjaaGreatPoO
namespace Go.Proofs.YtdkkpaofodicjaaGreat
open Go.RowKit Go.Sort
set_option linter.unusedVariables false
set_option linter.unusedSimpArgs false
set_option maxRecDepth 100000
namespace Po
open Wd
structure Kr where
  x : Nat
  bm : Nat
  bl : Nat
  ta : Nat
  ga : Nat
  na : Nat
  hb : Nat
  ho : Nat
  n : Nat
  pp : Nat
  ht : Nat → Nat
theorem PL.keep {w w1 : World} {bl : Nat} {P Q : Int} (h : PL w bl P Q) (hb : w1.heap[bl]? = w.heap[bl]?) : PL w1 bl P Q :=
  ⟨(World.cell?_of_block (a := ⟨bl, 21, none⟩) hb).trans h.c5, (World.cell?_of_block (a := ⟨bl, 22, none⟩) hb).trans h.c6⟩
theorem PL.lt {w : World} {bl : Nat} {P Q : Int} (h : PL w bl P Q) : bl < w.heap.size := World.block_lt_of_cell? w ⟨bl, 21, none⟩ h.c5
theorem HR.keep {w w1 : World} {bl hb ho n : Nat} {ht : Nat → Nat} (h : HR w bl hb ho n ht) (h1 : w1.heap[bl]? = w.heap[bl]?) (h2 : w1.heap[hb]? = w.heap[hb]?) : HR w1 bl hb ho n ht := by
  obtain ⟨⟨k, hk⟩, hr⟩ := h
  exact ⟨⟨k, (World.cell?_of_block (a := ⟨bl, 26, none⟩) h1).trans hk⟩, fun t t1 t2 => (World.cell?_of_block (a := ⟨hb, ho + (t - 1), none⟩) h2).trans (hr t t1 t2)⟩
/-- the reference's pool and operations X at the places a -/
structure SR (R : Kr) (w : World) (c : Nat → Nat) (S : Pm) (X : Nat → Option Op) (a : Nat → Nat) : Prop where
  m : MC 101 w c 2 R.bm S.M
  p : PR w R.x R.bm R.bl R.ta R.ga R.na R.n S
  cx : c R.x = 8
  ct : c R.ta = 6
  cg : c R.ga = 6
  cn : c R.na = 6
  l : PL w R.bl ((R.pp : Nat) : Int) ((R.pp + 6 : Nat) : Int)
  cl : c R.bl = 0
  hr : 0 < R.n → HR w R.bl R.hb R.ho R.n R.ht ∧ c R.hb = 0 ∧ R.hb < w.heap.size
  o : ∀ i r, X i = some r → OR w (a i) R.x r ∧ c (a i) = 4
  un : ∀ i j r s, X i = some r → X j = some s → a i = a j → i = j
/-- what operations of the reference change -/
def TR : Nat → Prop := fun j => j = 2 ∨ j = 4 ∨ j = 6
section
variable {R : Kr} {w : World} {c : Nat → Nat} {S : Pm} {X : Nat → Option Op} {a : Nat → Nat} {i : Nat} {r : Op}
theorem SR.fc (h : SR R w c S X a) {T : Nat → Prop} {w1 : World} {c1 : Nat → Nat} (hf : Fc T w c w1 c1) (hT : ∀ i, i = 0 ∨ i = 2 ∨ i = 4 ∨ i = 6 ∨ i = 8 → ¬ T i) : SR R w1 c1 S X a := by
  obtain ⟨lx, lt, lg, ln⟩ := h.p.lt
  have ll := h.l.lt
  have kx := hf.keep lx (by rw [h.cx]; exact hT _ (by omega))
  have kt := hf.keep lt (by rw [h.ct]; exact hT _ (by omega))
  have kg := hf.keep lg (by rw [h.cg]; exact hT _ (by omega))
  have kn := hf.keep ln (by rw [h.cn]; exact hT _ (by omega))
  have kl := hf.keep ll (by rw [h.cl]; exact hT _ (by omega))
  exact ⟨h.m.keep hf (hT _ (by omega)), h.p.keep (M := S.M) (fun j hj => by rcases hj with rfl | rfl | rfl | rfl <;> assumption), (hf.co _ lx).trans h.cx, (hf.co _ lt).trans h.ct, (hf.co _ lg).trans h.cg, (hf.co _ ln).trans h.cn, h.l.keep kl, (hf.co _ ll).trans h.cl, fun h0 => by
    obtain ⟨q1, q2, q3⟩ := h.hr h0
    exact ⟨q1.keep kl (hf.keep q3 (by rw [q2]; exact hT _ (by omega))), (hf.co _ q3).trans q2, Nat.lt_of_lt_of_le q3 hf.fr.size⟩, fun j s hj => by
    obtain ⟨h1, h2⟩ := h.o j s hj
    exact ⟨h1.keep (hf.keep h1.lt (by rw [h2]; exact hT _ (by omega))), (hf.co _ h1.lt).trans h2⟩, h.un⟩
theorem SR.below (h : SR R w c S X a) {w1 : World} (hb : Below w.heap.size w w1) : SR R w1 c S X a := h.fc (Fc.of_below (S := fun _ => False) hb) fun _ _ e => e
/-- behind a change of memory, rows and the operation i -/
theorem SR.put (h : SR R w c S X a) (hi : X i = some r) {p : Nat} {q q' : Option Nat} {S' : Pm} {r' : Op} {w' : World} (m1 : At 101 w R.bm p q S.M) (m2 : ∀ i, Of R.bm p q i → c i = 2) (a1 : At 101 w' R.bm p q' S'.M) (a2 : ∀ g, q' = some g → q = some g ∨ w.heap.size ≤ g) (a3 : PR w' R.x R.bm R.bl R.ta R.ga R.na R.n S') (a4 : OR w' (a i) R.x r') (a5 : Fr (fun j => Of R.bm p q j ∨ Own (a i) R.ta R.ga R.na j) w w') : ∃ c', SR R w' c' S' (upd X i r') a ∧ Fc TR w c w' c' := by
  obtain ⟨o1, o2⟩ := h.o i r hi
  obtain ⟨lx, lt, lg, ln⟩ := h.p.lt
  have ll := h.l.lt
  have col : ∀ j, (Of R.bm p q j ∨ Own (a i) R.ta R.ga R.na j) → TR (c j) := fun j e => by
    rcases e with e | e | e | e | e
    · exact .inl (m2 j e)
    · exact .inr (.inl (by rw [e]; exact o2))
    · exact .inr (.inr (by rw [e]; exact h.ct))
    · exact .inr (.inr (by rw [e]; exact h.cg))
    · exact .inr (.inr (by rw [e]; exact h.cn))
  have hf : Fc TR w c w' (up c w.heap.size 2) := ⟨⟨a5.os, a5.tape, a5.output, a5.size, fun j hj hn => a5.block j hj fun e => hn (col j e)⟩, fun j hj => up_lt hj⟩
  have k8 : ∀ j, j < w.heap.size → c j = 0 → w'.heap[j]? = w.heap[j]? := fun j hj e => hf.keep hj (by rw [e]; unfold TR; omega)
  refine ⟨_, ⟨MC.after m1.lt m2 a1 a2, a3, (hf.co _ lx).trans h.cx, (hf.co _ lt).trans h.ct, (hf.co _ lg).trans h.cg, (hf.co _ ln).trans h.cn, h.l.keep (k8 _ ll h.cl), (hf.co _ ll).trans h.cl, fun h0 => ?_, fun j s hj => ?_, fun j k s u hj hk e => ?_⟩, hf⟩
  · obtain ⟨q1, q2, q3⟩ := h.hr h0
    exact ⟨q1.keep (k8 _ ll h.cl) (k8 _ q3 q2), (hf.co _ q3).trans q2, Nat.lt_of_lt_of_le q3 hf.fr.size⟩
  · by_cases e : j = i
    · subst e
      rw [upd_same] at hj; cases hj
      exact ⟨a4, (hf.co _ o1.lt).trans o2⟩
    · rw [upd_other e] at hj
      obtain ⟨j1, j2⟩ := h.o j s hj
      refine ⟨j1.keep (a5.block _ j1.lt fun q => ?_), (hf.co _ j1.lt).trans j2⟩
      rcases q with q | q | q | q | q
      · have := m2 _ q; omega
      · exact e (h.un j i s r hj hi q)
      · have := h.ct; rw [← q] at this; omega
      · have := h.cg; rw [← q] at this; omega
      · have := h.cn; rw [← q] at this; omega
  · have key : ∀ z u, upd X i r' z = some u → ∃ u', X z = some u' := fun z u hz => by
      by_cases e : z = i
      · subst e; exact ⟨r, hi⟩
      · rw [upd_other e] at hz; exact ⟨u, hz⟩
    obtain ⟨s', hs⟩ := key j s hj
    obtain ⟨u', hu⟩ := key k u hk
    exact h.un j k s' u' hs hu e
theorem stepRS (h : SR R w c S X a) {stk : Nat → List Nat} {sw : Nat → Nat} (hi : In R.pp R.n R.ht S stk sw) (hx : X i = some r) (hk : Ok R.pp R.n R.ht S stk sw r) (b1 : R.pp ≤ 1000000) (b2 : S.M.L.length ≤ 50000) (b3 : r.fl ≤ 1000000) (b4 : ∀ t, S.gn t ≤ 1000000) (b5 : ∀ h, sw h ≤ 100000) (b6 : HdB r) (hp : r.pc ≠ 0) : Calls Tryz.prog 58 #[.pointer (some ⟨a i, 0, none⟩)] w fun e w' => e = .returned (.tuple #[.int .u8 ((r.pc : Nat) : Int), .bool (decide ((step R.pp S r).2.pc = 0))]) ∧ ∃ c', SR R w' c' (step R.pp S r).1 (upd X i (step R.pp S r).2) a ∧ Fc TR w c w' c' := by
  obtain ⟨p, q, m1, m2⟩ := h.m
  obtain ⟨o1, o2⟩ := h.o i r hx
  have cx := h.cx
  have ct := h.ct
  have cg := h.cg
  have cn := h.cn
  have cl := h.cl
  have ne : ∀ {j k u v : Nat}, c j = u → c k = v → u ≠ v → j ≠ k := fun h1 h2 hn e => hn (by rw [← h1, ← h2, e])
  refine (stepR_any ⟨m1, h.p, o1, h.l, hi, hk, ⟨fun j hj => ?_, ⟨ne o2 cx (by omega), ne o2 ct (by omega), ne o2 cg (by omega), ne o2 cn (by omega), ne o2 cl (by omega)⟩, ⟨ne cl ct (by omega), ne cl cg (by omega), ne cl cn (by omega)⟩⟩, b1, b2, b3, b4, b5⟩ b6 hp).mono ?_
  · have e := m2 j hj
    exact ⟨ne e o2 (by omega), ne e cx (by omega), ne e ct (by omega), ne e cg (by omega), ne e cn (by omega), ne e cl (by omega)⟩
  · rintro e w' ⟨rfl, q', a1, a2, a3, a4, a5⟩
    exact ⟨rfl, h.put hx m1 m2 a1 a2 a3 a4 a5⟩
/-- a new operation -/
theorem SR.grow (h : SR R w c S X a) (hx : X i = none) {w' : World} {S' : Pm} {r' : Op} (hM : S'.M = S.M) (hp : PR w' R.x R.bm R.bl R.ta R.ga R.na R.n S') (ho : OR w' w.heap.size R.x r') (hf : Fr (fun j => j = R.ga) w w') : ∃ c', SR R w' c' S' (upd X i r') (fun j => if j = i then w.heap.size else a j) ∧ Fc TR w c w' c' := by
  have fc : Fc (fun j => j = 6) w c w' (up c w.heap.size 4) := ⟨⟨hf.os, hf.tape, hf.output, hf.size, fun j hj hn => hf.block j hj fun e => hn (by rw [e]; exact h.cg)⟩, fun j hj => up_lt hj⟩
  obtain ⟨lx, lt, lg, ln⟩ := h.p.lt
  have ll := h.l.lt
  have k8 : ∀ j, j < w.heap.size → c j = 0 → w'.heap[j]? = w.heap[j]? := fun j hj e => fc.keep hj (by rw [e]; omega)
  have lo : ∀ j s, X j = some s → a j < w.heap.size := fun j s hj => (h.o j s hj).1.lt
  refine ⟨_, ⟨by rw [hM]; exact h.m.keep fc (by omega), hp, (fc.co _ lx).trans h.cx, (fc.co _ lt).trans h.ct, (fc.co _ lg).trans h.cg, (fc.co _ ln).trans h.cn, h.l.keep (k8 _ ll h.cl), (fc.co _ ll).trans h.cl, fun h0 => ?_, fun j s hj => ?_, fun j k s u hj hk e => ?_⟩, fc.mono fun j e => .inr (.inr e)⟩
  · obtain ⟨q1, q2, q3⟩ := h.hr h0
    exact ⟨q1.keep (k8 _ ll h.cl) (k8 _ q3 q2), (fc.co _ q3).trans q2, Nat.lt_of_lt_of_le q3 fc.fr.size⟩
  · by_cases e : j = i
    · subst e
      rw [upd_same] at hj; cases hj
      simp only [if_pos]
      exact ⟨ho, up_ge (Nat.le_refl _)⟩
    · rw [upd_other e] at hj
      simp only [if_neg e]
      obtain ⟨j1, j2⟩ := h.o j s hj
      exact ⟨j1.keep (fc.keep j1.lt (by rw [j2]; omega)), (fc.co _ j1.lt).trans j2⟩
  · by_cases e1 : j = i
    · by_cases e2 : k = i
      · rw [e1, e2]
      · rw [upd_other e2] at hk
        simp only [if_pos e1, if_neg e2] at e
        have := lo k u hk
        omega
    · rw [upd_other e1] at hj
      by_cases e2 : k = i
      · simp only [if_neg e1, if_pos e2] at e
        have := lo j s hj
        omega
      · rw [upd_other e2] at hk
        simp only [if_neg e1, if_neg e2] at e
        exact h.un j k s u hj hk e
theorem takeRS (h : SR R w c S X a) (hx : X i = none) (t hh m : Int) : Calls Tryz.prog 15 #[.pointer (some ⟨R.x, 0, none⟩), .int .i64 t, .int .i64 hh, .int .i64 m] w fun e w' =>
    (tkE t hh m ≠ 0 ∧ e = .returned (.tuple #[.pointer none, .int .i64 (tkE t hh m)]) ∧ w' = w) ∨
    (tkE t hh m = 0 ∧ ∃ p b d : Nat, t = (p : Int) ∧ hh = ((b + 1 : Nat) : Int) ∧ m = (d : Int) ∧ p < 64 ∧ b < 6 ∧ d ≤ 255 ∧ e = .returned (.tuple #[.pointer (some ⟨w.heap.size, 0, none⟩), .int .i64 0]) ∧ ∃ c', SR R w' c' S (upd X i ⟨p, b, 0, d, 4, 0, 0, 0, 0, 0⟩) (fun j => if j = i then w.heap.size else a j) ∧ Fc TR w c w' c') := by
  refine (takeR_any R.x t hh m w).mono ?_
  rintro e w' (q | ⟨h1, p, b, d, ht, hb, hd, h2, h3, h4, rfl, ho, bel⟩)
  · exact .inl q
  · exact .inr ⟨h1, p, b, d, ht, hb, hd, h2, h3, h4, rfl, h.grow hx rfl (h.below bel).p ho (Fr.of_below bel)⟩
theorem giveRS (h : SR R w c S X a) (hx : X i = none) (hn : R.n ≤ 1024) (t u : Int) : Calls Tryz.prog 17 #[.pointer (some ⟨R.x, 0, none⟩), .int .i64 t, .int .i64 u] w fun e w' =>
    (gvE R.n S t u ≠ 0 ∧ e = .returned (.tuple #[.pointer none, .int .i64 (gvE R.n S t u)]) ∧ w' = w) ∨
    (gvE R.n S t u = 0 ∧ ∃ p v : Nat, t = (p : Int) ∧ u = (v : Int) ∧ p < 64 ∧ 1 ≤ v ∧ v ≤ R.n ∧ e = .returned (.tuple #[.pointer (some ⟨w.heap.size, 0, none⟩), .int .i64 0]) ∧ ∃ c', SR R w' c' ⟨S.M, S.tk, set S.gv v true, S.gn⟩ (upd X i ⟨p, R.ht v, v, 0, 4, 0, 0, 0, 0, 0⟩) (fun j => if j = i then w.heap.size else a j) ∧ Fc TR w c w' c') := by
  refine (giveR_any h.p (fun h0 => (h.hr h0).1) (fun h0 => ⟨fun e => ?_, fun e => ?_⟩) t u hn).mono ?_
  · have h1 := h.cl
    have h2 := h.cg
    rw [e] at h1; omega
  · have h1 := (h.hr h0).2.1
    have h2 := h.cg
    rw [e] at h1; omega
  · rintro e w' (q | ⟨h1, p, v, ht, hu, h2, h3, h4, _, _, rfl, ho, hp, hf⟩)
    · exact .inl q
    · exact .inr ⟨h1, p, v, ht, hu, h2, h3, h4, rfl, h.grow hx rfl hp ho hf⟩
end
end Po
end Go.Proofs.YtdkkpaofodicjaaGreat
