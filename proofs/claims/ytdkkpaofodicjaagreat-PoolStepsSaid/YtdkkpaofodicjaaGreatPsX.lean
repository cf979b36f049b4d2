/- Operations of package pool side by side, told apart by colours; Take, Give, Step on them. Conditions: those of the contracts. -/
import Derived.Test.YtdkkpaofodicjaaGreatPsS
import Derived.Test.YtdkkpaofodicjaaGreatPsO
namespace Go.Proofs.YtdkkpaofodicjaaGreat
open Go.RowKit Go.Sort
set_option linter.unusedVariables false
set_option linter.unusedSimpArgs false
set_option maxRecDepth 100000
namespace Po
open Wd
open Ly (Ge tot pP pK pW pk Cf LyAt KI)
open Dm (addr_lit info_parts spot_none RdK flatU infoU bel_alloc bel_trans own_keep below_drewN)
/-- a pool and operations X at the places a (colours 1 memory, 3 operations, 5 records, 7 pool and maps, 0 before) -/
structure SA (K : Kc) (w : World) (c : Nat → Nat) (S : Pm) (X : Nat → Option Op) (a : Nat → Nat) : Prop where
  m : MC 106 w c 1 K.bm S.M
  p : PA w K.x K.bm K.bl K.ta (tot K.g.t 6) S
  ct : c K.ta = 5
  cx : c K.x = 7
  ly : LyC w c K.bl K.f K.l K.g
  ok : K.g.ok
  o : ∀ i r, X i = some r → OA w c (a i) K.x r ∧ c (a i) = 3
  un : ∀ i j r s, X i = some r → X j = some s → a i = a j → i = j
/-- the numbers are small, and the invariant holds -/
structure AlB (K : Kc) (S : Pm) (stk : Nat → List Nat) (sw : Nat → Nat) (X : Nat → Option Op) (B : Nat) : Prop where
  al : All (pP K.g) (tot K.g.t 6) (htG K.g) S stk sw X B
  pp : pP K.g ≤ 1000000
  lg : S.M.L.length ≤ B
  gn : ∀ t, S.gn t ≤ B
  fl : ∀ i r, X i = some r → r.fl ≤ B ∧ HdB r
/-- places of operations -/
def upd2 (a : Nat → Nat) (i y : Nat) : Nat → Nat := fun j => if j = i then y else a j
theorem upd2_same (a : Nat → Nat) (i y : Nat) : upd2 a i y i = y := if_pos rfl
theorem upd2_other {a : Nat → Nat} {i j y : Nat} (h : j ≠ i) : upd2 a i y j = a j := if_neg h
section
variable {K : Kc} {w : World} {c : Nat → Nat} {S : Pm} {X : Nat → Option Op} {a : Nat → Nat} {stk : Nat → List Nat} {sw : Nat → Nat} {B : Nat} {i : Nat} {r : Op}
theorem AlB.more (h : AlB K S stk sw X B) {B' : Nat} (hB : B ≤ B') : AlB K S stk sw X B' := ⟨h.al.more hB, h.pp, Nat.le_trans h.lg hB, fun t => Nat.le_trans (h.gn t) hB, fun i r hx => ⟨Nat.le_trans (h.fl i r hx).1 hB, (h.fl i r hx).2⟩⟩
theorem AlB.sx (h : AlB K S stk sw X B) (hx : X i = some r) (hB : B ≤ 50000) : Sx K S stk sw r :=
  ⟨h.al.i, h.al.o i r hx, h.pp, Nat.le_trans h.lg hB, Nat.le_trans (h.fl i r hx).1 (by omega), fun t => Nat.le_trans (h.gn t) (by omega), (h.fl i r hx).2⟩
theorem AlB.next (h : AlB K S stk sw X B) (hx : X i = some r) (hw : BdW S.M.W) {stk' : Nat → List Nat} {sw' : Nat → Nat} (ha : All (pP K.g) (tot K.g.t 6) (htG K.g) (step (pP K.g) S r).1 stk' sw' (upd X i (step (pP K.g) S r).2) (B + 1)) : AlB K (step (pP K.g) S r).1 stk' sw' (upd X i (step (pP K.g) S r).2) (B + 1) :=
  ⟨ha, h.pp, Nat.le_trans (step_lg ..) (Nat.add_le_add_right h.lg 1), fun t => Nat.le_trans (step_gn ..) (Nat.add_le_add_right (h.gn t) 1), fun j s hj => by
    by_cases e : j = i
    · subst e
      rw [upd_same] at hj; cases hj
      exact ⟨Nat.le_trans (step_fl ..) (Nat.add_le_add_right (h.fl j r hx).1 1), step_hd hw (h.fl j r hx).2⟩
    · rw [upd_other e] at hj
      exact ⟨Nat.le_trans (h.fl j s hj).1 (Nat.le_succ _), (h.fl j s hj).2⟩⟩
theorem SA.bd (h : SA K w c S X a) : BdW S.M.W := by
  obtain ⟨_, _, ⟨_, _, _, ha⟩, _⟩ := h.m
  exact ha.bd
theorem SA.fc (h : SA K w c S X a) {T : Nat → Prop} {w1 : World} {c1 : Nat → Nat} (hf : Fc T w c w1 c1) (hT : ∀ i, i ≤ 7 → ¬ T i) : SA K w1 c1 S X a :=
  ⟨h.m.keep hf (hT _ (by omega)), h.p.fc hf (by rw [h.cx]; exact hT _ (by omega)) (by rw [h.ct]; exact hT _ (by omega)) (M := S.M), (hf.co _ h.p.lt).trans h.ct, (hf.co _ h.p.xlt).trans h.cx, h.ly.fc hf (hT _ (by omega)), h.ok, fun i r hx => by
    obtain ⟨h1, h2⟩ := h.o i r hx
    exact ⟨h1.fc hf (by rw [h2]; exact hT _ (by omega)) (hT _ (by omega)), (hf.co _ h1.lt).trans h2⟩, h.un⟩
theorem SA.below (h : SA K w c S X a) {w1 : World} (hb : Below w.heap.size w w1) : SA K w1 c S X a := h.fc (Fc.of_below (S := fun _ => False) hb) fun _ _ e => e
/-- what operations change -/
def T4 : Nat → Prop := fun j => j = 1 ∨ j = 3 ∨ j = 5 ∨ j = 9
/-- the operation y alone has the colour 9 -/
def rc (c : Nat → Nat) (y v : Nat) : Nat → Nat := fun j => if j = y then v else c j
theorem rc_same (c : Nat → Nat) (y v : Nat) : rc c y v y = v := if_pos rfl
theorem rc_other {c : Nat → Nat} {y v j : Nat} (h : j ≠ y) : rc c y v j = c j := if_neg h
theorem SA.to (h : SA K w c S X a) (hx : X i = some r) : CA K w (rc c (a i) 9) (a i) S r := by
  obtain ⟨ho, hc⟩ := h.o i r hx
  have ne : ∀ {j v}, c j = v → v ≠ 3 → rc c (a i) 9 j = v := fun {j v} e hv => by
    rw [rc_other]; exact e
    intro e2; rw [e2, hc] at e; exact hv e.symm
  obtain ⟨p, q, m1, m2⟩ := h.m
  obtain ⟨wl, l1, l2, l3⟩ := h.ly
  refine ⟨⟨p, q, m1, fun j hj => ne (m2 j hj) (by omega)⟩, h.p, ne h.ct (by omega), ne h.cx (by omega), ⟨wl, l1, l2, fun j hj => ne (l3 j hj) (by omega)⟩, h.ok, ?_, rc_same ..⟩
  exact ho.keep rfl fun m _ mc hne => ⟨rfl, rc_other hne⟩
theorem SA.back (h : SA K w c S X a) (hx : X i = some r) {w' : World} {S' : Pm} {r' : Op} (hl : Lf K (a i) S' r' w (rc c (a i) 9) w') : ∃ c', SA K w' c' S' (upd X i r') a ∧ Fc T4 w c w' c' := by
  obtain ⟨c2, h2, hf⟩ := hl
  obtain ⟨ho, hc⟩ := h.o i r hx
  have old : ∀ {j}, j < w.heap.size → j ≠ a i → rc c2 (a i) 3 j = c j := fun {j} hj hne => by rw [rc_other hne, hf.co j hj, rc_other hne]
  have ne2 : ∀ {j v}, c2 j = v → v ≠ 9 → rc c2 (a i) 3 j = v := fun {j v} e hv => by
    rw [rc_other]; exact e
    intro e2; rw [e2, h2.cy] at e; exact hv e.symm
  obtain ⟨p, q, m1, m2⟩ := h2.m
  obtain ⟨wl, l1, l2, l3⟩ := h2.ly
  refine ⟨rc c2 (a i) 3, ⟨⟨p, q, m1, fun j hj => ne2 (m2 j hj) (by omega)⟩, h2.p, ne2 h2.ct (by omega), ne2 h2.cx (by omega), ⟨wl, l1, l2, fun j hj => ne2 (l3 j hj) (by omega)⟩, h.ok, fun j s hj => ?_, fun j k s u hj hk e => ?_⟩, ⟨hf.fr.os, hf.fr.tape, hf.fr.output, hf.fr.size, fun j hj hn => hf.fr.block j hj fun e => hn ?_⟩, fun j hj => ?_⟩
  · by_cases e : j = i
    · subst e
      rw [upd_same] at hj; cases hj
      exact ⟨h2.o.keep rfl fun m _ mc hne => ⟨rfl, rc_other hne⟩, rc_same ..⟩
    · rw [upd_other e] at hj
      obtain ⟨o1, o2⟩ := h.o j s hj
      have hne : a j ≠ a i := fun q => e (h.un j i s r hj hx q)
      refine ⟨o1.keep (hf.keep o1.lt (by rw [rc_other hne, o2]; omega)) fun m hm mc hmy => ?_, (old o1.lt hne).trans o2⟩
      have hmi : m ≠ a i := fun q => by rw [q, hc] at mc; omega
      exact ⟨hf.keep hm (by rw [rc_other hmi, mc]; omega), old hm hmi⟩
  · have key : ∀ z u, upd X i r' z = some u → ∃ u', X z = some u' := fun z u hz => by
      by_cases e : z = i
      · subst e; exact ⟨r, hx⟩
      · rw [upd_other e] at hz; exact ⟨u, hz⟩
    obtain ⟨s', hs⟩ := key j s hj
    obtain ⟨u', hu⟩ := key k u hk
    exact h.un j k s' u' hs hu e
  · by_cases e2 : j = a i
    · subst e2; exact .inr (.inl hc)
    · rw [rc_other e2] at e
      rcases e with e | e | e
      · exact .inl e
      · exact .inr (.inr (.inl e))
      · exact .inr (.inr (.inr e))
  · by_cases e2 : j = a i
    · subst e2; rw [rc_same, hc]
    · exact old hj e2
theorem SA.grow (h : SA K w c S X a) (hx : X i = none) {w' : World} {c' : Nat → Nat} {S' : Pm} {m : Nat} {r : Op} (hM : S'.M = S.M) (hp : PA w' K.x K.bm K.bl K.ta (tot K.g.t 6) S') (hn : NwO K.x m r w') (hm : w.heap.size ≤ m) (hf : Fr (fun i => i = K.ta) w w') (hm2 : m + 1 < w'.heap.size) :
    ∃ c', SA K w' c' S' (upd X i r) (upd2 a i (m + 1)) ∧ Fc T4 w c w' c' := by
  obtain ⟨c1, hc1⟩ : ∃ c1 : Nat → Nat, c1 = fun j => if w.heap.size ≤ j then (if j = m + 1 then 3 else 7) else c j := ⟨_, rfl⟩
  have co : ∀ j, j < w.heap.size → c1 j = c j := fun j hj => by rw [hc1]; exact if_neg (by omega)
  have cm : c1 m = 7 := by rw [hc1]; show (if w.heap.size ≤ m then (if m = m + 1 then 3 else 7) else c m) = 7; rw [if_pos hm, if_neg (by omega)]
  have cy : c1 (m + 1) = 3 := by rw [hc1]; show (if w.heap.size ≤ m + 1 then (if m + 1 = m + 1 then 3 else 7) else c (m + 1)) = 3; rw [if_pos (by omega), if_pos rfl]
  have fc : Fc (fun j => j = 5) w c w' c1 := ⟨⟨hf.os, hf.tape, hf.output, hf.size, fun j hj hn => hf.block j hj fun e => hn (by rw [e]; exact h.ct)⟩, co⟩
  have lt : ∀ j s, X j = some s → a j < w.heap.size := fun j s hj => (h.o j s hj).1.lt
  refine ⟨c1, ⟨by rw [hM]; exact h.m.keep fc (by omega), hp, (co _ h.p.lt).trans h.ct, (co _ h.p.xlt).trans h.cx, h.ly.fc fc (by omega), h.ok, fun j s hj => ?_, fun j k s u hj hk e => ?_⟩, fc.mono fun j e => .inr (.inr (.inl e))⟩
  · by_cases e : j = i
    · subst e
      rw [upd_same] at hj; cases hj
      rw [upd2_same]
      exact ⟨hn c1 cm, cy⟩
    · rw [upd_other e] at hj
      rw [upd2_other e]
      obtain ⟨o1, o2⟩ := h.o j s hj
      exact ⟨o1.fc fc (by rw [o2]; omega) (by omega), (co _ o1.lt).trans o2⟩
  · by_cases e1 : j = i
    · by_cases e2 : k = i
      · rw [e1, e2]
      · rw [upd_other e2] at hk
        rw [e1, upd2_same, upd2_other e2] at e
        have := lt k u hk
        omega
    · rw [upd_other e1] at hj
      by_cases e2 : k = i
      · rw [e2, upd2_same, upd2_other e1] at e
        have := lt j s hj
        omega
      · rw [upd_other e2] at hk
        rw [upd2_other e1, upd2_other e2] at e
        exact h.un j k s u hj hk e
theorem SA.drop (h : SA K w c S X a) (i : Nat) : SA K w c S (fun j => if j = i then none else X j) a :=
  ⟨h.m, h.p, h.ct, h.cx, h.ly, h.ok, fun j r hj => by
    by_cases e : j = i
    · simp [e] at hj
    · simp only [if_neg e] at hj; exact h.o j r hj, fun j k s u hj hk e => by
    by_cases e1 : j = i
    · simp [e1] at hj
    · by_cases e2 : k = i
      · simp [e2] at hk
      · simp only [if_neg e1] at hj
        simp only [if_neg e2] at hk
        exact h.un j k s u hj hk e⟩
/-! ### the calls -/
def StS (K : Kc) (X : Nat → Option Op) (a : Nat → Nat) (S : Pm) (i : Nat) (r : Op) (w : World) (c : Nat → Nat) (e : Ending) (w' : World) : Prop :=
  e = .returned (.tuple #[.int .u8 ((r.pc : Nat) : Int), .bool (decide ((step (pP K.g) S r).2.pc = 0))]) ∧ ∃ c', SA K w' c' (step (pP K.g) S r).1 (upd X i (step (pP K.g) S r).2) a ∧ Fc T4 w c w' c'
theorem stepTS (h : SA K w c S X a) (hb : AlB K S stk sw X B) (hB : B ≤ 50000) (hx : X i = some r) (h0 : r.tw = 0) (hp : r.pc ≠ 0) : Calls Tryz.prog 57 #[.pointer (some ⟨a i, 0, none⟩)] w (StS K X a S i r w c) := by
  refine (stepT_any (h.to hx) (hb.sx hx hB) h0 hp).mono ?_
  rintro e w' ⟨rfl, hl⟩
  exact ⟨rfl, h.back hx hl⟩
theorem stepGS (h : SA K w c S X a) (hb : AlB K S stk sw X B) (hB : B ≤ 50000) (hx : X i = some r) (h0 : 0 < r.tw) (hp : r.pc ≠ 0) : Calls Tryz.prog 62 #[.pointer (some ⟨a i, 0, none⟩)] w (StS K X a S i r w c) := by
  refine (stepG_any (h.to hx) (hb.sx hx hB) h0 hp).mono ?_
  rintro e w' ⟨rfl, hl⟩
  exact ⟨rfl, h.back hx hl⟩
def TkS (K : Kc) (S : Pm) (X : Nat → Option Op) (a : Nat → Nat) (i : Nat) (t h m : Int) (w : World) (c : Nat → Nat) (e : Ending) (w' : World) : Prop :=
  (tkE t h m ≠ 0 ∧ e = .returned (.tuple #[.pointer none, .int .i64 (tkE t h m)]) ∧ w' = w) ∨
  (tkE t h m = 0 ∧ ∃ p b d y : Nat, t = (p : Int) ∧ h = ((b + 1 : Nat) : Int) ∧ m = (d : Int) ∧ p < 64 ∧ b < 6 ∧ d ≤ 255 ∧ e = .returned (.tuple #[.pointer (some ⟨y, 0, none⟩), .int .i64 0]) ∧ w.heap.size ≤ y ∧ ∃ c', SA K w' c' S (upd X i ⟨p, b, 0, d, 4, 0, 0, 0, 0, 0⟩) (upd2 a i y) ∧ Fc T4 w c w' c' ∧ Below w.heap.size w w')
theorem takeS (hs : SA K w c S X a) (hx : X i = none) (t h m : Int) : Calls Tryz.prog 14 #[.pointer (some ⟨K.x, 0, none⟩), .int .i64 t, .int .i64 h, .int .i64 m] w (TkS K S X a i t h m w c) := by
  refine (takeC_any K.x t h m w).mono ?_
  rintro e w' (hh | ⟨h1, p, b, d, ht, hb, hd, h2, h3, h4, rfl, hn, bel⟩)
  · exact .inl hh
  · have hlt : w.heap.size + 1 < w'.heap.size := (hn (fun _ => 7) rfl).lt
    obtain ⟨c', g1, g2⟩ := hs.grow (c' := c) hx rfl (hs.p.below bel) hn (Nat.le_refl _) (Fr.of_below bel) hlt
    exact .inr ⟨h1, p, b, d, _, ht, hb, hd, h2, h3, h4, rfl, by omega, c', g1, g2, bel⟩
def GvS (K : Kc) (S : Pm) (X : Nat → Option Op) (a : Nat → Nat) (i : Nat) (t u : Int) (w : World) (c : Nat → Nat) (e : Ending) (w' : World) : Prop :=
  (gvE (tot K.g.t 6) S t u ≠ 0 ∧ e = .returned (.tuple #[.pointer none, .int .i64 (gvE (tot K.g.t 6) S t u)]) ∧ w' = w) ∨
  (gvE (tot K.g.t 6) S t u = 0 ∧ ∃ p k y : Nat, t = (p : Int) ∧ u = ((k + 1 : Nat) : Int) ∧ p < 64 ∧ k < tot K.g.t 6 ∧ e = .returned (.tuple #[.pointer (some ⟨y, 0, none⟩), .int .i64 0]) ∧ w.heap.size ≤ y ∧ ∃ c', SA K w' c' ⟨S.M, S.tk, set S.gv (k + 1) true, S.gn⟩ (upd X i ⟨p, htG K.g (k + 1), k + 1, 0, 4, 0, 0, 0, 0, 0⟩) (upd2 a i y) ∧ Fc T4 w c w' c')
theorem giveS (hs : SA K w c S X a) (hx : X i = none) (t u : Int) : Calls Tryz.prog 16 #[.pointer (some ⟨K.x, 0, none⟩), .int .i64 t, .int .i64 u] w (GvS K S X a i t u w c) := by
  refine (giveC_any hs.p hs.ly.at (fun W hf => (hs.ly.fc (c' := c) (T := fun j => j = 5) ⟨⟨hf.os, hf.tape, hf.output, hf.size, fun j hj hn => hf.block j hj fun e => hn (by rw [e]; exact hs.ct)⟩, fun _ _ => rfl⟩ (by omega)).at) hs.ok t u).mono ?_
  rintro e w' (hh | ⟨h1, p, k, m, ht, hu, h2, h3, h4, rfl, hn, hp, hf⟩)
  · exact .inl hh
  · obtain ⟨c', g1, g2⟩ := hs.grow (c' := c) (S' := ⟨S.M, S.tk, set S.gv (k + 1) true, S.gn⟩) hx rfl hp hn h4 hf (hn (fun _ => 7) rfl).lt
    exact .inr ⟨h1, p, k, _, ht, hu, h2, h3, rfl, by omega, c', g1, g2⟩
theorem resTS_run (hs : SA K w c S X a) (hx : X i = some r) (hp : r.pc ≠ 0) : Calls Tryz.prog 59 #[.pointer (some ⟨a i, 0, none⟩)] w fun e w' => e = .returned (.tuple #[.int .i64 0, .int .i64 0, .int .i64 8]) ∧ w' = w := res_run (hs.o i r hx).1 hp
theorem resTS_end (hs : SA K w c S X a) (hx : X i = some r) (hp : r.pc = 0) (h0 : r.tw = 0) : Calls Tryz.prog 59 #[.pointer (some ⟨a i, 0, none⟩)] w fun e w' => e = .returned (.tuple #[.int .i64 r.got, .int .i64 ((r.fl : Nat) : Int), .int .i64 r.e]) ∧ Below w.heap.size w w' := res_end (hs.o i r hx).1 hp h0
theorem listS (hs : SA K w c S X a) (hb : AlB K S stk sw X B) (k : Nat) (hk : k < 6) : Calls Tryz.prog 23 #[.pointer (some ⟨K.x, 0, none⟩), .int .i64 ((k + 1 : Nat) : Int)] w fun e w' => ∃ v, e = .returned (.tuple #[v, .int .i64 0]) ∧ RwI w (nums (stk k)) v w' := by
  obtain ⟨p, q, h1, _⟩ := hs.m
  exact list_any h1 hs.p hs.ly.at hb.al.i hb.pp k hk
theorem outS (hs : SA K w c S X a) : Calls Tryz.prog 21 #[.pointer (some ⟨K.x, 0, none⟩)] w fun e w' => ∃ v, e = .returned v ∧ RwI w (outL S (tot K.g.t 6 + 1)) v w' := out_any hs.p hs.ok.tt
theorem genS (hs : SA K w c S X a) (t : Int) : Calls Tryz.prog 25 #[.pointer (some ⟨K.x, 0, none⟩), .int .i64 t] w fun e w' => e = .returned (.tuple #[.int .i64 (gnV (tot K.g.t 6) S t), .int .i64 (gnE (tot K.g.t 6) t)]) ∧ w' = w := gen_any hs.p t hs.ok.tt
end
end Po
end Go.Proofs.YtdkkpaofodicjaaGreat
