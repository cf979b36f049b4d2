/- A run of leapfroglaw14 in memory. Conditions: those of each lemma. -/
import Derived.Test.YtcipjjchclpgnaaPsI
import Derived.Test.YtcipjjchclpgnaaPsR
import Derived.Test.YtcipjjchclpgnaaPsW
namespace Go.Proofs.Ytcipjjchclpgnaa
open Go.RowKit Go.Sort
set_option linter.unusedVariables false
set_option linter.unusedSimpArgs false
set_option maxRecDepth 100000
namespace Po
open Wd
open Ly (Ge tot pP pK pW pk Cf LyAt KI)
open Dm (addr_lit info_parts spot_none RdK flatU infoU bel_alloc bel_trans own_keep below_drewN)
def tkP (X : Nat → Option Op) (a : Nat → Nat) (t : Nat) : Option Nat := match X t with | some r => if r.tw = 0 then some (a t) else none | none => none
def gvP (X : Nat → Option Op) (a : Nat → Nat) (t : Nat) : Option Nat := match X t with | some r => if r.tw = 0 then none else some (a t) | none => none
/-- a run at b: operations, stacks, rows -/
structure RI (K : Kc) (b : Nat) (w : World) (c : Nat → Nat) (S : Pm) (X : Nat → Option Op) (a : Nat → Nat) (stk : Nat → List Nat) (sw : Nat → Nat) (B : Nat) (of : Nat → Int) (mn sk : Nat → Value) (mine : Nat → List Nat) (sn st : Nat → Int) : Prop where
  m : RM K S X stk sw B of mine sn st
  sa : SA K w c S X a
  rb : Rb w b K.bl K.x (tkP X a) (gvP X a) of mn sk (fun h => ((sw h : Nat) : Int)) sn st
  cb : c b = 8
  sr : ∀ h, h < 6 → Ro w c (10 + h) (sk h) (nums (stk h).reverse)
  mr : ∀ t, t < 6 → Ro w c (20 + t) (mn t) (nums (mine t))
/-- what a run may change -/
def TA : Nat → Prop := fun i => 1 ≤ i ∧ i ≤ 25
/-- a run, whatever its parts -/
def RE (K : Kc) (b : Nat) (w : World) (c : Nat → Nat) (S : Pm) (X : Nat → Option Op) (B : Nat) : Prop := ∃ a stk sw of mn sk mine sn st, RI K b w c S X a stk sw B of mn sk mine sn st
section
variable {K : Kc} {b : Nat} {w : World} {c : Nat → Nat} {S : Pm} {X : Nat → Option Op} {a : Nat → Nat} {stk : Nat → List Nat} {sw : Nat → Nat} {B : Nat} {of : Nat → Int} {mn sk : Nat → Value} {mine : Nat → List Nat} {sn st : Nat → Int} {t : Nat} {r : Op}
theorem RI.fc (h : RI K b w c S X a stk sw B of mn sk mine sn st) {T : Nat → Prop} {w1 : World} {c1 : Nat → Nat} (hf : Fc T w c w1 c1) (hT : ∀ i, i ≤ 25 → ¬ T i) : RI K b w1 c1 S X a stk sw B of mn sk mine sn st :=
  ⟨h.m, h.sa.fc hf (fun i hi => hT i (by omega)), h.rb.keep (hf.keep h.rb.lt (by rw [h.cb]; exact hT _ (by omega))), (hf.co _ h.rb.lt).trans h.cb, fun k hk => (h.sr k hk).fc hf (hT _ (by omega)), fun k hk => (h.mr k hk).fc hf (hT _ (by omega))⟩
theorem RI.below (h : RI K b w c S X a stk sw B of mn sk mine sn st) {w1 : World} (hb : Below w.heap.size w w1) : RI K b w1 c S X a stk sw B of mn sk mine sn st := h.fc (Fc.of_below (S := fun _ => False) hb) fun _ _ e => e
theorem T4_TA {i : Nat} (h : T4 i) : TA i := by unfold TA; rcases h with e | e | e | e <;> omega
theorem tkP_upd (h0 : X t = some r) (r' : Op) (h1 : r'.tw = r.tw) : tkP (upd X t r') a = tkP X a := by
  funext u
  unfold tkP
  by_cases e : u = t
  · subst e; rw [upd_same, h0]; simp only [h1]
  · rw [upd_other e]
theorem gvP_upd (h0 : X t = some r) (r' : Op) (h1 : r'.tw = r.tw) : gvP (upd X t r') a = gvP X a := by
  funext u
  unfold gvP
  by_cases e : u = t
  · subst e; rw [upd_same, h0]; simp only [h1]
  · rw [upd_other e]
theorem tkP_del : tkP (del X t) a = set (tkP X a) t none := by
  funext u
  unfold tkP
  by_cases e : u = t
  · subst e; rw [del_same, set_same]
  · rw [del_other e, set_other e]
theorem gvP_del : gvP (del X t) a = set (gvP X a) t none := by
  funext u
  unfold gvP
  by_cases e : u = t
  · subst e; rw [del_same, set_same]
  · rw [del_other e, set_other e]
theorem set_id {α : Type} (f : Nat → α) (i : Nat) (v : α) (h : f i = v) : set f i v = f := by
  funext j
  by_cases e : j = i
  · subst e; rw [set_same, h]
  · rw [set_other e]
theorem tkP_new (h0 : X t = none) (r : Op) (y : Nat) (h1 : r.tw = 0) : tkP (upd X t r) (upd2 a t y) = set (tkP X a) t (some y) := by
  funext u
  unfold tkP
  by_cases e : u = t
  · subst e; rw [upd_same, set_same, upd2_same]; simp only [h1, if_true]
  · rw [upd_other e, set_other e, upd2_other e]
theorem gvP_new (h0 : X t = none) (r : Op) (y : Nat) (h1 : r.tw = 0) : gvP (upd X t r) (upd2 a t y) = gvP X a := by
  funext u
  unfold gvP
  by_cases e : u = t
  · subst e; rw [upd_same, h0]; simp only [h1, if_true]
  · rw [upd_other e, upd2_other e]
theorem tkP_newG (h0 : X t = none) (r : Op) (y : Nat) (h1 : r.tw ≠ 0) : tkP (upd X t r) (upd2 a t y) = tkP X a := by
  funext u
  unfold tkP
  by_cases e : u = t
  · subst e; rw [upd_same, h0]; simp only [if_neg h1]
  · rw [upd_other e, upd2_other e]
theorem gvP_newG (h0 : X t = none) (r : Op) (y : Nat) (h1 : r.tw ≠ 0) : gvP (upd X t r) (upd2 a t y) = set (gvP X a) t (some y) := by
  funext u
  unfold gvP
  by_cases e : u = t
  · subst e; rw [upd_same, set_same, upd2_same]; simp only [if_neg h1]
  · rw [upd_other e, set_other e, upd2_other e]
/-- the run's memory while an operation's step is written down: the pool and the rows are done with, the block is being written -/
structure RW (K : Kc) (b : Nat) (w : World) (c : Nat → Nat) (S : Pm) (X : Nat → Option Op) (a : Nat → Nat) (tk gv : Nat → Option Nat) (of : Nat → Int) (mn sk : Nat → Value) (rk rm : Nat → List Int) (sw sn st : Nat → Int) : Prop where
  sa : SA K w c S X a
  rb : Rb w b K.bl K.x tk gv of mn sk sw sn st
  cb : c b = 8
  sr : ∀ h, h < 6 → Ro w c (10 + h) (sk h) (rk h)
  mr : ∀ t, t < 6 → Ro w c (20 + t) (mn t) (rm t)
theorem RI.rw (h : RI K b w c S X a stk sw B of mn sk mine sn st) : RW K b w c S X a (tkP X a) (gvP X a) of mn sk (fun h => nums (stk h).reverse) (fun t => nums (mine t)) (fun h => ((sw h : Nat) : Int)) sn st := ⟨h.sa, h.rb, h.cb, h.sr, h.mr⟩
end
section
variable {K : Kc} {b : Nat} {w : World} {c : Nat → Nat} {S : Pm} {X : Nat → Option Op} {a : Nat → Nat} {tk gv : Nat → Option Nat} {of : Nat → Int} {mn sk : Nat → Value} {rk rm : Nat → List Int} {sw sn st : Nat → Int} {t : Nat} {r : Op}
theorem RW.fc (h : RW K b w c S X a tk gv of mn sk rk rm sw sn st) {T : Nat → Prop} {w1 : World} {c1 : Nat → Nat} (hf : Fc T w c w1 c1) (hT : ∀ i, i ≤ 25 → ¬ T i) : RW K b w1 c1 S X a tk gv of mn sk rk rm sw sn st :=
  ⟨h.sa.fc hf (fun i hi => hT i (by omega)), h.rb.keep (hf.keep h.rb.lt (by rw [h.cb]; exact hT _ (by omega))), (hf.co _ h.rb.lt).trans h.cb, fun k hk => (h.sr k hk).fc hf (hT _ (by omega)), fun k hk => (h.mr k hk).fc hf (hT _ (by omega))⟩
theorem RW.below (h : RW K b w c S X a tk gv of mn sk rk rm sw sn st) {w1 : World} (hb : Below w.heap.size w w1) : RW K b w1 c S X a tk gv of mn sk rk rm sw sn st := h.fc (Fc.of_below (S := fun _ => False) hb) fun _ _ e => e
/-- behind a call on the pool -/
theorem RW.pool (h : RW K b w c S X a tk gv of mn sk rk rm sw sn st) {w1 : World} {c1 : Nat → Nat} {S' : Pm} {X' : Nat → Option Op} {a' : Nat → Nat} (hs : SA K w1 c1 S' X' a') (hf : Fc T4 w c w1 c1) : RW K b w1 c1 S' X' a' tk gv of mn sk rk rm sw sn st := by
  have no : ∀ i, 8 ≤ i → i ≠ 9 → ¬ T4 i := fun i h1 h2 e => by rcases e with e | e | e | e <;> omega
  exact ⟨hs, h.rb.keep (hf.keep h.rb.lt (by rw [h.cb]; exact no _ (by omega) (by omega))), (hf.co _ h.rb.lt).trans h.cb, fun k hk => (h.sr k hk).fc hf (no _ (by omega) (by omega)), fun k hk => (h.mr k hk).fc hf (no _ (by omega) (by omega))⟩
/-- a store into the run's block -/
theorem RW.put (h : RW K b w c S X a tk gv of mn sk rk rm sw sn st) {j : Nat} {v : Value} {tk' gv' : Nat → Option Nat} {of' : Nat → Int} {mn' sk' : Nat → Value} {sw' sn' st' : Nat → Int} (hr : Rb (w.setCell ⟨b, j, none⟩ v) b K.bl K.x tk' gv' of' mn' sk' sw' sn' st') {rk' rm' : Nat → List Int} (h1 : ∀ h, h < 6 → Ro w c (10 + h) (sk' h) (rk' h)) (h2 : ∀ t, t < 6 → Ro w c (20 + t) (mn' t) (rm' t)) : RW K b (w.setCell ⟨b, j, none⟩ v) c S X a tk' gv' of' mn' sk' rk' rm' sw' sn' st' ∧ Fc (fun i => i = 8) w c (w.setCell ⟨b, j, none⟩ v) c := by
  have hf : Fc (fun i => i = 8) w c (w.setCell ⟨b, j, none⟩ v) c := (Fc.id _ w c).set _ _ fun _ => h.cb
  exact ⟨⟨h.sa.fc hf (fun i hi => by omega), hr, h.cb, fun k hk => (h1 k hk).fc hf (by omega), fun k hk => (h2 k hk).fc hf (by omega)⟩, hf⟩
theorem RW.set_st (h : RW K b w c S X a tk gv of mn sk rk rm sw sn st) (ht : t < 6) (v : Int) : RW K b (w.setCell ⟨b, 44 + t, none⟩ (.int .i64 v)) c S X a tk gv of mn sk rk rm sw sn (set st t v) := (h.put (h.rb.set_st ht v) h.sr h.mr).1
theorem RW.set_sn (h : RW K b w c S X a tk gv of mn sk rk rm sw sn st) (ht : t < 6) (v : Int) : RW K b (w.setCell ⟨b, 38 + t, none⟩ (.int .i64 v)) c S X a tk gv of mn sk rk rm sw (set sn t v) st := (h.put (h.rb.set_sn ht v) h.sr h.mr).1
theorem RW.set_sw (h : RW K b w c S X a tk gv of mn sk rk rm sw sn st) (ht : t < 6) (v : Int) : RW K b (w.setCell ⟨b, 32 + t, none⟩ (.int .i64 v)) c S X a tk gv of mn sk rk rm (set sw t v) sn st := (h.put (h.rb.set_sw ht v) h.sr h.mr).1
theorem RW.set_of (h : RW K b w c S X a tk gv of mn sk rk rm sw sn st) (ht : t < 6) (v : Int) : RW K b (w.setCell ⟨b, 14 + t, none⟩ (.int .i64 v)) c S X a tk gv (set of t v) mn sk rk rm sw sn st := (h.put (h.rb.set_of ht v) h.sr h.mr).1
theorem RW.set_tk (h : RW K b w c S X a tk gv of mn sk rk rm sw sn st) (ht : t < 6) (v : Option Nat) : RW K b (w.setCell ⟨b, 2 + t, none⟩ (ptrO v)) c S X a (set tk t v) gv of mn sk rk rm sw sn st := (h.put (h.rb.set_tk ht v) h.sr h.mr).1
theorem RW.set_gv (h : RW K b w c S X a tk gv of mn sk rk rm sw sn st) (ht : t < 6) (v : Option Nat) : RW K b (w.setCell ⟨b, 8 + t, none⟩ (ptrO v)) c S X a tk (set gv t v) of mn sk rk rm sw sn st := (h.put (h.rb.set_gv ht v) h.sr h.mr).1
theorem RW.set_mn (h : RW K b w c S X a tk gv of mn sk rk rm sw sn st) (ht : t < 6) (v : Value) (l : List Int) (hv : Ro w c (20 + t) v l) : RW K b (w.setCell ⟨b, 20 + t, none⟩ v) c S X a tk gv of (set mn t v) sk rk (set rm t l) sw sn st := (h.put (h.rb.set_mn ht v) h.sr fun u hu => by
  by_cases e : u = t
  · subst e; rw [set_same, set_same]; exact hv
  · rw [set_other e, set_other e]; exact h.mr u hu).1
theorem RW.set_sk (h : RW K b w c S X a tk gv of mn sk rk rm sw sn st) (ht : t < 6) (v : Value) (l : List Int) (hv : Ro w c (10 + t) v l) : RW K b (w.setCell ⟨b, 26 + t, none⟩ v) c S X a tk gv of mn (set sk t v) (set rk t l) rm sw sn st := (h.put (h.rb.set_sk ht v) (fun u hu => by
  by_cases e : u = t
  · subst e; rw [set_same, set_same]; exact hv
  · rw [set_other e, set_other e]; exact h.sr u hu) h.mr).1
/-- a row that was appended to, laid into the block -/
theorem RW.app_sk (h : RW K b w c S X a tk gv of mn sk rk rm sw sn st) (ht : t < 6) {w1 : World} {c1 : Nat → Nat} {v : Value} {l : List Int} (hv : Ro w1 c1 (10 + t) v l) (hf : Fc (fun i => i = 10 + t) w c w1 c1) : RW K b (w1.setCell ⟨b, 26 + t, none⟩ v) c1 S X a tk gv of mn (set sk t v) (set rk t l) rm sw sn st := by
  have hb : c1 b = 8 := (hf.co _ h.rb.lt).trans h.cb
  have h8 : Fc (fun i => i = 8) w1 c1 (w1.setCell ⟨b, 26 + t, none⟩ v) c1 := (Fc.id _ w1 c1).set _ _ fun _ => hb
  have hr := (h.rb.keep (hf.keep h.rb.lt (by rw [h.cb]; omega))).set_sk ht v
  exact ⟨(h.sa.fc hf (fun i hi => by omega)).fc h8 (fun i hi => by omega), hr, hb, fun u hu => by
    by_cases e : u = t
    · subst e; rw [set_same, set_same]; exact hv.fc h8 (by omega)
    · rw [set_other e, set_other e]; exact ((h.sr u hu).fc hf (by omega)).fc h8 (by omega), fun u hu => ((h.mr u hu).fc hf (by omega)).fc h8 (by omega)⟩
theorem RW.app_mn (h : RW K b w c S X a tk gv of mn sk rk rm sw sn st) (ht : t < 6) {w1 : World} {c1 : Nat → Nat} {v : Value} {l : List Int} (hv : Ro w1 c1 (20 + t) v l) (hf : Fc (fun i => i = 20 + t) w c w1 c1) : RW K b (w1.setCell ⟨b, 20 + t, none⟩ v) c1 S X a tk gv of (set mn t v) sk rk (set rm t l) sw sn st := by
  have hb : c1 b = 8 := (hf.co _ h.rb.lt).trans h.cb
  have h8 : Fc (fun i => i = 8) w1 c1 (w1.setCell ⟨b, 20 + t, none⟩ v) c1 := (Fc.id _ w1 c1).set _ _ fun _ => hb
  have hr := (h.rb.keep (hf.keep h.rb.lt (by rw [h.cb]; omega))).set_mn ht v
  exact ⟨(h.sa.fc hf (fun i hi => by omega)).fc h8 (fun i hi => by omega), hr, hb, fun u hu => ((h.sr u hu).fc hf (by omega)).fc h8 (by omega), fun u hu => by
    by_cases e : u = t
    · subst e; rw [set_same, set_same]; exact hv.fc h8 (by omega)
    · rw [set_other e, set_other e]; exact ((h.mr u hu).fc hf (by omega)).fc h8 (by omega)⟩
theorem Fc8 {w : World} {c : Nat → Nat} {b j : Nat} {v : Value} (h : c b = 8) : Fc TA w c (w.setCell ⟨b, j, none⟩ v) c := ((Fc.id (fun i => i = 8) w c).set _ _ fun _ => h).mono fun i e => by unfold TA; omega
theorem set_set {α : Type} (f : Nat → α) (i : Nat) (u v : α) : set (set f i u) i v = set f i v := by
  funext j
  by_cases e : j = i
  · subst e; rw [set_same, set_same]
  · rw [set_other e, set_other e, set_other e]
theorem set_int (f : Nat → Nat) (i v : Nat) : set (fun h => ((f h : Nat) : Int)) i ((v : Nat) : Int) = fun h => ((set f i v h : Nat) : Int) := by
  funext j
  by_cases e : j = i
  · subst e; rw [set_same, set_same]
  · rw [set_other e, set_other e]
theorem set_rk (f : Nat → List Nat) (i : Nat) (v : List Nat) : set (fun h => nums (f h).reverse) i (nums v.reverse) = fun h => nums (set f i v h).reverse := by
  funext j
  by_cases e : j = i
  · subst e; rw [set_same, set_same]
  · rw [set_other e, set_other e]
theorem set_rm (f : Nat → List Nat) (i : Nat) (v : List Nat) : set (fun h => nums (f h)) i (nums v) = fun h => nums (set f i v h) := by
  funext j
  by_cases e : j = i
  · subst e; rw [set_same, set_same]
  · rw [set_other e, set_other e]
/-- a run behind a step -/
theorem RW.run (h : RW K b w c S X a tk gv of mn sk rk rm sw sn st) {X' : Nat → Option Op} {stk : Nat → List Nat} {sw' : Nat → Nat} {B : Nat} {mine : Nat → List Nat} {sn' st' : Nat → Int} (hm : RM K S X' stk sw' B of mine sn' st') (hs : SA K w c S X' a) (e1 : tk = tkP X' a) (e2 : gv = gvP X' a) (e3 : rk = fun h => nums (stk h).reverse) (e4 : rm = fun t => nums (mine t)) (e5 : sw = fun h => ((sw' h : Nat) : Int)) (e6 : sn = sn') (e7 : st = st') : RI K b w c S X' a stk sw' B of mn sk mine sn' st' := by
  subst e1 e2 e3 e4 e5 e6 e7
  exact ⟨hm, hs, h.rb, h.cb, h.sr, h.mr⟩
theorem RI.ex {sw : Nat → Nat} {mine : Nat → List Nat} {stk : Nat → List Nat} {B : Nat} (h : RI K b w c S X a stk sw B of mn sk mine sn st) : RE K b w c S X B := ⟨a, stk, sw, of, mn, sk, mine, sn, st, h⟩
theorem SA.del (h : SA K w c S (upd X t r) a) : SA K w c S (Po.del X t) a := by
  have := h.drop t
  rw [show (fun j => if j = t then none else upd X t r j) = Po.del (upd X t r) t from rfl, del_upd] at this
  exact this
end
end Po
end Go.Proofs.Ytcipjjchclpgnaa
