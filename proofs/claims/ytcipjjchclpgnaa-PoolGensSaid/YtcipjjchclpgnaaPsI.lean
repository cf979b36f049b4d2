/- A run of leapfroglaw14 as mathematics: what each step of a thread leaves. Conditions: those of each lemma. -/
import Derived.Test.YtcipjjchclpgnaaPsX
namespace Go.Proofs.Ytcipjjchclpgnaa
set_option linter.unusedVariables false
set_option linter.unusedSimpArgs false
namespace Po
open Wd
open Ly (Ge tot pP)
def del (X : Nat → Option Op) (i : Nat) : Nat → Option Op := fun j => if j = i then none else X j
theorem del_same (X : Nat → Option Op) (i : Nat) : del X i i = none := if_pos rfl
theorem del_other {X : Nat → Option Op} {i j : Nat} (h : j ≠ i) : del X i j = X j := if_neg h
theorem del_upd (X : Nat → Option Op) (i : Nat) (r : Op) : del (upd X i r) i = del X i := by
  funext j
  by_cases e : j = i
  · subst e; rw [del_same, del_same]
  · rw [del_other e, del_other e, upd_other e]
theorem upd_upd (X : Nat → Option Op) (i : Nat) (r s : Op) : upd (upd X i r) i s = upd X i s := by
  funext j
  by_cases e : j = i
  · subst e; rw [upd_same, upd_same]
  · rw [upd_other e, upd_other e, upd_other e]
/-- what the run's numbers say of the operation r of the thread t -/
structure Xo (of : Int) (mine : List Nat) (sn st : Int) (t : Nat) (r : Op) : Prop where
  t6 : t < 6
  th : r.th = t
  tr : r.tr = 0
  e : r.e = 0
  pc : r.pc ≠ 0
  of : of = if r.tw = 0 then ((r.h + 1 : Nat) : Int) else ((r.tw : Nat) : Int)
  mn : 0 < r.tw → ∃ rest, mine = r.tw :: rest
  sn : r.pc ≠ 4 → sn = r.hd / 65536
  s1 : r.pc = 5 ∨ r.pc = 7 → st = 1
  s2 : r.pc = 6 ∨ r.pc = 8 → st = 2
structure RM (K : Kc) (S : Pm) (X : Nat → Option Op) (stk : Nat → List Nat) (sw : Nat → Nat) (B : Nat) (of : Nat → Int) (mine : Nat → List Nat) (sn st : Nat → Int) : Prop where
  al : AlB K S stk sw X B
  bw : BdW S.M.W
  xo : ∀ t r, X t = some r → Xo (of t) (mine t) (sn t) (st t) t r
  mi : ∀ t, t < 6 → ∀ m, m ∈ mine t → 1 ≤ m ∧ m ≤ tot K.g.t 6 ∧ S.tk m = true
  nd : ∀ t, t < 6 → (mine t).Nodup
  dj : ∀ t u, t < 6 → u < 6 → ∀ m, m ∈ mine t → m ∈ mine u → t = u
  sb : ∀ t, t < 6 → 0 ≤ st t ∧ st t ≤ B
section
variable {K : Kc} {S : Pm} {X : Nat → Option Op} {stk : Nat → List Nat} {sw : Nat → Nat} {B : Nat} {of : Nat → Int} {mine : Nat → List Nat} {sn st : Nat → Int} {t : Nat} {r : Op}
theorem step_bw (pp : Nat) {S : Pm} (r : Op) (h : BdW S.M.W) (hl : 0 ≤ r.hd % 65536) : BdW (step pp S r).1.M.W := by
  unfold step
  repeat' split
  all_goals first
    | exact h
    | (simp only [load_W]; exact h)
    | (simp only [Wm.stor, Wm.put]; exact Wm.bd_set h _ (by omega) (by omega))
    | (simp only [Wm.cas]; split <;> (simp only [Wm.put]; first | exact Wm.bd_set h _ topW_bd.1 topW_bd.2 | exact Wm.bd_set h _ (Wm.get_bd h _).1 (Wm.get_bd h _).2))
theorem step_p4T (pp : Nat) (S : Pm) (r : Op) (h0 : r.tw = 0) (hp : r.pc = 4) (hz : (step pp S r).2.pc ≠ 0) : (step pp S r).2.pc = 5 := by
  unfold step at hz ⊢
  rw [if_pos hp] at hz ⊢
  simp only [if_neg (show ¬ 0 < r.tw by omega)] at hz ⊢
  split at hz
  · exact absurd rfl hz
  · rename_i q; rw [if_neg q]
theorem step_p4G (pp : Nat) (S : Pm) (r : Op) (h0 : 0 < r.tw) (hp : r.pc = 4) : (step pp S r).2.pc = 7 := by unfold step; rw [if_pos hp]; exact if_pos h0
theorem step_p57 (pp : Nat) (S : Pm) (r : Op) (hp : r.pc = 5 ∨ r.pc = 7) : (step pp S r).2.pc = r.pc + 1 := by unfold step; rcases hp with e | e <;> rw [e] <;> rfl
/-- after a step the operation at t has the counter pc -/
def Go1 (X' : Nat → Option Op) (t pc : Nat) (r : Op) : Prop := ∃ r', X' t = some r' ∧ r'.pc = pc ∧ r'.tw = r.tw ∧ r'.h = r.h
/-- what a step of the operation r of the thread t does to stacks and to what threads have, if no other thread disturbs it -/
def Vw (r : Op) (t : Nat) (stk mine : Nat → List Nat) (sn : Nat → Int) (sw : Nat → Nat) (X' : Nat → Option Op) (stk' mine' : Nat → List Nat) (sn' : Nat → Int) (sw' : Nat → Nat) : Prop :=
  (r.pc = 4 → (r.tw = 0 ∧ stk r.h = []) ∨ (Go1 X' t (if r.tw = 0 then 5 else 7) r ∧ stk' = stk ∧ mine' = mine ∧ sw' = sw ∧ sn' t = ((sw r.h : Nat) : Int))) ∧
  (r.pc = 5 ∨ r.pc = 7 → Go1 X' t (r.pc + 1) r ∧ stk' = stk ∧ mine' = mine ∧ sw' = sw ∧ sn' = sn) ∧
  (r.pc = 6 → sn t = ((sw r.h : Nat) : Int) → X' t = none ∧ ∃ x rest, stk r.h = x :: rest ∧ stk' = set stk r.h rest ∧ mine' = set mine t (mine t ++ [x])) ∧
  (r.pc = 8 → sn t = ((sw r.h : Nat) : Int) → X' t = none ∧ ∃ rest, mine t = r.tw :: rest ∧ stk' = set stk r.h (r.tw :: stk r.h) ∧ mine' = set mine t rest) ∧
  (∀ r', X' t = some r' → r'.tw = r.tw)
theorem Go1.tw {X' : Nat → Option Op} {t pc : Nat} {r : Op} (h : Go1 X' t pc r) : ∀ r', X' t = some r' → r'.tw = r.tw := fun r' hr => by
  obtain ⟨r2, h1, _, h2, _⟩ := h
  rw [h1] at hr; cases hr; exact h2
theorem no_tw {X' : Nat → Option Op} {t : Nat} {r : Op} (h : X' t = none) : ∀ r', X' t = some r' → r'.tw = r.tw := fun r' hr => by rw [h] at hr; cases hr
section
variable {t : Nat} {r : Op} {stk mine stk' mine' : Nat → List Nat} {sn sn' : Nat → Int} {sw sw' : Nat → Nat} {X' : Nat → Option Op}
theorem Vw.e4 (h0 : r.tw = 0) (he : stk r.h = []) (hp : r.pc = 4) (hx : X' t = none) : Vw r t stk mine sn sw X' stk' mine' sn' sw' := ⟨fun _ => .inl ⟨h0, he⟩, fun q => by omega, fun q => by omega, fun q => by omega, no_tw hx⟩
theorem Vw.g4 (hp : r.pc = 4) (hg : Go1 X' t (if r.tw = 0 then 5 else 7) r) (hs : sn' t = ((sw r.h : Nat) : Int)) : Vw r t stk mine sn sw X' stk mine sn' sw := ⟨fun _ => .inr ⟨hg, rfl, rfl, rfl, hs⟩, fun q => by omega, fun q => by omega, fun q => by omega, hg.tw⟩
theorem Vw.m (hp : r.pc = 5 ∨ r.pc = 7) (hg : Go1 X' t (r.pc + 1) r) : Vw r t stk mine sn sw X' stk mine sn sw := ⟨fun q => by omega, fun _ => ⟨hg, rfl, rfl, rfl, rfl⟩, fun q => by omega, fun q => by omega, hg.tw⟩
theorem Vw.f (hp : r.pc = 6 ∨ r.pc = 8) (he : ¬ sn t = ((sw r.h : Nat) : Int)) (hx : ∀ r', X' t = some r' → r'.tw = r.tw) : Vw r t stk mine sn sw X' stk' mine' sn' sw' := ⟨fun q => by omega, fun q => by omega, fun _ q => absurd q he, fun _ q => absurd q he, hx⟩
theorem Vw.t6 (hp : r.pc = 6) (hx : X' t = none) {x : Nat} {rest : List Nat} (hs : stk r.h = x :: rest) : Vw r t stk mine sn sw X' (set stk r.h rest) (set mine t (mine t ++ [x])) sn' sw' := ⟨fun q => by omega, fun q => by omega, fun _ _ => ⟨hx, x, rest, hs, rfl, rfl⟩, fun q => by omega, no_tw hx⟩
theorem Vw.g8 (hp : r.pc = 8) (hx : X' t = none) {rest : List Nat} (hs : mine t = r.tw :: rest) : Vw r t stk mine sn sw X' (set stk r.h (r.tw :: stk r.h)) (set mine t rest) sn' sw' := ⟨fun q => by omega, fun q => by omega, fun q => by omega, fun _ _ => ⟨hx, rest, hs, rfl, rfl⟩, no_tw hx⟩
theorem Go1.upd {X : Nat → Option Op} {r' : Op} {pc : Nat} (h1 : r'.pc = pc) (h2 : r'.tw = r.tw) (h3 : r'.h = r.h) : Go1 (Po.upd X t r') t pc r := ⟨r', upd_same .., h1, h2, h3⟩
end
/-- the other threads -/
theorem RM.others (h : RM K S X stk sw B of mine sn st) (hx : X t = some r) {X' : Nat → Option Op} (hX : ∀ u, u ≠ t → X' u = X u) {of' : Nat → Int} {mine' : Nat → List Nat} {sn' st' : Nat → Int} (e1 : ∀ u, u ≠ t → of' u = of u) (e2 : ∀ u, u ≠ t → mine' u = mine u) (e3 : ∀ u, u ≠ t → sn' u = sn u) (e4 : ∀ u, u ≠ t → st' u = st u) (ht : ∀ r', X' t = some r' → Xo (of' t) (mine' t) (sn' t) (st' t) t r') : ∀ u r', X' u = some r' → Xo (of' u) (mine' u) (sn' u) (st' u) u r' := fun u r' hu => by
  by_cases e : u = t
  · subst e; exact ht r' hu
  · rw [hX u e] at hu
    rw [e1 u e, e2 u e, e3 u e, e4 u e]
    exact h.xo u r' hu
theorem RM.sb_set (h : RM K S X stk sw B of mine sn st) (t : Nat) (v : Int) (h0 : 0 ≤ v) (h1 : v ≤ (B + 1 : Nat)) : ∀ u, u < 6 → 0 ≤ set st t v u ∧ set st t v u ≤ (B + 1 : Nat) := fun u hu => by
  by_cases e : u = t
  · subst e; rw [set_same]; exact ⟨h0, h1⟩
  · rw [set_other e]; have := h.sb u hu; omega
/-- the head is loaded by an operation that takes -/
theorem RM.t4 (h : RM K S X stk sw B of mine sn st) (hx : X t = some r) (h0 : r.tw = 0) (hp : r.pc = 4) :
    (step (pP K.g) S r).1.gn = S.gn ∧ (step (pP K.g) S r).2.tw = 0 ∧
    (stk r.h = [] → (step (pP K.g) S r).2.pc = 0 ∧ (step (pP K.g) S r).2.e = 6 ∧ RM K (step (pP K.g) S r).1 (del X t) stk sw (B + 1) of mine (set sn t (sw r.h)) (set st t 1)) ∧
    (stk r.h ≠ [] → (step (pP K.g) S r).2.pc ≠ 0 ∧ RM K (step (pP K.g) S r).1 (upd X t (step (pP K.g) S r).2) stk sw (B + 1) of mine (set sn t (sw r.h)) (set st t 1)) := by
  have hxo := h.xo t r hx
  obtain ⟨a1, a2, a3⟩ := h.al.al.step4 hx hp
  obtain ⟨b1, b2⟩ := a3 h0
  have hd0 := (h.al.fl t r hx).2.1
  have al1 := h.al.next hx h.bw (a1.more (Nat.le_succ _))
  have bw1 := step_bw (pP K.g) r h.bw (by omega)
  obtain ⟨s1, s2, s3, s4⟩ := step_same (pP K.g) S r
  have tk1 : (step (pP K.g) S r).1.tk = S.tk := by unfold step; rw [if_pos hp]
  have gn1 : (step (pP K.g) S r).1.gn = S.gn := by unfold step; rw [if_pos hp]
  have hn := h.al.al.i.head_le hxo.t6 |> fun _ => h.al.al.i.head_le (h.al.al.o t r hx).h6
  have n1 := h.al.al.i.n1
  have hsn : ((sw r.h : Nat) : Int) = (step (pP K.g) S r).2.hd / 65536 := by rw [a2.1, wd_div (by omega)]
  have mi1 : ∀ t, t < 6 → ∀ m, m ∈ mine t → 1 ≤ m ∧ m ≤ tot K.g.t 6 ∧ (step (pP K.g) S r).1.tk m = true := by rw [tk1]; exact h.mi
  refine ⟨gn1, by rw [s3, h0], fun he => ?_, fun he => ?_⟩
  · have hz := b1.2 he
    refine ⟨hz, b2 he, ⟨?_, bw1, ?_, mi1, h.nd, h.dj, h.sb_set t 1 (by omega) (by omega)⟩⟩
    · have := al1.al.drop (upd_same ..) hz
      refine ⟨?_, al1.pp, al1.lg, al1.gn, fun i u hi => ?_⟩
      · rw [← del_upd X t (step (pP K.g) S r).2]; exact this
      · by_cases e : i = t
        · subst e; rw [del_same] at hi; cases hi
        · rw [del_other e] at hi; exact al1.fl i u (by rw [upd_other e]; exact hi)
    · exact h.others hx (fun u hu => del_other hu) (fun _ _ => rfl) (fun _ _ => rfl) (fun u hu => set_other hu) (fun u hu => set_other hu) fun r' hr => by rw [del_same] at hr; cases hr
  · have hz : (step (pP K.g) S r).2.pc ≠ 0 := fun e => he (b1.1 e)
    have hpc : (step (pP K.g) S r).2.pc = 5 := by
      unfold step at hz ⊢
      rw [if_pos hp] at hz ⊢
      simp only [if_neg (show ¬ 0 < r.tw by omega)] at hz ⊢
      split at hz
      · exact absurd rfl hz
      · rename_i q; rw [if_neg q]
    have he0 : (step (pP K.g) S r).2.e = 0 := by
      unfold step at hz ⊢
      rw [if_pos hp] at hz ⊢
      simp only [if_neg (show ¬ 0 < r.tw by omega)] at hz ⊢
      split at hz
      · exact absurd rfl hz
      · rename_i q; rw [if_neg (fun z => q z.2)]; exact hxo.e
    refine ⟨hz, ⟨al1, bw1, ?_, mi1, h.nd, h.dj, h.sb_set t 1 (by omega) (by omega)⟩⟩
    refine h.others hx (fun u hu => upd_other hu) (fun _ _ => rfl) (fun _ _ => rfl) (fun u hu => set_other hu) (fun u hu => set_other hu) fun r' hr => ?_
    rw [upd_same] at hr; cases hr
    rw [set_same, set_same]
    exact ⟨hxo.t6, s1.trans hxo.th, s4.trans hxo.tr, he0, hz, by rw [s2, s3]; exact hxo.of, fun q => by rw [s3] at q; omega, fun _ => hsn, fun _ => rfl, fun q => by omega⟩
/-- the head is loaded by an operation that gives back -/
theorem RM.g4 (h : RM K S X stk sw B of mine sn st) (hx : X t = some r) (h0 : 0 < r.tw) (hp : r.pc = 4) :
    (step (pP K.g) S r).1.gn = S.gn ∧ (step (pP K.g) S r).2.tw = r.tw ∧ (step (pP K.g) S r).2.pc ≠ 0 ∧ RM K (step (pP K.g) S r).1 (upd X t (step (pP K.g) S r).2) stk sw (B + 1) of mine (set sn t (sw r.h)) (set st t 1) := by
  have hxo := h.xo t r hx
  obtain ⟨a1, a2, _⟩ := h.al.al.step4 hx hp
  have hd0 := (h.al.fl t r hx).2.1
  have al1 := h.al.next hx h.bw (a1.more (Nat.le_succ _))
  have bw1 := step_bw (pP K.g) r h.bw (by omega)
  obtain ⟨s1, s2, s3, s4⟩ := step_same (pP K.g) S r
  have tk1 : (step (pP K.g) S r).1.tk = S.tk := by unfold step; rw [if_pos hp]
  have gn1 : (step (pP K.g) S r).1.gn = S.gn := by unfold step; rw [if_pos hp]
  have hpc : (step (pP K.g) S r).2.pc = 7 := by unfold step; rw [if_pos hp]; exact if_pos h0
  have he0 : (step (pP K.g) S r).2.e = 0 := by unfold step; rw [if_pos hp]; show (if r.tw = 0 ∧ _ then 6 else r.e) = 0; rw [if_neg (fun q => by omega)]; exact hxo.e
  have hn := h.al.al.i.head_le (h.al.al.o t r hx).h6
  have n1 := h.al.al.i.n1
  have hsn : ((sw r.h : Nat) : Int) = (step (pP K.g) S r).2.hd / 65536 := by rw [a2.1, wd_div (by omega)]
  refine ⟨gn1, s3, by omega, ⟨al1, bw1, ?_, by rw [tk1]; exact h.mi, h.nd, h.dj, h.sb_set t 1 (by omega) (by omega)⟩⟩
  refine h.others hx (fun u hu => upd_other hu) (fun _ _ => rfl) (fun _ _ => rfl) (fun u hu => set_other hu) (fun u hu => set_other hu) fun r' hr => ?_
  rw [upd_same] at hr; cases hr
  rw [set_same, set_same]
  exact ⟨hxo.t6, s1.trans hxo.th, s4.trans hxo.tr, he0, by omega, by rw [s2, s3]; exact hxo.of, by rw [s3]; exact hxo.mn, fun _ => hsn, fun _ => rfl, fun q => by omega⟩
/-- a link is loaded, or stored -/
theorem RM.mid (h : RM K S X stk sw B of mine sn st) (hx : X t = some r) (hp : r.pc = 5 ∨ r.pc = 7) :
    (step (pP K.g) S r).1.gn = S.gn ∧ (step (pP K.g) S r).2.tw = r.tw ∧ (step (pP K.g) S r).2.pc ≠ 0 ∧ RM K (step (pP K.g) S r).1 (upd X t (step (pP K.g) S r).2) stk sw (B + 1) of mine sn (set st t (st t + 1)) := by
  have hxo := h.xo t r hx
  have hst := hxo.s1 hp
  have hd0 := (h.al.fl t r hx).2.1
  obtain ⟨s1, s2, s3, s4⟩ := step_same (pP K.g) S r
  have bw1 := step_bw (pP K.g) r h.bw (by omega)
  have tk1 : (step (pP K.g) S r).1.tk = S.tk := by unfold step; rcases hp with e | e <;> rw [e] <;> rfl
  have gn1 : (step (pP K.g) S r).1.gn = S.gn := by unfold step; rcases hp with e | e <;> rw [e] <;> rfl
  have e1 : (step (pP K.g) S r).2.e = r.e := by unfold step; rcases hp with e | e <;> rw [e] <;> rfl
  obtain ⟨a1, a2, a3⟩ : All (pP K.g) (tot K.g.t 6) (htG K.g) (step (pP K.g) S r).1 stk sw (upd X t (step (pP K.g) S r).2) B ∧ ((step (pP K.g) S r).2.pc = 6 ∨ (step (pP K.g) S r).2.pc = 8) ∧ (step (pP K.g) S r).2.hd = r.hd := by
    rcases hp with e | e
    · obtain ⟨q1, q2, q3, _⟩ := h.al.al.step5 hx e
      exact ⟨q1, .inl q2, q3⟩
    · obtain ⟨q1, q2, q3, _⟩ := h.al.al.step7 hx e
      exact ⟨q1, .inr q2, q3⟩
  have al1 := h.al.next hx h.bw (a1.more (Nat.le_succ _))
  refine ⟨gn1, s3, by omega, ⟨al1, bw1, ?_, by rw [tk1]; exact h.mi, h.nd, h.dj, h.sb_set t _ (by omega) (by have := (h.sb t hxo.t6).2; omega)⟩⟩
  refine h.others hx (fun u hu => upd_other hu) (fun _ _ => rfl) (fun _ _ => rfl) (fun _ _ => rfl) (fun u hu => set_other hu) fun r' hr => ?_
  rw [upd_same] at hr; cases hr
  rw [set_same]
  exact ⟨hxo.t6, s1.trans hxo.th, s4.trans hxo.tr, e1.trans hxo.e, by omega, by rw [s2, s3]; exact hxo.of, by rw [s3]; exact hxo.mn, fun _ => by rw [a3]; exact hxo.sn (by omega), fun q => by omega, fun _ => by omega⟩
/-- the taking swap -/
theorem RM.t6 (h : RM K S X stk sw B of mine sn st) (hx : X t = some r) (hp : r.pc = 6) (hB : B ≤ 100000) :
    st t + 1 = 3 ∧ (step (pP K.g) S r).1.gn = S.gn ∧ (step (pP K.g) S r).2.tw = 0 ∧
    (sn t = sw r.h → ∃ x rest, stk r.h = x :: rest ∧ (step (pP K.g) S r).2.pc = 0 ∧ (step (pP K.g) S r).2.e = 0 ∧ (step (pP K.g) S r).2.got = ((x : Nat) : Int) ∧ RM K (step (pP K.g) S r).1 (del X t) (set stk r.h rest) (set sw r.h (sw r.h + 1)) (B + 1) of (set mine t (mine t ++ [x])) sn (set st t (st t + 1))) ∧
    (¬ sn t = sw r.h → (step (pP K.g) S r).2.pc ≠ 0 ∧ RM K (step (pP K.g) S r).1 (upd X t (step (pP K.g) S r).2) stk sw (B + 1) of mine sn (set st t (st t + 1))) := by
  have hxo := h.xo t r hx
  have hst := hxo.s2 (.inl hp)
  have hsn := hxo.sn (by omega)
  have hd0 := (h.al.fl t r hx).2.1
  have h6 := (h.al.al.o t r hx).h6
  have n1 := h.al.al.i.n1
  obtain ⟨s1, s2, s3, s4⟩ := step_same (pP K.g) S r
  have bw1 := step_bw (pP K.g) r h.bw (by omega)
  obtain ⟨s, x, hs, a1, a2⟩ := h.al.al.step6 hx hp hB
  have h0 : r.tw = 0 := by
    rcases (h.al.al.o t r hx).p with e | e | ⟨e, _⟩ | ⟨_, e, _⟩ | ⟨e, _⟩ | ⟨e, _⟩
    · omega
    · omega
    · omega
    · exact e
    · omega
    · omega
  have gn1 : (step (pP K.g) S r).1.gn = S.gn := by unfold step; rw [hp]; simp only [if_neg (show ¬ 6 = 4 by omega), if_neg (show ¬ 6 = 5 by omega), if_neg (show ¬ 6 = 7 by omega), if_pos]; split <;> rfl
  have hsd : r.hd / 65536 = (s : Int) := by rw [hs.1, wd_div (by have := hs.2.1; omega)]
  have hiff : sn t = sw r.h ↔ s = sw r.h := by rw [hsn, hsd]; omega
  refine ⟨by omega, gn1, by rw [s3, h0], fun he => ?_, fun he => ?_⟩
  · obtain ⟨⟨rest, q1, q2⟩, q3, q4, q5, q6, q7, q8, q9⟩ := a1 (hiff.1 he)
    have al1 := h.al.next hx h.bw q2
    have hz := q3
    have hdr := al1.al.drop (upd_same ..) hz
    have hxin : x ∈ stk r.h := by rw [q1]; exact List.mem_cons_self ..
    obtain ⟨x1, x2, x3⟩ := h.al.al.i.mem r.h h6 x hxin
    have hxt : S.tk x = false := by
      cases e : S.tk x with
      | false => rfl
      | true => exact absurd hxin (by have := ((h.al.al.i.tk x x1 x2).2).1 e; rw [x3] at this; exact this)
    have hno : ∀ u, u < 6 → x ∉ mine u := fun u hu hm => by have := (h.mi u hu x hm).2.2; rw [hxt] at this; cases this
    have tk1 : (step (pP K.g) S r).1.tk = set S.tk x true := q7
    refine ⟨x, rest, q1, hz, ?_, q4, ⟨?_, bw1, ?_, fun u hu m hm => ?_, fun u hu => ?_, fun u v hu hv m hm hn => ?_, h.sb_set t _ (by omega) (by have := (h.sb t hxo.t6).2; omega)⟩⟩
    · exact q5.trans hxo.e
    · refine ⟨?_, al1.pp, al1.lg, al1.gn, fun i u hi => ?_⟩
      · rw [← del_upd X t (step (pP K.g) S r).2]; exact hdr
      · by_cases e : i = t
        · subst e; rw [del_same] at hi; cases hi
        · rw [del_other e] at hi; exact al1.fl i u (by rw [upd_other e]; exact hi)
    · exact h.others hx (fun u hu => del_other hu) (fun _ _ => rfl) (fun u hu => set_other hu) (fun _ _ => rfl) (fun u hu => set_other hu) fun r' hr => by rw [del_same] at hr; cases hr
    · rw [tk1]
      by_cases e : u = t
      · subst e
        rw [set_same, List.mem_append, List.mem_singleton] at hm
        rcases hm with hm | rfl
        · obtain ⟨z1, z2, z3⟩ := h.mi u hu m hm
          refine ⟨z1, z2, ?_⟩
          by_cases e2 : m = x
          · rw [e2, set_same]
          · rw [set_other e2]; exact z3
        · exact ⟨x1, x2, set_same ..⟩
      · rw [set_other e] at hm
        obtain ⟨z1, z2, z3⟩ := h.mi u hu m hm
        refine ⟨z1, z2, ?_⟩
        by_cases e2 : m = x
        · rw [e2, set_same]
        · rw [set_other e2]; exact z3
    · by_cases e : u = t
      · subst e
        rw [set_same, List.nodup_append]
        exact ⟨h.nd u hu, by simp, fun m hm y hy => by simp at hy; subst hy; exact fun e2 => hno u hu (e2 ▸ hm)⟩
      · rw [set_other e]; exact h.nd u hu
    · have key : ∀ z, z < 6 → m ∈ set mine t (mine t ++ [x]) z → m ∈ mine z ∨ (z = t ∧ m = x) := fun z hz hm => by
        by_cases e : z = t
        · subst e
          rw [set_same, List.mem_append, List.mem_singleton] at hm
          rcases hm with hm | hm
          · exact .inl hm
          · exact .inr ⟨rfl, hm⟩
        · rw [set_other e] at hm; exact .inl hm
      rcases key u hu hm with q | ⟨q, q'⟩
      · rcases key v hv hn with p | ⟨p, p'⟩
        · exact h.dj u v hu hv m q p
        · rw [p'] at q; exact absurd q (hno u hu)
      · rcases key v hv hn with p | ⟨p, p'⟩
        · rw [q'] at p; exact absurd p (hno v hv)
        · rw [q, p]
  · obtain ⟨q1, q2, q3, q4, q5⟩ := a2 (fun e => he (hiff.2 e))
    have al1 := h.al.next hx h.bw (q1.more (Nat.le_succ _))
    have hpc : (step (pP K.g) S r).2.pc = 4 := by rw [q2, if_neg (by rw [hxo.tr]; omega)]
    have he0 : (step (pP K.g) S r).2.e = 0 := by
      unfold step
      rw [hp]
      simp only [if_neg (show ¬ 6 = 4 by omega), if_neg (show ¬ 6 = 5 by omega), if_neg (show ¬ 6 = 7 by omega), if_pos]
      split
      · exact hxo.e
      · show (if r.fl + 1 = r.tr then (11 : Int) else r.e) = 0
        rw [if_neg (by rw [hxo.tr]; omega)]; exact hxo.e
    refine ⟨by omega, ⟨al1, bw1, ?_, by rw [q3]; exact h.mi, h.nd, h.dj, h.sb_set t _ (by omega) (by have := (h.sb t hxo.t6).2; omega)⟩⟩
    refine h.others hx (fun u hu => upd_other hu) (fun _ _ => rfl) (fun _ _ => rfl) (fun _ _ => rfl) (fun u hu => set_other hu) fun r' hr => ?_
    rw [upd_same] at hr; cases hr
    rw [set_same]
    exact ⟨hxo.t6, s1.trans hxo.th, s4.trans hxo.tr, he0, by omega, by rw [s2, s3]; exact hxo.of, fun q => by rw [s3] at q; omega, fun q => absurd hpc q, fun q => by omega, fun q => by omega⟩
/-- the giving swap -/
theorem RM.g8 (h : RM K S X stk sw B of mine sn st) (hx : X t = some r) (hp : r.pc = 8) (hB : B ≤ 100000) :
    st t + 1 = 3 ∧ (step (pP K.g) S r).2.tw = r.tw ∧ 0 < r.tw ∧
    (sn t = sw r.h → ∃ rest, mine t = r.tw :: rest ∧ (step (pP K.g) S r).2.pc = 0 ∧ (step (pP K.g) S r).1.gn = set S.gn r.tw (S.gn r.tw + 1) ∧ RM K (step (pP K.g) S r).1 (del X t) (set stk r.h (r.tw :: stk r.h)) (set sw r.h (sw r.h + 1)) (B + 1) of (set mine t rest) sn (set st t (st t + 1))) ∧
    (¬ sn t = sw r.h → (step (pP K.g) S r).2.pc ≠ 0 ∧ (step (pP K.g) S r).1.gn = S.gn ∧ RM K (step (pP K.g) S r).1 (upd X t (step (pP K.g) S r).2) stk sw (B + 1) of mine sn (set st t (st t + 1))) := by
  have hxo := h.xo t r hx
  have hst := hxo.s2 (.inr hp)
  have hsn := hxo.sn (by omega)
  have hd0 := (h.al.fl t r hx).2.1
  have n1 := h.al.al.i.n1
  obtain ⟨s1, s2, s3, s4⟩ := step_same (pP K.g) S r
  have bw1 := step_bw (pP K.g) r h.bw (by omega)
  obtain ⟨s, x, hs, h0, a1, a2⟩ := h.al.al.step8 hx hp hB
  have hsd : r.hd / 65536 = (s : Int) := by rw [hs.1, wd_div (by have := hs.2.1; omega)]
  have hiff : sn t = sw r.h ↔ s = sw r.h := by rw [hsn, hsd]; omega
  refine ⟨by omega, s3, h0, fun he => ?_, fun he => ?_⟩
  · obtain ⟨q2, q3, q4, q5, q6⟩ := a1 (hiff.1 he)
    obtain ⟨rest, hm⟩ := hxo.mn h0
    have al1 := h.al.next hx h.bw q2
    have hdr := al1.al.drop (upd_same ..) q3
    have hnd := h.nd t hxo.t6
    rw [hm] at hnd
    have hnr := (List.nodup_cons.1 hnd).1
    have sub : ∀ u m, m ∈ set mine t rest u → m ∈ mine u ∧ (u = t → m ≠ r.tw) := fun u m hmm => by
      by_cases e : u = t
      · subst e
        rw [set_same] at hmm
        exact ⟨by rw [hm]; exact List.mem_cons_of_mem _ hmm, fun _ e2 => hnr (e2 ▸ hmm)⟩
      · rw [set_other e] at hmm; exact ⟨hmm, fun q => absurd q e⟩
    refine ⟨rest, hm, q3, q6, ⟨?_, bw1, ?_, fun u hu m hmm => ?_, fun u hu => ?_, fun u v hu hv m hmm hn => h.dj u v hu hv m (sub u m hmm).1 (sub v m hn).1, h.sb_set t _ (by omega) (by have := (h.sb t hxo.t6).2; omega)⟩⟩
    · refine ⟨?_, al1.pp, al1.lg, al1.gn, fun i u hi => ?_⟩
      · rw [← del_upd X t (step (pP K.g) S r).2]; exact hdr
      · by_cases e : i = t
        · subst e; rw [del_same] at hi; cases hi
        · rw [del_other e] at hi; exact al1.fl i u (by rw [upd_other e]; exact hi)
    · exact h.others hx (fun u hu => del_other hu) (fun _ _ => rfl) (fun u hu => set_other hu) (fun _ _ => rfl) (fun u hu => set_other hu) fun r' hr => by rw [del_same] at hr; cases hr
    · obtain ⟨k1, k2⟩ := sub u m hmm
      obtain ⟨z1, z2, z3⟩ := h.mi u hu m k1
      refine ⟨z1, z2, ?_⟩
      rw [q4]
      have e2 : m ≠ r.tw := fun e2 => by
        by_cases e : u = t
        · exact k2 e e2
        · exact e (h.dj u t hu hxo.t6 m k1 (by rw [hm, e2]; exact List.mem_cons_self ..))
      rw [set_other e2]; exact z3
    · by_cases e : u = t
      · subst e; rw [set_same]; exact (List.nodup_cons.1 hnd).2
      · rw [set_other e]; exact h.nd u hu
  · obtain ⟨q1, q2, q3, q4, q5⟩ := a2 (fun e => he (hiff.2 e))
    have al1 := h.al.next hx h.bw (q1.more (Nat.le_succ _))
    have he0 : (step (pP K.g) S r).2.e = 0 := by
      unfold step
      rw [hp]
      simp only [if_neg (show ¬ 8 = 4 by omega), if_neg (show ¬ 8 = 5 by omega), if_neg (show ¬ 8 = 7 by omega), if_neg (show ¬ 8 = 6 by omega), if_pos]
      split <;> exact hxo.e
    refine ⟨by omega, q5, ⟨al1, bw1, ?_, by rw [q3]; exact h.mi, h.nd, h.dj, h.sb_set t _ (by omega) (by have := (h.sb t hxo.t6).2; omega)⟩⟩
    refine h.others hx (fun u hu => upd_other hu) (fun _ _ => rfl) (fun _ _ => rfl) (fun _ _ => rfl) (fun u hu => set_other hu) fun r' hr => ?_
    rw [upd_same] at hr; cases hr
    rw [set_same]
    exact ⟨hxo.t6, s1.trans hxo.th, s4.trans hxo.tr, he0, by omega, by rw [s2, s3]; exact hxo.of, by rw [s3]; exact hxo.mn, fun q => absurd q2 q, fun q => by omega, fun q => by omega⟩
/-- an operation that takes begins -/
theorem RM.newT (h : RM K S X stk sw B of mine sn st) (hx : X t = none) (ht : t < 6) {b : Nat} (hb : b < 6) : RM K S (upd X t ⟨t, b, 0, 0, 4, 0, 0, 0, 0, 0⟩) stk sw B (set of t ((b + 1 : Nat) : Int)) mine sn st := by
  refine ⟨⟨h.al.al.take hx hb (by show t < 64; omega) rfl rfl, h.al.pp, h.al.lg, h.al.gn, fun i u hi => ?_⟩, h.bw, fun u r hr => ?_, h.mi, h.nd, h.dj, h.sb⟩
  · by_cases e : i = t
    · subst e; rw [upd_same] at hi; cases hi; exact ⟨Nat.zero_le _, by constructor <;> simp⟩
    · rw [upd_other e] at hi; exact h.al.fl i u hi
  · by_cases e : u = t
    · subst e
      rw [upd_same] at hr; cases hr
      rw [set_same]
      exact ⟨ht, rfl, rfl, rfl, by simp, rfl, fun q => absurd q (by simp), fun q => absurd rfl q, fun q => by simp at q, fun q => by simp at q⟩
    · rw [upd_other e] at hr
      rw [set_other e]; exact h.xo u r hr
/-- an operation that gives back begins: it may -/
theorem RM.may (h : RM K S X stk sw B of mine sn st) (hx : X t = none) (ht : t < 6) {m : Nat} {rest : List Nat} (hm : mine t = m :: rest) : gvE (tot K.g.t 6) S (t : Int) (m : Int) = 0 ∧ S.gv m = false := by
  obtain ⟨m1, m2, m3⟩ := h.mi t ht m (by rw [hm]; exact List.mem_cons_self ..)
  have hg : S.gv m = false := by
    cases e : S.gv m with
    | false => rfl
    | true =>
      exfalso
      obtain ⟨i, r, q1, q2, q3, q4⟩ := h.al.al.gq m e
      have hxo := h.xo i r q1
      obtain ⟨rest', hr⟩ := hxo.mn (by omega)
      have := h.dj t i ht hxo.t6 m (by rw [hm]; exact List.mem_cons_self ..) (by rw [hr, q2]; exact List.mem_cons_self ..)
      subst this
      rw [hx] at q1; cases q1
  refine ⟨?_, hg⟩
  unfold gvE
  rw [if_pos (by omega), if_pos (by omega), Int.toNat_natCast, if_pos ⟨m3, hg⟩]
theorem RM.newG (h : RM K S X stk sw B of mine sn st) (hx : X t = none) (ht : t < 6) {m : Nat} {rest : List Nat} (hm : mine t = m :: rest) : RM K ⟨S.M, S.tk, set S.gv m true, S.gn⟩ (upd X t ⟨t, htG K.g m, m, 0, 4, 0, 0, 0, 0, 0⟩) stk sw B (set of t ((m : Nat) : Int)) mine sn st := by
  obtain ⟨m1, m2, m3⟩ := h.mi t ht m (by rw [hm]; exact List.mem_cons_self ..)
  have hg := (h.may hx ht hm).2
  refine ⟨⟨h.al.al.give hx (r := ⟨t, htG K.g m, m, 0, 4, 0, 0, 0, 0, 0⟩) (by show t < 64; omega) (by show 0 < m; omega) m2 rfl m3 hg rfl, h.al.pp, h.al.lg, h.al.gn, fun i u hi => ?_⟩, h.bw, fun u r hr => ?_, h.mi, h.nd, h.dj, h.sb⟩
  · by_cases e : i = t
    · subst e; rw [upd_same] at hi; cases hi; exact ⟨Nat.zero_le _, by constructor <;> simp⟩
    · rw [upd_other e] at hi; exact h.al.fl i u hi
  · by_cases e : u = t
    · subst e
      rw [upd_same] at hr; cases hr
      rw [set_same]
      exact ⟨ht, rfl, rfl, rfl, by simp, by rw [if_neg (by show ¬ m = 0; omega)], fun _ => ⟨rest, hm⟩, fun q => absurd rfl q, fun q => by simp at q, fun q => by simp at q⟩
    · rw [upd_other e] at hr
      rw [set_other e]; exact h.xo u r hr
end
end Po
end Go.Proofs.Ytcipjjchclpgnaa
