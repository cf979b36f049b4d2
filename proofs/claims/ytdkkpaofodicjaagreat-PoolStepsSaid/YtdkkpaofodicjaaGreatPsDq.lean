/- The program's pool and the reference's side by side: an operation begins in both. Conditions: those of the contracts. · The beginning of PoolSteps: a configuration's layout and memory by the program and by the reference, the pools of both in one state. Conditions: those of each lemma. · Rows of the law's operations, of one colour. Conditions: those of each lemma. · PoolSteps: what both pools hand out is the same; index; what the loop keeps. Conditions: those of each contract. -/
import Derived.Test.YtdkkpaofodicjaaGreatPsD
import Derived.Test.YtdkkpaofodicjaaGreatLrI
import Derived.Test.YtdkkpaofodicjaaGreatLrN
import Derived.Test.YtdkkpaofodicjaaGreatPoN
import Derived.Test.YtdkkpaofodicjaaGreatPsDs
import Derived.Test.YtdkkpaofodicjaaGreatPsLz
namespace Go.Proofs.YtdkkpaofodicjaaGreat
open Go.RowKit Go.Sort
set_option linter.unusedVariables false
set_option linter.unusedSimpArgs false
set_option maxRecDepth 100000
namespace Po
open Wd
open Ly (Ge tot pP pK pW pk Cf LyAt KI)
section
variable {K : Kc} {R : Kr} {w : World} {c : Nat → Nat} {S : Pm} {X : Nat → Option Op} {a b : Nat → Nat} {stk : Nat → List Nat} {sw : Nat → Nat} {B : Nat} {i : Nat} {r : Op}
/-- a new operation that takes -/
def nT (p q d : Nat) : Op := ⟨p, q, 0, d, 4, 0, 0, 0, 0, 0⟩
/-- a new operation that gives back -/
def nG (K : Kc) (p v : Nat) : Op := ⟨p, htG K.g v, v, 0, 4, 0, 0, 0, 0, 0⟩
def gvS (S : Pm) (v : Nat) : Pm := ⟨S.M, S.tk, set S.gv v true, S.gn⟩
theorem AlB.fl2 (h : AlB K S stk sw X B) {r : Op} (h1 : r.fl = 0) (h2 : r.hd = 0) : ∀ j s, upd X i r j = some s → s.fl ≤ B ∧ HdB s := fun j s hj => by
  by_cases e : j = i
  · subst e
    rw [upd_same] at hj; cases hj
    exact ⟨by omega, by unfold HdB; omega⟩
  · rw [upd_other e] at hj
    exact h.fl j s hj
theorem AlB.tk (h : AlB K S stk sw X B) (hx : X i = none) {p q d : Nat} (hp : p < 64) (hq : q < 6) : AlB K S stk sw (upd X i (nT p q d)) B :=
  ⟨h.al.take hx hq hp rfl rfl, h.pp, h.lg, h.gn, h.fl2 rfl rfl⟩
theorem AlB.gv (h : AlB K S stk sw X B) (hx : X i = none) {p v : Nat} (hp : p < 64) (h0 : 0 < v) (h1 : v ≤ tot K.g.t 6) (ht : S.tk v = true) (hg : S.gv v = false) : AlB K (gvS S v) stk sw (upd X i (nG K p v)) B :=
  ⟨h.al.give (r := nG K p v) hx hp h0 h1 rfl ht hg rfl, h.pp, h.lg, h.gn, h.fl2 rfl rfl⟩
theorem gv_of {n : Nat} {S : Pm} {t u : Int} {v : Nat} (h : gvE n S t u = 0) (hu : u = (v : Int)) : S.tk v = true ∧ S.gv v = false := by
  unfold gvE at h
  split at h
  · split at h
    · split at h
      · next q => rw [hu, Int.toNat_natCast] at q; exact q
      · cases h
    · cases h
  · cases h
/-- between the two: the program has begun its operation -/
structure Bg (K : Kc) (R : Kr) (w : World) (c : Nat → Nat) (S S2 : Pm) (X : Nat → Option Op) (a b : Nat → Nat) (B i : Nat) (r : Op) : Prop where
  sa : SA K w c S2 (upd X i r) a
  sr : SR R w c S X b
  al : ∃ stk sw, AlB K S2 stk sw (upd X i r) B
  n : R.n = tot K.g.t 6
  pp : R.pp = pP K.g
  ht : R.ht = htG K.g
theorem Bo.takeA (h : Bo K R w c S X a b B) (hx : X i = none) (t hh m : Int) : Calls Tryz.prog 14 #[.pointer (some ⟨K.x, 0, none⟩), .int .i64 t, .int .i64 hh, .int .i64 m] w fun e w' =>
    (tkE t hh m ≠ 0 ∧ e = .returned (.tuple #[.pointer none, .int .i64 (tkE t hh m)]) ∧ w' = w) ∨
    (tkE t hh m = 0 ∧ ∃ p q d y : Nat, t = (p : Int) ∧ hh = ((q + 1 : Nat) : Int) ∧ m = (d : Int) ∧ e = .returned (.tuple #[.pointer (some ⟨y, 0, none⟩), .int .i64 0]) ∧ ∃ c', Bg K R w' c' S S X (upd2 a i y) b B i (nT p q d) ∧ Fc TB w c w' c') := by
  obtain ⟨stk, sw, hal⟩ := h.al
  refine (takeS h.sa hx t hh m).mono ?_
  rintro e w' (q | ⟨h1, p, q, d, y, q1, q2, q3, q4, q5, q6, rfl, hy, c', g1, g2, _⟩)
  · exact .inl q
  · exact .inr ⟨h1, p, q, d, y, q1, q2, q3, rfl, c', ⟨g1, h.sr.fc g2 (by unfold T4; omega), ⟨stk, sw, hal.tk hx q4 q5⟩, h.n, h.pp, h.ht⟩, g2.mono fun _ => T4_TB⟩
theorem Bg.takeR {p q d : Nat} (h : Bg K R w c S S X a b B i (nT p q d)) (hx : X i = none) {t hh m : Int} (h0 : tkE t hh m = 0) (et : t = (p : Int)) (eh : hh = ((q + 1 : Nat) : Int)) (em : m = (d : Int)) : Calls Tryz.prog 15 #[.pointer (some ⟨R.x, 0, none⟩), .int .i64 t, .int .i64 hh, .int .i64 m] w fun e w' => ∃ y, e = .returned (.tuple #[.pointer (some ⟨y, 0, none⟩), .int .i64 0]) ∧ ∃ c' b', b' i = y ∧ (∀ j, j ≠ i → b' j = b j) ∧ Bo K R w' c' S (upd X i (nT p q d)) a b' B ∧ Fc TB w c w' c' := by
  refine (takeRS h.sr hx t hh m).mono ?_
  rintro e w' (⟨q1, _⟩ | ⟨_, p', q', d', r1, r2, r3, _, _, _, rfl, c', g1, g2⟩)
  · exact absurd h0 q1
  · obtain rfl : p' = p := by omega
    obtain rfl : q' = q := by omega
    obtain rfl : d' = d := by omega
    exact ⟨_, rfl, c', (fun j => if j = i then w.heap.size else b j), if_pos rfl, fun j hj => if_neg hj, ⟨h.sa.fcO g2 (by unfold TR; omega), g1, h.al, h.n, h.pp, h.ht⟩, g2.mono fun _ => TR_TB⟩
theorem Bo.giveA (h : Bo K R w c S X a b B) (hx : X i = none) (t u : Int) : Calls Tryz.prog 16 #[.pointer (some ⟨K.x, 0, none⟩), .int .i64 t, .int .i64 u] w fun e w' =>
    (gvE (tot K.g.t 6) S t u ≠ 0 ∧ e = .returned (.tuple #[.pointer none, .int .i64 (gvE (tot K.g.t 6) S t u)]) ∧ w' = w) ∨
    (gvE (tot K.g.t 6) S t u = 0 ∧ ∃ p v y : Nat, t = (p : Int) ∧ u = (v : Int) ∧ e = .returned (.tuple #[.pointer (some ⟨y, 0, none⟩), .int .i64 0]) ∧ ∃ c', Bg K R w' c' S (gvS S v) X (upd2 a i y) b B i (nG K p v) ∧ Fc TB w c w' c') := by
  obtain ⟨stk, sw, hal⟩ := h.al
  refine (giveS h.sa hx t u).mono ?_
  rintro e w' (q | ⟨h1, p, k, y, q1, q2, q3, q4, rfl, hy, c', g1, g2⟩)
  · exact .inl q
  · obtain ⟨z1, z2⟩ := gv_of h1 q2
    exact .inr ⟨h1, p, k + 1, y, q1, q2, rfl, c', ⟨g1, h.sr.fc g2 (by unfold T4; omega), ⟨stk, sw, hal.gv hx q3 (Nat.succ_pos _) q4 z1 z2⟩, h.n, h.pp, h.ht⟩, g2.mono fun _ => T4_TB⟩
theorem Bg.giveR {p v : Nat} (h : Bg K R w c S (gvS S v) X a b B i (nG K p v)) (hx : X i = none) {t u : Int} (h0 : gvE (tot K.g.t 6) S t u = 0) (et : t = (p : Int)) (eu : u = (v : Int)) : Calls Tryz.prog 17 #[.pointer (some ⟨R.x, 0, none⟩), .int .i64 t, .int .i64 u] w fun e w' => ∃ y, e = .returned (.tuple #[.pointer (some ⟨y, 0, none⟩), .int .i64 0]) ∧ ∃ c' b', b' i = y ∧ (∀ j, j ≠ i → b' j = b j) ∧ Bo K R w' c' (gvS S v) (upd X i (nG K p v)) a b' B ∧ Fc TB w c w' c' := by
  refine (giveRS h.sr hx (by rw [h.n]; exact h.sa.ok.tt) t u).mono ?_
  rw [h.n]
  rintro e w' (⟨q1, _⟩ | ⟨_, p', v', r1, r2, _, _, _, rfl, c', g1, g2⟩)
  · exact absurd h0 q1
  · obtain rfl : p' = p := by omega
    obtain rfl : v' = v := by omega
    rw [h.ht] at g1
    exact ⟨_, rfl, c', (fun j => if j = i then w.heap.size else b j), if_pos rfl, fun j hj => if_neg hj, ⟨h.sa.fcO g2 (by unfold TR; omega), g1, h.al, h.n, h.pp, h.ht⟩, g2.mono fun _ => TR_TB⟩
end
end Po
end Go.Proofs.YtdkkpaofodicjaaGreat
namespace Go.Proofs.YtdkkpaofodicjaaGreat
open Go.RowKit Go.Sort
set_option linter.unusedVariables false
set_option linter.unusedSimpArgs false
set_option maxRecDepth 100000
namespace Po
open Wd
open Ly (Ge tot pP pK pW pk Cf LyAt KI RAt hL)
open Dm (addr_lit info_parts spot_none RdK flatU infoU bel_alloc bel_trans own_keep below_drewN)
/-- leapfrogref09.New -/
theorem newLR {t : Nat → Int} (h : FewT t) (w : World) : Calls Tryz.prog 7 #[cfgV (cf0 t)] w fun e w' => ∃ b, e = .returned (.tuple #[.pointer (some ⟨b, 0, none⟩), .int .i64 0]) ∧ RAt w' b (g0 t) ∧ Below w.heap.size w w' := by
  refine (Ly.newR_any (cf0 t) [] w (cf0_bd (few_i64 h)) (fun k hk => (by simp at hk))).mono ?_
  rintro e w' hp
  unfold Ly.NewRPost at hp
  rw [if_pos (few_ok h)] at hp
  obtain ⟨b, rfl, _, hr, hb⟩ := hp
  exact ⟨b, rfl, hr, hb⟩
/-- leapfrogref08.New of a layout's words -/
theorem newMR {g : Ge} (ok : g.ok) (h0 : 0 < pW g) (h1 : pW g ≤ 65536) {w : World} {b : Nat} {base : Nat} (hr : w.ownsRow base 101 1 (.slice (some ⟨b, 0, none⟩) (pW g) (pW g)) (pW g) ((Ly.ini g).map (Value.int .u64))) : Calls Tryz.prog 10 #[.slice (some ⟨b, 0, none⟩) (pW g) (pW g)] w fun e w' => ∃ bm p, e = .returned (.tuple #[.pointer (some ⟨bm, 0, none⟩), .int .i64 0]) ∧ At 101 w' bm p none ⟨Ly.ini g, []⟩ ∧ w.heap.size ≤ bm ∧ w.heap.size ≤ p ∧ Below w.heap.size w w' := by
  have hl := Ly.ini_len g
  have hr2 : RdK .u64 w (some ⟨b, 0, none⟩) (Ly.ini g) := fun k hk => by
    refine ⟨b, 0, rfl, ?_⟩
    rw [Nat.zero_add, hr.cellAt k (by omega)]
    rw [List.getElem?_map, List.getD_eq_getElem?_getD, List.getElem?_eq_getElem hk]
    rfl
  refine (Wd.newR_any (some ⟨b, 0, none⟩) (pW g) (pW g) (Ly.ini g) w hl (by unfold maxLen; omega) hr2 (fun e => by cases e) (ini_bd g ok)).mono ?_
  rintro e w' (⟨h, _⟩ | ⟨_, bm, p, rfl, ha, hbm, hp, hb⟩)
  · exact absurd (by rw [hl]; unfold newE; rw [if_neg (by omega), if_neg (by omega)]) h
  · exact ⟨bm, p, rfl, ha, hbm, hp, hb⟩
/-- what the reference's pool reads of its layout -/
theorem rat_pl {w : World} {b : Nat} {g : Ge} (h : RAt w b g) : PL w b ((pP g : Nat) : Int) ((pP g + 6 : Nat) : Int) := by
  have h5 := h.pl 5 (by omega)
  have h6 := h.pl 6 (by omega)
  rw [show Ly.plN g 5 = pP g from rfl] at h5
  rw [show Ly.plN g 6 = pK g from rfl, pK_pP] at h6
  exact ⟨h5, h6⟩
theorem rat_hr {w : World} {b : Nat} {g : Ge} (h : RAt w b g) (h0 : 0 < tot g.t 6) : ∃ hb ho, HR w b hb ho (tot g.t 6) (htG g) ∧ hb < w.heap.size := by
  obtain ⟨A, k, h1, h2⟩ := h.hr
  obtain ⟨j0, _, _, _, q0⟩ := Ly.hL_at g.t 6 0 h0
  obtain ⟨hb, ho, rfl, a0⟩ := h2 0 _ q0
  refine ⟨hb, ho, ⟨⟨k, h1⟩, fun t t1 t2 => ?_⟩, a0.lt⟩
  obtain ⟨j, j1, j2, j3, q⟩ := Ly.hL_at g.t 6 (t - 1) (by omega)
  obtain ⟨b', o', e, a⟩ := h2 _ _ q
  injection e with e
  injection e with e1 e2
  subst e1 e2
  have hh := ht_of g j1 j2 j3
  rw [show t - 1 + 1 = t by omega] at hh
  rw [hh]
  have := a 0 (.int .i64 ((j + 1 : Nat) : Int)) rfl
  rw [show KI.sz = 1 from rfl] at this
  rw [show ho + (t - 1) * 1 + 0 = ho + (t - 1) by omega] at this
  exact this
theorem Bo.made {w2 w4 w6 w7 w8 : World} {bl bz bm p bw pw ta x ta2 ga na : Nat} {f : Cf} {l : List Int} {g : Ge} (ok : g.ok) (hpp : pP g ≤ 1000000) (hl : LyAt w2 bl f l g) (hr : RAt w2 bz g)
    (b24 : Below w2.heap.size w2 w4) (hm : At 106 w4 bm p none ⟨Ly.ini g, []⟩) (h1 : w2.heap.size ≤ bm) (h2 : w2.heap.size ≤ p)
    (b46 : Below w4.heap.size w4 w6) (hw : At 101 w6 bw pw none ⟨Ly.ini g, []⟩) (h3 : w4.heap.size ≤ bw) (h4 : w4.heap.size ≤ pw)
    (b67 : Below w6.heap.size w6 w7) (hp : PA w7 (ta + 1) bm bl ta (tot g.t 6) (pm0 ⟨Ly.ini g, []⟩)) (h5 : w6.heap.size ≤ ta)
    (b78 : Below w7.heap.size w7 w8) (hq : PR w8 x bw bz ta2 ga na (tot g.t 6) (pm0 ⟨Ly.ini g, []⟩)) (h6 : w7.heap.size ≤ x) (h7 : w7.heap.size ≤ ta2) (h8 : w7.heap.size ≤ ga) (h9 : w7.heap.size ≤ na) :
    ∃ c hb ho, Bo ⟨ta + 1, bm, bl, ta, f, l, g⟩ ⟨x, bw, bz, ta2, ga, na, hb, ho, tot g.t 6, pP g, htG g⟩ w8 c (pm0 ⟨Ly.ini g, []⟩) (fun _ => none) (fun _ => 0) (fun _ => 0) 0 ∧ ∀ i, i < w2.heap.size → c i = 0 := by
  have lb : bm < w4.heap.size := hm.lt bm (.inl rfl)
  have lp : p < w4.heap.size := hm.lt p (.inr (.inl rfl))
  have lbw : bw < w6.heap.size := hw.lt bw (.inl rfl)
  have lpw : pw < w6.heap.size := hw.lt pw (.inr (.inl rfl))
  have lta := hp.xlt
  have s24 := b24.size
  have s46 := b46.size
  have s67 := b67.size
  have s78 := b78.size
  have d4 := hq.d4
  have d5 := hq.d5
  have d6 := hq.d6
  obtain ⟨c, hc⟩ : ∃ c : Nat → Nat, c = fun i => if i < w2.heap.size then 0 else if i = bm ∨ i = p then 1 else if i = bw ∨ i = pw then 2 else if i = ta then 5 else if i = x then 8 else if i = ta2 ∨ i = ga ∨ i = na then 6 else 7 := ⟨_, rfl⟩
  have c0 : ∀ i, i < w2.heap.size → c i = 0 := fun i hi => by rw [hc]; exact if_pos hi
  have c1 : ∀ i, w2.heap.size ≤ i → (i = bm ∨ i = p) → c i = 1 := fun i hi e => by rw [hc]; show (if _ then _ else _) = _; rw [if_neg (by omega), if_pos e]
  have c2 : ∀ i, (i = bw ∨ i = pw) → c i = 2 := fun i e => by rw [hc]; show (if _ then _ else _) = _; rw [if_neg (by omega), if_neg (by omega), if_pos e]
  have c5 : c ta = 5 := by rw [hc]; show (if _ then _ else _) = _; rw [if_neg (by omega), if_neg (by omega), if_neg (by omega), if_pos rfl]
  have c7 : c (ta + 1) = 7 := by rw [hc]; show (if _ then _ else _) = _; rw [if_neg (by omega), if_neg (by omega), if_neg (by omega), if_neg (by omega), if_neg (by omega), if_neg (by omega)]
  have c8 : c x = 8 := by rw [hc]; show (if _ then _ else _) = _; rw [if_neg (by omega), if_neg (by omega), if_neg (by omega), if_neg (by omega), if_pos rfl]
  have c6 : ∀ i, (i = ta2 ∨ i = ga ∨ i = na) → c i = 6 := fun i e => by rw [hc]; show (if _ then _ else _) = _; rw [if_neg (by omega), if_neg (by omega), if_neg (by omega), if_neg (by omega), if_neg (by omega), if_pos e]
  have b28 : Below w2.heap.size w2 w8 := b24.trans ((b46.trans ((b67.trans (b78.mono s67)).mono s46)).mono s24)
  have b48 : Below w4.heap.size w4 w8 := b46.trans ((b67.trans (b78.mono s67)).mono s46)
  have b68 : Below w6.heap.size w6 w8 := b67.trans (b78.mono s67)
  have hr8 := hr.below b28
  obtain ⟨hb, ho, hh⟩ : ∃ hb ho, 0 < tot g.t 6 → HR w8 bz hb ho (tot g.t 6) (htG g) ∧ c hb = 0 ∧ hb < w8.heap.size := by
    by_cases h0 : 0 < tot g.t 6
    · obtain ⟨hb, ho, q1, q2⟩ := rat_hr hr h0
      refine ⟨hb, ho, fun _ => ⟨q1.keep (b28.block _ hr.lt) (b28.block _ q2), c0 _ q2, by have := b28.size; omega⟩⟩
    · exact ⟨0, 0, fun h => absurd h h0⟩
  refine ⟨c, hb, ho, ⟨⟨⟨p, none, hm.below b48, fun i hi => ?_⟩, hp.below b78, c5, c7, ⟨w2, hl, b28, c0⟩, ok, fun i r h => (by cases h), fun i j r s h => (by cases h)⟩, ⟨⟨pw, none, hw.below b68, fun i hi => ?_⟩, hq, c8, c6 _ (.inl rfl), c6 _ (.inr (.inl rfl)), c6 _ (.inr (.inr rfl)), rat_pl hr8, c0 _ hr.lt, hh, fun i r h => (by cases h), fun i j r s h => (by cases h)⟩, ⟨stk0 g, fun _ => 0, AlB.made ok hpp⟩, rfl, rfl, rfl⟩, c0⟩
  · rcases hi with e | e | e
    · have e' : i = bm := e
      exact c1 i (by omega) (.inl e')
    · have e' : i = p := e
      exact c1 i (by omega) (.inr e')
    · cases e
  · rcases hi with e | e | e
    · exact c2 i (.inl e)
    · exact c2 i (.inr e)
    · cases e
end Po
end Go.Proofs.YtdkkpaofodicjaaGreat
namespace Go.Proofs.YtdkkpaofodicjaaGreat
open Go.RowKit Go.Sort
set_option linter.unusedVariables false
set_option linter.unusedSimpArgs false
set_option maxRecDepth 100000
namespace Po
open Wd
open Ly (Kd)
/-- a row of the call's own, of the colour k -/
structure Rk {α : Type} (K : Kd α) (w : World) (c : Nat → Nat) (k : Nat) (v : Value) (l : List α) : Prop where
  own : w.ownsRow 0 K.E K.sz v l.length (K.flat l)
  col : ∀ g, v.ownBlock = some g → c g = k
section
variable {α : Type} {K : Kd α} {w : World} {c : Nat → Nat} {k : Nat} {v : Value} {l : List α}
theorem Rk.keep (h : Rk K w c k v l) {S : Nat → Prop} {w1 : World} {c1 : Nat → Nat} (hf : Fc S w c w1 c1) (hS : ¬ S k) : Rk K w1 c1 k v l :=
  ⟨K.own_keep h.own fun g hg => hf.keep (h.own.lt g hg).2 (by rw [h.col g hg]; exact hS), fun g hg => (hf.co g (h.own.lt g hg).2).trans (h.col g hg)⟩
theorem Rk.nil (K : Kd α) (w : World) (c : Nat → Nat) (k : Nat) : Rk K w c k (.slice none 0 0) [] := ⟨K.nil w 0, fun g hg => by cases hg⟩
theorem Rk.form (h : Rk K w c k v l) : ∃ A n, v = .slice A l.length n ∧ l.length ≤ n ∧ n ≤ maxLen ∧ K.Rd w A l ∧ (∀ (i : Nat) (x : α), l[i]? = some x → ∃ g, A = some ⟨g, 0, none⟩ ∧ c g = k) := by
  have h0 := h.own
  rcases h.own.2 with ⟨rfl, e⟩ | ⟨g, cap, cur, rfl, h1, h2, h3, h4, _⟩
  · obtain rfl : l = [] := List.eq_nil_of_length_eq_zero e
    exact ⟨none, 0, rfl, Nat.le_refl _, Nat.zero_le _, fun k x hk => (by simp at hk), fun i x hi => (by simp at hi)⟩
  · exact ⟨_, cap, rfl, h3, h4, K.row_get h0, fun i x hi => ⟨g, rfl, h.col g rfl⟩⟩
/-- 'append(a, x)' -/
theorem appK {ops : Array Oper} {rest : List Oper} {o : Oper} {a : Act} {Q : Exit → Act → World → Prop} (hgd : o.guard = none) (s x : Operand)
    (ho : o.op = .call { callee := .builtin .append, args := #[s, x], argTypes := #[K.S, K.S] }) (w : World) (c : Nat → Nat) (k g : Nat) (v : Value) (l : List α) (y : α)
    (hs : a.eval s = v) (hx : a.eval x = .slice (some ⟨g, 0, none⟩) 1 1) (hg : K.At w g 0 y) (hr : Rk K w c k v l) (n : Nat) (hln : l.length = n) (hn : n ≤ 1000)
    (h : ∀ g' cap w', Rk K w' (up c w.heap.size k) k (.slice (some ⟨g', 0, none⟩) (n + 1) cap) (l ++ [y]) → Fc (fun i => i = k) w c w' (up c w.heap.size k) → wpList Tryz.prog ops Q rest (a.put o.dst (.slice (some ⟨g', 0, none⟩) (n + 1) cap)) w') :
    wpList Tryz.prog ops Q (o :: rest) a w := by
  subst hln
  refine K.app1 hgd s x ho w 0 l.length v l y hs g hx hg hr.own (by omega) (Nat.zero_le _) ?_
  intro v' w' h1 h2
  rw [show l.length + 1 = (l ++ [y]).length by simp] at h1
  have hrw : Rk K w' (up c w.heap.size k) k v' (l ++ [y]) := ⟨h1, fun q hq => by
    rcases h2.own q hq with e | e
    · rw [up_lt (hr.own.lt q e).2]; exact hr.col q e
    · exact up_ge e⟩
  have hfc : Fc (fun i => i = k) w c w' (up c w.heap.size k) := ⟨⟨h2.os, h2.tape, h2.output, h2.size, fun i hi hn => h2.blk i hi fun e => hn (hr.col i e)⟩, fun i hi => up_lt hi⟩
  rcases h1.2 with ⟨_, e⟩ | ⟨g', cap, cur, rfl, _⟩
  · simp at e
  · rw [show (l ++ [y]).length = l.length + 1 by simp] at hrw ⊢
    exact h g' cap w' hrw hfc
end
/-- an operation as the law holds it: one that takes, or one that gives; the program's, the reference's -/
abbrev Px := Bool × Nat × Nat
def pxE : Px → List Value
  | (true, x, y) => [.pointer (some ⟨x, 0, none⟩), .pointer none, .pointer (some ⟨y, 0, none⟩)]
  | (false, x, y) => [.pointer none, .pointer (some ⟨x, 0, none⟩), .pointer (some ⟨y, 0, none⟩)]
def KO : Kd Px where
  E := 62
  S := 51
  sz := 3
  bt := 24
  enc := pxE
  len := fun x => by obtain ⟨b, x, y⟩ := x; cases b <;> rfl
  pos := by decide
  bpos := by decide
  one := fun x u hu => by obtain ⟨b, x, y⟩ := x; cases b <;> (simp [pxE] at hu; rcases hu with rfl | rfl | rfl <;> rfl)
  und := Tryz.underlying51
  info := Ly.info_parts (z := .agg #[.pointer none, .pointer none, .pointer none]) (by kernel_rfl) rfl
/-- what the law holds: the operations 0 to n - 1, of both -/
structure Lo (X : Nat → Option Op) (a b : Nat → Nat) (l : List Px) : Prop where
  r : ∀ (i : Nat) (x : Px), l[i]? = some x → ∃ r, X i = some r ∧ x = (decide (r.tw = 0), a i, b i)
  n : ∀ i, l.length ≤ i → X i = none
theorem Lo.nil (a b : Nat → Nat) : Lo (fun _ => none) a b [] := ⟨fun i x h => (by simp at h), fun _ _ => rfl⟩
/-- behind a step -/
theorem Lo.step {X : Nat → Option Op} {a b : Nat → Nat} {l : List Px} (h : Lo X a b l) {i : Nat} {r r' : Op} (hi : X i = some r) (ht : r'.tw = r.tw) : Lo (upd X i r') a b l :=
  ⟨fun j x hj => by
    obtain ⟨s, h1, h2⟩ := h.r j x hj
    by_cases e : j = i
    · subst e
      rw [hi] at h1; cases h1
      exact ⟨r', upd_same .., by rw [ht]; exact h2⟩
    · exact ⟨s, by rw [upd_other e]; exact h1, h2⟩, fun j hj => by
    have hn := h.n j hj
    by_cases e : j = i
    · subst e; rw [hi] at hn; cases hn
    · rw [upd_other e]; exact hn⟩
/-- a new one -/
theorem Lo.push {X : Nat → Option Op} {a b a' b' : Nat → Nat} {l : List Px} (h : Lo X a b l) {r : Op} (ha : ∀ j, j ≠ l.length → a' j = a j) (hb : ∀ j, j ≠ l.length → b' j = b j) : Lo (upd X l.length r) a' b' (l ++ [(decide (r.tw = 0), a' l.length, b' l.length)]) :=
  ⟨fun j x hj => by
    by_cases e : j = l.length
    · subst e
      rw [List.getElem?_append_right (Nat.le_refl _), Nat.sub_self] at hj
      simp at hj
      exact ⟨r, upd_same .., hj.symm⟩
    · have hlt : j < l.length := by
        have := (List.getElem?_eq_some_iff.1 hj).1
        rw [List.length_append, List.length_singleton] at this; omega
      rw [List.getElem?_append_left hlt] at hj
      obtain ⟨s, h1, h2⟩ := h.r j x hj
      exact ⟨s, by rw [upd_other e]; exact h1, by rw [ha j e, hb j e]; exact h2⟩, fun j hj => by
    rw [List.length_append, List.length_singleton] at hj
    rw [upd_other (by omega)]; exact h.n j (by omega)⟩
end Po
end Go.Proofs.YtdkkpaofodicjaaGreat
namespace Go.Proofs.YtdkkpaofodicjaaGreat
open Go.RowKit Go.Sort
set_option linter.unusedVariables false
set_option linter.unusedSimpArgs false
set_option maxRecDepth 100000
namespace Po
open Wd
open Ly (Ge tot pP pK pW pk Cf LyAt KI RAt)
open Dm (addr_lit info_parts spot_none RdK flatU infoU bel_alloc bel_trans own_keep below_drewN)
theorem mod_valN (i : Int) (n : Nat) (h0 : 0 < n) (h1 : n ≤ 65536) : (wrap64 (i.tmod (n : Int) + (n : Int))).tmod (n : Int) = i % (n : Int) := by
  have a1 := Int.tmod_lt_of_pos i (show (0 : Int) < n by omega)
  have a2 : -(n : Int) < i.tmod n := by
    have := Int.lt_tmod_of_pos i (show (0 : Int) < n by omega)
    omega
  rw [IntWalk.wrap64_in _ (by omega), Int.tmod_eq_emod_of_nonneg (by omega), Int.add_emod_right]
  by_cases h : 0 ≤ i
  · rw [Int.tmod_eq_emod_of_nonneg h, Int.emod_emod_of_dvd _ (Int.dvd_refl _)]
  · have e := Int.tmod_add_mul_tdiv i n
    conv => rhs; rw [← e]
    rw [Int.add_mul_emod_self_left]
theorem indexB (i : Int) (n : Nat) (h0 : 0 < n) (h1 : n ≤ 65536) : ∃ r : Nat, r < n ∧ ∀ w,
    Calls Tryz.prog 18 #[.int .i64 i, .int .i64 (n : Int)] w fun e w' => e = .returned (.int .i64 (r : Int)) ∧ w' = w := by
  have hm := mod_valN i n h0 h1
  obtain ⟨r, hr⟩ : ∃ r : Nat, i % (n : Int) = (r : Int) := ⟨(i % (n : Int)).toNat, by have := Int.emod_nonneg i (show (n : Int) ≠ 0 by omega); omega⟩
  have hlt : r < n := by have := Int.emod_lt_of_pos i (show (0 : Int) < n by omega); omega
  rw [hr] at hm
  have h2 : ((n : Int) == 0) = false := by simp; omega
  refine ⟨r, hlt, fun w => ?_⟩
  clear hr hlt
  go_enter Tryz.func18, Tryz.ntmps18
  go_wp2
  go_ret
  exact ⟨rfl, rfl⟩
section
variable {K : Kc} {R : Kr} {w : World} {c : Nat → Nat} {S : Pm} {X : Nat → Option Op} {a b : Nat → Nat} {B : Nat}
theorem Bo.more (h : Bo K R w c S X a b B) {B' : Nat} (hB : B ≤ B') : Bo K R w c S X a b B' := by
  obtain ⟨stk, sw, hal⟩ := h.al
  exact ⟨h.sa, h.sr, ⟨stk, sw, hal.more hB⟩, h.n, h.pp, h.ht⟩
theorem Bo.lg (h : Bo K R w c S X a b B) : S.M.L.length ≤ B := by
  obtain ⟨stk, sw, hal⟩ := h.al
  exact hal.lg
theorem Bo.n40 (h : Bo K R w c S X a b B) : tot K.g.t 6 ≤ 1024 := h.sa.ok.tt
/-- a row that is handed out, opened -/
theorem RwI.open {w w' : World} {l : List Int} {v : Value} (h : RwI w l v w') : ∃ A n, v = .slice A l.length n ∧ KI.Rd w' A l ∧ Below w.heap.size w w' := by
  obtain ⟨h1, h2⟩ := h
  obtain ⟨_, A, n, rfl, _, q, _⟩ := KI.row h1
  exact ⟨A, n, rfl, q, h2⟩
theorem Bo.outA (h : Bo K R w c S X a b B) : Calls Tryz.prog 21 #[.pointer (some ⟨K.x, 0, none⟩)] w fun e w' => ∃ A n, e = .returned (.slice A (outL S (tot K.g.t 6 + 1)).length n) ∧ KI.Rd w' A (outL S (tot K.g.t 6 + 1)) ∧ Below w.heap.size w w' := by
  refine (outS h.sa).mono ?_
  rintro e w' ⟨v, rfl, hr⟩
  obtain ⟨A, n, rfl, q1, q2⟩ := hr.open
  exact ⟨A, n, rfl, q1, q2⟩
theorem Bo.outB (h : Bo K R w c S X a b B) : Calls Tryz.prog 22 #[.pointer (some ⟨R.x, 0, none⟩)] w fun e w' => ∃ A n, e = .returned (.slice A (outL S (tot K.g.t 6 + 1)).length n) ∧ KI.Rd w' A (outL S (tot K.g.t 6 + 1)) ∧ Below w.heap.size w w' := by
  have hr := outR_any h.sr.p (by rw [h.n]; exact h.n40)
  rw [h.n] at hr
  refine hr.mono ?_
  rintro e w' ⟨v, rfl, hr⟩
  obtain ⟨A, n, rfl, q1, q2⟩ := hr.open
  exact ⟨A, n, rfl, q1, q2⟩
theorem Bo.gnA (h : Bo K R w c S X a b B) (t : Int) : Calls Tryz.prog 25 #[.pointer (some ⟨K.x, 0, none⟩), .int .i64 t] w fun e w' => e = .returned (.tuple #[.int .i64 (gnV (tot K.g.t 6) S t), .int .i64 (gnE (tot K.g.t 6) t)]) ∧ w' = w := genS h.sa t
theorem Bo.gnB (h : Bo K R w c S X a b B) (t : Int) : Calls Tryz.prog 26 #[.pointer (some ⟨R.x, 0, none⟩), .int .i64 t] w fun e w' => e = .returned (.tuple #[.int .i64 (gnV (tot K.g.t 6) S t), .int .i64 (gnE (tot K.g.t 6) t)]) ∧ w' = w := by
  have hr := genR_any h.sr.p t (by rw [h.n]; exact h.n40)
  rw [h.n] at hr
  exact hr
/-- what List hands out -/
def lsL (stk : Nat → List Nat) (h : Nat) : List Int := if 1 ≤ h ∧ h ≤ 6 then nums (stk (h - 1)) else []
/-- the lists of both, for the same stacks -/
theorem Bo.lists (h : Bo K R w c S X a b B) : ∃ stk : Nat → List Nat, (∀ k, (lsL stk k).length ≤ 1024) ∧
    (∀ (k : Nat) (W : World), Below w.heap.size w W → Calls Tryz.prog 23 #[.pointer (some ⟨K.x, 0, none⟩), .int .i64 (k : Int)] W fun e w' => ∃ A n, e = .returned (.tuple #[.slice A (lsL stk k).length n, .int .i64 (liE (k : Int))]) ∧ KI.Rd w' A (lsL stk k) ∧ Below W.heap.size W w') ∧
    (∀ (k : Nat) (W : World), Below w.heap.size w W → Calls Tryz.prog 24 #[.pointer (some ⟨R.x, 0, none⟩), .int .i64 (k : Int)] W fun e w' => ∃ A n, e = .returned (.tuple #[.slice A (lsL stk k).length n, .int .i64 (liE (k : Int))]) ∧ KI.Rd w' A (lsL stk k) ∧ Below W.heap.size W w') := by
  obtain ⟨stk, sw, hal⟩ := h.al
  refine ⟨stk, fun k => ?_, fun k W hb => ?_, fun k W hb => ?_⟩
  · unfold lsL
    split
    · have h1 := nodup_len (tot K.g.t 6) _ (hal.al.i.nd (k - 1) (by omega)) fun y hy => ⟨(hal.al.i.mem (k - 1) (by omega) y hy).1, (hal.al.i.mem (k - 1) (by omega) y hy).2.1⟩
      have h2 := h.n40
      simp [nums]; omega
    · exact Nat.zero_le _
  · by_cases hk : 1 ≤ k ∧ k ≤ 6
    · obtain ⟨j, rfl⟩ : ∃ j, k = j + 1 := ⟨k - 1, by omega⟩
      have e1 : lsL stk (j + 1) = nums (stk j) := if_pos hk
      have e2 : liE ((j + 1 : Nat) : Int) = 0 := if_pos (by omega)
      rw [e1, e2]
      refine (listS (h.sa.below hb) hal j (by omega)).mono ?_
      rintro e w' ⟨v, rfl, hr⟩
      obtain ⟨A, n, rfl, q1, q2⟩ := hr.open
      exact ⟨A, n, rfl, q1, q2⟩
    · have e1 : lsL stk k = [] := if_neg hk
      have e2 : liE (k : Int) = 3 := if_neg (by omega)
      rw [e1, e2]
      refine (list_bad (k : Int) W K.x (by omega)).mono ?_
      rintro e w' ⟨rfl, rfl⟩
      exact ⟨none, 0, rfl, fun i x hi => (by simp at hi), Below.refl _ _⟩
  · by_cases hk : 1 ≤ k ∧ k ≤ 6
    · obtain ⟨j, rfl⟩ : ∃ j, k = j + 1 := ⟨k - 1, by omega⟩
      have e1 : lsL stk (j + 1) = nums (stk j) := if_pos hk
      have e2 : liE ((j + 1 : Nat) : Int) = 0 := if_pos (by omega)
      rw [e1, e2]
      have hs := h.sr.below hb
      obtain ⟨p, q, m1, _⟩ := hs.m
      refine (listR_any m1 hs.p hs.l (ht := R.ht) (stk := stk) (sw := sw) (by rw [h.pp, h.n, h.ht]; exact hal.al.i) (by rw [h.pp]; exact hal.pp) j (by omega)).mono ?_
      rintro e w' ⟨v, rfl, hr⟩
      obtain ⟨A, n, rfl, q1, q2⟩ := hr.open
      exact ⟨A, n, rfl, q1, q2⟩
    · have e1 : lsL stk k = [] := if_neg hk
      have e2 : liE (k : Int) = 3 := if_neg (by omega)
      rw [e1, e2]
      refine (listR_bad (k : Int) W R.x (by omega)).mono ?_
      rintro e w' ⟨rfl, rfl⟩
      exact ⟨none, 0, rfl, fun i x hi => (by simp at hi), Below.refl _ _⟩
end
/-- what the loop keeps -/
structure Ps (K : Kc) (R : Kr) (w wr : World) (c : Nat → Nat) (S : Pm) (X : Nat → Option Op) (a b : Nat → Nat) (j : Nat) (l : List Px) (v : Value) : Prop where
  bo : Bo K R wr c S X a b j
  lo : Lo X a b l
  rk : Rk KO wr c 10 v l
  be : Below w.heap.size w wr
  low : ∀ i, i < w.heap.size → c i = 0
section
variable {K : Kc} {R : Kr} {w wr : World} {c : Nat → Nat} {S : Pm} {X : Nat → Option Op} {a b : Nat → Nat} {j : Nat} {l : List Px} {v : Value}
theorem Ps.keep (h : Ps K R w wr c S X a b j l v) {T : Nat → Prop} {w1 : World} {c1 : Nat → Nat} (hf : Fc T wr c w1 c1) (hT : ∀ i, i ≤ 10 → ¬ T i) : Ps K R w w1 c1 S X a b j l v :=
  ⟨h.bo.fc hf fun i hi => hT i (by omega), h.lo, h.rk.keep hf (hT 10 (Nat.le_refl _)), h.be.trans (hf.below h.be.size h.low (hT 0 (Nat.zero_le _))), hf.low h.be.size h.low⟩
theorem Ps.below (h : Ps K R w wr c S X a b j l v) {w1 : World} (hb : Below wr.heap.size wr w1) : Ps K R w w1 c S X a b j l v := h.keep (Fc.of_below (S := fun _ => False) hb) fun _ _ e => e
theorem Ps.next (h : Ps K R w wr c S X a b j l v) {T : Nat → Prop} {w1 : World} {c1 : Nat → Nat} (hf : Fc T wr c w1 c1) (hT : ¬ T 0) {S' : Pm} {X' : Nat → Option Op} {a' b' : Nat → Nat} {j' : Nat} {l' : List Px} {v' : Value} (h1 : Bo K R w1 c1 S' X' a' b' j') (h2 : Lo X' a' b' l') (h3 : Rk KO w1 c1 10 v' l') : Ps K R w w1 c1 S' X' a' b' j' l' v' :=
  ⟨h1, h2, h3, h.be.trans (hf.below h.be.size h.low hT), hf.low h.be.size h.low⟩
theorem Ps.more (h : Ps K R w wr c S X a b j l v) {j' : Nat} (hj : j ≤ j') : Ps K R w wr c S X a b j' l v := ⟨h.bo.more hj, h.lo, h.rk, h.be, h.low⟩
end
end Po
end Go.Proofs.YtdkkpaofodicjaaGreat
