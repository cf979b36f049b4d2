/- play and simple of leapfroglaw14: contracts of the translated code. Conditions: the run's invariant; at most 40 towers. (Written by tools/mkps13.py.) -/
import Derived.Test.YtcipjjchclpgnaaPsV
import Derived.Test.YtcipjjchclpgnaaPsE
import Derived.Test.YtcipjjchclpgnaaPsH
import Derived.Test.YtcipjjchclpgnaaPsL
namespace Go.Proofs.Ytcipjjchclpgnaa
open Go.RowKit Go.Sort
set_option linter.unusedVariables false
set_option linter.unusedSimpArgs false
set_option maxRecDepth 100000
namespace Po
open Wd
open Ly (Ge tot pP pK pW pk Cf LyAt KI)
open Dm (addr_lit info_parts spot_none RdK flatU infoU bel_alloc bel_trans own_keep below_drewN)
theorem TA0 : ¬ TA 0 := fun h => by unfold TA at h; omega
/-- acts that lie where nothing is changed -/
structure Aa (w : World) (c : Nat → Nat) (A : Option Addr) (l : List Ax) : Prop where
  r : RdX w A l
  b : BdX l
  c : ∀ (i : Nat) (x : Ax), l[i]? = some x → ∀ b o, A = some ⟨b, o, none⟩ → c b = 0
theorem Aa.fc {w w1 : World} {c c1 : Nat → Nat} {A : Option Addr} {l : List Ax} (h : Aa w c A l) {T : Nat → Prop} (hf : Fc T w c w1 c1) (hT : ¬ T 0) : Aa w1 c1 A l := by
  refine ⟨fun i x hx => ?_, h.b, fun i x hx b o hA => ?_⟩
  · obtain ⟨b, o, hA, he⟩ := h.r i x hx
    exact ⟨b, o, hA, he.keep (hf.keep he.lt (by rw [h.c i x hx b o hA]; exact hT))⟩
  · obtain ⟨b', o', hA', he⟩ := h.r i x hx
    rw [hA] at hA'
    injection hA' with hA'
    injection hA' with e1 e2
    subst e1
    exact (hf.co _ he.lt).trans (h.c i x hx _ _ hA)
section
variable {K : Kc} {b : Nat} {w : World} {c : Nat → Nat} {S : Pm} {X : Nat → Option Op} {B : Nat}
/-- what one act says -/
theorem act_num {x : Ax} (h : BdX1 x) : ∃ t k : Nat, x.t % 6 = (t : Int) ∧ t < 6 ∧ x.h % 6 = (k : Int) ∧ k < 6 := by
  obtain ⟨⟨h1, h2⟩, h3, h4⟩ := h
  exact ⟨(x.t % 6).toNat, (x.h % 6).toNat, by omega, by omega, by omega, by omega⟩
set_option maxHeartbeats 2000000 in
theorem play_any (h : RE K b w c S X B) (h40 : tot K.g.t 6 ≤ 40) {A : Option Addr} {n cp : Nat} {l : List Ax} (ha : Aa w c A l) (hn : l.length = n) (hB : B + n ≤ 1000) (each : Bool) : Calls Try.prog 24 #[.pointer (some ⟨b, 0, none⟩), .slice A n cp, .bool each] w fun e w' => e = .returned (.bool true) ∧ ∃ c' S' X', RE K b w' c' S' X' (B + n) ∧ Fc TA w c w' c' := by
  have HI := Lib.hid h
  have H40 := Lib.hid h40
  have HA := Lib.hid ha
  have HN := Lib.hid hn
  have HB := Lib.hid hB
  clear h h40 ha hn
  go_enter Try.func24, Try.ntmps24
  go_wp2
  go_loopw [7] (fun vi wr => ∃ (i : Nat) (c' : Nat → Nat) (S' : Pm) (X' : Nat → Option Op), vi = .int .i64 (i : Int) ∧ i ≤ n ∧ RE K b wr c' S' X' (B + i) ∧ Fc TA w c wr c') (fun vi _ => (n - intOf vi).toNat)
  case atStart => exact ⟨0, c, S, X, rfl, Nat.zero_le _, HI.out, Fc.id _ _ _⟩
  case round =>
    obtain ⟨i, c1, S1, X1, rfl, hi, hR, hf⟩ := hrel
    obtain ⟨wk, hwk⟩ : ∃ W : World, W = wr := ⟨_, rfl⟩
    rw [← hwk] at hR hf ⊢
    clear hwk
    by_cases hlt : i < n
    · obtain ⟨x, hx⟩ : ∃ x, l[i]? = some x := ⟨_, List.getElem?_eq_getElem (by rw [HN.out]; exact hlt)⟩
      have hbx := HA.out.b x (List.mem_of_getElem? hx)
      obtain ⟨t, k, et, ht, ek, hk⟩ := act_num hbx
      obtain ⟨ab, ao, rfl, e3⟩ := (HA.out.fc hf TA0).r i x hx
      obtain ⟨c0, c1', c2⟩ := e3
      have hRd : RE K b wk.drew c1 S1 X1 (B + i) := by
        obtain ⟨a, stk, sw, of, mn, sk, mine, sn, st, q⟩ := hR
        exact (q.below (bel_drew (Below.refl _ _))).ex
      obtain ⟨a, stk, sw, of, mn, sk, mine, sn, st, hri⟩ := hRd
      have CA := act_any hri (by omega) ht x.g k hk
      obtain ⟨xt, xh, xg⟩ := x
      simp only at c0 c1' c2 et ek CA hbx
      have b1 := hbx.t.1
      have b2 := hbx.t.2
      have b3 := hbx.h.1
      have b4 := hbx.h.2
      simp only at b1 b2 b3 b4
      have d1 : decide ((i : Int) < (n : Int)) = true := decide_eq_true (by omega)
      have d1' : decide (i < n) = true := decide_eq_true hlt
      have i1 : (i : Int) < (n : Int) := by omega
      obtain ⟨HH, hHH⟩ : ∃ HH, HH = ((k + 1 : Nat) : Int) := ⟨_, rfl⟩
      rw [← hHH] at CA
      have tm1 : xt.tmod 6 = (t : Int) := by rw [Int.tmod_eq_emod_of_nonneg b1]; exact et
      have tm2 : xh.tmod 6 = (k : Int) := by rw [Int.tmod_eq_emod_of_nonneg b3]; exact ek
      have HA1 := Lib.hid (show IntKind.i64.wrap (xt.tmod 6) = (t : Int) by rw [tm1]; exact IntWalk.i64_in _ (by omega))
      have HA2 := Lib.hid (show IntKind.i64.wrap (1 + IntKind.i64.wrap (xh.tmod 6)) = HH by rw [tm2, show IntKind.i64.wrap (k : Int) = (k : Int) from IntWalk.i64_in _ (by omega), show 1 + (k : Int) = HH by omega]; exact IntWalk.i64_in _ (by omega))
      have HV := Lib.hid (show IntKind.i64.wrap ((i : Int) + 1) = (i : Int) + 1 ∧ wrap64 ((i : Int) + 1) = (i : Int) + 1 from ⟨IntWalk.i64_in _ (by have := HB.out; omega), IntWalk.wrap64_in _ (by have := HB.out; omega)⟩)
      have HC := Lib.hid CA
      have HF := Lib.hid hf
      have HI1 := Lib.hid hlt
      have HE3 := Lib.hid (show ∀ W c2, Fc TA wk.drew c1 W c2 → E3 W ab (ao + i * 3) ⟨xt, xh, xg⟩ from fun W c2 hg => by
        obtain ⟨b', o', q1, q2⟩ := ((HA.out.fc hf TA0).fc ((Fc.of_below (S := TA) (bel_drew (Below.refl wk.heap.size wk))).trans hg) TA0).r i _ hx
        injection q1 with q1
        injection q1 with q1 q3
        subst q1 q3
        exact q2)
      clear CA hri hR hf hx hbx hlt hi ht hk hHH et ek tm1 tm2 b1 b2 b3 b4
      obtain ⟨v4, v4'⟩ := HV.out
      go_wp2_with fail
      go_region_held3 (fun w' => w'.cell? ⟨ab, ao + i * 3, none⟩ = some (.int .u8 xt) ∧ w'.cell? ⟨ab, ao + i * 3 + 1, none⟩ = some (.int .u8 xh) ∧ w'.cell? ⟨ab, ao + i * 3 + 2, none⟩ = some (.bool xg)) (first | exact ⟨c0, c1', c2⟩ | with_reducible exact ⟨m0, m1, m2⟩) (first | (go_at_call 54; rw [HA1.out, HA2.out]; refine HC.out.mono ?_; rintro r1 W2 ⟨rfl, c3, S2, X2, a', stk', sw', of', mn', sk', mine', sn', st', hri2, hf2, _⟩; have hE := HE3.out W2 c3 hf2; have m0 := hE.c0; have m1 := hE.c1; have m2 := hE.c2))
      all_goals
        have HF2 := Lib.hid (HF.out.trans ((Fc.of_below (S := TA) (bel_drew (Below.refl wk.heap.size wk))).trans hf2))
        have HR2 := Lib.hid hri2
        clear hE hri2 hf2
        cases each
        · go_wp2
          go_roundw
          case rel => exact ⟨i + 1, c3, S2, X2, by clear v4 v4'; go_num, HI1.out, HR2.out.ex, HF2.out⟩
          case measure => clear v4 v4'; have hi1 := HI1.out; simp [intOf]; omega
        · have CP := Lib.hid (parts_any HR2.out H40.out)
          go_wp2_with fail
          refine CP.out.mono ?_
          rintro r1 W3 ⟨rfl, hb3⟩
          have HF3 := Lib.hid (HF2.out.then hb3)
          have HR3 := Lib.hid (HR2.out.below hb3)
          clear hb3
          go_wp2
          go_roundw
          case rel => exact ⟨i + 1, c3, S2, X2, by clear v4 v4'; go_num, HI1.out, HR3.out.ex, HF3.out⟩
          case measure => clear v4 v4'; have hi1 := HI1.out; simp [intOf]; omega
    · obtain rfl : i = n := by omega
      have d1 : decide ((i : Int) < (i : Int)) = false := decide_eq_false (by omega)
      have d1' : decide (i < i) = false := decide_eq_false (by omega)
      have HR := Lib.hid hR
      have HF := Lib.hid hf
      clear hR hf hlt hi
      go_wp2
      go_ret
      exact ⟨rfl, c1, S1, X1, HR.out, HF.out⟩
end
/-! ### simple -/
def Ld (i : Nat) : List Nat := if i < 3 then [1, 2] else if i < 6 then [2] else []
def Md (i : Nat) : List Nat := if i < 3 then [] else if i < 6 then [1] else [1, 2]
def Lg (i : Nat) : List Nat := if i < 3 then [] else if i < 6 then [1] else [2, 1]
def Mg (i : Nat) : List Nat := if i < 3 then [1, 2] else if i < 6 then [2] else []
theorem ld_same {i : Nat} (h : i % 3 ≠ 2) : Ld (i + 1) = Ld i := by
  unfold Ld
  by_cases h1 : i < 3
  · rw [if_pos h1, if_pos (by omega)]
  · rw [if_neg h1, if_neg (by omega)]
    by_cases h2 : i < 6
    · rw [if_pos h2, if_pos (by omega)]
    · rw [if_neg h2, if_neg (by omega)]
theorem md_same {i : Nat} (h : i % 3 ≠ 2) : Md (i + 1) = Md i := by
  unfold Md
  by_cases h1 : i < 3
  · rw [if_pos h1, if_pos (by omega)]
  · rw [if_neg h1, if_neg (by omega)]
    by_cases h2 : i < 6
    · rw [if_pos h2, if_pos (by omega)]
    · rw [if_neg h2, if_neg (by omega)]
theorem lg_same {i : Nat} (h : i % 3 ≠ 2) : Lg (i + 1) = Lg i := by
  unfold Lg
  by_cases h1 : i < 3
  · rw [if_pos h1, if_pos (by omega)]
  · rw [if_neg h1, if_neg (by omega)]
    by_cases h2 : i < 6
    · rw [if_pos h2, if_pos (by omega)]
    · rw [if_neg h2, if_neg (by omega)]
theorem mg_same {i : Nat} (h : i % 3 ≠ 2) : Mg (i + 1) = Mg i := by
  unfold Mg
  by_cases h1 : i < 3
  · rw [if_pos h1, if_pos (by omega)]
  · rw [if_neg h1, if_neg (by omega)]
    by_cases h2 : i < 6
    · rw [if_pos h2, if_pos (by omega)]
    · rw [if_neg h2, if_neg (by omega)]
/-- the thread 0 takes: before the step i -/
structure PhT (i : Nat) (X : Nat → Option Op) (stk mine : Nat → List Nat) (sn : Nat → Int) (sw : Nat → Nat) : Prop where
  l : stk 0 = Ld i
  m : mine 0 = Md i
  n : i % 3 = 0 → X 0 = none
  r : i % 3 ≠ 0 → ∃ r, X 0 = some r ∧ r.pc = 4 + i % 3 ∧ r.tw = 0 ∧ r.h = 0 ∧ sn 0 = ((sw 0 : Nat) : Int)
/-- the thread 0 gives back: before the step i -/
structure PhG (i : Nat) (X : Nat → Option Op) (stk mine : Nat → List Nat) (sn : Nat → Int) (sw : Nat → Nat) : Prop where
  l : stk 0 = Lg i
  m : mine 0 = Mg i
  n : i % 3 = 0 → X 0 = none
  r : i % 3 ≠ 0 → ∃ r, X 0 = some r ∧ r.pc = 6 + i % 3 ∧ r.tw = (Mg i).headD 0 ∧ 0 < r.tw ∧ r.h = 0 ∧ sn 0 = ((sw 0 : Nat) : Int)
section
variable {K : Kc} {i : Nat} {X X' : Nat → Option Op} {stk mine stk' mine' : Nat → List Nat} {sn sn' : Nat → Int} {sw sw' : Nat → Nat}
theorem PhT.next (h : PhT i X stk mine sn sw) (hi : i < 6) (hv : ∀ r, roA K X 0 false 0 mine = some r → Vw r 0 stk mine sn sw X' stk' mine' sn' sw') : PhT (i + 1) X' stk' mine' sn' sw' := by
  obtain ⟨hl, hm, hn, hr⟩ := h
  have key0 : i % 3 = 0 → stk 0 ≠ [] → PhT (i + 1) X' stk' mine' sn' sw' := fun h0 hs => by
    have hx := hn h0
    have g1 : (i + 1) % 3 = 1 := by omega
    have g2 : i % 3 ≠ 2 := by omega
    obtain ⟨v1, _⟩ := hv ⟨0, 0, 0, 0, 4, 0, 0, 0, 0, 0⟩ (by unfold roA; rw [hx]; simp)
    rcases v1 rfl with ⟨_, q⟩ | ⟨⟨r', q1, q2, q3, q4⟩, rfl, rfl, rfl, q5⟩
    · exact absurd q hs
    · have e1 : Ld (i + 1) = Ld i := ld_same g2
      have e2 : Md (i + 1) = Md i := md_same g2
      exact ⟨hl.trans e1.symm, hm.trans e2.symm, fun q => absurd (g1.symm.trans q) (by decide), fun _ => ⟨r', q1, by rw [q2, g1]; rfl, q3, q4, q5⟩⟩
  have key1 : i % 3 = 1 → PhT (i + 1) X' stk' mine' sn' sw' := fun h1 => by
    obtain ⟨r, hx, p1, p2, p3, p4⟩ := hr (by omega)
    obtain ⟨_, v2, _⟩ := hv r (by unfold roA; rw [hx])
    obtain ⟨⟨r', q1, q2, q3, q4⟩, rfl, rfl, rfl, rfl⟩ := v2 (.inl (by omega))
    have e1 : Ld (i + 1) = Ld i := ld_same (by omega)
    have e2 : Md (i + 1) = Md i := md_same (by omega)
    exact ⟨hl.trans e1.symm, hm.trans e2.symm, fun q => by omega, fun _ => ⟨r', q1, by omega, q3.trans p2, q4.trans p3, p4⟩⟩
  have key2 : i % 3 = 2 → PhT (i + 1) X' stk' mine' sn' sw' := fun h2 => by
    obtain ⟨r, hx, p1, p2, p3, p4⟩ := hr (by omega)
    obtain ⟨_, _, v3, _⟩ := hv r (by unfold roA; rw [hx])
    rw [p3] at v3
    obtain ⟨q1, x, rest, q2, rfl, rfl⟩ := v3 (by omega) p4
    rw [hl] at q2
    refine ⟨?_, ?_, fun _ => q1, fun q => absurd (by omega) q⟩
    · rw [set_same]
      have : i = 2 ∨ i = 5 := by omega
      rcases this with rfl | rfl
      · have q3 : [1, 2] = x :: rest := q2
        injection q3 with e1 e2
        subst e1 e2; rfl
      · have q3 : [2] = x :: rest := q2
        injection q3 with e1 e2
        subst e1 e2; rfl
    · rw [set_same, hm]
      have : i = 2 ∨ i = 5 := by omega
      rcases this with rfl | rfl
      · have q3 : [1, 2] = x :: rest := q2
        injection q3 with e1 e2
        subst e1 e2; rfl
      · have q3 : [2] = x :: rest := q2
        injection q3 with e1 e2
        subst e1 e2; rfl
  rcases (show i % 3 = 0 ∨ i % 3 = 1 ∨ i % 3 = 2 by omega) with h0 | h1 | h2
  · have hne : stk 0 ≠ [] := by
      rw [hl]
      have h3 : i = 0 ∨ i = 3 := by omega
      rcases h3 with e | e
      · rw [e]; decide
      · rw [e]; decide
    exact key0 h0 hne
  · exact key1 h1
  · exact key2 h2
theorem PhG.next (h : PhG i X stk mine sn sw) (hi : i < 6) (hg : ∀ y, y = 1 ∨ y = 2 → htG K.g y = 0) (hv : ∀ r, roA K X 0 true 0 mine = some r → Vw r 0 stk mine sn sw X' stk' mine' sn' sw') : PhG (i + 1) X' stk' mine' sn' sw' := by
  obtain ⟨hl, hm, hn, hr⟩ := h
  have hlg : i % 3 ≠ 2 → Lg (i + 1) = Lg i := fun q => lg_same q
  have hmg : i % 3 ≠ 2 → Mg (i + 1) = Mg i := fun q => mg_same q
  have key0 : i % 3 = 0 → PhG (i + 1) X' stk' mine' sn' sw' := fun h0 => by
    have hx := hn h0
    have hi3 : i = 0 ∨ i = 3 := by omega
    have hmh : ∃ y rest, Mg i = y :: rest ∧ (y = 1 ∨ y = 2) := by
      rcases hi3 with rfl | rfl
      · exact ⟨1, [2], rfl, .inl rfl⟩
      · exact ⟨2, [], rfl, .inr rfl⟩
    obtain ⟨y, rest, e, hy⟩ := hmh
    have g1 : (i + 1) % 3 = 1 := by omega
    have g2 : i % 3 ≠ 2 := by omega
    have y0 : ¬ y = 0 := by omega
    have y1 : 0 < y := by omega
    obtain ⟨v1, _⟩ := hv ⟨0, htG K.g y, y, 0, 4, 0, 0, 0, 0, 0⟩ (by unfold roA; rw [hx, hm, e]; simp)
    rcases v1 rfl with ⟨q, _⟩ | ⟨⟨r', q1, q2, q3, q4⟩, rfl, rfl, rfl, q5⟩
    · have q' : y = 0 := q
      exact absurd q' y0
    · have p2 : r'.pc = 7 := q2.trans (if_neg y0)
      have p3 : r'.tw = y := q3
      have p4 : r'.h = 0 := q4.trans (hg y hy)
      have p5 : sn' 0 = ((sw' (htG K.g y) : Nat) : Int) := q5
      rw [hg y hy] at p5
      have e1 := hlg g2
      have e2 := hmg g2
      exact ⟨hl.trans e1.symm, hm.trans e2.symm, fun q => absurd (g1.symm.trans q) (by decide), fun _ => ⟨r', q1, by rw [p2, g1], by rw [e2, e]; exact p3, by rw [p3]; exact y1, p4, p5⟩⟩
  have key1 : i % 3 = 1 → PhG (i + 1) X' stk' mine' sn' sw' := fun h1 => by
    obtain ⟨r, hx, p1, p2, p2', p3, p4⟩ := hr (by omega)
    obtain ⟨_, v2, _⟩ := hv r (by unfold roA; rw [hx])
    obtain ⟨⟨r', q1, q2, q3, q4⟩, rfl, rfl, rfl, rfl⟩ := v2 (.inr (by omega))
    have e1 := hlg (by omega)
    have e2 := hmg (by omega)
    exact ⟨hl.trans e1.symm, hm.trans e2.symm, fun q => by omega, fun _ => ⟨r', q1, by omega, by rw [e2]; exact q3.trans p2, by omega, q4.trans p3, p4⟩⟩
  have key2 : i % 3 = 2 → PhG (i + 1) X' stk' mine' sn' sw' := fun h2 => by
    obtain ⟨r, hx, p1, p2, p2', p3, p4⟩ := hr (by omega)
    obtain ⟨_, _, _, v4, _⟩ := hv r (by unfold roA; rw [hx])
    rw [p3] at v4
    obtain ⟨q1, rest, q2, rfl, rfl⟩ := v4 (by omega) p4
    rw [hm] at q2
    refine ⟨?_, ?_, fun _ => q1, fun q => absurd (by omega) q⟩
    · rw [set_same, hl, p2]
      have : i = 2 ∨ i = 5 := by omega
      rcases this with rfl | rfl <;> rfl
    · rw [set_same]
      have : i = 2 ∨ i = 5 := by omega
      rcases this with rfl | rfl
      · have q3 : [1, 2] = r.tw :: rest := q2
        injection q3 with e1 e2
        subst e2; rfl
      · have q3 : [2] = r.tw :: rest := q2
        injection q3 with e1 e2
        subst e2; rfl
  rcases (show i % 3 = 0 ∨ i % 3 = 1 ∨ i % 3 = 2 by omega) with h0 | h1 | h2
  · exact key0 h0
  · exact key1 h1
  · exact key2 h2
end
def t2 : Nat → Int := fun i => if i = 0 then 2 else 0
theorem few2 : FewT t2 := ⟨fun i hi => by unfold t2; split <;> omega, by decide⟩
theorem ht2 : ∀ y, y = 1 ∨ y = 2 → htG (g0 t2) y = 0 := fun y hy => by rcases hy with rfl | rfl <;> decide
theorem stk2 : stk0 (g0 t2) 0 = [1, 2] := by decide
theorem Ro.rd {w : World} {c : Nat → Nat} {k : Nat} {A : Option Addr} {n cp : Nat} {l : List Int} (h : Ro w c k (.slice A n cp) l) : KI.Rd w A l := fun i x hx => by
  obtain ⟨A', n', e, hc, _⟩ := h.form
  injection e with e1 e2 e3
  subst e1
  obtain ⟨g, o, hA, hcl⟩ := hc i x hx
  refine ⟨g, o, hA, fun j u hj => ?_⟩
  match j, hj with
  | 0, hj =>
    simp [KI] at hj; subst hj
    show w.cell? ⟨g, o + i * 1 + 0, none⟩ = _
    rw [Nat.mul_one, Nat.add_zero]; exact hcl
  | j + 1, hj => simp [KI] at hj
theorem lit_rd (w : World) (x y : Int) (T : TypeId) : KI.Rd (w.alloc (.cells #[.int .i64 x, .int .i64 y] T)) (some ⟨w.heap.size, 0, none⟩) [x, y] := fun i z hz => by
  refine ⟨w.heap.size, 0, rfl, fun j u hj => ?_⟩
  match j, hj with
  | 0, hj =>
    simp [KI] at hj; subst hj
    show (w.alloc _).cell? ⟨w.heap.size, 0 + i * 1 + 0, none⟩ = _
    rw [World.cell?_alloc_new, Nat.mul_one, Nat.add_zero, Nat.zero_add]
    match i, hz with
    | 0, hz => simp at hz; subst hz; rfl
    | 1, hz => simp at hz; subst hz; rfl
    | i + 2, hz => simp at hz
  | j + 1, hj => simp [KI] at hj
set_option maxHeartbeats 2000000 in
theorem simple_any (w : World) : Calls Try.prog 26 #[] w fun e w' => e = .returned (.bool true) ∧ Below w.heap.size w w' := by
  have CB : Calls Try.prog 23 #[.agg #[.int .i64 2, .int .i64 0, .int .i64 0, .int .i64 0, .int .i64 0, .int .i64 0]] w (BgP t2 w) := begin_any few2 w
  replace CB := Lib.hid CB
  go_enter Try.func26, Try.ntmps26
  go_wp2_with fail
  refine CB.out.mono ?_
  rintro r1 W1 ⟨K, b, c, sk0, rfl, hg, hri, hlow, hb1⟩
  have HG := Lib.hid hg
  have HLOW := Lib.hid hlow
  have HB1 := Lib.hid hb1
  have HS := Lib.hid (show PhT 0 (fun _ => none) (stk0 K.g) (fun _ => []) (fun _ => 0) (fun _ => 0) from ⟨by rw [hg]; exact stk2, rfl, fun _ => rfl, fun q => absurd rfl q⟩)
  have HR := Lib.hid hri
  clear hg hri hlow hb1 CB
  go_wp2
  go_loopw [2] (fun vi wr => ∃ (i : Nat) (c' : Nat → Nat) (S' : Pm) (X' : Nat → Option Op) (a : Nat → Nat) (stk : Nat → List Nat) (sw : Nat → Nat) (of : Nat → Int) (mn sk : Nat → Value) (mine : Nat → List Nat) (sn st : Nat → Int), vi = .int .i64 (i : Int) ∧ i ≤ 6 ∧ RI K b wr c' S' X' a stk sw i of mn sk mine sn st ∧ PhT i X' stk mine sn sw ∧ Fc TA W1 c wr c') (fun vi _ => (6 - intOf vi).toNat)
  case atStart => exact ⟨0, c, _, _, _, _, _, _, _, _, _, _, _, rfl, Nat.zero_le _, HR.out, HS.out, Fc.id _ _ _⟩
  case round =>
    obtain ⟨i, c', S', X', a, stk, sw, of, mn, sk, mine, sn, st, rfl, hi, hri, hph, hf⟩ := hrel
    clear HR HS
    obtain ⟨wk, hwk⟩ : ∃ W : World, W = wr := ⟨_, rfl⟩
    rw [← hwk] at hri hf ⊢
    clear hwk
    by_cases hlt : i < 6
    · have CA : Calls Try.prog 54 #[.pointer (some ⟨b, 0, none⟩), .int .i64 0, .bool false, .int .i64 1] wk (AcP K b 0 (roA K X' 0 false 0 mine) wk c' S' X' stk mine sn sw i) := act_any hri (by omega) (show 0 < 6 by omega) false 0 (by omega)
      have d1 : decide ((i : Int) < 6) = true := decide_eq_true (by omega)
      have d1' : decide (i < 6) = true := decide_eq_true hlt
      have HV := Lib.hid (show IntKind.i64.wrap ((i : Int) + 1) = (i : Int) + 1 ∧ wrap64 ((i : Int) + 1) = (i : Int) + 1 from ⟨IntWalk.i64_in _ (by omega), IntWalk.wrap64_in _ (by omega)⟩)
      have HC := Lib.hid CA
      have HF := Lib.hid hf
      have HP := Lib.hid hph
      have HI1 := Lib.hid hlt
      clear CA hri hf hph hlt hi
      obtain ⟨v4, v4'⟩ := HV.out
      go_wp2_with fail
      refine HC.out.mono ?_
      rintro r1 W2 ⟨rfl, c3, S2, X2, a', stk', sw', of', mn', sk', mine', sn', st', hri2, hf2, _, _, hv⟩
      have HR2 := Lib.hid hri2
      have HF2 := Lib.hid (HF.out.trans hf2)
      have HP2 := Lib.hid (HP.out.next HI1.out hv)
      clear hri2 hf2 hv
      go_wp2
      go_roundw
      case rel => exact ⟨i + 1, c3, S2, X2, a', stk', sw', of', mn', sk', mine', sn', st', by clear v4 v4'; go_num, HI1.out, HR2.out, HP2.out, HF2.out⟩
      case measure => clear v4 v4'; have hi1 := HI1.out; simp [intOf]; omega
    · obtain rfl : i = 6 := by omega
      obtain ⟨pl, pm, pn, _⟩ := hph
      have hm : mine 0 = [1, 2] := pm
      have hx : X' 0 = none := pn rfl
      have hmr := hri.mr 0 (by omega)
      rw [hm] at hmr
      obtain ⟨AM, CM, hmv, _, _⟩ := hmr.form
      have m20 : wk.cell? ⟨b, 20, none⟩ = some (mn 0) := hri.rb.mn 0 (by omega)
      rw [hmv] at m20 hmr
      have m20' : wk.cell? ⟨b, 20, none⟩ = some (.slice AM 2 CM) := m20
      have CE := equI_same AM (some ⟨wk.heap.size, 0, none⟩) 2 CM 2 [1, 2] (wk.alloc (.cells #[.int .i64 1, .int .i64 2] 3)) rfl (by omega) ((Ro.rd hmr).below (bel_new (Below.refl _ _) _)) (lit_rd wk 1 2 3)
      have HC := Lib.hid CE
      have HS2 := Lib.hid (show PhG 0 X' stk mine sn sw from ⟨pl, hm, fun _ => hx, fun q => absurd rfl q⟩)
      have HR := Lib.hid hri
      have HF := Lib.hid hf
      clear CE hri hf hx hm pl pm pn hmr hmv m20 hlt hi
      go_wp2_with fail
      refine HC.out.mono ?_
      rintro r1 W2 ⟨rfl, hb2⟩
      have hb2' := (bel_new (Below.refl wk.heap.size wk) (.cells #[.int .i64 1, .int .i64 2] 3)).trans (hb2.mono (by rw [World.size_alloc]; omega))
      have HR3 := Lib.hid (HR.out.below hb2')
      have HF3 := Lib.hid (HF.out.then hb2')
      clear hb2 hb2' m20'
      go_wp2
      go_loopw [3] (fun vi wr => ∃ (i : Nat) (c' : Nat → Nat) (S' : Pm) (X' : Nat → Option Op) (a : Nat → Nat) (stk : Nat → List Nat) (sw : Nat → Nat) (of : Nat → Int) (mn sk : Nat → Value) (mine : Nat → List Nat) (sn st : Nat → Int), vi = .int .i64 (i : Int) ∧ i ≤ 6 ∧ RI K b wr c' S' X' a stk sw (6 + i) of mn sk mine sn st ∧ PhG i X' stk mine sn sw ∧ Fc TA W1 c wr c') (fun vi _ => (6 - intOf vi).toNat)
      case atStart => exact ⟨0, c', _, _, _, _, _, _, _, _, _, _, _, rfl, Nat.zero_le _, HR3.out, HS2.out, HF3.out⟩
      case round =>
        obtain ⟨i, c4, S4, X4, a4, stk4, sw4, of4, mn4, sk4, mine4, sn4, st4, rfl, hi, hri, hph, hf⟩ := hrel
        clear HR3 HS2 HF3 HR HF HC
        obtain ⟨wq, hwq⟩ : ∃ W : World, W = wr := ⟨_, rfl⟩
        rw [← hwq] at hri hf ⊢
        clear hwq
        by_cases hlt : i < 6
        · have CA : Calls Try.prog 54 #[.pointer (some ⟨b, 0, none⟩), .int .i64 0, .bool true, .int .i64 1] wq (AcP K b 0 (roA K X4 0 true 0 mine4) wq c4 S4 X4 stk4 mine4 sn4 sw4 (6 + i)) := act_any hri (by omega) (show 0 < 6 by omega) true 0 (by omega)
          have d1 : decide ((i : Int) < 6) = true := decide_eq_true (by omega)
          have d1' : decide (i < 6) = true := decide_eq_true hlt
          have HV := Lib.hid (show IntKind.i64.wrap ((i : Int) + 1) = (i : Int) + 1 ∧ wrap64 ((i : Int) + 1) = (i : Int) + 1 from ⟨IntWalk.i64_in _ (by omega), IntWalk.wrap64_in _ (by omega)⟩)
          have HC := Lib.hid CA
          have HF := Lib.hid hf
          have HP := Lib.hid hph
          have HI1 := Lib.hid hlt
          clear CA hri hf hph hlt hi
          obtain ⟨v4, v4'⟩ := HV.out
          go_wp2_with fail
          refine HC.out.mono ?_
          rintro r1 W2 ⟨rfl, c3, S2, X2, a', stk', sw', of', mn', sk', mine', sn', st', hri2, hf2, _, _, hv⟩
          have HR2 := Lib.hid hri2
          have HF2 := Lib.hid (HF.out.trans hf2)
          have HP2 := Lib.hid (HP.out.next HI1.out (by rw [HG.out]; exact ht2) hv)
          clear hri2 hf2 hv
          go_wp2
          go_roundw
          case rel => exact ⟨i + 1, c3, S2, X2, a', stk', sw', of', mn', sk', mine', sn', st', by clear v4 v4'; go_num, HI1.out, HR2.out, HP2.out, HF2.out⟩
          case measure => clear v4 v4'; have hi1 := HI1.out; simp [intOf]; omega
        · obtain rfl : i = 6 := by omega
          have hs : stk4 0 = [2, 1] := hph.l
          have CL : Calls Try.prog 21 #[.pointer (some ⟨K.x, 0, none⟩), .int .i64 1] wq fun e w' => ∃ v, e = .returned (.tuple #[v, .int .i64 0]) ∧ RwI wq (nums (stk4 0)) v w' := listS hri.sa hri.m.al 0 (by omega)
          rw [hs] at CL
          have m1 := hri.rb.p
          have HC := Lib.hid CL
          have HBF := Lib.hid (HB1.out.trans (hf.below HB1.out.size HLOW.out TA0))
          clear CL hri hf hph hs hlt hi
          go_wp2_with fail
          refine HC.out.mono ?_
          rintro r1 W2 ⟨v, rfl, own, hb2⟩
          obtain ⟨_, Al, cl, rfl, _, hrd, _, _⟩ := KI.row own
          have CE := equI_same Al (some ⟨W2.heap.size, 0, none⟩) 2 cl 2 [2, 1] (W2.alloc (.cells #[.int .i64 2, .int .i64 1] 3)) rfl (by omega) (hrd.below (bel_new (Below.refl _ _) _)) (lit_rd W2 2 1 3)
          have HCE := Lib.hid CE
          have HB2 := Lib.hid (HBF.out.trans (hb2.mono HBF.out.size))
          have hl2 : (nums [2, 1]).length = 2 := rfl
          rw [hl2]
          clear CE own hrd hb2 hl2
          go_wp2_with fail
          refine HCE.out.mono ?_
          rintro r1 W3 ⟨rfl, hb3⟩
          have HB3 := Lib.hid (HB2.out.trans (((bel_new (Below.refl W2.heap.size W2) (.cells #[.int .i64 2, .int .i64 1] 3)).trans (hb3.mono (by rw [World.size_alloc]; omega))).mono HB2.out.size))
          clear hb3
          go_wp2
          go_ret
          exact ⟨rfl, HB3.out⟩
end Po
end Go.Proofs.Ytcipjjchclpgnaa
