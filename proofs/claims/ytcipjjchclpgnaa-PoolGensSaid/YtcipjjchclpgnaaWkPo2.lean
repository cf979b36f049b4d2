/- The walk of the law PoolGens, from the contracts of package pool and of the run. Conditions: none. (Written by tools/mk14w2.py.) -/
import Derived.Test.YtcipjjchclpgnaaPsG
namespace Go.Proofs.Ytcipjjchclpgnaa
open Go.RowKit Go.Sort
set_option linter.unusedVariables false
set_option linter.unusedSimpArgs false
set_option maxRecDepth 100000
namespace Po
open Wd
open Ly (Ge tot pP pK pW pk Cf LyAt KI)
section
variable {K : Kc} {b : Nat} {w : World} {c : Nat → Nat} {S : Pm} {X : Nat → Option Op} {a : Nat → Nat} {stk : Nat → List Nat} {sw : Nat → Nat} {B : Nat} {of : Nat → Int} {mn sk : Nat → Value} {mine : Nat → List Nat} {sn st : Nat → Int}
set_option maxHeartbeats 2000000 in
/-- play of one act -/
theorem play_one (h : RI K b w c S X a stk sw B of mn sk mine sn st) (hB : B ≤ 1000) {ab ao cp : Nat} {x : Ax} (he : E3 w ab ao x) (hcc : c ab = 0) (hx : BdX1 x) {t k : Nat} (et : x.t % 6 = (t : Int)) (ht : t < 6) (ek : x.h % 6 = (k : Int)) (hk : k < 6) : Calls Try.prog 24 #[.pointer (some ⟨b, 0, none⟩), .slice (some ⟨ab, ao, none⟩) 1 cp, .bool false] w (AcP K b t (roA K X t x.g k mine) w c S X stk mine sn sw B) := by
  have HE3 := Lib.hid (show ∀ W c2, Fc TA w.drew c W c2 → E3 W ab ao x from fun W c2 hg => he.keep (((Fc.of_below (S := TA) (bel_drew (Below.refl w.heap.size w))).trans hg).keep he.lt (by rw [hcc]; exact TA0)))
  have hd := h.below (bel_drew (Below.refl _ _))
  have CA := act_any hd hB ht x.g k hk
  obtain ⟨c0, c1', c2⟩ := he
  obtain ⟨xt, xh, xg⟩ := x
  simp only at c0 c1' c2 et ek CA hx
  have b1 := hx.t.1
  have b3 := hx.h.1
  simp only at b1 b3
  obtain ⟨HH, hHH⟩ : ∃ HH, HH = ((k + 1 : Nat) : Int) := ⟨_, rfl⟩
  rw [← hHH] at CA
  have tm1 : xt.tmod 6 = (t : Int) := by rw [Int.tmod_eq_emod_of_nonneg b1]; exact et
  have tm2 : xh.tmod 6 = (k : Int) := by rw [Int.tmod_eq_emod_of_nonneg b3]; exact ek
  have HA1 := Lib.hid (show IntKind.i64.wrap (xt.tmod 6) = (t : Int) by rw [tm1]; exact IntWalk.i64_in _ (by omega))
  have HA2 := Lib.hid (show IntKind.i64.wrap (1 + IntKind.i64.wrap (xh.tmod 6)) = HH by rw [tm2, show IntKind.i64.wrap (k : Int) = (k : Int) from IntWalk.i64_in _ (by omega), show 1 + (k : Int) = HH by omega]; exact IntWalk.i64_in _ (by omega))
  have HC := Lib.hid CA
  have HFW := Lib.hid (fun ⦃e : Ending⦄ ⦃w' : World⦄ (q : AcP K b t (roA K X t xg k mine) w.drew c S X stk mine sn sw B e w') => (show AcP K b t (roA K X t xg k mine) w c S X stk mine sn sw B e w' by
    obtain ⟨q0, c', S', X', a', stk', sw', of', mn', sk', mine', sn', st', q1, q2, q3⟩ := q
    exact ⟨q0, c', S', X', a', stk', sw', of', mn', sk', mine', sn', st', q1, (Fc.of_below (S := TA) (bel_drew (Below.refl _ _))).trans q2, q3⟩))
  clear CA hd h hHH et ek tm1 tm2 b1 b3 hx hcc ht hk hB
  go_enter Try.func24, Try.ntmps24
  go_wp2
  go_loopw [7] (fun vi wr => (vi = .int .i64 0 ∧ wr = w) ∨ (vi = .int .i64 1 ∧ AcP K b t (roA K X t xg k mine) w c S X stk mine sn sw B (.returned (.bool true)) wr)) (fun vi _ => (1 - intOf vi).toNat)
  case atStart => exact .inl ⟨rfl, by first | rfl | trivial⟩
  case round =>
    rcases hrel with ⟨rfl, e⟩ | ⟨rfl, hp⟩
    · subst e
      go_wp2_with fail
      go_region_held3 (fun w' => w'.cell? ⟨ab, ao, none⟩ = some (.int .u8 xt) ∧ w'.cell? ⟨ab, ao + 1, none⟩ = some (.int .u8 xh) ∧ w'.cell? ⟨ab, ao + 2, none⟩ = some (.bool xg)) (first | exact ⟨c0, c1', c2⟩ | with_reducible exact ⟨m0, m1, m2⟩) (first | (go_at_call 54; rw [HA1.out, HA2.out]; refine HC.out.mono ?_; rintro r1 W2 ⟨rfl, c3, S2, X2, a', stk', sw', of', mn', sk', mine', sn', st', hri2, hf2, hrest⟩; have hE := HE3.out W2 c3 hf2; have m0 := hE.c0; have m1 := hE.c1; have m2 := hE.c2))
      all_goals
        have HQ := Lib.hid (HFW.out ⟨rfl, c3, S2, X2, a', stk', sw', of', mn', sk', mine', sn', st', hri2, hf2, hrest⟩)
        clear hE hri2 hf2 hrest m0 m1 m2
        go_wp2
        go_roundw
        case rel => exact .inr ⟨by go_num, HQ.out⟩
        case measure => simp [intOf]
    · have HP := Lib.hid hp
      clear hp
      go_wp2
      go_ret
      exact HP.out
end
end Po
namespace Wk
open Wd Po
open Ly (Ge tot pP)
open Dm (bel_alloc bel_trans)
def T30 : Nat → Prop := fun i => TA i ∨ i = 30
theorem T30_0 : ¬ T30 0 := fun h => by rcases h with h | h; exact TA0 h; omega
set_option maxRecDepth 100000 in
set_option maxHeartbeats 2000000 in
theorem walk_poolGens (a0 : Nat → Int) (a1 : Option Addr) (a1n a1c : Nat) (a1v : List Po.Ax) (w : World) (a1e : a1v.length = a1n) (a1m : a1n ≤ maxLen) (a1r : Po.RdX w a1 a1v) (a1b : Po.BdX a1v) (a1z : a1 = none → a1c = 0) (a1y : a1n ≤ a1c ∧ a1c ≤ maxLen) :
    Calls Try.prog 6 #[.agg (Po.six a0), .slice a1 a1n a1c] w fun e w' => e = .returned (.bool true) ∧ Below w.heap.size w w' := by
  have hzv := zv64
  have HY := Lib.hid a1y
  have CF := fun W => Lib.hid (few_any a0 W)
  have HE := Lib.hid a1e
  have HR := Lib.hid a1r
  have HB := Lib.hid a1b
  obtain ⟨W0, hW0⟩ : ∃ W, W = w.alloc (.cells #[.int .i64 (a0 0), .int .i64 (a0 1), .int .i64 (a0 2), .int .i64 (a0 3), .int .i64 (a0 4), .int .i64 (a0 5)] 29) := ⟨_, rfl⟩
  have HB0 := Lib.hid (show Below w.heap.size w W0 by rw [hW0]; exact bel_new (Below.refl _ _) _)
  have HS0 := Lib.hid (show ∀ W, Below W0.heap.size W0 W → ∀ i, i < 6 → W.cell? ⟨w.heap.size, i, none⟩ = some (.int .i64 (a0 i)) from fun W hb i hi => by
    have hh : W0.heap[w.heap.size]? = some (.cells (six a0) 29 (0, 0)) := by rw [hW0]; exact heap_alloc_new w _
    have hlt : w.heap.size < W0.heap.size := by rw [hW0, World.size_alloc]; omega
    exact (World.cell?_of_block (a := ⟨w.heap.size, i, none⟩) (hb.block _ hlt)).trans (six_cell hh hi))
  have HW0 := Lib.hid hW0
  clear a1e a1r a1b hW0 a1y
  unfold six
  go_enter Try.func6, Try.ntmps6
  go_wp2_with fail
  rw [← HW0.out]
  refine (CF W0).out.mono ?_
  rintro r1 W1 ⟨bb, rfl, hbb, hb1⟩
  have k0 := HS0.out W1 hb1 0 (by omega)
  have k1 := HS0.out W1 hb1 1 (by omega)
  have k2 := HS0.out W1 hb1 2 (by omega)
  have k3 := HS0.out W1 hb1 3 (by omega)
  have k4 := HS0.out W1 hb1 4 (by omega)
  have k5 := HS0.out W1 hb1 5 (by omega)
  have HB1 := Lib.hid (HB0.out.trans (hb1.mono HB0.out.size))
  clear hb1
  cases bb with
  | false =>
    clear hbb
    go_wp2
    go_ret
    exact ⟨rfl, HB1.out⟩
  | true =>
    have hF := hbb.1 rfl
    clear hbb
    by_cases hn : 400 < a1n
    · have d1 : decide ((400 : Int) < (a1n : Int)) = true := decide_eq_true (by omega)
      have d1' : decide (400 < a1n) = true := decide_eq_true hn
      clear hn
      go_wp2
      go_ret
      exact ⟨rfl, HB1.out⟩
    have d1 : decide ((400 : Int) < (a1n : Int)) = false := decide_eq_false (by omega)
    have d1' : decide (400 < a1n) = false := decide_eq_false hn
    have HN := Lib.hid (show a1n ≤ 400 by omega)
    have CB := Lib.hid (begin_any hF W1)
    have HF := Lib.hid hF
    clear hn hF
    go_wp2_with fail
    refine CB.out.mono ?_
    rintro r1 W2 ⟨K, b, c, sk0, rfl, hg, hri, hlow, hb2⟩
    have HB2 := Lib.hid (HB1.out.trans (hb2.mono HB1.out.size))
    have H40 := Lib.hid (show tot K.g.t 6 ≤ 40 by rw [hg]; exact g0_n HF.out)
    have hlow0 : ∀ i, i < w.heap.size → c i = 0 := fun i hi => hlow i (Nat.lt_of_lt_of_le hi HB1.out.size)
    have hac : Aa W2 c a1 a1v := ⟨fun i x hx => by
      obtain ⟨b', o', q1, q2⟩ := HR.out i x hx
      exact ⟨b', o', q1, q2.keep (HB2.out.block _ q2.lt)⟩, HB.out, fun i x hx b' o' hA => by
      obtain ⟨b2, o2, q1, q2⟩ := HR.out i x hx
      rw [hA] at q1
      injection q1 with q1
      injection q1 with q1 _
      subst q1
      exact hlow0 _ q2.lt⟩
    have HLOW := Lib.hid hlow0
    have hG := Ar.new W2 67
    have hbG : Below W2.heap.size W2 (W2.alloc (.cells Z64 67)) := bel_new (Below.refl _ _) _
    clear hb2 CB CF k0 k1 k2 k3 k4 k5 HS0
    go_wp2_with fail
    clear hzv
    generalize W2.alloc (.cells Z64 67) = W3 at hG hbG ⊢
    obtain ⟨G, hGe⟩ : ∃ G, G = W2.heap.size := ⟨_, rfl⟩
    have hf3 : Fc (fun _ => False) W2 c W3 (up c W2.heap.size 30) := Fc.of_below_up hbG
    have hcG : up c W2.heap.size 30 G = 30 := up_ge (by omega)
    rw [← hGe] at hG ⊢
    have hri3 := hri.fc hf3 (fun i _ e => e)
    have hac3 := hac.fc hf3 id
    have hlow3 := hf3.low HB2.out.size HLOW.out
    have HB3 := Lib.hid (HB2.out.trans (hbG.mono HB2.out.size))
    generalize up c W2.heap.size 30 = c3 at hcG hri3 hac3 hlow3
    have HCG := Lib.hid hcG
    have HAC := Lib.hid hac3
    have HLOW3 := Lib.hid hlow3
    have HRI := Lib.hid hri3
    have HAR := Lib.hid (show Ar W3 G (fun x => (((pm0 ⟨Ly.ini K.g, []⟩).gn x : Nat) : Int)) from hG)
    have HGLT := Lib.hid hG.lt
    clear hG hbG hGe hf3 hcG hri3 hac3 hlow3 hri hac hlow0 hlow hg
    go_wp2
    go_loopw [7] (fun vi wr => ∃ (i : Nat) (c' : Nat → Nat) (S' : Pm) (X' : Nat → Option Po.Op) (a : Nat → Nat) (stk : Nat → List Nat) (sw : Nat → Nat) (of : Nat → Int) (mn sk : Nat → Value) (mine : Nat → List Nat) (sn st : Nat → Int), vi = .int .i64 (i : Int) ∧ i ≤ a1n ∧ RI K b wr c' S' X' a stk sw i of mn sk mine sn st ∧ Ar wr G (fun x => ((S'.gn x : Nat) : Int)) ∧ Fc T30 W3 c3 wr c') (fun vi _ => (a1n - intOf vi).toNat)
    case atStart => exact ⟨0, c3, _, _, _, _, _, _, _, _, _, _, _, rfl, Nat.zero_le _, HRI.out, HAR.out, Fc.id _ _ _⟩
    case round =>
      obtain ⟨i, c', S', X', a, stk, sw, of, mn, sk, mine, sn, st, rfl, hi, hri, har, hf⟩ := hrel
      clear HRI HAR
      obtain ⟨wk, hwk⟩ : ∃ W : World, W = wr := ⟨_, rfl⟩
      rw [← hwk] at hri har hf ⊢
      clear hwk
      have hle := HN.out
      by_cases hlt : i < a1n
      · obtain ⟨x, hx⟩ : ∃ x, a1v[i]? = some x := ⟨_, List.getElem?_eq_getElem (by rw [HE.out]; exact hlt)⟩
        have hbx := HB.out x (List.mem_of_getElem? hx)
        obtain ⟨t, k, et, ht, ek, hk⟩ := act_num hbx
        obtain ⟨ab, ao, rfl, e3⟩ := (HAC.out.fc hf T30_0).r i x hx
        have hcy := HY.out.1
        have hcz := HY.out.2
        have hGc : c' G = 30 := (hf.co _ HGLT.out).trans HCG.out
        have CPL := fun (cp : Nat) (W : World) (hb : Below wk.heap.size wk W) => Lib.hid (play_one (cp := cp) (hri.below hb) (by omega) (e3.keep (hb.block _ e3.lt)) ((HAC.out.fc hf T30_0).c i x hx _ _ rfl) hbx et ht ek hk)
        have ct := e3.c0
        have b1 := hbx.t.1
        have tm1 : x.t.tmod 6 = (t : Int) := by rw [Int.tmod_eq_emod_of_nonneg b1]; exact et
        have tm2 : IntKind.i64.wrap (t : Int) = (t : Int) := IntWalk.i64_in _ (by omega)
        have tm3 : IntKind.i64.wrap (x.t.tmod 6) = (t : Int) := by rw [tm1]; exact tm2
        have d1 : decide ((i : Int) < (a1n : Int)) = true := decide_eq_true (by omega)
        have d1' : decide (i < a1n) = true := decide_eq_true hlt
        have i1 : (i : Int) < (a1n : Int) := by omega
        have t6 : (t : Int) < 6 := by omega
        have t0 : (0 : Int) ≤ (t : Int) := by omega
        have HV := Lib.hid (show IntKind.i64.wrap ((i : Int) + 1) = (i : Int) + 1 ∧ wrap64 ((i : Int) + 1) = (i : Int) + 1 from ⟨IntWalk.i64_in _ (by omega), IntWalk.wrap64_in _ (by omega)⟩)
        have s1 : (i : Int) + 1 ≤ (a1c : Int) := by omega
        have s2 : i + 1 ≤ a1c := by omega
        have s3 : ¬ a1c - i = 0 := by omega
        have s4 : (i : Int) ≤ (i : Int) + 1 := by omega
        have s5 : ¬ a1c = i := by omega
        have s6 : ¬ (a1c : Int) = (i : Int) := by omega
        have HI1 := Lib.hid hlt
        have HT6 := Lib.hid ht
        have k8 := hri.rb.gv t ht
        have k14 := hri.rb.of t ht
        have HRI := Lib.hid hri
        have HARK := Lib.hid har
        have HF := Lib.hid hf
        have HGC := Lib.hid hGc
        have H40' := Lib.hid H40.out
        have FIN := Lib.hid (fun ⦃W5 : World⦄ ⦃c5 : Nat → Nat⦄ ⦃S5 : Pm⦄ ⦃X5 : Nat → Option Po.Op⦄ ⦃a5 : Nat → Nat⦄ ⦃stk5 : Nat → List Nat⦄ ⦃sw5 : Nat → Nat⦄ ⦃of5 : Nat → Int⦄ ⦃mn5 sk5 : Nat → Value⦄ ⦃mine5 : Nat → List Nat⦄ ⦃sn5 st5 : Nat → Int⦄ (q1 : RI K b W5 c5 S5 X5 a5 stk5 sw5 (i + 1) of5 mn5 sk5 mine5 sn5 st5) (q2 : Ar W5 G (fun x => ((S5.gn x : Nat) : Int))) (q3 : Fc T30 W3 c3 W5 c5) => (show ∃ (i' : Nat) (c' : Nat → Nat) (S' : Pm) (X' : Nat → Option Po.Op) (a : Nat → Nat) (stk : Nat → List Nat) (sw : Nat → Nat) (of : Nat → Int) (mn sk : Nat → Value) (mine : Nat → List Nat) (sn st : Nat → Int), Value.int .i64 ((i : Int) + 1) = .int .i64 (i' : Int) ∧ i' ≤ a1n ∧ RI K b W5 c' S' X' a stk sw i' of mn sk mine sn st ∧ Ar W5 G (fun x => ((S'.gn x : Nat) : Int)) ∧ Fc T30 W3 c3 W5 c' from ⟨i + 1, _, _, _, _, _, _, _, _, _, _, _, _, rfl, hlt, q1, q2, q3⟩))
        have play := fun (gv : Bool) (tw0 : Int) (hgv : gvP X' a t = if gv = true then some (a t) else none) => trivial
        have hcase : (∃ r, X' t = some r ∧ 0 < r.tw) ∨ gvP X' a t = none := by
          unfold gvP
          cases hX : X' t with
          | none => exact .inr rfl
          | some r =>
            by_cases h0 : r.tw = 0
            · right; simp only [if_pos h0]
            · exact .inl ⟨r, rfl, by omega⟩
        clear play
        rcases hcase with ⟨r, hXr, hr0⟩ | hno
        · have hgv : gvP X' a t = some (a t) := by unfold gvP; rw [hXr]; simp only [if_neg (show ¬ r.tw = 0 by omega)]
          have hxo := hri.m.xo t r hXr
          have hof := hxo.of
          rw [if_neg (by omega)] at hof
          rw [hgv] at k8
          rw [hof] at k14
          simp only [ptrO, Option.map] at k8
          have htn := ((hri.m.al.al.o t r hXr).g hr0 hxo.pc).1
          have h40 := H40.out
          have tw64 : ((r.tw : Nat) : Int) < 64 := by omega
          have tw64' : r.tw < 64 := by omega
          have tw0 : (0 : Int) ≤ ((r.tw : Nat) : Int) := by omega
          have hgb := hri.m.al.gn r.tw
          have HW := Lib.hid (show IntKind.i64.wrap (((S'.gn r.tw : Nat) : Int) + 1) = ((S'.gn r.tw : Nat) : Int) + 1 ∧ wrap64 (((S'.gn r.tw : Nat) : Int) + 1) = ((S'.gn r.tw : Nat) : Int) + 1 from ⟨IntWalk.i64_in _ (by omega), IntWalk.wrap64_in _ (by omega)⟩)
          have HXR := Lib.hid hXr
          have HR0 := Lib.hid hr0
          have H64 := Lib.hid tw64'
          clear hri har hf hx hbx hlt hi hle et ek ht hk hcy hcz hGc e3 b1 hXr hr0 hgv hxo hof htn h40 hgb tw64'
          obtain ⟨v4, v4'⟩ := HV.out
          go_wp2_with fail
          go_quiet (fail)
          go_wp2_with fail
          refine (CPL _ _ (below_drewN (Below.refl _ _) nq)).out.mono ?_
          rintro r1 W5 ⟨rfl, c5, S5, X5, a5, stk5, sw5, of5, mn5, sk5, mine5, sn5, st5, hri5, hf5, hgn5, _, hv5⟩
          simp only [HXR.out] at hgn5
          have hv := (hv5 r (by unfold roA; rw [HXR.out])).2.2.2.2
          have har5 : Ar W5 G (fun x => ((S'.gn x : Nat) : Int)) := (HARK.out.below (below_drewN (Below.refl _ _) nq)).keep (hf5.keep (HARK.out.below (below_drewN (Below.refl _ _) nq)).lt (by rw [HGC.out]; unfold TA; omega))
          have hf6 := HF.out.trans ((Fc.of_below (S := T30) (below_drewN (Below.refl wk.heap.size wk) nq)).trans (hf5.mono (T := T30) fun i e => .inl e))
          have n8 := hri5.rb.gv t HT6.out
          have hg5 : c5 G = 30 := (hf5.co _ (HARK.out.below (below_drewN (Below.refl _ _) nq)).lt).trans HGC.out
          have ca := har5.c r.tw H64.out
          have caf := har5.z r.tw
          have HR5 := Lib.hid hri5
          have HA5 := Lib.hid har5
          have HF6 := Lib.hid hf6
          have HG5 := Lib.hid hg5
          cases hX5 : X5 t with
          | none =>
            rw [show gvP X5 a5 t = none by unfold gvP; rw [hX5]] at n8
            simp only [ptrO, Option.map] at n8
            rw [if_pos ⟨HR0.out, hX5⟩] at hgn5
            have HGN := Lib.hid hgn5
            clear hri5 hf5 hv5 hv har5 hf6 hg5 hgn5 hX5 k8 k14 ct
            obtain ⟨x4, x4'⟩ := HW.out
            go_wp2
            clear x4 x4' s1 s4 s6 tm1 tm2 tm3
            go_roundw
            case rel =>
              have hset := HA5.out.set H64.out (((S'.gn r.tw : Nat) : Int) + 1)
              have hfs := HF6.out.trans ((Fc.id (fun i => i = 30) W5 c5).set ⟨G, r.tw, none⟩ (.int .i64 (((S'.gn r.tw : Nat) : Int) + 1)) (fun _ => HG5.out) |>.mono (T := T30) fun i e => .inr e)
              have hf8 : Fc (fun i => i = 30) W5 c5 (W5.setCell ⟨G, r.tw, none⟩ (.int .i64 (((S'.gn r.tw : Nat) : Int) + 1))) c5 := (Fc.id (fun i => i = 30) W5 c5).set ⟨G, r.tw, none⟩ _ (fun _ => HG5.out)
              refine FIN.out (HR5.out.fc hf8 (fun i hi => by omega)) ?_ hfs
              rw [HGN.out]
              have e9 : (fun x => ((Po.set S'.gn r.tw (S'.gn r.tw + 1) x : Nat) : Int)) = Po.set (fun x => ((S'.gn x : Nat) : Int)) r.tw (((S'.gn r.tw : Nat) : Int) + 1) := by
                funext x
                by_cases e : x = r.tw
                · subst e; rw [set_same, set_same]; rfl
                · rw [set_other e, set_other e]
              rw [e9]; exact hset
            case measure => clear v4 v4'; have hi1 := HI1.out; simp [intOf]; omega
          | some r5 =>
            have h5 := hv r5 hX5
            have h50 := HR0.out
            rw [show gvP X5 a5 t = some (a5 t) by unfold gvP; rw [hX5]; simp only [if_neg (show ¬ r5.tw = 0 by omega)]] at n8
            simp only [ptrO, Option.map] at n8
            rw [if_neg (fun q => by rw [hX5] at q; cases q.2)] at hgn5
            have HGN := Lib.hid hgn5
            clear hri5 hf5 hv5 hv har5 hf6 hg5 hgn5 hX5 k8 k14 ct h5 h50
            go_wp2
            clear s1 s4 s6 tm1 tm2 tm3
            go_roundw
            case rel => exact FIN.out HR5.out (by rw [HGN.out]; exact HA5.out) HF6.out
            case measure => clear v4 v4'; have hi1 := HI1.out; simp [intOf]; omega
        · rw [hno] at k8
          simp only [ptrO, Option.map] at k8
          have hgnB : ∀ (X5 : Nat → Option Po.Op) (S5 : Pm), S5.gn = (match X' t with | some r => if 0 < r.tw ∧ X5 t = none then Po.set S'.gn r.tw (S'.gn r.tw + 1) else S'.gn | none => S'.gn) → S5.gn = S'.gn := fun X5 S5 hq => by
            rw [hq]
            cases hX : X' t with
            | none => rfl
            | some r =>
              have h0 : r.tw = 0 := by
                unfold gvP at hno
                rw [hX] at hno
                simp only at hno
                by_cases h0 : r.tw = 0
                · exact h0
                · rw [if_neg h0] at hno; cases hno
              simp only
              rw [if_neg (fun q => by omega)]
          have HGB := Lib.hid hgnB
          clear hri har hf hx hbx hlt hi hle et ek ht hk hcy hcz hGc e3 b1 hno hgnB
          obtain ⟨v4, v4'⟩ := HV.out
          go_wp2_with fail
          go_quiet (fail)
          go_wp2_with fail
          refine (CPL _ _ (below_drewN (Below.refl _ _) nq)).out.mono ?_
          rintro r1 W5 ⟨rfl, c5, S5, X5, a5, stk5, sw5, of5, mn5, sk5, mine5, sn5, st5, hri5, hf5, hgn5, _, hv5⟩
          have har5 : Ar W5 G (fun x => ((S'.gn x : Nat) : Int)) := (HARK.out.below (below_drewN (Below.refl _ _) nq)).keep (hf5.keep (HARK.out.below (below_drewN (Below.refl _ _) nq)).lt (by rw [HGC.out]; unfold TA; omega))
          have hf6 := HF.out.trans ((Fc.of_below (S := T30) (below_drewN (Below.refl wk.heap.size wk) nq)).trans (hf5.mono (T := T30) fun i e => .inl e))
          have HGN := Lib.hid (HGB.out X5 S5 hgn5)
          have HR5 := Lib.hid hri5
          have HA5 := Lib.hid har5
          have HF6 := Lib.hid hf6
          clear hri5 hf5 hv5 har5 hf6 hgn5 k8 k14 ct
          go_wp2
          clear s1 s4 s6 tm1 tm2 tm3
          go_roundw
          case rel => exact FIN.out HR5.out (by rw [HGN.out]; exact HA5.out) HF6.out
          case measure => clear v4 v4'; have hi1 := HI1.out; simp [intOf]; omega
      · obtain rfl : i = a1n := by omega
        have d1 : decide ((i : Int) < (i : Int)) = false := decide_eq_false (by omega)
        have d1' : decide (i < i) = false := decide_eq_false (by omega)
        have CW := Lib.hid (Ly.towers_any hri.sa.ly.at)
        have CG := fun t => Lib.hid (genS hri.sa t)
        have l0 := hri.rb.y
        have l1 := hri.rb.p
        have HBF := Lib.hid (HB3.out.trans (hf.below HB3.out.size HLOW3.out T30_0))
        have HA := Lib.hid har
        clear hri har hf hle hlt hi
        go_wp2
        go_loopw [11] (fun vt wx => ∃ t : Nat, vt = .int .i64 ((t + 1 : Nat) : Int) ∧ t ≤ tot K.g.t 6 ∧ wx = wk) (fun vt _ => (tot K.g.t 6 + 1 - intOf vt).toNat)
        case atStart => exact ⟨0, rfl, Nat.zero_le _, by first | rfl | trivial⟩
        case round =>
          obtain ⟨t, rfl, ht, e⟩ := hrel
          subst e
          have h40 := H40.out
          by_cases hlt : t < tot K.g.t 6
          · have ca := HA.out.c (t + 1) (by omega)
            have CG1 := CG ((t + 1 : Nat) : Int)
            rw [show gnV (tot K.g.t 6) S' ((t + 1 : Nat) : Int) = ((S'.gn (t + 1) : Nat) : Int) by unfold gnV; rw [if_pos (by omega), Int.toNat_natCast], show gnE (tot K.g.t 6) ((t + 1 : Nat) : Int) = 0 from if_pos (by omega)] at CG1
            have d3 : decide (((t + 1 : Nat) : Int) ≤ ((tot K.g.t 6 : Nat) : Int)) = true := decide_eq_true (by omega)
            have d3' : decide (t + 1 ≤ tot K.g.t 6) = true := decide_eq_true (by omega)
            have d3n : decide (t < tot K.g.t 6) = true := decide_eq_true (by omega)
            have d3a : decide ((t : Int) + 1 ≤ ((tot K.g.t 6 : Nat) : Int)) = true := decide_eq_true (by omega)
            have d3b : decide ((t : Int) < ((tot K.g.t 6 : Nat) : Int)) = true := decide_eq_true (by omega)
            have t64 : ((t + 1 : Nat) : Int) < 64 := by omega
            have t0 : (0 : Int) ≤ ((t + 1 : Nat) : Int) := by omega
            have HV := Lib.hid (show IntKind.i64.wrap (((t + 1 : Nat) : Int) + 1) = ((t + 1 : Nat) : Int) + 1 ∧ wrap64 (((t + 1 : Nat) : Int) + 1) = ((t + 1 : Nat) : Int) + 1 from ⟨IntWalk.i64_in _ (by omega), IntWalk.wrap64_in _ (by omega)⟩)
            have HLT2 := Lib.hid hlt
            generalize ((S'.gn (t + 1) : Nat) : Int) = gv at ca CG1
            clear hlt ht h40
            obtain ⟨v4, v4'⟩ := HV.out
            go_wp2_with fail
            refine CW.out.mono ?_
            rintro r1 W7 ⟨rfl, e⟩
            obtain rfl := e.symm
            go_wp2_with fail
            refine CG1.out.mono ?_
            rintro r1 W7 ⟨rfl, e⟩
            obtain rfl := e.symm
            go_wp2
            go_roundw
            case rel => exact ⟨t + 1, by clear v4 v4'; go_num, HLT2.out, (by first | rfl | trivial)⟩
            case measure => clear v4 v4'; have := HLT2.out; simp [intOf]; omega
          · obtain rfl : t = tot K.g.t 6 := by omega
            have d3 : decide (((tot K.g.t 6 + 1 : Nat) : Int) ≤ ((tot K.g.t 6 : Nat) : Int)) = false := decide_eq_false (by omega)
            have d3' : decide (tot K.g.t 6 + 1 ≤ tot K.g.t 6) = false := decide_eq_false (by omega)
            have d3n : decide (tot K.g.t 6 < tot K.g.t 6) = false := decide_eq_false (by omega)
            have d3a : decide (((tot K.g.t 6 : Nat) : Int) + 1 ≤ ((tot K.g.t 6 : Nat) : Int)) = false := decide_eq_false (by omega)
            have d3b : decide (((tot K.g.t 6 : Nat) : Int) < ((tot K.g.t 6 : Nat) : Int)) = false := decide_eq_false (by omega)
            have CSI := Lib.hid (fun W => simple_any W)
            clear hlt ht h40
            go_wp2_with fail
            refine CW.out.mono ?_
            rintro r1 W7 ⟨rfl, e⟩
            obtain rfl := e.symm
            go_wp2_with fail
            refine (CSI.out _).mono ?_
            rintro r1 W7 ⟨rfl, hb7⟩
            have HB7 := Lib.hid (HBF.out.trans (hb7.mono HBF.out.size))
            clear hb7
            go_wp2
            go_ret
            exact ⟨rfl, HB7.out⟩
end Wk
end Go.Proofs.Ytcipjjchclpgnaa
