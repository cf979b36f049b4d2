/- Package event: Check: contract of the translated code. Condition: the length is at most that of any list. Written by tools/mk11chk.py. -/
import Derived.Test.YtbnchajkfceaoaaEvK
import Derived.Deep.RegionHeld3
import Derived.Deep.CutRange
namespace Go.Proofs.Ytbnchajkfceaoaa
open Go.RowKit Go.Sort
set_option linter.unusedVariables false
set_option linter.unusedSimpArgs false
namespace Ev
/-- what Check returns -/
def chkV (l : List E) : Value := match chk l with
  | some i => .tuple #[.int .i64 (i : Nat), .int .i64 15]
  | none => .tuple #[.int .i64 0, .int .i64 0]
theorem chkV_some {l : List E} {i : Nat} (h : chk l = some i) : chkV l = .tuple #[.int .i64 (i : Nat), .int .i64 15] := by unfold chkV; rw [h]
theorem chkV_none {l : List E} (h : chk l = none) : chkV l = .tuple #[.int .i64 0, .int .i64 0] := by unfold chkV; rw [h]
def st8 (l : List E) (j : Nat) : Nat → Int × Int := fun t => stE (lastE (t : Int) (l.take j))
theorem st8_zero (l : List E) : st8 l 0 = fun _ => (0, 0) := rfl
theorem st8_succ {l : List E} {j : Nat} (hj : j < l.length) {T : Nat} (hT : (l.getD j e0).t = (T : Int)) (hg : goodB (l.take j) (l.getD j e0) = true) :
    st8 l (j + 1) = fun k => if k = T then afS (st8 l j T).1 (st8 l j T).2 (l.getD j e0) else st8 l j k := by
  funext k
  obtain ⟨h1, _, h3⟩ := goodB_parts hg
  rw [hT] at h3
  unfold st8
  rw [take_get (d := e0) hj, lastE_snoc, hT]
  by_cases hk : k = T
  · subst hk
    rw [if_pos rfl, if_pos rfl, stE_after h3 ⟨h1.2.2.2.1, h1.2.2.2.2⟩]
    rfl
  · rw [if_neg (by omega), if_neg hk]
theorem zv_st (w : World) : (zeroValue 67).run Try.prog w = .ok (.agg #[.int .u8 0, .int .u64 0, .int .u8 0, .int .u64 0, .int .u8 0, .int .u64 0, .int .u8 0, .int .u64 0, .int .u8 0, .int .u64 0, .int .u8 0, .int .u64 0, .int .u8 0, .int .u64 0, .int .u8 0, .int .u64 0, .int .u8 0, .int .u64 0, .int .u8 0, .int .u64 0, .int .u8 0, .int .u64 0, .int .u8 0, .int .u64 0, .int .u8 0, .int .u64 0, .int .u8 0, .int .u64 0, .int .u8 0, .int .u64 0, .int .u8 0, .int .u64 0, .int .u8 0, .int .u64 0, .int .u8 0, .int .u64 0, .int .u8 0, .int .u64 0, .int .u8 0, .int .u64 0, .int .u8 0, .int .u64 0, .int .u8 0, .int .u64 0, .int .u8 0, .int .u64 0, .int .u8 0, .int .u64 0, .int .u8 0, .int .u64 0, .int .u8 0, .int .u64 0, .int .u8 0, .int .u64 0, .int .u8 0, .int .u64 0, .int .u8 0, .int .u64 0, .int .u8 0, .int .u64 0, .int .u8 0, .int .u64 0, .int .u8 0, .int .u64 0, .int .u8 0, .int .u64 0, .int .u8 0, .int .u64 0, .int .u8 0, .int .u64 0, .int .u8 0, .int .u64 0, .int .u8 0, .int .u64 0, .int .u8 0, .int .u64 0, .int .u8 0, .int .u64 0, .int .u8 0, .int .u64 0, .int .u8 0, .int .u64 0, .int .u8 0, .int .u64 0, .int .u8 0, .int .u64 0, .int .u8 0, .int .u64 0, .int .u8 0, .int .u64 0, .int .u8 0, .int .u64 0, .int .u8 0, .int .u64 0, .int .u8 0, .int .u64 0, .int .u8 0, .int .u64 0, .int .u8 0, .int .u64 0, .int .u8 0, .int .u64 0, .int .u8 0, .int .u64 0, .int .u8 0, .int .u64 0, .int .u8 0, .int .u64 0, .int .u8 0, .int .u64 0, .int .u8 0, .int .u64 0, .int .u8 0, .int .u64 0, .int .u8 0, .int .u64 0, .int .u8 0, .int .u64 0, .int .u8 0, .int .u64 0, .int .u8 0, .int .u64 0, .int .u8 0, .int .u64 0, .int .u8 0, .int .u64 0, .int .u8 0, .int .u64 0]) w := by kernel_rfl
theorem other4 {W : World} {b c o1 o2 o3 o4 : Nat} {v1 v2 v3 v4 : Value} (h : c ≠ b) : ((((W.setCell ⟨b, o1, none⟩ v1).setCell ⟨b, o2, none⟩ v2).setCell ⟨b, o3, none⟩ v3).setCell ⟨b, o4, none⟩ v4).heap[c]? = W.heap[c]? :=
  (other h).trans ((other h).trans ((other h).trans (other h)))
theorem keep2 {W : World} {b c o o1 o2 : Nat} {v v1 v2 : Value} (h : c ≠ b) (hc : W.cell? ⟨c, o, none⟩ = some v) : ((W.setCell ⟨b, o1, none⟩ v1).setCell ⟨b, o2, none⟩ v2).cell? ⟨c, o, none⟩ = some v :=
  (World.cell?_of_block (a := ⟨c, o, none⟩) ((other (v := v2) h).trans (other (v := v1) h))).trans hc
/-- what a round of Check knows -/
structure Ck (w : World) (l : List E) (j : Nat) (wr : World) : Prop where
  good : ∀ i, i < j → goodB (l.take i) (l.getD i e0) = true
  map : wr.heap[w.heap.size]? = some (.map mEs 4)
  ar : ArS wr (w.heap.size + 1) (st8 l j)
  bf : Bk wr (w.heap.size + 2) (bef (l.take j))
  bel : Below w.heap.size w wr
  size : w.heap.size + 3 ≤ wr.heap.size

set_option maxRecDepth 100000 in
set_option maxHeartbeats 1000000 in
theorem check_any (A : Option Addr) (n c : Nat) (l : List E) (w : World) (hl : l.length = n) (hx : n ≤ maxLen) (hr : KE.Rd w A l) :
    Calls Try.prog 10 #[.slice A n c] w fun e w' => e = .returned (chkV l) ∧ Below w.heap.size w w' := by
  unfold maxLen at hx
  have HL := Lib.hid hl
  have HR := Lib.hid hr
  have CM := fun (W : World) => Lib.hid (conditions_any W)
  have hzv := zv_st
  clear hl hr
  go_enter Try.func10, Try.ntmps10
  go_wp2_with fail
  refine (CM _).out.mono ?_
  rintro e w' ⟨rfl, rfl⟩
  go_wp2
  clear hzv
  go_loopw [14] (fun i wr => ∃ k : Nat, k ≤ n ∧ i = .int .i64 k ∧ Ck w l k wr) (fun i _ => n - (intOf i).toNat)
  case atStart =>
    refine ⟨0, Nat.zero_le _, rfl, ⟨fun i hi => (by omega), ?_, ?_, ?_, ?_, by simp⟩⟩
    · rw [(MapKept.heap_alloc _ _).2 _ (by simp; omega), (MapKept.heap_alloc _ _).2 _ (by simp)]
      exact (MapKept.heap_alloc _ _).1
    · have h := ArS.new (w.alloc (.map mEs 4))
      rw [World.size_alloc] at h
      rw [st8_zero]
      exact h.keep ((MapKept.heap_alloc _ _).2 _ h.lt)
    · have h := Bk.new ((w.alloc (.map mEs 4)).alloc (.cells (aS (fun _ => (0, 0))) 67)) ⟨-1, 0, 0, 0⟩
      rw [World.size_alloc, World.size_alloc, aS_zero] at h
      exact h
    · exact bel_alloc (bel_alloc (bel_alloc (Below.refl _ _) _) _) _
  case round =>
    obtain ⟨j, hj, rfl, ck⟩ := hrel
    obtain ⟨wq, rfl⟩ : ∃ wq : World, wq = wr := ⟨_, rfl⟩
    have CK := Lib.hid ck
    obtain ⟨_, hm, har, hbf, hbel, hsz⟩ := ck
    by_cases hlt : j < n
    · have hjl : j < l.length := by have := HL.out; omega
      obtain ⟨b, o, rfl, c0, c1, c2, c3⟩ := KE.at_ (HR.out.below hbel) hjl
      have lb : b < wq.heap.size := cell_lt c0
      have hTN := fun (T : Nat) hT hg => Lib.hid (st8_succ (T := T) hjl hT hg)
      have HT := Lib.hid (take_get (d := e0) hjl)
      have HC := Lib.hid (fun h1 => chk_some hjl CK.out.good h1)
      obtain ⟨⟨xs, xt, xk, xv⟩, hx0⟩ : ∃ x, l.getD j e0 = x := ⟨_, rfl⟩
      rw [hx0] at c0 c1 c2 c3 HC HT
      simp only at c0 c1 c2 c3
      obtain ⟨⟨ps, pt, pk, pv⟩, hp⟩ : ∃ p, bef (l.take j) = p := ⟨_, rfl⟩
      rw [hp] at hbf
      have HX := Lib.hid hx0
      have HP := Lib.hid hp
      have HM := Lib.hid hm
      have AR := Lib.hid har
      have BF := Lib.hid hbf
      have BE := Lib.hid hbel
      clear hx0 hp hm har hbf hbel
      have d0 : decide ((j : Int) < n) = true := decide_eq_true (by omega)
      have j1 : (j : Int) < n := by omega
      have BN := Lib.hid (Bk.new wq ⟨xs, xt, xk, xv⟩)
      have BF1 := Lib.hid (BF.out.alloc (.cells #[.int .i64 xs, .int .i64 xt, .int .u8 xk, .int .u64 xv] 57))
      by_cases hR : rangeB ⟨xs, xt, xk, xv⟩ = true
      · have CE := fun (W : World) => Lib.hid (isEvent_any xs xt xk xv W)
        rw [hR] at CE
        have hRR := hR
        simp only [rangeB, Bool.and_eq_true, decide_eq_true_eq] at hRR
        obtain ⟨r0, r1, r2, r3, r4⟩ := hRR
        obtain ⟨T, rfl⟩ := Int.eq_ofNat_of_zero_le r1
        have hT64 : T < 64 := by omega
        have CF := fun (W : World) => Lib.hid (follows_any ps pt pk pv xs T xk xv W)
        by_cases hS : stepB ⟨ps, pt, pk, pv⟩ ⟨xs, (T : Int), xk, xv⟩ = true
        · rw [hS] at CF
          obtain ⟨⟨qk, qv⟩, hq⟩ : ∃ q, st8 l j T = q := ⟨_, rfl⟩
          have CS := fun (W : World) => Lib.hid (sF_any ⟨r3, r4⟩ qk qv xs T xk xv W)
          have HG := Lib.hid (show goodB (l.take j) ⟨xs, (T : Int), xk, xv⟩ = sB xk qk qv ⟨xs, (T : Int), xk, xv⟩ from by
            unfold goodB
            rw [hR, prev_bef hR, HP.out, hS, allow_sB ⟨r3, r4⟩]
            show (true && (true && sB xk (st8 l j T).1 (st8 l j T).2 ⟨xs, (T : Int), xk, xv⟩)) = _
            rw [hq]; rfl)
          have HQ := Lib.hid hq
          clear hq hR hS
          by_cases hB : sB xk qk qv ⟨xs, (T : Int), xk, xv⟩ = true
          · have hgd := HG.out.trans hB
            have HN := Lib.hid (show st8 l (j + 1) = fun k => if k = T then afS qk qv ⟨xs, (T : Int), xk, xv⟩ else st8 l j k from by
              have h := (hTN T (by rw [HX.out]) (by rw [HX.out]; exact hgd)).out
              rw [HQ.out, HX.out] at h
              exact h)
            have HGD := Lib.hid (show ∀ i, i < j + 1 → goodB (l.take i) (l.getD i e0) = true from fun i hi => by
              by_cases hij : i = j
              · subst hij; rw [HX.out]; exact hgd
              · exact CK.out.good i (by omega))
            rw [hB] at CS
            have CA := fun (W : World) => Lib.hid (after_any qk qv xs T xk xv W)
            obtain ⟨⟨ak, av⟩, ha⟩ : ∃ q, afS qk qv ⟨xs, (T : Int), xk, xv⟩ = q := ⟨_, rfl⟩
            rw [ha] at CA HN
            simp only at CA
            clear hgd hB ha hTN CK
            go_wp2_with fail
            refine (CE _).out.mono ?_
            rintro e w1 ⟨rfl, b1⟩
            have BN2 := Lib.hid (BN.out.below b1 (by simp))
            have BF2 := Lib.hid (BF1.out.below b1 (by simp; omega))
            have z1 := b1.size
            rw [World.size_alloc] at z1
            have AR1 := Lib.hid ((AR.out.keep ((MapKept.heap_alloc wq _).2 _ (by omega))).below (by rw [World.size_alloc]; omega) b1)
            have HM1 := Lib.hid ((b1.block w.heap.size (by rw [World.size_alloc]; omega)).trans (((MapKept.heap_alloc wq _).2 _ (by omega)).trans HM.out))
            have BE1 := Lib.hid ((bel_alloc BE.out _).trans (b1.mono (by simp; omega)))
            obtain ⟨n0, n1, n2, n3⟩ := BN2.out.c
            obtain ⟨p0, p1, p2, p3⟩ := BF2.out.c
            clear BN BF1 AR HM b1
            go_wp2_with fail
            refine (CF _).out.mono ?_
            rintro e w2 ⟨rfl, b2⟩
            have z2 := b2.size
            have BN3 := Lib.hid (BN2.out.below b2 (by omega))
            have BF3 := Lib.hid (BF2.out.below b2 (by omega))
            have AR2 := Lib.hid (AR1.out.below (by omega) b2)
            have HM2 := Lib.hid ((b2.block w.heap.size (by omega)).trans HM1.out)
            have BE2 := Lib.hid (BE1.out.trans (b2.mono (by omega)))
            clear BN2 BF2 AR1 HM1 n0 n1 n2 n3 p0 p1 p2 p3 b2
            obtain ⟨n0, n1, n2, n3⟩ := BN3.out.c
            obtain ⟨a0, a1⟩ := AR2.out.cell hT64
            have e0' := congrArg Prod.fst HQ.out
            have e1' := congrArg Prod.snd HQ.out
            rw [e0'] at a0
            rw [e1'] at a1
            simp only at a0 a1
            clear e0' e1'
            obtain ⟨v0, v1, v2, v3⟩ := (BN3.out.alloc (.cells #[.int .u8 qk, .int .u64 qv] 66)).c
            have LK := look_run (W := w2.alloc (.cells #[.int .u8 qk, .int .u64 qv] 66)) (n := xk) (((MapKept.heap_alloc w2 _).2 _ (by omega)).trans HM2.out) ⟨r3, r4⟩
            have LF := fun args W => callF_run (n := xk) ⟨r3, r4⟩ args W
            go_wp2_with fail
            refine (CS _).out.mono ?_
            rintro e w3 ⟨rfl, b3⟩
            have z3 := b3.size
            rw [World.size_alloc] at z3
            have hk1 : w.heap.size + 1 < w3.heap.size := by omega
            have hk2 : w2.heap.size < w3.heap.size := by omega
            have hk3 : wq.heap.size < w3.heap.size := by omega
            have BN4 := Lib.hid ((BN3.out.alloc _).below b3 (by rw [World.size_alloc]; omega))
            have BF4 := Lib.hid ((BF3.out.alloc _).below b3 (by rw [World.size_alloc]; omega))
            have AR3 := Lib.hid ((AR2.out.keep ((MapKept.heap_alloc w2 _).2 _ (by omega))).below (by rw [World.size_alloc]; omega) b3)
            have HM3 := Lib.hid ((b3.block w.heap.size (by rw [World.size_alloc]; omega)).trans (((MapKept.heap_alloc w2 _).2 _ (by omega)).trans HM2.out))
            have BE3 := Lib.hid ((bel_alloc BE2.out _).trans (b3.mono (by simp; omega)))
            have s0 : w3.cell? ⟨w2.heap.size, 0, none⟩ = some (.int .u8 qk) := (b3.cell (p := ⟨w2.heap.size, 0, none⟩) (by simp)).trans (by simp)
            have s1 : w3.cell? ⟨w2.heap.size, 1, none⟩ = some (.int .u64 qv) := (b3.cell (p := ⟨w2.heap.size, 1, none⟩) (by simp)).trans (by simp)
            clear LF BN3 BF3 AR2 HM2 n0 n1 n2 n3 v0 v1 v2 v3 a0 a1 LK b3
            obtain ⟨n0, n1, n2, n3⟩ := BN4.out.c
            have hne1 : wq.heap.size ≠ w.heap.size + 1 := by omega
            have hne2 : w2.heap.size ≠ w.heap.size + 1 := by omega
            go_upto_region 12 with fail
            go_cut [] from 42 to 47 (fun wx => wx.heap[w.heap.size]? = some (.map mEs 4) ∧ ArS wx (w.heap.size + 1) (st8 l (j + 1)) ∧ Bk wx (w.heap.size + 2) ⟨ps, pt, pk, pv⟩ ∧ Bk wx wq.heap.size ⟨xs, (T : Int), xk, xv⟩ ∧ Below w.heap.size w wx ∧ w.heap.size + 3 ≤ wx.heap.size)
            case first =>
              go_region_held3 (fun w' => w'.cell? ⟨wq.heap.size, 0, none⟩ = some (.int .i64 xs) ∧ w'.cell? ⟨wq.heap.size, 1, none⟩ = some (.int .i64 (T : Int)) ∧ w'.cell? ⟨wq.heap.size, 2, none⟩ = some (.int .u8 xk) ∧ w'.cell? ⟨wq.heap.size, 3, none⟩ = some (.int .u64 xv) ∧ w'.cell? ⟨w2.heap.size, 0, none⟩ = some (.int .u8 qk) ∧ w'.cell? ⟨w2.heap.size, 1, none⟩ = some (.int .u64 qv)) (first | exact ⟨n0, n1, n2, n3, s0, s1⟩ | exact ⟨m0, m1, m2, m3, t0, t1⟩ | exact ⟨keep2 hne1 m0, keep2 hne1 m1, keep2 hne1 m2, keep2 hne1 m3, keep2 hne2 t0, keep2 hne2 t1⟩) ((go_at_call 33; refine (CA _).out.mono ?_; rintro r w4 ⟨rfl, b4'⟩; have b4 : Below w3.heap.size w3 w4 := ⟨b4'.os, b4'.tape, b4'.output, b4'.size, b4'.block⟩; obtain ⟨m0, m1, m2, m3⟩ := (BN4.out.below b4 hk3).c; have t0 := ((b4.cell (p := ⟨w2.heap.size, 0, none⟩) hk2).trans s0); have t1 := ((b4.cell (p := ⟨w2.heap.size, 1, none⟩) hk2).trans s1); obtain ⟨y0, y1⟩ := (AR3.out.below hk1 b4).cell hT64; have g0 := (AR3.out.below hk1 b4).frozen (T * 2); have g1 := (AR3.out.below hk1 b4).frozen (T * 2 + 1)))
              all_goals (go_wp2_with fail)
              all_goals (go_meet)
              all_goals
                have z4 := b4.size
                refine ⟨?_, ?_, ?_, ?_, ?_, ?_⟩
                · exact ((other (by omega)).trans (other (by omega))).trans ((b4.block _ (by omega)).trans HM3.out)
                · rw [HN.out]; exact (AR3.out.below hk1 b4).set hT64 ak av
                · exact (BF4.out.below b4 (by omega)).same ((other (by omega)).trans (other (by omega)))
                · exact (BN4.out.below b4 hk3).same ((other hne1).trans (other hne1))
                · exact ((BE3.out.trans (b4.mono (by omega))).setCell (p := ⟨w.heap.size + 1, T * 2, none⟩) (by show w.heap.size ≤ w.heap.size + 1; omega) _).setCell (p := ⟨w.heap.size + 1, T * 2 + 1, none⟩) (by show w.heap.size ≤ w.heap.size + 1; omega) _
                · simp; omega
            case rest =>
              obtain ⟨hm, har, hbf, hbn, hbe, hsz'⟩ := hcut
              have HM5 := Lib.hid hm
              have AR5 := Lib.hid har
              have BF5 := Lib.hid hbf
              have BN5 := Lib.hid hbn
              have BE5 := Lib.hid hbe
              clear hm har hbf hbn hbe hne1 hne2 n0 n1 n2 n3 s0 s1
              obtain ⟨n0, n1, n2, n3⟩ := BN5.out.c
              obtain ⟨p0, p1, p2, p3⟩ := BF5.out.c
              have f0 := BF5.out.frozen 0
              have f1 := BF5.out.frozen 1
              have f2 := BF5.out.frozen 2
              have f3 := BF5.out.frozen 3
              go_wp2
              go_roundw
              case rel =>
                refine ⟨j + 1, by omega, by go_num, ⟨HGD.out, ?_, ?_, ?_, ?_, ?_⟩⟩
                · exact (other4 (by omega)).trans HM5.out
                · exact AR5.out.keep (other4 (by omega))
                · rw [HT.out, bef_snoc]; exact BF5.out.set ⟨xs, (T : Int), xk, xv⟩
                · exact (((BE5.out.setCell (p := ⟨w.heap.size + 1 + 1, 0, none⟩) (by show w.heap.size ≤ w.heap.size + 1 + 1; omega) _).setCell (p := ⟨w.heap.size + 1 + 1, 1, none⟩) (by show w.heap.size ≤ w.heap.size + 1 + 1; omega) _).setCell (p := ⟨w.heap.size + 1 + 1, 2, none⟩) (by show w.heap.size ≤ w.heap.size + 1 + 1; omega) _).setCell (p := ⟨w.heap.size + 1 + 1, 3, none⟩) (by show w.heap.size ≤ w.heap.size + 1 + 1; omega) _
                · simp; omega
              case measure => simp [intOf]; omega
          · rw [Bool.not_eq_true] at hB
            have HV := Lib.hid (chkV_some (HC.out (HG.out.trans hB)))
            rw [hB] at CS
            clear HG hB hTN CK
            go_wp2_with fail
            refine (CE _).out.mono ?_
            rintro e w1 ⟨rfl, b1⟩
            have BN2 := Lib.hid (BN.out.below b1 (by simp))
            have BF2 := Lib.hid (BF1.out.below b1 (by simp; omega))
            have z1 := b1.size
            rw [World.size_alloc] at z1
            have AR1 := Lib.hid ((AR.out.keep ((MapKept.heap_alloc wq _).2 _ (by omega))).below (by rw [World.size_alloc]; omega) b1)
            have HM1 := Lib.hid ((b1.block w.heap.size (by rw [World.size_alloc]; omega)).trans (((MapKept.heap_alloc wq _).2 _ (by omega)).trans HM.out))
            have BE1 := Lib.hid ((bel_alloc BE.out _).trans (b1.mono (by simp; omega)))
            obtain ⟨n0, n1, n2, n3⟩ := BN2.out.c
            obtain ⟨p0, p1, p2, p3⟩ := BF2.out.c
            clear BN BF1 AR HM b1
            go_wp2_with fail
            refine (CF _).out.mono ?_
            rintro e w2 ⟨rfl, b2⟩
            have z2 := b2.size
            have BN3 := Lib.hid (BN2.out.below b2 (by omega))
            have BF3 := Lib.hid (BF2.out.below b2 (by omega))
            have AR2 := Lib.hid (AR1.out.below (by omega) b2)
            have HM2 := Lib.hid ((b2.block w.heap.size (by omega)).trans HM1.out)
            have BE2 := Lib.hid (BE1.out.trans (b2.mono (by omega)))
            clear BN2 BF2 AR1 HM1 n0 n1 n2 n3 p0 p1 p2 p3 b2
            obtain ⟨n0, n1, n2, n3⟩ := BN3.out.c
            obtain ⟨a0, a1⟩ := AR2.out.cell hT64
            have e0' := congrArg Prod.fst HQ.out
            have e1' := congrArg Prod.snd HQ.out
            rw [e0'] at a0
            rw [e1'] at a1
            simp only at a0 a1
            clear e0' e1'
            obtain ⟨v0, v1, v2, v3⟩ := (BN3.out.alloc (.cells #[.int .u8 qk, .int .u64 qv] 66)).c
            have LK := look_run (W := w2.alloc (.cells #[.int .u8 qk, .int .u64 qv] 66)) (n := xk) (((MapKept.heap_alloc w2 _).2 _ (by omega)).trans HM2.out) ⟨r3, r4⟩
            have LF := fun args W => callF_run (n := xk) ⟨r3, r4⟩ args W
            go_wp2_with fail
            refine (CS _).out.mono ?_
            rintro e w3 ⟨rfl, b3⟩
            have z3 := b3.size
            rw [World.size_alloc] at z3
            have hk1 : w.heap.size + 1 < w3.heap.size := by omega
            have hk2 : w2.heap.size < w3.heap.size := by omega
            have hk3 : wq.heap.size < w3.heap.size := by omega
            have BN4 := Lib.hid ((BN3.out.alloc _).below b3 (by rw [World.size_alloc]; omega))
            have BF4 := Lib.hid ((BF3.out.alloc _).below b3 (by rw [World.size_alloc]; omega))
            have AR3 := Lib.hid ((AR2.out.keep ((MapKept.heap_alloc w2 _).2 _ (by omega))).below (by rw [World.size_alloc]; omega) b3)
            have HM3 := Lib.hid ((b3.block w.heap.size (by rw [World.size_alloc]; omega)).trans (((MapKept.heap_alloc w2 _).2 _ (by omega)).trans HM2.out))
            have BE3 := Lib.hid ((bel_alloc BE2.out _).trans (b3.mono (by simp; omega)))
            have s0 : w3.cell? ⟨w2.heap.size, 0, none⟩ = some (.int .u8 qk) := (b3.cell (p := ⟨w2.heap.size, 0, none⟩) (by simp)).trans (by simp)
            have s1 : w3.cell? ⟨w2.heap.size, 1, none⟩ = some (.int .u64 qv) := (b3.cell (p := ⟨w2.heap.size, 1, none⟩) (by simp)).trans (by simp)
            clear LF BN3 BF3 AR2 HM2 n0 n1 n2 n3 v0 v1 v2 v3 a0 a1 LK b3
            obtain ⟨n0, n1, n2, n3⟩ := BN4.out.c
            go_wp2
            go_ret2
            exact ⟨by rw [HV.out]; first | done | rfl, BE3.out⟩
        · rw [Bool.not_eq_true] at hS
          rw [hS] at CF
          have HV := Lib.hid (chkV_some (HC.out (by unfold goodB; rw [prev_bef hR, HP.out, hS]; simp)))
          clear hR hS r0 r1 r2 r3 r4 hTN
          go_wp2_with fail
          refine (CE _).out.mono ?_
          rintro e w1 ⟨rfl, b1⟩
          obtain ⟨n0, n1, n2, n3⟩ := (BN.out.below b1 (by simp)).c
          obtain ⟨p0, p1, p2, p3⟩ := (BF1.out.below b1 (by simp; omega)).c
          go_wp2_with fail
          refine (CF _).out.mono ?_
          rintro e w2 ⟨rfl, b2⟩
          go_wp2
          go_ret2
          exact ⟨by rw [HV.out]; first | done | rfl, (bel_alloc BE.out _).trans ((b1.mono (by simp; omega)).trans (b2.mono (by have := b1.size; simp at this; omega)))⟩
      · rw [Bool.not_eq_true] at hR
        have CE := fun (W : World) => Lib.hid (isEvent_any xs xt xk xv W)
        rw [hR] at CE
        have HV := Lib.hid (chkV_some (HC.out (by unfold goodB; rw [hR]; rfl)))
        clear hR hTN
        go_wp2_with fail
        refine (CE _).out.mono ?_
        rintro e w1 ⟨rfl, b1⟩
        go_wp2
        go_ret2
        exact ⟨by rw [HV.out]; first | done | rfl, (bel_alloc BE.out _).trans (b1.mono (by simp; omega))⟩
    · obtain rfl : j = n := by omega
      have HV := Lib.hid (chkV_none (chk_none.2 (fun i hi => CK.out.good i (by have := HL.out; omega))))
      have d0 : decide ((j : Int) < j) = false := by simp
      clear CK hm har hbf
      go_wp2
      go_ret2
      exact ⟨by rw [HV.out]; first | done | rfl, hbel⟩
end Ev
end Go.Proofs.Ytbnchajkfceaoaa
