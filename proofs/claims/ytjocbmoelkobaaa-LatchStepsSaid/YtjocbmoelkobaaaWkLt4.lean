/- The walk of the law LatchSteps, from the contracts of package latch and of the reference. Conditions: none. (Written by tools/mk13stp.py.) -/
import Derived.Test.YtjocbmoelkobaaaLtV
import Derived.Test.YtjocbmoelkobaaaWkLt1
namespace Go.Proofs.Ytjocbmoelkobaaa
open Go.RowKit Go.Sort
set_option linter.unusedVariables false
set_option linter.unusedSimpArgs false
namespace Wk
open Wd Lt
open Dm (addr_lit info_parts spot_none RdK flatU infoU bel_alloc bel_trans own_keep below_drewN)
set_option maxRecDepth 100000 in
set_option maxHeartbeats 8000000 in
theorem walk_latchSteps (a0 : Option Addr) (a0n a0c : Nat) (a0v : List Int) (a1 : Option Addr) (a1n a1c : Nat) (a1v : List Lt.Ev) (w : World) (a0e : a0v.length = a0n) (a0m : a0n ≤ maxLen) (a0r : Dm.RdK .u64 w a0 a0v) (a0b : Dm.BdU a0v) (a0z : a0 = none → a0c = 0) (a1e : a1v.length = a1n) (a1m : a1n ≤ maxLen) (a1r : Lt.RdE w a1 a1v) (a1b : Lt.BdE a1v) (a1z : a1 = none → a1c = 0) :
    Calls Try.prog 3 #[.slice a0 a0n a0c, .slice a1 a1n a1c] w fun e w' => e = .returned (.bool true) ∧ Below w.heap.size w w' := by
  by_cases g0 : a0n = 0
  · subst g0
    go_enter Try.func3, Try.ntmps3
    go_wp2
    go_ret
    exact ⟨rfl, Below.refl _ _⟩
  have h0 : 0 < a0n := by omega
  have t0 : decide ((a0n : Int) < 1) = false := decide_eq_false (by omega)
  have t0' : decide (a0n < 1) = false := decide_eq_false (by omega)
  have t0n : decide (a0n = 0) = false := decide_eq_false g0
  by_cases g1 : 20 < a0n
  · have t1 : decide ((20 : Int) < a0n) = true := decide_eq_true (by omega)
    have t1' : decide (20 < a0n) = true := decide_eq_true g1
    go_enter Try.func3, Try.ntmps3
    go_wp2
    go_ret
    exact ⟨rfl, Below.refl _ _⟩
  have t1 : decide ((20 : Int) < a0n) = false := decide_eq_false (by omega)
  have t1' : decide (20 < a0n) = false := decide_eq_false g1
  by_cases g2 : 300 < a1n
  · have t2 : decide ((300 : Int) < a1n) = true := decide_eq_true (by omega)
    have t2' : decide (300 < a1n) = true := decide_eq_true g2
    go_enter Try.func3, Try.ntmps3
    go_wp2
    go_ret
    exact ⟨rfl, Below.refl _ _⟩
  have t2 : decide ((300 : Int) < a1n) = false := decide_eq_false (by omega)
  have t2' : decide (300 < a1n) = false := decide_eq_false g2
  have h20 : a0n ≤ 20 := by omega
  have h300 : a1n ≤ 300 := by omega
  have made : (w.alloc (.cells #[] 55)).ownsRow w.heap.size 55 1 (.slice (some ⟨w.heap.size, 0, none⟩) 0 0) 0 (flatU []) := World.ownsRow_made w #[] 0 (Nat.le_refl _) (Nat.zero_le _) (by simp)
  have B0 : Below w.heap.size w (w.alloc (.cells #[] 55)) := bel_alloc (Below.refl _ _) _
  have HR := Lib.hid a0r
  have HE := Lib.hid a1r
  have HD := Lib.hid (bdU_bdW a0b)
  have HBE := Lib.hid a1b
  have HN := Lib.hid a0e
  have HNE := Lib.hid a1e
  clear a0r a1r a0b a1b a0e a1e g0 g1 g2
  go_enter Try.func3, Try.ntmps3
  go_wp2_with (at_builtin; refine Dm.appAll rfl (.tmp 41) (.tmp 42) rfl _ w.heap.size 0 _ [] a0 a0n a0c a0v rfl rfl made HN.out (by omega) (by omega) (by simp) (HR.out.below B0) a0z ?_; intro v2 w2 h2 b2; rw [Nat.zero_add, List.nil_append] at h2; obtain ⟨g, cap, rfl⟩ := Joins.ownsRow_form h2 h0)
  have CN := Lib.hid (new_any (some ⟨g, 0, none⟩) a0n cap a0v w2 HN.out (by unfold maxLen; omega) (rowU_rd h2) HD.out)
  have b3 : Below w.heap.size w w2 := B0.trans (b2.mono (Nat.le_refl _))
  have HNW := Lib.hid (show newE a0v.length = 0 from newE_ok (by rw [HN.out]; exact h0) (by rw [HN.out]; omega))
  clear made h2 b2 B0
  refine CN.out.mono ?_
  rintro r w3 (⟨h, _⟩ | ⟨_, b, p, rfl, ha, hbs, hps, b4⟩)
  · exact absurd HNW.out h
  have B3 := Lib.hid (b3.trans (b4.mono b3.size))
  have HL := Lib.hid (mem_start (P := LAt) (k := 1) (c := fun _ => 0) ha (Nat.le_trans b3.size hbs) (Nat.le_trans b3.size hps))
  clear CN ha b4 b3 hbs hps
  have CR := Lib.hid (Wd.newR_any a0 a0n a0c a0v w3 HN.out a0m (HR.out.below B3.out) a0z HD.out)
  go_wp2_with fail
  refine CR.out.mono ?_
  rintro r w4 (⟨h, _⟩ | ⟨_, br, p', rfl, ha, hbs, hps, b5⟩)
  · exact absurd HNW.out h
  have B5 := B3.out.trans (b5.mono B3.out.size)
  have HS := Lib.hid (show Es w w4 (up (up (fun _ => 0) w.heap.size 1) w3.heap.size 2) b br ⟨a0v, []⟩ (fun _ => none) (fun _ => none) ((0 : Nat) : Int) [] (.slice none 0 0) (.slice none 0 0) from
    ⟨HL.out.keep pkL (Fc.of_below_up (S := fun _ => False) b5) id id, mem_start (P := RAt) (k := 2) ha hbs hps, Rw.nil .., Rw.nil .., fun i p h => by simp at h, fun i j p q h => by simp at h, fun i hi => by
      have := B3.out.size
      rw [up_lt (by omega), up_lt hi], B5⟩)
  clear CR ha b5 hbs hps B5 B3 HL
  go_wp2
  go_loopw [9, 10, 11] (fun va vb iv wr => ∃ (j n : Nat) (c : Nat → Nat) (M : Wm) (X Y : Nat → Option Lk) (P : List Tp), iv = .int .i64 j ∧ j ≤ a1n ∧ P.length = n ∧ n ≤ j ∧ M.L.length ≤ j ∧ Es w wr c b br M X Y j P va vb) (fun _ _ i _ => (a1n - intOf i).toNat)
  case atStart => exact ⟨0, 0, _, _, _, _, [], rfl, Nat.zero_le _, rfl, Nat.le_refl _, Nat.le_refl _, HS.out⟩
  case round =>
    clear HS HR HD HN
    obtain ⟨j, n, c, M, X, Y, P, rfl, hj, hn, hnj, hML, hE⟩ := hrel
    obtain ⟨vA, cA, vB, cB, rfl, rfl⟩ := hE.any hn
    by_cases hlt : j < a1n
    · have d0 : decide ((j : Int) < (a1n : Int)) = true := decide_eq_true (by omega)
      have d0' : decide (j < a1n) = true := decide_eq_true hlt
      have hw1 : IntKind.i64.wrap ((j : Int) + 1) = (j : Int) + 1 := IntWalk.i64_in _ (by omega)
      obtain ⟨x, hx, hxm⟩ := ev_get (show j < a1v.length by rw [HNE.out]; exact hlt)
      obtain ⟨xb, xo, rfl, e5⟩ := HE.out j x hx
      have e5 := e5.keep (hE.be.block xb e5.lt)
      have q0 := e5.c0
      have q1 := e5.c1
      have q2 := e5.c2
      have q3 := e5.c3
      have q4 := e5.c4
      have bx := HBE.out x hxm
      have d1 := bx.d0
      have d2 := bx.d1
      have HK := Lib.hid bx.k
      have hlt' : (j : Int) < a1n := by omega
      obtain ⟨eb, heb⟩ : ∃ e, e = wr.heap.size := ⟨_, rfl⟩
      obtain ⟨W1, hW1⟩ : ∃ W, W = wr.alloc (.cells #[.int .u8 x.d, .int .i64 x.k, .int .i64 x.t, .int .i64 x.a, .int .i64 x.m] 34) := ⟨_, rfl⟩
      have bW : Below wr.heap.size wr W1 := by rw [hW1]; exact bel_alloc (Below.refl _ _) _
      have hB1 : Bx W1 eb x := by rw [hW1, heb]; exact Bx.new ..
      have f1 : Fc (fun _ => False) wr c W1 (up c wr.heap.size 7) := Fc.of_below_up bW
      have hbc : up c wr.heap.size 7 eb = 7 := by rw [heb]; exact up_ge (Nat.le_refl _)
      have hE1 := hE.keep f1 fun _ _ e => e
      generalize up c wr.heap.size 7 = c1 at *
      have k1 := hB1.c1
      have k2 := hB1.c2
      have k3 := hB1.c3
      have k4 := hB1.c4
      have HB1 := Lib.hid hB1
      have HE1 := Lib.hid hE1
      have HBC := Lib.hid hbc
      have HPN := Lib.hid hn
      have HWE := Lib.hid hW1
      have HEB := Lib.hid heb
      clear e5 bx hE hE1 hB1 hbc f1 bW hx hxm hn hW1 heb
      rcases (show x.d % 4 = 0 ∨ x.d % 4 = 3 ∨ (¬ x.d % 4 = 0 ∧ ¬ x.d % 4 = 3) by omega) with hd | hd | ⟨hd, hd'⟩
      · have u0 : (x.d % 4 == 0) = true := by simp [hd]
        clear hd
        have CL := newS HE1.out.l (by omega) x.t x.a x.m
        unfold NewPost at CL
        by_cases hy : lkE M x.t x.a x.m = 0
        · replace CL := Lib.hid CL
          have HY := Lib.hid hy
          clear hy
          go_wp2_with fail
          rw [← HWE.out, ← HEB.out]
          refine CL.out.mono ?_
          rintro r W2 (⟨e, _⟩ | ⟨_, rfl, hl, hb⟩)
          · exact absurd HY.out e
          obtain ⟨x1, hx1⟩ : ∃ x1, x1 = W1.heap.size := ⟨_, rfl⟩
          have f12 : Fc (fun _ => False) W1 c1 W2 (up c1 W1.heap.size (1 + 2)) := Fc.of_below_up hb
          have hxn := HE1.out.l.fresh pkL (Nat.le_of_eq hx1.symm)
          have hB2 := HB1.out.keep (hb.block _ HB1.out.lt)
          have k2 := hB2.c2
          have k3 := hB2.c3
          have k4 := hB2.c4
          rw [← hx1] at hl f12 ⊢
          generalize up c1 x1 (1 + 2) = c2 at *
          have hr2 := HE1.out.r.keep pkR f12 id id
          have CR := newRS hr2 (by omega) x.t x.a x.m
          unfold NewPost at CR
          replace CR := Lib.hid CR
          have HL2 := Lib.hid hl
          have HXN := Lib.hid hxn
          have F12 := Lib.hid f12
          clear hl hb hx1 hxn hB2 hr2 f12 CL
          go_wp2_with fail
          refine CR.out.mono ?_
          rintro r W3 (⟨e, _⟩ | ⟨_, rfl, hr, hb⟩)
          · exact absurd HY.out e
          obtain ⟨y1, hy1⟩ : ∃ y1, y1 = W2.heap.size := ⟨_, rfl⟩
          have f23 : Fc (fun _ => False) W2 c2 W3 (up c2 W2.heap.size (2 + 2)) := Fc.of_below_up hb
          have hyn := HE1.out.r.fresh pkR (show W1.heap.size ≤ y1 by rw [hy1]; exact F12.out.fr.size)
          rw [← hy1] at hr f23 ⊢
          generalize up c2 y1 (2 + 2) = c3 at *
          have f13 := F12.out.trans f23
          have HL3 := Lib.hid (HL2.out.keep pkL (S := fun _ => False) f23 id id)
          have HR3 := Lib.hid hr
          have HYN := Lib.hid hyn
          have HRA3 := Lib.hid (HE1.out.ra.keep (S := fun _ => False) f13 id)
          have HRB3 := Lib.hid (HE1.out.rb.keep (S := fun _ => False) f13 id)
          have F13 := Lib.hid f13
          have HLA := Lib.hid (show (P.map Tp.x).length = n by rw [List.length_map]; exact HPN.out)
          have HLB := Lib.hid (show (P.map Tp.y).length = n by rw [List.length_map]; exact HPN.out)
          clear hb hy1 hyn hr f23 f13 CR k1 k2 k3 k4
          go_wp2_with (first
            | (at_builtin; refine appP (S := 31) (E := 35) Try.underlying31 infoL rfl (.tmp 177) (.tmp 179) rfl _ c3 5 W3.heap.size x1 _ (P.map Tp.x) rfl rfl (by simp) (HRA3.out.keep (Fc.of_below (S := fun _ => False) (bel_alloc (Below.refl _ _) _)) id) n HLA.out (by omega) ?_; intro g4 m4 W4 ra4 f34; have HRA4 := Lib.hid ra4; have F34 := Lib.hid f34; clear ra4 f34)
            | (at_builtin; refine appP (S := 32) (E := 38) Try.underlying32 infoR rfl (.tmp 181) (.tmp 183) rfl _ _ 6 W4.heap.size y1 _ (P.map Tp.y) rfl rfl (by simp) (((HRB3.out.keep (Fc.of_below (S := fun _ => False) (bel_alloc (Below.refl _ _) _)) id).keep F34.out (by omega)).keep (Fc.of_below (S := fun _ => False) (bel_alloc (Below.refl _ _) _)) id) n HLB.out (by omega) ?_; intro g5 m5 W5 rb5 f45; have HRB5 := Lib.hid rb5; have F45 := Lib.hid f45; clear rb5 f45))
          go_roundw
          case rel =>
            have ta := (Fc.of_below (S := fun i => i = 5 ∨ i = 6) (c := c3) (bel_alloc (Below.refl W3.heap.size W3) (.cells #[.pointer (some ⟨x1, 0, none⟩)] 35))).trans (F34.out.mono (T := fun i => i = 5 ∨ i = 6) fun _ e => .inl e)
            have tb := (Fc.of_below (S := fun i => i = 5 ∨ i = 6) (bel_alloc (Below.refl W4.heap.size W4) (.cells #[.pointer (some ⟨y1, 0, none⟩)] 38))).trans (F45.out.mono (T := fun i => i = 5 ∨ i = 6) fun _ e => .inr e)
            have tt := ta.trans tb
            have ft := (F13.out.mono (T := fun i => i = 5 ∨ i = 6) fun _ e => e.elim).trans tt
            have he := HE1.out.push (Lk.new x.t x.a x.m) HXN.out HYN.out (HL3.out.keep pkL tt (by omega) (by omega)) (HR3.out.keep pkR tt (by omega) (by omega)) ((HRA4.out.keep (Fc.of_below (S := fun _ => False) (bel_alloc (Below.refl _ _) _)) id).keep F45.out (by omega)) HRB5.out (ft.low HE1.out.be.size HE1.out.lo) (HE1.out.be.trans (ft.below HE1.out.be.size HE1.out.lo (by omega)))
            exact ⟨j + 1, n + 1, _, M, _, _, _, by go_num, by omega, by rw [List.length_append, HPN.out]; rfl, by omega, by omega, he.more (by omega)⟩
          case measure => simp [intOf]; omega
        · have HY := Lib.hid hy
          have CR := newRS HE1.out.r (by omega) x.t x.a x.m
          unfold NewPost at CR
          generalize lkE M x.t x.a x.m = y at *
          have y0 : (y == 0) = false := beq_eq_false_iff_ne.2 hy
          replace CL := Lib.hid CL
          replace CR := Lib.hid CR
          clear hy
          go_wp2_with fail
          rw [← HWE.out, ← HEB.out]
          refine CL.out.mono ?_
          rintro r W2 (⟨_, rfl, e⟩ | ⟨e, _⟩)
          · obtain rfl := e.symm
            go_wp2_with fail
            refine CR.out.mono ?_
            rintro r W3 (⟨_, rfl, e⟩ | ⟨e, _⟩)
            · obtain rfl := e.symm
              go_wp2
              go_roundw
              case rel => exact ⟨j + 1, n, c1, M, X, Y, P, by go_num, by omega, HPN.out, by omega, by omega, HE1.out.more (by omega)⟩
              case measure => simp [intOf]; omega
            · exact absurd e HY.out
          · exact absurd e HY.out
      · have u0 : (x.d % 4 == 0) = false := by simp [hd]
        have u3 : (x.d % 4 == 3) = true := by simp [hd]
        clear hd
        have hEd := HE1.out.below (below_drewN (Below.refl _ W1) 1)
        have CL := unlockS hEd.l (by omega) x.t x.a
        have CRf := fun (W : World) (c' : Nat → Nat) (h : SR 2 W c' br M Y j) => Lib.hid (unlockRS h (by omega) x.t x.a)
        unfold UnPost at CL CRf
        have HUL := Lib.hid (un_log M x.t x.a)
        generalize unE M x.t x.a = y at *
        generalize unM M x.t x.a = M' at *
        replace CL := Lib.hid CL
        have HED := Lib.hid hEd
        have HBD := Lib.hid (HB1.out.keep (w' := W1.drew) rfl)
        clear hEd
        go_wp2_with fail
        rw [← HWE.out, ← HEB.out]
        go_region_held3 (fun w' => w'.cell? ⟨eb, 2, none⟩ = some (.int .i64 x.t) ∧ w'.cell? ⟨eb, 3, none⟩ = some (.int .i64 x.a)) (first | exact ⟨k2, k3⟩ | with_reducible exact ⟨m2, m3⟩ | with_reducible exact ⟨n2, n3⟩) (first | (go_at_call 11; refine CL.out.mono ?_; rintro r W2 ⟨rfl, hl, f12⟩; have hr2 := HED.out.r.keep pkR f12 (by omega) (by omega); have hB2 := HBD.out.keep (f12.keep HBD.out.lt (by rw [HBC.out]; omega)); have m2 := hB2.c2; have m3 := hB2.c3; have hbc2 := (f12.co _ HBD.out.lt).trans HBC.out) | (go_at_call 12; refine (CRf W2 _ hr2).out.mono ?_; rintro r W3 ⟨rfl, hr, f23⟩; have hB3 := hB2.keep (f23.keep hB2.lt (by rw [hbc2]; omega)); have n2 := hB3.c2; have n3 := hB3.c3))
        all_goals
          have he := HED.out.mem (hl.keep pkL f23 (by omega) (by omega)) hr ((f12.mono (T := fun i => i = 1 ∨ i = 2 ∨ i = 3 ∨ i = 4) fun _ e => by omega).trans (f23.mono (T := fun i => i = 1 ∨ i = 2 ∨ i = 3 ∨ i = 4) fun _ e => by omega))
          have HE3 := Lib.hid he
          clear he hl hr f12 f23 hr2 hB2 hB3 hbc2 m2 m3 n2 n3
          go_wp2
          go_roundw
          case rel =>
            have := HUL.out
            exact ⟨j + 1, n, _, M', X, Y, P, by go_num, by omega, HPN.out, by omega, by omega, HE3.out.more (by omega)⟩
          case measure => simp [intOf]; omega
      · have u0 : (x.d % 4 == 0) = false := by simp [hd]
        have u3 : (x.d % 4 == 3) = false := by simp [hd']
        clear hd hd'
        by_cases hn0 : n = 0
        · subst hn0
          go_wp2
          go_roundw
          case rel => exact ⟨j + 1, 0, c1, M, X, Y, P, by go_num, by omega, HPN.out, by omega, by omega, by rw [← HWE.out]; exact HE1.out.more (by omega)⟩
          case measure => simp [intOf]; omega
        have v0 : ((n : Int) == 0) = false := by simp; omega
        have v1 : decide ((n : Int) = 0) = false := decide_eq_false (by omega)
        have v2 : decide (n = 0) = false := decide_eq_false hn0
        obtain ⟨gA, cA', gB, cB', eA, eB⟩ := HE1.out.some HPN.out (by omega)
        cases eA
        cases eB
        have CI := index_any x.k n W1 (by omega) (by omega)
        obtain ⟨i, hi⟩ := Int.eq_ofNat_of_zero_le (show 0 ≤ x.k % (n : Int) from Int.emod_nonneg _ (by omega))
        have hin : (i : Int) < n := by rw [← hi]; exact Int.emod_lt_of_pos _ (by omega)
        rw [hi] at CI
        replace CI := Lib.hid CI
        have hin' : i < n := by omega
        obtain ⟨p, hp⟩ : ∃ p, P[i]? = some p := ⟨_, List.getElem?_eq_getElem (by rw [HPN.out]; exact hin')⟩
        have hpx := HE1.out.x i p hp
        have ca := HE1.out.ra.at (map_at hp).1
        have cb := HE1.out.rb.at (map_at hp).2
        have CX := Lib.hid (nextS HE1.out.l hpx.1)
        have CY := Lib.hid (nextRS HE1.out.r hpx.2)
        have CS := stepS HE1.out.l hpx.1 (by omega) (by omega)
        have CTf := fun (W : World) (c' : Nat → Nat) (h : SR 2 W c' br M Y j) => stepRS h hpx.2 (by omega) (by omega)
        unfold StepPost at CS CTf
        have HML := Lib.hid (mem_log p.L M)
        generalize p.L.mem M = M' at *
        generalize p.L.step M = L2 at *
        generalize p.L.fin M = fi at *
        generalize p.L.pc = pc at *
        replace CS := Lib.hid CS
        replace CTf := Lib.hid CTf
        have HP := Lib.hid hp
        clear hi hn0 hp hpx k1 k2 k3 k4 
        have k1 := HB1.out.c1
        go_wp2_with fail
        rw [← HWE.out, ← HEB.out]
        refine CI.out.mono ?_
        rintro r W ⟨rfl, e⟩
        obtain rfl := e.symm
        go_wp2_with fail
        refine CY.out.mono ?_
        rintro r W ⟨rfl, e⟩
        obtain rfl := e.symm
        go_wp2_with fail
        refine CX.out.mono ?_
        rintro r W ⟨rfl, e⟩
        obtain rfl := e.symm
        go_wp2_with fail
        refine CS.out.mono ?_
        rintro r W2 ⟨rfl, hl, f12⟩
        have ca2 := (HE1.out.ra.keep f12 (by omega)).at (map_at HP.out).1
        have cb2 := (HE1.out.rb.keep f12 (by omega)).at (map_at HP.out).2
        have CT := Lib.hid (CTf.out W2 _ (HE1.out.r.keep pkR f12 (by omega) (by omega)))
        have HL2 := Lib.hid hl
        have F12 := Lib.hid f12
        clear hl f12 CS CI CX CY CTf ca cb
        go_wp2_with fail
        refine CT.out.mono ?_
        rintro r W3 ⟨rfl, hr, f23⟩
        have hE3 := HE1.out.step HP.out L2 (HL2.out.keep pkL f23 (by omega) (by omega)) hr ((F12.out.mono (T := fun i => i = 1 ∨ i = 2 ∨ i = 3 ∨ i = 4) fun _ e => by omega).trans (f23.mono (T := fun i => i = 1 ∨ i = 2 ∨ i = 3 ∨ i = 4) fun _ e => by omega))
        have HP2 := Lib.hid (show (P.set i ⟨p.x, p.y, L2⟩)[i]? = some ⟨p.x, p.y, L2⟩ by rw [List.getElem?_set]; simp [HPN.out, hin'])
        have HPN2 := Lib.hid (show (P.set i ⟨p.x, p.y, L2⟩).length = n by rw [List.length_set]; exact HPN.out)
        generalize P.set i ⟨p.x, p.y, L2⟩ = P2 at *
        have ca3 := hE3.ra.at (map_at HP2.out).1
        have cb3 := hE3.rb.at (map_at HP2.out).2
        have CR := Lib.hid (resultS hE3.l (upd_same ..))
        have HE3 := Lib.hid hE3
        clear hE3 hr f23 CT ca2 cb2
        go_wp2_with fail
        refine CR.out.mono ?_
        rintro r W4 ⟨rfl, hb⟩
        have hE4 := HE3.out.below hb
        have ca4 := hE4.ra.at (map_at HP2.out).1
        have cb4 := hE4.rb.at (map_at HP2.out).2
        have CQ := Lib.hid (resultRS hE4.r (upd_same ..))
        have HE4 := Lib.hid hE4
        clear hE4 hb CR ca3 cb3
        go_wp2_with fail
        refine CQ.out.mono ?_
        rintro r W5 ⟨rfl, hb⟩
        have HE5 := Lib.hid (HE4.out.below hb)
        clear hb CQ ca4 cb4
        go_wp2
        go_roundw
        case rel =>
          have := HML.out
          exact ⟨j + 1, n, _, M', _, _, P2, by go_num, by omega, HPN2.out, by omega, by omega, HE5.out.more (by omega)⟩
        case measure => simp [intOf]; omega
    · obtain rfl : j = a1n := by omega
      have d0 : decide ((j : Int) < (j : Int)) = false := decide_eq_false (by omega)
      have d0' : decide (j < j) = false := decide_eq_false (by omega)
      obtain ⟨p1, q1, hA1, _⟩ := hE.l.m
      obtain ⟨p2, q2, ⟨cR, vR, _, hA2⟩, _⟩ := hE.r.m
      have s1 := hA2.c1
      obtain ⟨_, AR, kR, rfl, _, rdR, _⟩ := rowA hA2.log
      have CLg := log_any b p1 q1 M 0 wr.drew (hA1.below (below_drewN (Below.refl _ wr) 1)) (by omega)
      rw [Wd.from_zero] at CLg
      replace CLg := Lib.hid CLg
      have HRD := Lib.hid rdR
      have BE := Lib.hid hE.be
      have hbr : br < wr.heap.size := hA2.lt
      clear hE hlt hA1 hA2 rdR HE HBE
      go_wp2_with fail
      go_region_held3 (fun w' => w'.cell? ⟨br, 1, none⟩ = some (.slice AR M.L.length kR)) (first | exact s1 | with_reducible exact m1 | with_reducible exact m2) (first | (go_at_call 21; refine CLg.out.mono ?_; rintro r W5 ⟨⟨v5, rfl, ho⟩, bb⟩; obtain ⟨_, A5, k5, rfl, _, rd5, _⟩ := rowA ho; have bb' : Below wr.heap.size wr W5 := ⟨bb.os, bb.tape, bb.output, bb.size, bb.block⟩; have m1 := (bb'.cell (p := ⟨br, 1, none⟩) hbr).trans s1) | (go_at_call 20; refine (eqa_any A5 AR M.L.length k5 M.L.length kR M.L M.L W5 rfl rfl (by omega) (by omega) rd5 (HRD.out.below bb')).mono ?_; rw [decide_eq_true (rfl : M.L = M.L)]; rintro r W6 ⟨rfl, b6⟩; have m2 := (b6.cell (p := ⟨br, 1, none⟩) (Nat.lt_of_lt_of_le hbr bb'.size)).trans m1))
      all_goals
        have BB := Lib.hid (BE.out.trans ((bb'.trans (b6.mono bb'.size)).mono BE.out.size))
        clear bb bb' b6 ho rd5 m1 m2
        go_wp2
        go_ret
        exact ⟨rfl, BB.out⟩
end Wk
end Go.Proofs.Ytjocbmoelkobaaa
