/- Package pool: Out, List: contracts of the translated code. Conditions: the pool's invariant. (Written by tools/mkps6.py.) -/
import Derived.Test.YtdkkpaofodicjaaGreatPsN
namespace Go.Proofs.YtdkkpaofodicjaaGreat
open Go.RowKit Go.Sort
set_option linter.unusedVariables false
set_option linter.unusedSimpArgs false
set_option maxRecDepth 100000
namespace Po
open Wd
open Ly (Ge tot pP pK pW pk Cf LyAt KI)
open Dm (addr_lit info_parts spot_none RdK flatU infoU bel_alloc bel_trans own_keep below_drewN)
theorem PA.below {w w' : World} {x bm bl ta n : Nat} {S : Pm} (h : PA w x bm bl ta n S) (hb : Below w.heap.size w w') : PA w' x bm bl ta n S := h.keep (M := S.M) (hb.block _ h.xlt) hb.size (hb.block _ h.lt)
set_option maxHeartbeats 800000 in
theorem out_any {w : World} {x bm bl ta n : Nat} {S : Pm} (h : PA w x bm bl ta n S) (hn : n ≤ 1024) : Calls Tryz.prog 21 #[.pointer (some ⟨x, 0, none⟩)] w fun e w' => ∃ v, e = .returned v ∧ RwI w (outL S (n + 1)) v w' := by
  have H := Lib.hid h
  have c2 := h.c2
  clear h
  go_enter Tryz.func21, Tryz.ntmps21
  go_wp2
  go_loopw [3, 13] (fun vo vt wr => ∃ t : Nat, vt = .int .i64 (t : Int) ∧ t ≤ n ∧ wr.ownsRow w.heap.size KI.E KI.sz vo (outL S (t + 1)).length (KI.flat (outL S (t + 1))) ∧ Below w.heap.size w wr) (fun _ i _ => (n - intOf i).toNat)
  case atStart => exact ⟨0, rfl, Nat.zero_le _, KI.nil _ _, Below.refl _ _⟩
  case round =>
    obtain ⟨t, rfl, t2, ho, bel⟩ := hrel
    have hp := H.out.below bel
    have HO := Lib.hid ho
    have HB := Lib.hid bel
    have hlen := outL_len S (t + 1)
    obtain ⟨_, Ao, co, rfl, _⟩ := KI.row ho
    by_cases hlt : t < n
    · have d0 : decide ((t : Int) < (n : Int)) = true := decide_eq_true (by omega)
      have d0' : decide (t < n) = true := decide_eq_true hlt
      have x1 : (t : Int) < (n : Int) := by omega
      have hw1 : IntKind.i64.wrap ((t : Int) + 1) = (t : Int) + 1 := IntWalk.i64_in _ (by omega)
      obtain ⟨ct, cg, cn⟩ := hp.r t hlt
      obtain ⟨b, hb⟩ : ∃ b, S.tk (t + 1) = b := ⟨_, rfl⟩
      simp only [hb] at ct
      obtain ⟨W1, hW1⟩ : ∃ W, W = (wr.alloc (.cells #[.bool b, .bool (S.gv (t + 1)), .int .i64 ((S.gn (t + 1) : Nat) : Int)] 134)) := ⟨_, rfl⟩
      have B1 : Below w.heap.size w W1 := by rw [hW1]; exact bel.trans ((bel_new (Below.refl wr.heap.size wr) _).mono bel.size)
      generalize S.gv (t + 1) = bg at *
      generalize ((S.gn (t + 1) : Nat) : Int) = bn at *
      cases b
      · have HX := Lib.hid (show outL S (t + 1 + 1) = outL S (t + 1) by rw [outL]; simp [hb])
        have HB1 := Lib.hid B1
        have HW1 := Lib.hid hW1
        have HO1 := Lib.hid (show W1.ownsRow w.heap.size KI.E KI.sz (.slice Ao (outL S (t + 1)).length co) (outL S (t + 1)).length (KI.flat (outL S (t + 1))) by rw [hW1]; exact ho.alloc _)
        clear hp ho bel hb B1 hW1
        go_wp2
        go_roundw
        case rel => exact ⟨t + 1, by go_num, by omega, by rw [HX.out]; have := HO1.out; rw [HW1.out] at this; exact this, by have := HB1.out; rw [HW1.out] at this; exact this⟩
        case measure => simp [intOf]; omega
      · have HX := Lib.hid (show outL S (t + 1 + 1) = outL S (t + 1) ++ [((t : Int) + 1)] by rw [outL]; simp [hb])
        have hsz : w.heap.size ≤ W1.heap.size := B1.size
        have OW := Lib.hid (show (W1.alloc (.cells #[.int .i64 ((t : Int) + 1)] 3)).ownsRow w.heap.size KI.E KI.sz (.slice Ao (outL S (t + 1)).length co) (outL S (t + 1)).length (KI.flat (outL S (t + 1))) by rw [hW1]; exact (ho.alloc _).alloc _)
        have hs1 : W1.heap.size = wr.heap.size + 1 := by rw [hW1, World.size_alloc]
        have AT := Lib.hid (show KI.At (W1.alloc (.cells #[.int .i64 ((t : Int) + 1)] 3)) (wr.heap.size + 1) 0 ((t : Int) + 1) by
         rw [← hs1]
         exact fun j u hj => by
           match j, hj with
           | 0, hj => simp [KI] at hj; subst hj; rw [World.cell?_alloc_new]; rfl
           | j + 1, hj => simp [KI] at hj)
        have HB1 := Lib.hid B1
        have HW1 := Lib.hid hW1
        clear hp hb ho bel B1 hW1 hs1
        go_wp2_with (at_builtin; rw [← HW1.out]; refine KI.app1 rfl (.tmp 20) (.tmp 23) rfl (W1.alloc (.cells #[.int .i64 ((t : Int) + 1)] 3)) w.heap.size (outL S (t + 1)).length _ (outL S (t + 1)) ((t : Int) + 1) rfl (wr.heap.size + 1) rfl AT.out OW.out (by omega) (by simp; omega) ?_; intro v' w5 own1 kp; obtain ⟨_, A5, c5, rfl, _⟩ := KI.row own1)
        have b6 : Below w.heap.size (W1.alloc (.cells #[.int .i64 ((t : Int) + 1)] 3)) w5 := kp.bel (by simp; omega) fun k hk => (OW.out.lt k hk).1
        have B5 := Lib.hid (HB1.out.trans (((bel_new (Below.refl W1.heap.size W1) (.cells #[.int .i64 ((t : Int) + 1)] 3)).mono hsz).trans b6))
        have OW5 := Lib.hid own1
        go_roundw
        case rel => exact ⟨t + 1, by go_num, by omega, by rw [HX.out, List.length_append]; exact OW5.out, B5.out⟩
        case measure => simp [intOf]; omega
    · obtain rfl : t = n := by omega
      have d0 : decide ((t : Int) < (t : Int)) = false := decide_eq_false (by omega)
      have d0' : decide (t < t) = false := decide_eq_false (by omega)
      clear hp ho bel
      go_wp2
      go_ret
      exact ⟨_, rfl, HO.out, HB.out⟩
theorem list_bad (t : Int) (w : World) (x : Nat) (ht : ¬ (1 ≤ t ∧ t ≤ 6)) : Calls Tryz.prog 23 #[.pointer (some ⟨x, 0, none⟩), .int .i64 t] w fun e w' => e = .returned (.tuple #[.slice none 0 0, .int .i64 3]) ∧ w' = w := by
  have CH := isHeight_any t w
  rw [decide_eq_false ht] at CH
  replace CH := Lib.hid CH
  clear ht
  go_enter Tryz.func23, Tryz.ntmps23
  go_wp2_with fail
  refine CH.out.mono ?_
  rintro r1 w1 ⟨rfl, e⟩
  obtain rfl := e.symm
  go_wp2
  go_ret2
  exact ⟨rfl, rfl⟩
set_option maxHeartbeats 800000 in
theorem list_any {w : World} {x bm bl ta p : Nat} {S : Pm} {q : Option Nat} {g : Ge} {f : Cf} {l : List Int} {stk : Nat → List Nat} {sw : Nat → Nat} (hAt : At 106 w bm p q S.M) (hP : PA w x bm bl ta (tot g.t 6) S) (hl : LyAt w bl f l g) (hI : In (pP g) (tot g.t 6) (htG g) S stk sw) (hpp : pP g ≤ 1000000) (k : Nat) (hk : k < 6) :
    Calls Tryz.prog 23 #[.pointer (some ⟨x, 0, none⟩), .int .i64 ((k + 1 : Nat) : Int)] w fun e w' => ∃ v, e = .returned (.tuple #[v, .int .i64 0]) ∧ RwI w (nums (stk k)) v w' := by
  have n1 := hI.n1
  have hlen := hI.len
  have HSL := Lib.hid (show (stk k).length ≤ tot g.t 6 from nodup_len _ _ (hI.nd k hk) fun y hy => ⟨(hI.mem k hk y hy).1, (hI.mem k hk y hy).2.1⟩)
  have HM := Lib.hid (hI.mem k hk)
  have HC := Lib.hid (hI.ch k hk)
  have hd := hI.hd k hk
  have hhl := hI.head_le hk
  have hbd := fun a => Wm.get_bd (M := S.M) (by obtain ⟨_, _, _, ha⟩ := hAt; exact ha.bd) a
  have hmod : S.M.get (hA (pP g) k) % 65536 = (((stk k).headD 0 : Nat) : Int) := by rw [hd]; exact wd_mod (by omega)
  have CH := isHeight_any ((k + 1 : Nat) : Int) w
  rw [decide_eq_true (by omega)] at CH
  have CT := fun W => (Fl.tower_any (S.M.get (hA (pP g) k)) (hbd _).1 (hbd _).2 W).mono fun e w' (h : _ ∧ W = w') => (⟨h.1, h.2.symm⟩ : _ ∧ w' = W)
  rw [hmod] at CT
  have CP := top_any (hP.below (below_drewN (Below.refl _ w) 1)).c1 (hl.below (below_drewN (Below.refl _ w) 1)) k hpp hk
  have CK := fun W (hb : Below w.heap.size w W) (a : Nat) => peek_any bm p q S.M (a : Int) W (hAt.below hb)
  have CKt := fun W (hb : Below w.heap.size w W) => CK W hb (pP g + k)
  unfold peekT at CKt
  simp only [decide_eq_true (show (0 : Int) ≤ ((pP g + k : Nat) : Int) ∧ ((pP g + k : Nat) : Int) < (S.M.W.length : Int) by omega), if_pos (show (0 : Int) ≤ ((pP g + k : Nat) : Int) ∧ ((pP g + k : Nat) : Int) < (S.M.W.length : Int) by omega)] at CKt
  have CL := fun W (hb : Below w.heap.size w W) (u : Nat) (hu : u ≤ 1024) => link_any (hP.below hb).c1 (hl.below hb) (u : Int) hpp (by omega) (by omega)
  have p0 := hP.c0
  have HP := Lib.hid hP
  have HCK := Lib.hid CK
  have HCL := Lib.hid CL
  replace CH := Lib.hid CH
  replace CP := Lib.hid CP
  replace CKt := Lib.hid CKt
  obtain ⟨H0, hH0⟩ : ∃ v, v = (((stk k).headD 0 : Nat) : Int) := ⟨_, rfl⟩
  rw [← hH0] at CT
  have HH0 := Lib.hid hH0
  replace CT := Lib.hid CT
  clear hAt hP hl hI hpp hd hmod hH0 CK CL hhl hbd hk
  generalize hKK : ((k + 1 : Nat) : Int) = HH at *
  generalize hHT : hA (pP g) k = HT at *
  have hHT2 : ((pP g + k : Nat) : Int) = HT := hHT
  rw [hHT2] at CKt
  generalize hVV : S.M.get HT = V at *
  go_enter Tryz.func23, Tryz.ntmps23
  go_wp2_with fail
  refine CH.out.mono ?_
  rintro r1 wz ⟨rfl, e⟩
  obtain rfl := e.symm
  go_wp2_with fail
  go_region_held3 (fun w' => w'.cell? ⟨x, 0, none⟩ = some (.pointer (some ⟨bm, 0, none⟩))) (first | exact p0 | with_reducible exact d0 | with_reducible exact e0) (first | (go_at_call 63; refine CP.out.mono ?_; rintro r1 w1 ⟨rfl, hb⟩; have d0 := (HP.out.below ((below_drewN (Below.refl _ w) 1).trans hb)).c0) | (go_at_call 42; refine (CKt.out w1 ((below_drewN (Below.refl _ w) 1).trans hb)).mono ?_; rintro r1 w2 ⟨rfl, e⟩; obtain rfl := e.symm; have e0 := (HP.out.below ((below_drewN (Below.refl _ w) 1).trans hb)).c0))
  all_goals
    have HB1 := Lib.hid ((below_drewN (Below.refl _ w) 1).trans hb)
    clear hb d0
    try clear e0
    go_wp2_with fail
    refine (CT.out _).mono ?_
    rintro r1 wz ⟨rfl, e⟩
    obtain rfl := e.symm
    go_wp2
    go_loopw [8, 9] (fun vo vt wr => ∃ (pre post : List Nat) (N : Nat), stk k = pre ++ post ∧ pre.length = N ∧ vt = .int .i64 ((post.headD 0 : Nat) : Int) ∧ wr.ownsRow w.heap.size KI.E KI.sz vo N (KI.flat (nums pre)) ∧ Below w.heap.size w wr) (fun vo _ _ => (tot g.t 6 + 1 - slL vo))
    case atStart => exact ⟨[], stk k, 0, rfl, rfl, by rw [HH0.out], KI.nil _ _, HB1.out⟩
    case round =>
      obtain ⟨pre, post, N, hs, hN, rfl, ho, bel⟩ := hrel
      have hsl := HSL.out
      obtain ⟨_, Ao, co, rfl, _⟩ := KI.row ho
      have HO := Lib.hid ho
      have HB := Lib.hid bel
      have hpw := HP.out.below bel
      cases post with
      | nil =>
        have HX := Lib.hid (show nums (stk k) = nums pre by rw [hs, List.append_nil])
        have HNN := Lib.hid (show (nums (stk k)).length = N by rw [hs, List.append_nil]; simp [nums, hN])
        have CR := Lib.hid (record_no hpw (((([] : List Nat).headD 0 : Nat)) : Int) (by simp))
        simp only [List.headD_nil] at CR ⊢
        clear ho bel hs hN hpw
        go_wp2_with fail
        refine CR.out.mono ?_
        rintro r1 wz ⟨rfl, e⟩
        obtain rfl := e.symm
        go_wp2
        go_ret2
        exact ⟨_, rfl, by rw [HNN.out, HX.out]; exact HO.out, HB.out⟩
      | cons u rest =>
        have hm := HM.out u (by rw [hs]; simp)
        obtain ⟨u, rfl⟩ : ∃ u', u = u' + 1 := ⟨u - 1, by omega⟩
        have hpl : N < (stk k).length := by rw [hs, ← hN]; simp
        have CR := Lib.hid (record_ok hpw u (by omega) n1)
        have c2 := hpw.c2
        have d0 : decide ((N : Int) < ((tot g.t 6 : Nat) : Int)) = true := decide_eq_true (by omega)
        have d0' : decide (N < tot g.t 6) = true := decide_eq_true (by omega)
        have hsz : w.heap.size ≤ wr.heap.size := bel.size
        simp only [List.headD_cons] at CR ⊢
        obtain ⟨U, hU⟩ : ∃ U, U = ((u + 1 : Nat) : Int) := ⟨_, rfl⟩
        rw [← hU] at CR ⊢
        have OW := Lib.hid (show (wr.alloc (.cells #[.int .i64 U] 3)).ownsRow w.heap.size KI.E KI.sz (.slice Ao N co) N (KI.flat (nums pre)) from ho.alloc _)
        have AT := Lib.hid (show KI.At (wr.alloc (.cells #[.int .i64 U] 3)) wr.heap.size 0 U from fun j v hj => by
          match j, hj with
          | 0, hj => simp [KI] at hj; subst hj; rw [World.cell?_alloc_new]; rfl
          | j + 1, hj => simp [KI] at hj)
        have hg : S.M.get (lA (pP g) (u + 1)) = ((rest.headD 0 : Nat) : Int) := Ch.mid (l := pre) (x := u + 1) (r := rest) (by rw [← hs]; exact HC.out)
        have hr : rest.headD 0 ≤ tot g.t 6 := by
          cases rest with
          | nil => exact Nat.zero_le _
          | cons a b => exact (HM.out a (by rw [hs]; simp)).2.1
        have hLA : (pP g : Int) + 5 + U = lA (pP g) (u + 1) := by unfold lA; omega
        have CKl := fun W hb => HCK.out W hb (pP g + 5 + (u + 1))
        unfold peekT at CKl
        simp only [decide_eq_true (show (0 : Int) ≤ ((pP g + 5 + (u + 1) : Nat) : Int) ∧ ((pP g + 5 + (u + 1) : Nat) : Int) < (S.M.W.length : Int) by omega), if_pos (show (0 : Int) ≤ ((pP g + 5 + (u + 1) : Nat) : Int) ∧ ((pP g + 5 + (u + 1) : Nat) : Int) < (S.M.W.length : Int) by omega)] at CKl
        have CLl := fun W hb => HCL.out W hb (u + 1) (by omega)
        simp only [← hU, hLA] at CLl
        rw [show ((pP g + 5 + (u + 1) : Nat) : Int) = lA (pP g) (u + 1) from rfl, hg] at CKl
        obtain ⟨G, hG⟩ : ∃ v, v = ((rest.headD 0 : Nat) : Int) := ⟨_, rfl⟩
        rw [← hG] at CKl
        have e3 : IntKind.i64.wrap G = G := IntWalk.i64_in _ (by omega)
        have e3' : wrap64 G = G := IntWalk.wrap64_in _ (by omega)
        have HG := Lib.hid hG
        have HS := Lib.hid (show stk k = (pre ++ [u + 1]) ++ rest by rw [hs]; simp)
        have HNP := Lib.hid (show (pre ++ [u + 1]).length = N + 1 by simp [hN])
        have HNU := Lib.hid (show nums (pre ++ [u + 1]) = nums pre ++ [U] by rw [hU]; simp [nums])
        generalize lA (pP g) (u + 1) = LA at *
        replace CKl := Lib.hid CKl
        replace CLl := Lib.hid CLl
        clear ho bel hs hN hg hG hr hm hU hLA hpw
        go_wp2_with fail
        refine CR.out.mono ?_
        rintro r1 wz ⟨rfl, e⟩
        obtain rfl := e.symm
        go_wp2_with (at_builtin; refine KI.app1 rfl (.tmp 44) (.tmp 46) rfl (wr.alloc (.cells #[.int .i64 U] 3)) w.heap.size N _ (nums pre) U rfl wr.heap.size rfl AT.out OW.out (by omega) (by simp; omega) ?_; intro v' w5 own1 kp; obtain ⟨_, A5, c5, rfl, _⟩ := KI.row own1)
        have b6 : Below w.heap.size (wr.alloc (.cells #[.int .i64 U] 3)) w5 := kp.bel (by simp; omega) fun k hk => (OW.out.lt k hk).1
        have b5 := HB.out.trans (((bel_new (Below.refl wr.heap.size wr) (.cells #[.int .i64 U] 3)).mono hsz).trans b6)
        have HB5 := Lib.hid b5
        have OW5 := Lib.hid own1
        have r0 := (HP.out.below b5).c0
        have HBD := Lib.hid (b5.trans ((below_drewN (Below.refl _ w5) 1).mono b5.size))
        have CL5 := Lib.hid (CLl.out w5.drew (b5.trans ((below_drewN (Below.refl _ w5) 1).mono b5.size)))
        clear b6 b5 own1 kp
        go_wp2_with fail
        go_region_held3 (fun w' => w'.cell? ⟨x, 0, none⟩ = some (.pointer (some ⟨bm, 0, none⟩))) (first | exact r0 | with_reducible exact d1 | with_reducible exact e1) (first | (go_at_call 65; refine CL5.out.mono ?_; rintro r1 w6 ⟨rfl, hb6⟩; have d1 := (HP.out.below (HBD.out.trans (hb6.mono HBD.out.size))).c0) | (go_at_call 42; refine (CKl.out w6 (HBD.out.trans (hb6.mono HBD.out.size))).mono ?_; rintro r1 w7 ⟨rfl, e⟩; obtain rfl := e.symm; have e1 := (HP.out.below (HBD.out.trans (hb6.mono HBD.out.size))).c0))
        all_goals
          have HB6 := Lib.hid (HBD.out.trans (hb6.mono HBD.out.size))
          have H6 := Lib.hid hb6
          clear hb6 d1
          try clear e1
          go_wp2
          go_roundw
          case rel =>
            exact ⟨pre ++ [u + 1], rest, N + 1, HS.out, HNP.out, by rw [HG.out], by rw [HNU.out]; exact KI.own_keep OW5.out fun k hk => ((below_drewN (Below.refl _ w5) 1).trans H6.out).block k (OW5.out.lt k hk).2, HB6.out⟩
          case measure => simp [slL]; omega
end Po
end Go.Proofs.YtdkkpaofodicjaaGreat
