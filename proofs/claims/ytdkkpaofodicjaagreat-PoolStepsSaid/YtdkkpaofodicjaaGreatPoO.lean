/- Out and List of leapfrogref14: contracts of the translated code. Conditions: at most 1,024 towers. (Made ahead in round 13; written by tools/mk14o.py.) -/
import Derived.Test.YtdkkpaofodicjaaGreatPoG
import Derived.Test.YtdkkpaofodicjaaGreatLyD
namespace Go.Proofs.YtdkkpaofodicjaaGreat
open Go.RowKit Go.Sort
set_option linter.unusedVariables false
set_option linter.unusedSimpArgs false
set_option maxRecDepth 100000
namespace Po
open Wd
open Ly (KI)
variable {w : World} {x bm bl ta ga na n : Nat} {S : Pm}
set_option maxHeartbeats 2000000 in
theorem outR_any (h : PR w x bm bl ta ga na n S) (hn : n ≤ 1024) : Calls Tryz.prog 22 #[.pointer (some ⟨x, 0, none⟩)] w fun e w' => ∃ v, e = .returned v ∧ RwI w (outL S (n + 1)) v w' := by
  have H := Lib.hid h
  clear h
  go_enter Tryz.func22, Tryz.ntmps22
  go_wp2
  go_loopw [3, 4] (fun vo vt wr => ∃ t : Nat, vt = .int .i64 (t : Int) ∧ 1 ≤ t ∧ t ≤ n + 1 ∧ wr.ownsRow w.heap.size KI.E KI.sz vo (outL S t).length (KI.flat (outL S t)) ∧ Below w.heap.size w wr) (fun _ i _ => (n + 1 - intOf i).toNat)
  case atStart => exact ⟨1, rfl, Nat.le_refl _, by omega, KI.nil _ _, Below.refl _ _⟩
  case round =>
    obtain ⟨t, rfl, t1, t2, ho, bel⟩ := hrel
    have hp := H.out.keep (w' := wr) (M := S.M) fun i hi => bel.block i (by have := H.out.lt; rcases hi with e | e | e | e <;> omega)
    have c2 := hp.c2
    have HO := Lib.hid ho
    have HB := Lib.hid bel
    have hlen := outL_len S t
    obtain ⟨_, Ao, co, rfl, _⟩ := KI.row ho
    by_cases hlt : t < n + 1
    · have d0 : decide ((t : Int) < ((n + 1 : Nat) : Int)) = true := decide_eq_true (by omega)
      have d0' : decide (t < n + 1) = true := decide_eq_true hlt
      have d0n : decide ((t : Int) < (n : Int) + 1) = true := decide_eq_true (by omega)
      have x1 : (t : Int) < ((n + 1 : Nat) : Int) := by omega
      have hw1 : IntKind.i64.wrap ((t : Int) + 1) = (t : Int) + 1 := IntWalk.i64_in _ (by omega)
      have ct := (hp.t t (by omega)).1
      obtain ⟨b, hb⟩ : ∃ b, S.tk t = b := ⟨_, rfl⟩
      simp only [hb] at ct
      cases b
      · have HX := Lib.hid (show outL S (t + 1) = outL S t by simp [outL, hb])
        clear hp ho bel hb
        go_wp2
        go_roundw
        case rel => exact ⟨t + 1, by go_num, by omega, by omega, by rw [HX.out]; exact HO.out, HB.out⟩
        case measure => simp [intOf]; omega
      · have HX := Lib.hid (show outL S (t + 1) = outL S t ++ [(t : Int)] by simp [outL, hb, t1])
        have hsz : w.heap.size ≤ wr.heap.size := bel.size
        have OW := Lib.hid (show (wr.alloc (.cells #[.int .i64 (t : Int)] 3)).ownsRow w.heap.size KI.E KI.sz (.slice Ao (outL S t).length co) (outL S t).length (KI.flat (outL S t)) from ho.alloc _)
        have AT := Lib.hid (show KI.At (wr.alloc (.cells #[.int .i64 (t : Int)] 3)) wr.heap.size 0 (t : Int) from fun j u hj => by
          match j, hj with
          | 0, hj => simp [KI] at hj; subst hj; rw [World.cell?_alloc_new]; rfl
          | j + 1, hj => simp [KI] at hj)
        clear hp hb
        go_wp2_with (at_builtin; refine KI.app1 rfl (.tmp 25) (.tmp 27) rfl (wr.alloc (.cells #[.int .i64 (t : Int)] 3)) w.heap.size (outL S t).length _ (outL S t) (t : Int) rfl wr.heap.size rfl AT.out OW.out (by omega) (by simp; omega) ?_; intro v' w5 own1 kp; obtain ⟨_, A5, c5, rfl, _⟩ := KI.row own1)
        have b6 : Below w.heap.size (wr.alloc (.cells #[.int .i64 (t : Int)] 3)) w5 := kp.bel (by simp; omega) fun k hk => (OW.out.lt k hk).1
        have B5 := Lib.hid (HB.out.trans (((bel_new (Below.refl wr.heap.size wr) (.cells #[.int .i64 (t : Int)] 3)).mono hsz).trans b6))
        have OW5 := Lib.hid own1
        go_roundw
        case rel => exact ⟨t + 1, by go_num, by omega, by omega, by rw [HX.out, List.length_append]; exact OW5.out, B5.out⟩
        case measure => simp [intOf]; omega
    · obtain rfl : t = n + 1 := by omega
      have d0 : decide (((n + 1 : Nat) : Int) < ((n + 1 : Nat) : Int)) = false := decide_eq_false (by omega)
      have d0' : decide (n + 1 < n + 1) = false := decide_eq_false (by omega)
      have d0n : decide ((n : Int) + 1 < (n : Int) + 1) = false := decide_eq_false (by omega)
      clear hp ho bel
      go_wp2
      go_ret
      exact ⟨_, rfl, HO.out, HB.out⟩
theorem listR_bad (t : Int) (w : World) (x : Nat) (ht : ¬ (1 ≤ t ∧ t ≤ 6)) : Calls Tryz.prog 24 #[.pointer (some ⟨x, 0, none⟩), .int .i64 t] w fun e w' => e = .returned (.tuple #[.slice none 0 0, .int .i64 3]) ∧ w' = w := by
  by_cases h1 : t < 1
  · have t1 : decide (t < 1) = true := decide_eq_true h1
    clear ht h1
    go_enter Tryz.func24, Tryz.ntmps24
    go_wp2
    go_ret2
    exact ⟨rfl, rfl⟩
  · have t1 : decide (t < 1) = false := decide_eq_false h1
    have t2 : decide (6 < t) = true := decide_eq_true (by omega)
    clear ht h1
    go_enter Tryz.func24, Tryz.ntmps24
    go_wp2
    go_ret2
    exact ⟨rfl, rfl⟩
set_option maxHeartbeats 4000000 in
theorem listR_any {p pp : Nat} {q : Option Nat} {ht : Nat → Nat} {stk : Nat → List Nat} {sw : Nat → Nat} (hAt : At 101 w bm p q S.M) (hP : PR w x bm bl ta ga na n S) (hL : PL w bl ((pp : Nat) : Int) ((pp + 6 : Nat) : Int)) (hI : In pp n ht S stk sw) (hpp : pp ≤ 1000000) (k : Nat) (hk : k < 6) :
    Calls Tryz.prog 24 #[.pointer (some ⟨x, 0, none⟩), .int .i64 ((k + 1 : Nat) : Int)] w fun e w' => ∃ v, e = .returned (.tuple #[v, .int .i64 0]) ∧ RwI w (nums (stk k)) v w' := by
  have n1 := hI.n1
  have hlen := hI.len
  have HSL := Lib.hid (show (stk k).length ≤ n from nodup_len n _ (hI.nd k hk) fun y hy => ⟨(hI.mem k hk y hy).1, (hI.mem k hk y hy).2.1⟩)
  have HM := Lib.hid (hI.mem k hk)
  have HC := Lib.hid (hI.ch k hk)
  obtain ⟨cc, v, rfl, hAt⟩ := hAt
  obtain ⟨A1, hA1⟩ : ∃ a, a = pp + k := ⟨_, rfl⟩
  have hd := hI.hd k hk
  have hhl := hI.head_le hk
  have hmod : S.M.get (hA pp k) % 65536 = (((stk k).headD 0 : Nat) : Int) := by rw [hd]; exact wd_mod (by omega)
  have CT := fun W => (Fl.towerR_any (S.M.get (hA pp k)) (Wm.get_bd hAt.bd _).1 (Wm.get_bd hAt.bd _).2 W).mono fun e w' (h : _ ∧ W = w') => (⟨h.1, h.2.symm⟩ : _ ∧ w' = W)
  obtain ⟨H0, hH0⟩ : ∃ v, v = (((stk k).headD 0 : Nat) : Int) := ⟨_, rfl⟩
  rw [hmod, ← hH0] at CT
  replace CT := Lib.hid CT
  have HH0 := Lib.hid hH0
  have cw := (hAt.word (i := A1) (by omega)).1
  replace cw : w.cell? ⟨p, A1, none⟩ = some (.int .u64 (S.M.get (hA pp k))) := by rw [cw, hA1]; rfl
  have b0 := hAt.c0
  have m1 := hAt.n1
  have m0 := hAt.n0
  have p0 := hP.c0
  have p1 := hP.c1
  have p2 := hP.c2
  have l5 := hL.c5
  have l6 := hL.c6
  have x1 : (A1 : Int) < (S.M.W.length : Int) := by omega
  have x2 : A1 < S.M.W.length := by omega
  obtain ⟨PP, hPP⟩ : ∃ v, v = ((pp : Nat) : Int) := ⟨_, rfl⟩
  obtain ⟨PK, hPK⟩ : ∃ v, v = ((pp + 6 : Nat) : Int) := ⟨_, rfl⟩
  obtain ⟨HH, hHH⟩ : ∃ v, v = ((k + 1 : Nat) : Int) := ⟨_, rfl⟩
  rw [← hPP] at l5
  rw [← hPK] at l6
  rw [← hHH]
  have t1 : decide (HH < 1) = false := decide_eq_false (by omega)
  have t2 : decide (6 < HH) = false := decide_eq_false (by omega)
  have w1 : IntKind.i64.wrap (PP + HH) = PP + HH := IntWalk.i64_in _ (by omega)
  have w1' : wrap64 (PP + HH) = PP + HH := IntWalk.wrap64_in _ (by omega)
  have w2 : IntKind.i64.wrap (PP + HH - 1) = (A1 : Int) := by rw [show (A1 : Int) = PP + HH - 1 by omega]; exact IntWalk.i64_in _ (by omega)
  have w2' : wrap64 (PP + HH - 1) = (A1 : Int) := by rw [show (A1 : Int) = PP + HH - 1 by omega]; exact IntWalk.wrap64_in _ (by omega)
  have HP := Lib.hid hP
  have HAT := Lib.hid hAt
  have HL := Lib.hid hL
  have HI := Lib.hid hI
  have HPK := Lib.hid hPK
  obtain ⟨vv, hvv⟩ : ∃ V, S.M.get (hA pp k) = V := ⟨_, rfl⟩
  rw [hvv] at cw CT
  have HA1 := Lib.hid hA1
  clear hP hAt hL hI hPP hPK hHH hd hmod hvv hhl hA1 hH0
  go_enter Tryz.func24, Tryz.ntmps24
  go_wp2_with fail
  go_quiet ((go_at_call 66; first | (with_reducible exact qL (CT.out _)) | (with_reducible exact qA (CT.out _))))
  go_wp2
  go_loopw [6, 7] (fun vo vt wr => ∃ (pre post : List Nat) (N : Nat), stk k = pre ++ post ∧ pre.length = N ∧ vt = .int .i64 ((post.headD 0 : Nat) : Int) ∧ wr.ownsRow w.heap.size KI.E KI.sz vo N (KI.flat (nums pre)) ∧ Below w.heap.size w wr) (fun vo _ _ => (1030 - slL vo))
  case atStart => exact ⟨[], stk k, 0, rfl, rfl, by rw [HH0.out], KI.nil _ _, Dm.below_drewN (Below.refl _ _) _⟩
  case round =>
    obtain ⟨pre, post, N, hs, hN, rfl, ho, bel⟩ := hrel
    have lb := World.block_lt_of_cell? w ⟨bm, 0, none⟩ b0
    have lx := HP.out.lt.1
    have ll := World.block_lt_of_cell? w ⟨bl, 22, none⟩ l6
    have q2 := (bel.cell (p := ⟨x, 2, none⟩) lx).trans p2
    have hsl := HSL.out
    obtain ⟨_, Ao, co, rfl, _⟩ := KI.row ho
    have HO := Lib.hid ho
    have HB := Lib.hid bel
    cases post with
    | nil =>
      have HX := Lib.hid (show nums (stk k) = nums pre by rw [hs, List.append_nil])
      have HNN := Lib.hid (show (nums (stk k)).length = N by rw [hs, List.append_nil]; simp [nums, hN])
      clear ho bel hs hN
      go_wp2
      go_ret2
      exact ⟨_, rfl, by rw [HNN.out, HX.out]; exact HO.out, HB.out⟩
    | cons u rest =>
      have hm := HM.out u (by rw [hs]; simp)
      have hpl : N < (stk k).length := by rw [hs, ← hN]; simp
      have z0 : ((u : Int) != 0) = true := by simp; omega
      have z1 : ((u : Int) == 0) = false := by simp; omega
      have z2 : decide ((u : Int) = 0) = false := decide_eq_false (by omega)
      have z3 : decide (u = 0) = false := decide_eq_false (by omega)
      have d0 : decide ((N : Int) < ((n + 1 : Nat) : Int)) = true := decide_eq_true (by omega)
      have d0' : decide (N < n + 1) = true := decide_eq_true (by omega)
      have d0n : decide ((N : Int) < (n : Int) + 1) = true := decide_eq_true (by omega)
      have hsz : w.heap.size ≤ wr.heap.size := bel.size
      have OW := Lib.hid (show (wr.alloc (.cells #[.int .i64 (u : Int)] 3)).ownsRow w.heap.size KI.E KI.sz (.slice Ao N co) N (KI.flat (nums pre)) from ho.alloc _)
      have AT := Lib.hid (show KI.At (wr.alloc (.cells #[.int .i64 (u : Int)] 3)) wr.heap.size 0 (u : Int) from fun j v hj => by
        match j, hj with
        | 0, hj => simp [KI] at hj; subst hj; rw [World.cell?_alloc_new]; rfl
        | j + 1, hj => simp [KI] at hj)
      obtain ⟨A2, hA2⟩ : ∃ a, a = pp + 5 + u := ⟨_, rfl⟩
      have hg : S.M.get (A2 : Int) = ((rest.headD 0 : Nat) : Int) := by
        have := Ch.mid (l := pre) (x := u) (r := rest) (by rw [← hs]; exact HC.out)
        rw [hA2]; exact this
      have hr : rest.headD 0 ≤ n := by
        cases rest with
        | nil => exact Nat.zero_le _
        | cons a b => exact (HM.out a (by rw [hs]; simp)).2.1
      have cw2 := (HAT.out.word (i := A2) (by omega)).1
      rw [hg] at cw2
      have lp := World.block_lt_of_cell? w ⟨p, A2, none⟩ cw2
      obtain ⟨G, hG⟩ : ∃ v, v = ((rest.headD 0 : Nat) : Int) := ⟨_, rfl⟩
      rw [← hG] at cw2
      have y1 : (A2 : Int) < (S.M.W.length : Int) := by omega
      have y2 : A2 < S.M.W.length := by omega
      have hpk := HPK.out
      have e1 : IntKind.i64.wrap (PK + (u : Int)) = PK + (u : Int) := IntWalk.i64_in _ (by omega)
      have e1' : wrap64 (PK + (u : Int)) = PK + (u : Int) := IntWalk.wrap64_in _ (by omega)
      have e2 : IntKind.i64.wrap (PK + (u : Int) - 1) = (A2 : Int) := by rw [show (A2 : Int) = PK + (u : Int) - 1 by omega]; exact IntWalk.i64_in _ (by omega)
      have e2' : wrap64 (PK + (u : Int) - 1) = (A2 : Int) := by rw [show (A2 : Int) = PK + (u : Int) - 1 by omega]; exact IntWalk.wrap64_in _ (by omega)
      have e3 : IntKind.i64.wrap G = G := IntWalk.i64_in _ (by omega)
      have e3' : wrap64 G = G := IntWalk.wrap64_in _ (by omega)
      have HG := Lib.hid hG
      have HS := Lib.hid (show stk k = (pre ++ [u]) ++ rest by rw [hs]; simp)
      have HNP := Lib.hid (show (pre ++ [u]).length = N + 1 by simp [hN])
      have HNU := Lib.hid (show nums (pre ++ [u]) = nums pre ++ [(u : Int)] by simp [nums])
      have HNV := Lib.hid (show (nums pre).length = N by simp [nums, hN])
      clear ho bel hs hN hg hG hpk hA2 hr hm
      go_wp2_with (at_builtin; refine KI.app1 rfl (.tmp 49) (.tmp 51) rfl (wr.alloc (.cells #[.int .i64 (u : Int)] 3)) w.heap.size N _ (nums pre) (u : Int) rfl wr.heap.size rfl AT.out OW.out (by omega) (by simp; omega) ?_; intro v' w5 own1 kp; obtain ⟨_, A5, c5, rfl, _⟩ := KI.row own1)
      have b6 : Below w.heap.size (wr.alloc (.cells #[.int .i64 (u : Int)] 3)) w5 := kp.bel (by simp; omega) fun k hk => (OW.out.lt k hk).1
      have b5 := HB.out.trans (((bel_new (Below.refl wr.heap.size wr) (.cells #[.int .i64 (u : Int)] 3)).mono hsz).trans b6)
      have B5 := Lib.hid b5
      have OW5 := Lib.hid own1
      have r0 := (b5.cell (p := ⟨x, 0, none⟩) lx).trans p0
      have r1 := (b5.cell (p := ⟨x, 1, none⟩) lx).trans p1
      have r2 := (b5.cell (p := ⟨bm, 0, none⟩) lb).trans b0
      have r3 := (b5.cell (p := ⟨bl, 22, none⟩) ll).trans l6
      have r4 := (b5.cell (p := ⟨p, A2, none⟩) lp).trans cw2
      clear b6 b5 own1 kp
      go_wp2_with fail
      go_quiet (fail)
      go_wp2
      go_roundw
      case rel =>
        exact ⟨pre ++ [u], rest, N + 1, HS.out, HNP.out, by rw [HG.out], by rw [HNU.out]; exact KI.own_keep OW5.out fun _ _ => rfl, B5.out.trans (Dm.below_drewN (Below.refl _ _) _)⟩
      case measure => simp [slL]; omega
end Po
end Go.Proofs.YtdkkpaofodicjaaGreat
