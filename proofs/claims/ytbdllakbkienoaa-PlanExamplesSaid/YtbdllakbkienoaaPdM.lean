/- moves of package plan (written by tools/mk6mov.py): contract of the translated code. Conditions: at most 400 pairs with increasing keys; the bounds of each number's kind; no key becomes too great. -/
import Derived.Test.YtbdllakbkienoaaPdT
namespace Go.Proofs.Ytbdllakbkienoaa
open Go.RowKit Go.Sort
set_option linter.unusedVariables false
set_option linter.unusedSimpArgs false
namespace Pl
open Om (addr_lit bel_alloc bel_trans below_drewN ret_eq Asc inL inB)
/-- 'rest = rest[1:]': the address of what is left is left open where nothing is left -/
theorem tail2 {ops : Array Oper} {rest : List Oper} {o : Oper} {a : Act} {Q : Exit → Act → World → Prop} (hgd : o.guard = none) (s : Operand)
    (ho : o.op = .slice 22 s (some (.const (.int .i64 1))) none none) (w : World) (b o' r c : Nat)
    (hs : a.eval s = .slice (some ⟨b, o', none⟩) (r + 1) c) (hc : r + 1 ≤ c)
    (h : ∀ RA RC, (0 < r → RA = some ⟨b, o' + 2, none⟩) → r ≤ RC → (RA = none → RC = 0) → wpList Try.prog ops Q rest (a.put o.dst (.slice RA r RC)) w) :
    wpList Try.prog ops Q (o :: rest) a w := by
  have h1 : ((1 : Int) ≤ ((r + 1 : Nat) : Int)) := by omega
  have run : (Instr.sliceAt 22 (.slice (some ⟨b, o', none⟩) (r + 1) c) (some (.int .i64 1)) none none).run Try.prog w = .ok (sliced (some ⟨b, o', none⟩) 1 (r + 1) c 2) w := by
    have u : Try.prog.underlying 22 = some (.slice (Try.prog.elem 22)) := by kernel_rfl
    simp [go_sem, Instr.sliceBounds, hc]
    intro h; omega
  refine wpList_plain hgd fun K hK => ?_
  unfold Oper.wp execOp
  have ev : a.eval (.const (.int .i64 1)) = .int .i64 1 := rfl
  simp only [ho, hs, Option.map_some, Option.map_none, run, Sem.run_bind, Sem.run_pure, Result.andThen_ok, ev]
  by_cases hc1 : c = 1
  · subst hc1
    obtain rfl : r = 0 := by omega
    exact hK _ _ (h _ _ (fun h => absurd h (Nat.lt_irrefl 0)) (Nat.le_refl _) (fun h => by cases h))
  · have e : sliced (some ⟨b, o', none⟩) 1 (r + 1) c 2 = .slice (some ⟨b, o' + 2, none⟩) r (c - 1) := by
      unfold sliced
      rw [if_neg hc1]; rfl
    rw [e]
    exact hK _ _ (h _ _ (fun _ => rfl) (by omega) (fun h => by cases h))
theorem pr_lt {L : List Om.Pr} {k n : Nat} (hn : L.length = n) (h : k < n) : ∃ x, L[k]? = some x ∧ x ∈ L := ⟨L[k]'(by omega), List.getElem?_eq_getElem (by omega), List.getElem_mem _⟩
theorem drop_pr {L : List Om.Pr} {i : Nat} {x : Om.Pr} (h : L[i]? = some x) : L.drop i = x :: L.drop (i + 1) := by
  obtain ⟨hi, e⟩ := List.getElem?_eq_some_iff.1 h
  rw [List.drop_eq_getElem_cons hi, e]
theorem snoc_cg {o r t : List Cg} {z : Cg} {m : List Cg} (h : o ++ m = t) (e : m = z :: r) : (o ++ [z]) ++ r = t := by rw [← h, e]; simp
/-- a pair of the call's own at block p -/
structure B2 (W : World) (p : Nat) (x : Om.Pr) : Prop where
  c0 : W.cell? ⟨p, 0, none⟩ = some (.int .u64 x.1)
  c1 : W.cell? ⟨p, 1, none⟩ = some (.int .u64 x.2)
theorem B2.made (W : World) (x : Om.Pr) : B2 (W.alloc (.cells #[.int .u64 x.1, .int .u64 x.2] 43)) W.heap.size x := ⟨by simp, by simp⟩
theorem B2.below {W W' : World} {p : Nat} {x : Om.Pr} (h : B2 W p x) (b : Below W.heap.size W W') : B2 W' p x := by
  have lt := World.block_lt_of_cell? W ⟨p, 0, none⟩ h.c0
  have k : ∀ j, W'.cell? ⟨p, j, none⟩ = W.cell? ⟨p, j, none⟩ := fun j => b.cell (p := ⟨p, j, none⟩) lt
  exact ⟨(k _).trans h.c0, (k _).trans h.c1⟩
theorem B5.set12 {W : World} {p : Nat} {x : Rc} (h : B5 W p x) (o : Int) (w : Bool) : B5 ((W.setCell ⟨p, 1, none⟩ (.bool w)).setCell ⟨p, 2, none⟩ (.int .u64 o)) p ⟨x.k, w, o, x.i, x.n⟩ := by
  refine ⟨?_, ?_, ?_, ?_, ?_, ?_, ?_, ?_, ?_⟩
  · rw [World.cell?_setCell_other _ _ _ _ (by simp), World.cell?_setCell_other _ _ _ _ (by simp)]; exact h.c0
  · rw [World.cell?_setCell_other _ _ _ _ (by simp)]; exact World.cell?_setCell_same _ _ _ h.c1
  · exact World.cell?_setCell_same _ _ _ (by rw [World.cell?_setCell_other _ _ _ _ (by simp)]; exact h.c2)
  · rw [World.cell?_setCell_other _ _ _ _ (by simp), World.cell?_setCell_other _ _ _ _ (by simp)]; exact h.c3
  · rw [World.cell?_setCell_other _ _ _ _ (by simp), World.cell?_setCell_other _ _ _ _ (by simp)]; exact h.c4
  · rw [World.frozen?_setCell, World.frozen?_setCell]; exact h.f1
  · rw [World.frozen?_setCell, World.frozen?_setCell]; exact h.f2
  · rw [World.frozen?_setCell, World.frozen?_setCell]; exact h.f3
  · rw [World.frozen?_setCell, World.frozen?_setCell]; exact h.f4
theorem row_set {w : World} {B n p o : Nat} {t : TypeId} {v x : Value} {xs : List Value} (h : w.ownsRow B t 5 v n xs) (hp : v.ownBlock ≠ some p) : (w.setCell ⟨p, o, none⟩ x).ownsRow B t 5 v n xs := by
  refine ⟨h.1, ?_⟩
  rcases h.2 with h' | ⟨g, cap, cur, e, hbase, hh, r⟩
  · exact .inl h'
  · subst e
    exact .inr ⟨g, cap, cur, rfl, hbase, (Below.heap_setCell w ⟨p, o, none⟩ x g (fun e => hp (by show some g = some p; rw [show g = p from e]))).trans hh, r⟩
theorem B5.drew {w : World} {p : Nat} {x : Rc} (h : B5 w p x) : B5 w.drew p x := ⟨h.c0, h.c1, h.c2, h.c3, h.c4, h.f1, h.f2, h.f3, h.f4⟩
theorem row_drew {w : World} {B n : Nat} {t : TypeId} {v : Value} {xs : List Value} (h : w.ownsRow B t 5 v n xs) : w.drew.ownsRow B t 5 v n xs := h
set_option maxRecDepth 100000 in
set_option maxHeartbeats 4000000 in
theorem moves_walk (A : Option Addr) (n c : Nat) (p : List Om.Pr) (lo hi d : Int) (w : World) (hn : p.length = n) (hs : n ≤ 400) (hnc : n ≤ c) (hz : A = none → c = 0) (hr : Om.Rd w A p) (hd : Om.Bd p) (ll : 0 ≤ lo) (lh : lo ≤ 18446744073709551615) (hl : 0 ≤ hi) (hh : hi ≤ 18446744073709551615) (dl : 0 ≤ d) (dh : d ≤ 18446744073709551615) (hsum : hi + d ≤ 18446744073709551615) :
    Calls Try.prog 40 #[.slice A n c, .agg #[.int .u64 lo, .int .u64 hi], .int .u64 d] w fun e w' => ∃ v, e = .returned v ∧ w'.ownsRow w.heap.size 45 5 v (mvW lo hi d (inL p lo hi) p).length (flat ((mvW lo hi d (inL p lo hi) p).map rawC)) ∧ Below w.heap.size w w' := by
  obtain ⟨T, hT⟩ : ∃ T, mvW lo hi d (inL p lo hi) p = T := ⟨_, rfl⟩
  rw [hT]
  have HT := Lib.hid hT; clear hT
  have b0 : Below w.heap.size w (w.alloc (.cells #[.int .u64 lo, .int .u64 hi] 25)) := bel_alloc (Below.refl _ _) _
  have HR := Lib.hid (hr.below b0); clear hr
  have HL := Lib.hid hn; clear hn
  have HD := Lib.hid hd; clear hd
  have HZ := Lib.hid hz; clear hz
  have s0 : (w.alloc (.cells #[.int .u64 lo, .int .u64 hi] 25)).cell? ⟨w.heap.size, 0, none⟩ = some (.int .u64 lo) := by simp
  have s1 : (w.alloc (.cells #[.int .u64 lo, .int .u64 hi] 25)).cell? ⟨w.heap.size, 1, none⟩ = some (.int .u64 hi) := by simp
  have CH := fun k h1 h2 W => Lib.hid (hasS_any lo hi k ll lh hl hh h1 h2 W)
  have CW := Lib.hid (within_any A n c p lo hi _ HL.out (by omega) HR.out HD.out ll lh hl hh)
  have CBi := fun k v W => Lib.hid (birth_any k v W)
  have CDe := fun k v W => Lib.hid (death_any k v W)
  simp only [cV, bthR, dthR] at CBi CDe
  have hil : (inL p lo hi).length ≤ 400 := Nat.le_trans (List.length_filter_le _ _) (by rw [HL.out]; exact hs)
  have HI := Lib.hid (show ∀ x, x ∈ inL p lo hi → x ∈ p ∧ lo ≤ x.1 ∧ x.1 ≤ hi from fun x hx => Om.in_mem hx)
  go_enter Try.func40, Try.ntmps40
  go_wp2
  go_step3
  go_wp2
  go_step3
  go_wp2_with fail
  refine CW.out.mono ?_
  rintro r W2 ⟨v0, rfl, ho, b2⟩
  obtain ⟨hlen, IA, IC, rfl, hic, hir, _⟩ := Om.row_form ho
  obtain ⟨ni, hni⟩ : ∃ ni, (inL p lo hi).length = ni := ⟨_, rfl⟩
  rw [hni] at hil hic ho
  rw [hni]
  have HNI := Lib.hid hni; clear hni hlen ho
  have HIR := Lib.hid hir; clear hir
  have HR := Lib.hid (HR.out.below b2)
  have bw2 := bel_trans b0 b2
  have hsz : w.heap.size < W2.heap.size := Nat.lt_of_lt_of_le (by simp) b2.size
  replace s0 := (b2.cell (p := ⟨w.heap.size, 0, none⟩) (by simp)).trans s0
  replace s1 := (b2.cell (p := ⟨w.heap.size, 1, none⟩) (by simp)).trans s1
  clear CW b0 b2
  go_wp2
  go_loopg [7, 8, 18] ni (fun g q rs i wr => ∃ (o : List Cg) (j k r : Nat), j + g = ni ∧ r + k = n ∧ i = .int .i64 (j : Int) ∧ Tl A 2 k r rs ∧ Hid (o ++ mvW lo hi d ((inL p lo hi).drop j) (p.drop k) = T) ∧ o.length ≤ j + k ∧ wr.ownsRow W2.heap.size 45 5 q o.length (flat (o.map rawC)) ∧ Below W2.heap.size W2 wr)
  case atStart => exact ⟨[], 0, 0, n, by omega, by omega, rfl, ⟨_, _, rfl, fun _ => (rsA_zero A 2).symm, hnc, HZ.out⟩, Lib.hid (by rw [← HT.out]; simp), Nat.zero_le _, World.ownsRow_nil _ _ _ _, Below.refl _ _⟩
  case round =>
    obtain ⟨o, j, k, r, hjg, hrk, rfl, ⟨RA, RC, rfl, ht⟩, hE, hol, hq, bel⟩ := hrel
    have HQ := Lib.hid hq; clear hq
    have TL := Lib.hid ht; clear ht
    cases gk with
    | zero =>
      obtain rfl : j = ni := by omega
      have u0 : decide ((j : Int) < j) = false := decide_eq_false (by omega)
      have HF := Lib.hid (show T = o from by
        rw [← hE.out, List.drop_eq_nil_of_le (by rw [HNI.out]; omega)]; simp [mvW])
      clear hE
      go_wp2
      try rw [Exit.noGoto_ret]
      go_ret
      rw [HF.out]
      exact ⟨_, rfl, row_base HQ.out bw2.size, bel_trans bw2 bel⟩
    | succ g =>
      obtain ⟨x, hx, hxm⟩ := pr_lt HNI.out (show j < ni by omega)
      have HDX := Lib.hid (drop_pr hx)
      obtain ⟨b1, o1, eA, g0, g1⟩ := (HIR.out.below bel) j _ hx
      subst eA
      have u0 : decide ((j : Int) < ni) = true := decide_eq_true (by omega)
      have hji : (j : Int) < ni := by omega
      obtain ⟨hxp, hx1, hx2⟩ := HI.out x hxm
      obtain ⟨d0, d1, d2, d3⟩ := HD.out x hxp
      have hk0 : 0 ≤ x.1 + d := by omega
      have hk1 : x.1 + d ≤ 18446744073709551615 := by omega
      clear hx hxm hxp
      go_upto_region 6 with fail
      have X2 := Lib.hid (B2.made wr x)
      have ba := bel_alloc (Below.refl wr.heap.size wr) (.cells #[.int .u64 x.1, .int .u64 x.2] 43)
      replace bel := bel_trans bel ba
      have HQ := Lib.hid (row_below HQ.out ba)
      clear g0 g1 ba
      generalize wr.alloc (.cells #[.int .u64 x.1, .int .u64 x.2] 43) = W3 at *
      generalize wr.heap.size = pb at *
      have x0 := X2.out.c0; have x1 := X2.out.c1
      go_wp2_with fail
      refine (CBi (x.1 + d) x.2 _).out.mono ?_
      rintro rb W4 ⟨rfl, b4⟩
      replace bel := bel_trans bel b4
      have HQ := Lib.hid (row_below HQ.out b4)
      clear x0 x1 X2 b4
      go_upto_region 7 with fail
      have X := Lib.hid (B5.made W4 ⟨x.1 + d, false, 0, true, x.2⟩)
      simp only at X
      have ba := bel_alloc (Below.refl W4.heap.size W4) (.cells #[.int .u64 (x.1 + d), .bool false, .int .u64 0, .bool true, .int .u64 x.2] 45)
      have bel2 := bel_trans bel ba
      have HQ2 := Lib.hid (row_below HQ.out ba)
      have xlt : W2.heap.size ≤ W4.heap.size := bel.size
      have qne : ∀ v, W4.ownsRow W2.heap.size 45 5 v o.length (flat (o.map rawC)) → v.ownBlock ≠ some W4.heap.size := fun v h e => by have := (h.lt _ e).2; omega
      have QNE := Lib.hid (qne _ HQ.out)
      have HE := Lib.hid (show o ++ mvW lo hi d (x :: (inL p lo hi).drop (j + 1)) (p.drop k) = T by rw [← HDX.out]; exact hE.out)
      clear ba HQ hE qne bel
      generalize W4.alloc (.cells #[.int .u64 (x.1 + d), .bool false, .int .u64 0, .bool true, .int .u64 x.2] 45) = W5 at *
      generalize W4.heap.size = xb at *
      go_loopg [7, 8] r (fun g2 q rs wy => ∃ (o : List Cg) (k : Nat), g2 + k = n ∧ Tl A 2 k g2 rs ∧ Hid (o ++ mvW lo hi d (x :: (inL p lo hi).drop (j + 1)) (p.drop k) = T) ∧ o.length ≤ j + k ∧ wy.ownsRow W2.heap.size 45 5 q o.length (flat (o.map rawC)) ∧ Hid (q.ownBlock ≠ some xb) ∧ Hid (B5 wy xb ⟨x.1 + d, false, 0, true, x.2⟩) ∧ Below W2.heap.size W2 wy)
      case atStart => exact ⟨o, k, hrk, ⟨RA, RC, rfl, TL.out⟩, HE, hol, HQ2.out, QNE, X, bel2⟩
      case round =>
        clear HE hol HQ2 QNE X bel2 hrk TL
        obtain ⟨o, k, hrk, ⟨RA, RC, rfl, ht⟩, hE, hol, hq, qne, X, bel⟩ := hrel
        have HQ := Lib.hid hq; clear hq
        have TL := Lib.hid ht; clear ht
        have x0 := X.out.c0; have x1 := X.out.c1; have x2 := X.out.c2; have x3 := X.out.c3; have x4 := X.out.c4
        simp only at x0 x1 x2 x3 x4
        cases gk with
        | zero =>
          obtain rfl : k = n := by omega
          have HN := Lib.hid (show (o ++ [⟨x.1 + d, none, some x.2⟩]) ++ mvW lo hi d ((inL p lo hi).drop (j + 1)) (p.drop k) = T from by
            have h := hE.out
            have hd : p.drop k = [] := List.drop_eq_nil_of_le (by rw [HL.out]; omega)
            rw [hd] at h ⊢
            exact snoc_cg h (mvW_end _ _ _ _ _))
          clear hE
          go_wp2
          go_quiet (fail)
          go_wp2_with (at_builtin; refine app3 rfl (.tmp 68) (.tmp 70) rfl _ W2.heap.size _ _ (o.map rawC) ⟨x.1 + d, false, 0, true, x.2⟩ rfl rfl (row_drewN HQ.out _) (by omega) bel.size ?_; intro v8 w8 h1 b8 k8; have HW8 := Lib.hid h1; clear h1; have K8 := Lib.hid k8; clear k8)
          go_roundg g
          case measure => omega
          case rel => exact ⟨o ++ [⟨x.1 + d, none, some x.2⟩], j + 1, k, 0, by omega, by omega, by go_num, ⟨_, _, rfl, TL.out⟩, HN, by rw [List.length_append, List.length_singleton]; omega, by rw [List.length_append, raws_snoc]; exact HW8.out, (below_drewN bel _).trans b8⟩
        | succ g2 =>
          obtain ⟨y, hy, hym⟩ := pr_lt HL.out (show k < n by omega)
          have HDY := Lib.hid (drop_pr hy)
          obtain ⟨b2, o2, eB, h0, h1⟩ := (HR.out.below bel) k _ hy
          subst eB
          obtain ⟨e0, e1, e2, e3⟩ := HD.out y hym
          have hE := Lib.hid (show o ++ mvW lo hi d (x :: (inL p lo hi).drop (j + 1)) (y :: p.drop (k + 1)) = T by rw [← HDY.out]; exact hE.out)
          clear hy hym
          obtain rfl : RA = some ⟨b2, o2 + k * 2, none⟩ := by rw [TL.out.1 (by omega), rsA_at]
          have hrc : g2 + 1 ≤ RC := TL.out.2.1
          rcases Int.lt_trichotomy (x.1 + d) y.1 with hxy | hxy | hxy
          · have t1 : decide (y.1 ≤ x.1 + d) = false := decide_eq_false (by omega)
            have HN := Lib.hid (show (o ++ [⟨x.1 + d, none, some x.2⟩]) ++ mvW lo hi d ((inL p lo hi).drop (j + 1)) (p.drop k) = T from by
              have h := hE.out
              rw [HDY.out]
              exact snoc_cg h (by rw [mvW_cons, if_neg (by omega), if_neg (by omega)]))
            clear hE hxy
            go_wp2
            go_quiet (fail)
            go_wp2_with (at_builtin; refine app3 rfl (.tmp 68) (.tmp 70) rfl _ W2.heap.size _ _ (o.map rawC) ⟨x.1 + d, false, 0, true, x.2⟩ rfl rfl (row_drewN HQ.out _) (by omega) bel.size ?_; intro v8 w8 h1 b8 k8; have HW8 := Lib.hid h1; clear h1; have K8 := Lib.hid k8; clear k8)
            go_roundg g
            case measure => omega
            case rel => exact ⟨o ++ [⟨x.1 + d, none, some x.2⟩], j + 1, k, g2 + 1, by omega, by omega, by go_num, ⟨_, _, rfl, TL.out⟩, HN, by rw [List.length_append, List.length_singleton]; omega, by rw [List.length_append, raws_snoc]; exact HW8.out, (below_drewN bel _).trans b8⟩
          · have t1 : decide (y.1 ≤ x.1 + d) = true := decide_eq_true (by omega)
            have t2 : (y.1 == x.1 + d) = true := by simp [hxy]
            have HN := Lib.hid (show (o ++ [⟨y.1, some y.2, some x.2⟩]) ++ mvW lo hi d ((inL p lo hi).drop (j + 1)) (p.drop (k + 1)) = T from by
              have h := hE.out
              exact snoc_cg h (by rw [mvW_cons, if_neg (by omega), if_pos (by omega)]))
            have EQ := Lib.hid hxy
            clear hE hxy
            go_wp2
            go_quiet (fail)
            have HQ := Lib.hid (row_drewN HQ.out nq)
            have X := Lib.hid (X.out.drewN nq)
            replace bel := below_drewN bel nq
            replace h0 := (show (wr.drewN nq).cell? _ = _ from h0)
            replace h1 := (show (wr.drewN nq).cell? _ = _ from h1)
            have xlt2 : xb < (wr.drewN nq).heap.size := X.out.lt
            clear x0 x1 x2 x3 x4
            generalize wr.drewN nq = wz at *
            go_upto_region 9 with fail
            have Y := Lib.hid (B2.made wz y)
            have ba := bel_alloc (Below.refl wz.heap.size wz) (.cells #[.int .u64 y.1, .int .u64 y.2] 43)
            replace bel := bel_trans bel ba
            have HQ := Lib.hid (row_below HQ.out ba)
            have X := Lib.hid (X.out.below ba)
            have xlt3 : xb < (wz.alloc (.cells #[.int .u64 y.1, .int .u64 y.2] 43)).heap.size := Nat.lt_of_lt_of_le xlt2 ba.size
            clear h0 h1 ba
            generalize wz.alloc (.cells #[.int .u64 y.1, .int .u64 y.2] 43) = wy at *
            generalize wz.heap.size = yb at *
            have x0 := X.out.c0; have x1 := X.out.c1; have x2 := X.out.c2; have x3 := X.out.c3; have x4 := X.out.c4
            simp only at x0 x1 x2 x3 x4
            have y0 := Y.out.c0; have y1 := Y.out.c1
            have f1 := X.out.f1; have f2 := X.out.f2
            go_wp2_with (refine tail2 rfl (.tmp 44) rfl _ b2 (o2 + k * 2) g2 RC rfl hrc ?_; intro RA2 RC2 e1 e2 e3; have TL2 := Lib.hid (show (0 < g2 → RA2 = rsA (some ⟨b2, o2, none⟩) 2 (k + 1)) ∧ g2 ≤ RC2 ∧ (RA2 = none → RC2 = 0) from ⟨fun h => by rw [rsA_next]; exact e1 h, e2, e3⟩); clear e1 e2 e3)
            go_region
            have bel9 : Below W2.heap.size W2 ((wy.setCell ⟨xb, 1, none⟩ (.bool true)).setCell ⟨xb, 2, none⟩ (.int .u64 y.2)).drew := below_drewN ((bel.setCell (p := ⟨xb, 1, none⟩) xlt _).setCell (p := ⟨xb, 2, none⟩) xlt _) 1
            have X9 := Lib.hid (B5.drew (X.out.set12 y.2 true))
            simp only at X9
            have HQ9 := Lib.hid (row_drew (row_set (o := 2) (x := .int .u64 y.2) (row_set (o := 1) (x := .bool true) HQ.out qne.out) qne.out))
            clear x0 x1 x2 x3 x4 y0 y1 f1 f2 X Y HQ bel
            generalize ((wy.setCell ⟨xb, 1, none⟩ (.bool true)).setCell ⟨xb, 2, none⟩ (.int .u64 y.2)).drew = W9 at *
            have x0 := X9.out.c0; have x1 := X9.out.c1; have x2 := X9.out.c2; have x3 := X9.out.c3; have x4 := X9.out.c4
            simp only at x0 x1 x2 x3 x4
            have HZ9 := Lib.hid (show rawC ⟨y.1, some y.2, some x.2⟩ = ⟨x.1 + d, true, y.2, true, x.2⟩ by rw [← EQ.out]; rfl)
            go_wp2_with (at_builtin; refine app3 rfl (.tmp 55) (.tmp 57) rfl _ W2.heap.size _ _ (o.map rawC) ⟨x.1 + d, true, y.2, true, x.2⟩ rfl rfl HQ9.out (by omega) bel9.size ?_; intro v8 w8 h1 b8 k8; have HW8 := Lib.hid h1; clear h1; have K8 := Lib.hid k8; clear k8)
            go_roundg g
            case measure => omega
            case rel => exact ⟨o ++ [⟨y.1, some y.2, some x.2⟩], j + 1, k + 1, g2, by omega, by omega, by go_num, ⟨_, _, rfl, TL2.out⟩, HN, by rw [List.length_append, List.length_singleton]; omega, by rw [List.length_append, raws_snoc, HZ9.out]; exact HW8.out, bel9.trans b8⟩
          · have t1 : decide (y.1 ≤ x.1 + d) = true := decide_eq_true (by omega)
            have t2 : (y.1 == x.1 + d) = false := by simp; omega
            have HC := fun W => Lib.hid (CH y.1 e0 e1 W).out
            by_cases hin : lo ≤ y.1 ∧ y.1 ≤ hi
            · have HN := Lib.hid (show (o ++ [⟨y.1, some y.2, none⟩]) ++ mvW lo hi d (x :: (inL p lo hi).drop (j + 1)) (p.drop (k + 1)) = T from by
                have h := hE.out
                exact snoc_cg h (by rw [mvW_cons, if_pos hxy, if_pos (by simp [inB]; omega)]))
              rw [decide_eq_true hin] at HC
              clear hE hxy hin
              go_wp2
              go_quiet (fail)
              have HQ := Lib.hid (row_drewN HQ.out nq)
              have X := Lib.hid (X.out.drewN nq)
              replace bel := below_drewN bel nq
              replace h0 := (show (wr.drewN nq).cell? _ = _ from h0)
              replace h1 := (show (wr.drewN nq).cell? _ = _ from h1)
              have xlt2 : xb < (wr.drewN nq).heap.size := X.out.lt
              clear x0 x1 x2 x3 x4
              generalize wr.drewN nq = wz at *
              go_upto_region 9 with fail
              have Y := Lib.hid (B2.made wz y)
              have ba := bel_alloc (Below.refl wz.heap.size wz) (.cells #[.int .u64 y.1, .int .u64 y.2] 43)
              replace bel := bel_trans bel ba
              have HQ := Lib.hid (row_below HQ.out ba)
              have X := Lib.hid (X.out.below ba)
              have xlt3 : xb < (wz.alloc (.cells #[.int .u64 y.1, .int .u64 y.2] 43)).heap.size := Nat.lt_of_lt_of_le xlt2 ba.size
              clear h0 h1 ba
              generalize wz.alloc (.cells #[.int .u64 y.1, .int .u64 y.2] 43) = wy at *
              generalize wz.heap.size = yb at *
              have x0 := X.out.c0; have x1 := X.out.c1; have x2 := X.out.c2; have x3 := X.out.c3; have x4 := X.out.c4
              simp only at x0 x1 x2 x3 x4
              have y0 := Y.out.c0; have y1 := Y.out.c1
              replace s0 := (bel.cell (p := ⟨w.heap.size, 0, none⟩) hsz).trans s0
              replace s1 := (bel.cell (p := ⟨w.heap.size, 1, none⟩) hsz).trans s1
              go_wp2_with (refine tail2 rfl (.tmp 44) rfl _ b2 (o2 + k * 2) g2 RC rfl hrc ?_; intro RA2 RC2 e1 e2 e3; have TL2 := Lib.hid (show (0 < g2 → RA2 = rsA (some ⟨b2, o2, none⟩) 2 (k + 1)) ∧ g2 ≤ RC2 ∧ (RA2 = none → RC2 = 0) from ⟨fun h => by rw [rsA_next]; exact e1 h, e2, e3⟩); clear e1 e2 e3)
              refine (HC _).out.mono ?_
              rintro rh W6 ⟨rfl, b6⟩
              replace bel := bel_trans bel b6
              have HQ := Lib.hid (row_below HQ.out b6)
              have X := Lib.hid (X.out.below b6)
              have Y := Lib.hid (Y.out.below b6)
              have xlt4 := Nat.lt_of_lt_of_le xlt3 b6.size
              clear b6 x0 x1 x2 x3 x4 y0 y1 s0 s1
              have y0 := Y.out.c0; have y1 := Y.out.c1
              go_wp2_with fail
              refine (CDe y.1 y.2 _).out.mono ?_
              rintro rd W7 ⟨rfl, b7⟩
              replace bel := bel_trans bel b7
              have HQ := Lib.hid (row_below HQ.out b7)
              have X := Lib.hid (X.out.below b7)
              have xlt5 := Nat.lt_of_lt_of_le xlt4 b7.size
              clear b7 y0 y1
              go_wp2_with (at_builtin; refine app3 rfl (.tmp 63) (.tmp 66) rfl _ W2.heap.size _ _ (o.map rawC) ⟨y.1, true, y.2, false, 0⟩ rfl rfl HQ.out (by omega) bel.size ?_; intro v8 w8 h1 b8 k8; have HW8 := Lib.hid h1; clear h1; have K8 := Lib.hid k8; clear k8)
              go_roundg g2
              case measure => omega
              case rel => exact ⟨o ++ [⟨y.1, some y.2, none⟩], k + 1, by omega, ⟨_, _, rfl, TL2.out⟩, HN, by rw [List.length_append, List.length_singleton]; omega, by rw [List.length_append, raws_snoc]; exact HW8.out, Lib.hid (K8.out.ne xlt5 qne.out), Lib.hid (X.out.keep (K8.out.blk _ xlt5 qne.out)), bel.trans b8⟩
            · have HN := Lib.hid (show o ++ mvW lo hi d (x :: (inL p lo hi).drop (j + 1)) (p.drop (k + 1)) = T from by
                have h := hE.out
                rw [mvW_cons, if_pos hxy, if_neg (by simp [inB]; omega)] at h
                exact h)
              rw [decide_eq_false hin] at HC
              clear hE hxy hin
              go_wp2
              go_quiet (fail)
              have HQ := Lib.hid (row_drewN HQ.out nq)
              have X := Lib.hid (X.out.drewN nq)
              replace bel := below_drewN bel nq
              replace h0 := (show (wr.drewN nq).cell? _ = _ from h0)
              replace h1 := (show (wr.drewN nq).cell? _ = _ from h1)
              have xlt2 : xb < (wr.drewN nq).heap.size := X.out.lt
              clear x0 x1 x2 x3 x4
              generalize wr.drewN nq = wz at *
              go_upto_region 9 with fail
              have Y := Lib.hid (B2.made wz y)
              have ba := bel_alloc (Below.refl wz.heap.size wz) (.cells #[.int .u64 y.1, .int .u64 y.2] 43)
              replace bel := bel_trans bel ba
              have HQ := Lib.hid (row_below HQ.out ba)
              have X := Lib.hid (X.out.below ba)
              have xlt3 : xb < (wz.alloc (.cells #[.int .u64 y.1, .int .u64 y.2] 43)).heap.size := Nat.lt_of_lt_of_le xlt2 ba.size
              clear h0 h1 ba
              generalize wz.alloc (.cells #[.int .u64 y.1, .int .u64 y.2] 43) = wy at *
              generalize wz.heap.size = yb at *
              have x0 := X.out.c0; have x1 := X.out.c1; have x2 := X.out.c2; have x3 := X.out.c3; have x4 := X.out.c4
              simp only at x0 x1 x2 x3 x4
              have y0 := Y.out.c0; have y1 := Y.out.c1
              replace s0 := (bel.cell (p := ⟨w.heap.size, 0, none⟩) hsz).trans s0
              replace s1 := (bel.cell (p := ⟨w.heap.size, 1, none⟩) hsz).trans s1
              go_wp2_with (refine tail2 rfl (.tmp 44) rfl _ b2 (o2 + k * 2) g2 RC rfl hrc ?_; intro RA2 RC2 e1 e2 e3; have TL2 := Lib.hid (show (0 < g2 → RA2 = rsA (some ⟨b2, o2, none⟩) 2 (k + 1)) ∧ g2 ≤ RC2 ∧ (RA2 = none → RC2 = 0) from ⟨fun h => by rw [rsA_next]; exact e1 h, e2, e3⟩); clear e1 e2 e3)
              refine (HC _).out.mono ?_
              rintro rh W6 ⟨rfl, b6⟩
              replace bel := bel_trans bel b6
              have HQ := Lib.hid (row_below HQ.out b6)
              have X := Lib.hid (X.out.below b6)
              have Y := Lib.hid (Y.out.below b6)
              have xlt4 := Nat.lt_of_lt_of_le xlt3 b6.size
              clear b6 x0 x1 x2 x3 x4 y0 y1 s0 s1
              have y0 := Y.out.c0; have y1 := Y.out.c1
              go_wp2
              go_roundg g2
              case measure => omega
              case rel => exact ⟨o, k + 1, by omega, ⟨_, _, rfl, TL2.out⟩, HN, by omega, HQ.out, qne, X, bel⟩
end Pl
end Go.Proofs.Ytbdllakbkienoaa
