/- End and Offer of leapfrogref07: contracts of the translated code. Conditions: the bounds of each number's kind. -/
import Derived.Test.YtbndgbjenmknmaaDoorMgS
namespace Go.Proofs.YtbndgbjenmknmaaDoor
open Go.RowKit Go.Sort
set_option linter.unusedVariables false
set_option linter.unusedSimpArgs false
namespace Mg
open Om (Pr below_drewN bel_alloc)
theorem lacksR_nil (l : Int) (w : World) :
    Calls Tryd.prog 43 #[.pointer none, .int .i64 l] w fun e w' => e = .returned (.int .i64 1) ∧ w' = w := by
  go_enter Tryd.func43, Tryd.ntmps43
  go_wp2
  go_ret
  exact ⟨rfl, rfl⟩
theorem endR_nil (l : Int) (w : World) :
    Calls Tryd.prog 26 #[.pointer none, .int .i64 l] w fun e w' => e = .returned (.int .i64 1) ∧ w' = w := by
  have C := Lib.hid (lacksR_nil l w)
  go_enter Tryd.func26, Tryd.ntmps26
  go_wp2_with fail
  refine C.out.mono ?_
  rintro r w1 ⟨rfl, rfl⟩
  go_wp2
  go_ret
  exact ⟨rfl, rfl⟩
theorem err_zero {M : Mg} {l : Int} (h : M.err l = 0) : ∃ v : Nat, v < 64 ∧ l = v ∧ M.ls v = true ∧ M.hs v = false ∧ M.en v = false := by
  rcases err_cases M l with ⟨_, e⟩ | ⟨_, _, e⟩ | ⟨v, _, _, _, e⟩ | ⟨v, _, _, _, _, e⟩ | ⟨v, _, _, _, _, _, e⟩ | ⟨v, h1, h2, h3, h4, h5, _⟩ <;> first | (rw [e] at h; cases h) | exact ⟨v, h1, h2, h3, h4, h5⟩
def Mg.after (M : Mg) (e : Int) (N : Mg) : Mg := if e = 0 then N else M
set_option maxHeartbeats 4000000 in
theorem endR (M : Mg) (b : Nat) (l : Int) (w : World) (hm : MrAt w b M) (l0 : (-9223372036854775808) ≤ l) (l1 : l ≤ 9223372036854775807) :
    Calls Tryd.prog 26 #[.pointer (some ⟨b, 0, none⟩), .int .i64 l] w fun e w' => e = .returned (.int .i64 (M.err l)) ∧ MrAt w' b (M.after (M.err l) (M.done l.toNat)) ∧ Chg b w w' := by
  have C := lacksR M b l w hm l0 l1
  by_cases he : M.err l = 0
  · obtain ⟨v, hv, rfl, h1, h2, h3⟩ := err_zero he
    rw [he] at C
    have C := Lib.hid C
    have q := hm.en v hv
    have f := hm.fz (128 + v) (by omega)
    have HE := Lib.hid he
    have HM := Lib.hid hm
    clear he hm
    go_enter Tryd.func26, Tryd.ntmps26
    go_wp2_with fail
    refine C.out.mono ?_
    rintro r w1 ⟨rfl, rfl⟩
    go_wp2
    go_ret
    exact ⟨by rw [HE.out]; rfl, by rw [HE.out]; exact HM.out.done hv, (Chg.of_below (Below.refl _ _)).set _ _⟩
  · have NE := Lib.hid he
    have HE := Lib.hid (show M.after (M.err l) (M.done l.toNat) = M from if_neg he)
    have t0 : decide (M.err l = 0) = false := decide_eq_false he
    generalize M.err l = x at *
    have C := Lib.hid C
    have HM := Lib.hid hm
    clear hm
    go_enter Tryd.func26, Tryd.ntmps26
    go_wp2_with fail
    refine C.out.mono ?_
    rintro r w1 ⟨rfl, rfl⟩
    go_wp2
    go_ret
    exact ⟨rfl, by rw [HE.out]; exact HM.out, Chg.of_below (Below.refl _ _)⟩
theorem offerR_nil (l : Int) (x : Pr) (w : World) :
    Calls Tryd.prog 29 #[.pointer none, .int .i64 l, .agg #[.int .u64 x.1, .int .u64 x.2]] w fun e w' => e = .returned (.int .i64 1) ∧ Below w.heap.size w w' := by
  have C := fun W => Lib.hid (lacksR_nil l W)
  have B0 : Below w.heap.size w (w.alloc (.cells #[.int .u64 x.1, .int .u64 x.2] 39)) := bel_alloc (Below.refl _ _) _
  go_enter Tryd.func29, Tryd.ntmps29
  go_wp2_with fail
  refine (C _).out.mono ?_
  rintro r w1 ⟨rfl, rfl⟩
  go_wp2
  go_ret
  exact ⟨rfl, B0⟩
theorem offE_err {M : Mg} {l : Int} {x : Pr} (h : M.err l ≠ 0) : M.offE l x = M.err l := by unfold Mg.offE; rw [if_pos h]
theorem offE_low {M : Mg} {l : Int} {x : Pr} (h : M.err l = 0) (h2 : M.fu = true ∨ x.1 < M.fl) : M.offE l x = 2 := by unfold Mg.offE; rw [if_neg (by rw [h]; simp), if_pos h2]
theorem offE_have {M : Mg} {l : Int} {x : Pr} (h : M.err l = 0) (h2 : ¬ (M.fu = true ∨ x.1 < M.fl)) (h3 : M.has x.1) : M.offE l x = 9 := by unfold Mg.offE; rw [if_neg (by rw [h]; simp), if_neg h2, if_pos h3]
theorem offE_ok {M : Mg} {l : Int} {x : Pr} (h : M.err l = 0) (h2 : ¬ (M.fu = true ∨ x.1 < M.fl)) (h3 : ¬ M.has x.1) : M.offE l x = 0 := by unfold Mg.offE; rw [if_neg (by rw [h]; simp), if_neg h2, if_neg h3]
def Mg.OffP (M : Mg) (b : Nat) (l : Int) (x : Pr) (w w' : World) : Prop := MrAt w' b (M.after (M.offE l x) (M.put l.toNat x)) ∧ Chg b w w'
set_option maxHeartbeats 4000000 in
theorem offerR (M : Mg) (b : Nat) (l : Int) (x : Pr) (w : World) (hm : MrAt w b M) (l0 : (-9223372036854775808) ≤ l) (l1 : l ≤ 9223372036854775807) :
    Calls Tryd.prog 29 #[.pointer (some ⟨b, 0, none⟩), .int .i64 l, .agg #[.int .u64 x.1, .int .u64 x.2]] w fun e w' => e = .returned (.int .i64 (M.offE l x)) ∧ M.OffP b l x w w' := by
  obtain ⟨W, hW⟩ : ∃ W, W = (w.alloc (.cells #[.int .u64 x.1, .int .u64 x.2] 39)) := ⟨_, rfl⟩
  have B0 : Below w.heap.size w W := by rw [hW]; exact bel_alloc (Below.refl _ _) _
  have hsz : W.heap.size = w.heap.size + 1 := by rw [hW]; simp
  have k0 : W.cell? ⟨w.heap.size, 0, none⟩ = some (.int .u64 x.1) := by rw [hW]; simp
  have k1 : W.cell? ⟨w.heap.size, 1, none⟩ = some (.int .u64 x.2) := by rw [hW]; simp
  have hbl := hm.lt
  have hm := hm.below B0
  have HB := Lib.hid B0; clear B0
  have HW := Lib.hid hW; clear hW
  have C := lacksR M b l W hm l0 l1
  by_cases he : M.err l = 0
  · obtain ⟨v, hv, rfl, h1, h2, h3⟩ := err_zero he
    rw [he] at C
    have C := Lib.hid C
    have q4 := hm.fl
    have q5 := hm.fu
    have HM := Lib.hid hm
    clear hm
    by_cases hlo : M.fu = true ∨ x.1 < M.fl
    · have HE := Lib.hid (offE_low he hlo)
      clear he
      by_cases hfu : M.fu = true
      · rw [hfu] at q5
        go_enter Tryd.func29, Tryd.ntmps29
        go_wp2_with fail
        rw [← HW.out]
        refine C.out.mono ?_
        rintro r w1 ⟨rfl, rfl⟩
        go_wp2
        go_quiet (fail)
        go_wp2
        go_ret
        exact ⟨by rw [HE.out]; rfl, by rw [HE.out]; exact HM.out.keep rfl, (Chg.of_below HB.out).trans (Chg.of_below (below_drewN (Below.refl _ _) _))⟩
      · have hfu : M.fu = false := by simpa using hfu
        rw [hfu] at q5
        have t0 : decide (x.1 < M.fl) = true := decide_eq_true (by rcases hlo with h | h; (rw [hfu] at h; cases h); exact h)
        clear hlo
        go_enter Tryd.func29, Tryd.ntmps29
        go_wp2_with fail
        rw [← HW.out]
        refine C.out.mono ?_
        rintro r w1 ⟨rfl, rfl⟩
        go_wp2
        go_quiet (fail)
        go_wp2
        go_ret
        exact ⟨by rw [HE.out]; rfl, by rw [HE.out]; exact HM.out.keep rfl, (Chg.of_below HB.out).trans (Chg.of_below (below_drewN (Below.refl _ _) _))⟩
    · have hfu : M.fu = false := by cases e : M.fu; rfl; exact absurd (.inl e) hlo
      rw [hfu] at q5
      have t0 : decide (x.1 < M.fl) = false := decide_eq_false fun h => hlo (.inr h)
      have EH := Lib.hid (fun h3 => offE_have (x := x) he hlo h3)
      have EO := Lib.hid (fun h3 => offE_ok (x := x) he hlo h3)
      clear he hlo
      go_enter Tryd.func29, Tryd.ntmps29
      go_wp2_with fail
      rw [← HW.out]
      refine C.out.mono ?_
      rintro r r1 ⟨rfl, rfl⟩
      go_wp2
      go_quiet (fail)
      go_wp2
      go_loopw [8] (fun i wr => ∃ n : Nat, n ≤ 64 ∧ i = .int .i64 n ∧ (∀ u, u < n → M.hs u = true → (M.p u).1 ≠ x.1) ∧ Below r1.heap.size r1 wr) (fun i _ => (64 - intOf i).toNat)
      case atStart => exact ⟨0, Nat.zero_le _, rfl, fun u hu => absurd hu (Nat.not_lt_zero _), below_drewN (Below.refl _ _) _⟩
      case round =>
        obtain ⟨n, hn, rfl, hq, bel⟩ := hrel
        have HQ := Lib.hid hq; clear hq
        have m0 := (World.cell?_of_block (a := ⟨w.heap.size, 0, none⟩) (bel.block w.heap.size (by omega))).trans k0
        have m1 := (World.cell?_of_block (a := ⟨w.heap.size, 1, none⟩) (bel.block w.heap.size (by omega))).trans k1
        have HN := Lib.hid (HM.out.below bel)
        by_cases hlt : n < 64
        · have t1 : decide ((n : Int) < 64) = true := decide_eq_true (by omega)
          have g1 := HN.out.hs n hlt
          have g2 := HN.out.pk n hlt
          by_cases hh : M.hs n = true ∧ (M.p n).1 = x.1
          · rw [hh.1] at g1
            have t2 : ((M.p n).1 == x.1) = true := by rw [hh.2]; exact beq_self_eq_true _
            have EX := Lib.hid (EH.out ⟨n, hlt, hh.1, hh.2⟩)
            clear hh
            go_wp2
            go_quiet (fail)
            go_wp2
            go_ret
            exact ⟨by rw [EX.out]; rfl, by unfold Mg.OffP; rw [EX.out]; exact ⟨HN.out.keep rfl, (Chg.of_below HB.out).trans ((Chg.of_below bel).trans (Chg.of_below (below_drewN (Below.refl _ _) _)))⟩⟩
          · have NX := Lib.hid (show ∀ u, u < n + 1 → M.hs u = true → (M.p u).1 ≠ x.1 from fun u hu h e => by
              by_cases q : u = n
              · subst q; exact hh ⟨h, e⟩
              · exact HQ.out u (by omega) h e)
            cases e1 : M.hs n with
            | false =>
              rw [e1] at g1
              clear hh
              go_wp2
              go_quiet (fail)
              go_wp2
              go_roundw
              case rel => exact ⟨n + 1, by omega, by go_num, NX.out, below_drewN bel _⟩
              case measure => simp [intOf]; omega
            | true =>
              rw [e1] at g1
              have t2 : ((M.p n).1 == x.1) = false := beq_eq_false_iff_ne.2 fun e => hh ⟨e1, e⟩
              clear hh
              go_wp2
              go_quiet (fail)
              go_wp2
              go_roundw
              case rel => exact ⟨n + 1, by omega, by go_num, NX.out, below_drewN bel _⟩
              case measure => simp [intOf]; omega
        · have t1 : decide ((n : Int) < 64) = false := decide_eq_false (by omega)
          have : n = 64 := by omega
          subst this
          have EX := Lib.hid (EO.out fun ⟨u, hu, h, e⟩ => HQ.out u hu h e)
          have f0 := HN.out.fz (64 + v) (by omega)
          have f1 := HN.out.fz (192 + v * 2) (by omega)
          have f2 := HN.out.fz (192 + v * 2 + 1) (by omega)
          have g0 := HN.out.hs v hv
          have g1 := HN.out.pk v hv
          have g2 := HN.out.pv v hv
          go_wp2
          go_region
          go_wp2
          go_ret
          exact ⟨by rw [EX.out]; rfl, by unfold Mg.OffP; rw [EX.out]; exact ⟨((HN.out.setHs hv true).setP hv x.1 x.2).keep rfl, (Chg.of_below HB.out).trans ((((((Chg.of_below bel).set (64 + v) (.bool true)).set (192 + v * 2) (.int .u64 x.1)).set (192 + v * 2 + 1) (.int .u64 x.2))).trans ⟨rfl, rfl, rfl, Nat.le_refl _, fun _ _ _ => rfl⟩)⟩⟩
  · have NE := Lib.hid he
    have HO := Lib.hid (offE_err (x := x) he)
    have HE := Lib.hid (show M.after (M.err l) (M.put l.toNat x) = M from if_neg he)
    have t0 : decide (M.err l = 0) = false := decide_eq_false he
    have HO := HO.out
    rw [HO]
    generalize hy : M.err l = y at *
    have C := Lib.hid C
    have HM := Lib.hid hm
    clear hm
    go_enter Tryd.func29, Tryd.ntmps29
    go_wp2_with fail
    rw [← HW.out]
    refine C.out.mono ?_
    rintro r w1 ⟨rfl, rfl⟩
    go_wp2
    go_ret
    exact ⟨rfl, by unfold Mg.OffP; rw [HO]; exact ⟨by rw [HE.out]; exact HM.out, Chg.of_below HB.out⟩⟩
end Mg
end Go.Proofs.YtbndgbjenmknmaaDoor
