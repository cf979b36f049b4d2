/- Check, New, Next, Step, Result, Unlock of leapfrogref13: contracts of the translated code, in the forms of package latch's. Conditions: the bounds of each number's kind; at most 1,000,000 failures; a log of at most 50,000 accesses. -/
import Derived.Test.YtjocbmoelkobaaaLtD
namespace Go.Proofs.Ytjocbmoelkobaaa
open Go.RowKit Go.Sort
set_option linter.unusedVariables false
set_option linter.unusedSimpArgs false
namespace Lt
open Wd
open Dm (addr_lit info_parts spot_none RdK flatU infoU bel_alloc bel_trans own_keep below_drewN)
set_option maxRecDepth 100000 in
set_option maxHeartbeats 1000000 in
theorem checkR_any (b p : Nat) (q : Option Nat) (M : Wm) (t a m : Int) (w : World) (h : At 55 w b p q M) : Calls Try.prog 28 #[.pointer (some ⟨b, 0, none⟩), .int .i64 t, .int .i64 a, .int .i64 m] w fun e w' => e = .returned (.int .i64 (lkE M t a m)) ∧ w' = w := by
  obtain ⟨c, v, rfl, h⟩ := h
  have c0 := h.c0
  have n1 := h.n1
  have CT := thread_any t w
  clear h
  unfold lkE
  by_cases h1 : 0 ≤ t ∧ t < 64
  · rw [decide_eq_true h1] at CT
    replace CT := Lib.hid CT
    by_cases h3 : m < 0
    · rw [if_neg (fun e => by omega)]
      have t3 : decide (m < 0) = true := decide_eq_true h3
      clear h1 h3
      go_enter Try.func28, Try.ntmps28
      go_wp2_with fail
      refine CT.out.mono ?_
      rintro r w1 ⟨rfl, rfl⟩
      go_wp2
      go_ret
      exact ⟨rfl, rfl⟩
    have t3 : decide (m < 0) = false := decide_eq_false h3
    by_cases h4 : 255 < m
    · rw [if_neg (fun e => by omega)]
      have t4 : decide (255 < m) = true := decide_eq_true h4
      clear h1 h3 h4
      go_enter Try.func28, Try.ntmps28
      go_wp2_with fail
      refine CT.out.mono ?_
      rintro r w1 ⟨rfl, rfl⟩
      go_wp2
      go_ret
      exact ⟨rfl, rfl⟩
    have t4 : decide (255 < m) = false := decide_eq_false h4
    rw [if_pos (show (0 ≤ t ∧ t < 64) ∧ 0 ≤ m ∧ m ≤ 255 by omega)]
    clear h1 h3 h4
    by_cases h5 : a < 0
    · rw [if_neg (fun e => by omega)]
      have t5 : decide (a < 0) = true := decide_eq_true h5
      clear h5
      go_enter Try.func28, Try.ntmps28
      go_wp2_with fail
      refine CT.out.mono ?_
      rintro r w1 ⟨rfl, rfl⟩
      go_wp2
      go_ret
      exact ⟨rfl, rfl⟩
    have t5 : decide (a < 0) = false := decide_eq_false h5
    by_cases h6 : (M.W.length : Int) ≤ a
    · rw [if_neg (fun e => by omega)]
      have t6 : decide ((M.W.length : Int) ≤ a) = true := decide_eq_true h6
      clear h5 h6
      go_enter Try.func28, Try.ntmps28
      go_wp2_with fail
      refine CT.out.mono ?_
      rintro r w1 ⟨rfl, rfl⟩
      go_wp2
      go_ret
      exact ⟨rfl, rfl⟩
    have t6 : decide ((M.W.length : Int) ≤ a) = false := decide_eq_false h6
    rw [if_pos (show 0 ≤ a ∧ a < M.W.length by omega)]
    clear h5 h6
    go_enter Try.func28, Try.ntmps28
    go_wp2_with fail
    refine CT.out.mono ?_
    rintro r w1 ⟨rfl, rfl⟩
    go_wp2
    go_ret
    exact ⟨rfl, rfl⟩
  · rw [if_neg (fun e => h1 e.1)]
    rw [decide_eq_false h1] at CT
    replace CT := Lib.hid CT
    clear h1
    go_enter Try.func28, Try.ntmps28
    go_wp2_with fail
    refine CT.out.mono ?_
    rintro r w1 ⟨rfl, rfl⟩
    go_wp2
    go_ret
    exact ⟨rfl, rfl⟩
def NrP (b : Nat) (M : Wm) (t a m : Int) (w : World) (e : Ending) (w' : World) : Prop :=
  (lkE M t a m ≠ 0 ∧ e = .returned (.tuple #[.pointer none, .int .i64 (lkE M t a m)]) ∧ w' = w) ∨
  (lkE M t a m = 0 ∧ e = .returned (.tuple #[.pointer (some ⟨w.heap.size, 0, none⟩), .int .i64 0]) ∧ RAt w' w.heap.size b (Lk.new t a m) ∧ Below w.heap.size w w')
set_option maxRecDepth 100000 in
set_option maxHeartbeats 1000000 in
theorem newR_any (b p : Nat) (q : Option Nat) (M : Wm) (t a m : Int) (w : World) (h : At 55 w b p q M) : Calls Try.prog 10 #[.pointer (some ⟨b, 0, none⟩), .int .i64 t, .int .i64 a, .int .i64 m] w (NrP b M t a m w) := by
  have C := checkR_any b p q M t a m w h
  clear h
  unfold NrP
  obtain ⟨y, hy⟩ : ∃ y, lkE M t a m = y := ⟨_, rfl⟩
  rw [hy] at C ⊢
  replace C := Lib.hid C
  by_cases h0 : y = 0
  · subst h0
    go_enter Try.func10, Try.ntmps10
    go_wp2_with fail
    refine C.out.mono ?_
    rintro r w1 ⟨rfl, rfl⟩
    go_wp2
    go_ret2
    exact .inr ⟨trivial, rfl, ⟨by simp, by simp [Lk.new], by simp [Lk.new], by simp [Lk.new], by simp [Lk.new], by simp [Lk.new], by simp [Lk.new], by simp, by simp, by simp⟩, bel_alloc (Below.refl _ _) _⟩
  · have t0 : (y == 0) = false := beq_eq_false_iff_ne.2 h0
    have t1 : (y != 0) = true := by simp [bne, t0]
    have t2 : decide (y = 0) = false := decide_eq_false h0
    have H0 := Lib.hid h0
    clear h0
    go_enter Try.func10, Try.ntmps10
    go_wp2_with fail
    refine C.out.mono ?_
    rintro r w1 ⟨rfl, rfl⟩
    go_wp2
    go_ret2
    exact .inl ⟨H0.out, rfl, rfl⟩
theorem nextR_any (x b : Nat) (L : Lk) (w : World) (h : RAt w x b L) : Calls Try.prog 14 #[.pointer (some ⟨x, 0, none⟩)] w fun e w' => e = .returned (.int .u8 L.pc) ∧ w' = w := by
  have c5 := h.c5
  clear h
  unfold Lk.pc
  obtain ⟨ov, ho⟩ : ∃ ov, L.ov = ov := ⟨_, rfl⟩
  rw [ho] at c5 ⊢
  cases ov
  all_goals
    go_enter Try.func14, Try.ntmps14
    go_wp2
    go_ret
    exact ⟨rfl, rfl⟩
set_option maxRecDepth 100000 in
theorem resultR_any (x b : Nat) (L : Lk) (w : World) (h : RAt w x b L) : Calls Try.prog 19 #[.pointer (some ⟨x, 0, none⟩)] w fun e w' => e = .returned (.tuple #[.int .i64 L.n, .int .i64 L.res]) ∧ Below w.heap.size w w' := by
  have c4 := h.c4
  have c5 := h.c5
  have c6 := h.c6
  clear h
  unfold Lk.res
  obtain ⟨ov, ho⟩ : ∃ ov, L.ov = ov := ⟨_, rfl⟩
  rw [ho] at c5 ⊢
  cases ov
  · rw [if_neg (by simp)]
    go_enter Try.func19, Try.ntmps19
    go_wp2
    go_ret2
    exact ⟨rfl, Below.refl _ _⟩
  · rw [if_pos rfl]
    go_enter Try.func19, Try.ntmps19
    go_wp2_with fail
    go_region
    all_goals
      go_wp2
      go_ret2
      exact ⟨rfl, below_drewN (Below.refl _ _) 1⟩
def Fx (x : Nat) : Nat → Prop := fun i => i = x
theorem Fx.set {x j : Nat} {w w1 : World} (h : Fr (Fx x) w w1) (v : Value) : Fr (Fx x) w (w1.setCell ⟨x, j, none⟩ v) := Fr.set h _ _ rfl
theorem Fx.drew {x : Nat} {w w1 : World} (h : Fr (Fx x) w w1) : Fr (Fx x) w w1.drew := h.trans (Fr.of_below (below_drewN (Below.refl _ _) 1)) fun _ _ e => e
theorem RAt.drew {w : World} {x b : Nat} {L : Lk} (h : RAt w x b L) : RAt w.drew x b L := h.below (below_drewN (Below.refl _ _) 1)
set_option maxRecDepth 100000 in
set_option maxHeartbeats 2000000 in
theorem stepR_any (x b p : Nat) (q : Option Nat) (M : Wm) (L : Lk) (N : Int) (w : World) (h : At 55 w b p q M) (hx : RAt w x b L) (hd : ¬ Of b p q x) (ok : L.Ok M.W.length N) (hN : N ≤ 1000000) (hL : M.L.length ≤ 50000) :
    Calls Try.prog 17 #[.pointer (some ⟨x, 0, none⟩)] w (SlP 55 (fun L w' => RAt w' x b L) b p q x M L w) := by
  have CX := nextR_any x b L w hx
  unfold SlP
  by_cases ho : L.ov = true
  · rw [show L.pc = 0 from if_pos ho] at CX ⊢
    rw [show L.fin M = false by unfold Lk.fin; rw [ho]; rfl, Lk.mem_over ho, Lk.step_over ho]
    replace CX := Lib.hid CX
    have HA := Lib.hid (AftL.same (x := x) (X := fun w' => RAt w' x b L) h hx (Below.refl _ w))
    clear h hx ho hd
    go_enter Try.func17, Try.ntmps17
    go_wp2_with fail
    refine CX.out.mono ?_
    rintro r w1 ⟨rfl, rfl⟩
    go_wp2
    go_ret2
    exact ⟨rfl, HA.out⟩
  replace ho : L.ov = false := by simpa using ho
  rw [show L.pc = 2 from if_neg (by rw [ho]; simp)] at CX ⊢
  rw [show L.fin M = (L.step M).ov by unfold Lk.fin; rw [ho]; rfl, Lk.mem_run ho]
  replace CX := Lib.hid CX
  have t0 := ok.t0
  have t1 := ok.t1
  have n0 := ok.n0
  have n1 := ok.n1
  have c0 := hx.c0
  have c1 := hx.c1
  have c2 := hx.c2
  have he : M.err L.t L.a = 0 := Wm.err_ok ok.t0 ok.t1 ok.a0 ok.a1
  have CC := casR_any b p q M L.t L.a 0 (L.t + 1) w.drew (h.below (below_drewN (Below.refl _ w) 1)) hL (by omega) (by omega)
  unfold CaP casT at CC
  rw [he, Wm.after_zero] at CC
  have hlt := hx.lt
  have hz := ok.z ho
  have HX := Lib.hid hx
  have HD := Lib.hid hd
  have e1 : IntKind.u64.wrap L.t = L.t := by rw [IntKind.wrap_u64]; omega
  have e2 : IntKind.u64.wrap (L.t + 1) = L.t + 1 := by rw [IntKind.wrap_u64]; omega
  clear h hx hd ok he
  by_cases hg : M.get L.a = 0
  · rw [Lk.step_hit ho hg]
    clear ho
    rw [decide_eq_true (show (0 : Int) = 0 ∧ M.get L.a = 0 from ⟨rfl, hg⟩)] at CC
    replace CC := Lib.hid CC
    clear hg
    go_enter Try.func17, Try.ntmps17
    go_wp2_with fail
    refine CX.out.mono ?_
    rintro r wn ⟨rfl, rfl⟩
    go_wp2_with fail
    go_region_held3 (fun w' => w'.cell? ⟨x, 0, none⟩ = some (.pointer (some ⟨b, 0, none⟩)) ∧ w'.cell? ⟨x, 1, none⟩ = some (.int .i64 L.t) ∧ w'.cell? ⟨x, 2, none⟩ = some (.int .i64 L.a)) (first | exact ⟨c0, c1, c2⟩ | with_reducible exact ⟨d0, d1, d2⟩) (first | (go_at_call 33; refine CC.out.mono ?_; rintro r w1 ⟨rfl, ha⟩; have hx1 := HX.out.below (below_drewN (Below.refl _ _) 1); have hx2 : RAt w1 x b L := hx1.keep (by obtain ⟨_, _, _, hf⟩ := ha; exact hf.block x hx1.lt HD.out); have d0 := hx2.c0; have d1 := hx2.c1; have d2 := hx2.c2))
    all_goals
      have HA := Lib.hid ha
      have c5 := hx2.c5
      have f5 := hx2.f5
      have HX2 := Lib.hid hx2
      clear ha hx1 hx2
      go_wp2_with fail
      go_region
      all_goals
        go_wp2
        go_ret2
        have h2 := HX2.out.setS true
        rw [hz] at h2
        exact ⟨rfl, AftL.of (HA.out.behind (Fr.of_below (below_drewN (Below.refl _ _) 1))) hlt HD.out h2.drew (Fx.drew (Fx.set (Fr.of_below (Below.refl _ _)) _))⟩
  · rw [Lk.step_miss ho hg]
    rw [decide_eq_false (show ¬ ((0 : Int) = 0 ∧ M.get L.a = 0) from fun e => hg e.2)] at CC
    replace CC := Lib.hid CC
    clear hg
    have e3 : IntKind.i64.wrap (L.n + 1) = L.n + 1 := IntWalk.i64_in _ (by omega)
    by_cases hm : L.n + 1 = L.m
    · rw [show L.miss = ⟨L.t, L.a, L.m, L.n + 1, true, 11⟩ by unfold Lk.miss; rw [if_pos hm, decide_eq_true hm]]
      have q0 : (L.n + 1 == L.m) = true := by simp [hm]
      have q1 : decide (L.n + 1 = L.m) = true := decide_eq_true hm
      clear ho hm
      go_enter Try.func17, Try.ntmps17
      go_wp2_with fail
      refine CX.out.mono ?_
      rintro r wn ⟨rfl, rfl⟩
      go_wp2_with fail
      go_region_held3 (fun w' => w'.cell? ⟨x, 0, none⟩ = some (.pointer (some ⟨b, 0, none⟩)) ∧ w'.cell? ⟨x, 1, none⟩ = some (.int .i64 L.t) ∧ w'.cell? ⟨x, 2, none⟩ = some (.int .i64 L.a)) (first | exact ⟨c0, c1, c2⟩ | with_reducible exact ⟨d0, d1, d2⟩) (first | (go_at_call 33; refine CC.out.mono ?_; rintro r w1 ⟨rfl, ha⟩; have hx1 := HX.out.below (below_drewN (Below.refl _ _) 1); have hx2 : RAt w1 x b L := hx1.keep (by obtain ⟨_, _, _, hf⟩ := ha; exact hf.block x hx1.lt HD.out); have d0 := hx2.c0; have d1 := hx2.c1; have d2 := hx2.c2))
      all_goals
        have HA := Lib.hid ha
        have c4 := hx2.c4
        have f4 := hx2.f4
        have c3 := hx2.c3
        have HX2 := Lib.hid hx2
        have hs := hx2.setN (L.n + 1)
        have s4 := hs.c4
        have s3 := hs.c3
        have hs2 := hs
        have g5 := hs2.c5
        have g6 := hs2.c6
        have v5 := hs2.f5
        have v6 := hs2.f6
        clear ha hx1 hx2
        have hs3 := hs2.setE 11
        have z6 := hs3.c6
        have z5 := hs3.c5
        have y5 := hs3.f5
        have hs4 := hs3.setS true
        have x5 := hs4.c5
        have HS := Lib.hid hs4.drew.drew
        clear hs hs2 hs3 hs4
        go_wp2_with fail
        go_region
        all_goals
          go_wp2_with fail
          go_region
          all_goals
            go_wp2
            go_ret2
            exact ⟨rfl, AftL.of (HA.out.behind (Fr.of_below (below_drewN (Below.refl _ _) 1))) hlt HD.out HS.out (Fx.drew (Fx.drew (Fx.set (Fx.set (Fx.set (Fr.of_below (Below.refl _ _)) _) _) _)))⟩
    · rw [show L.miss = ⟨L.t, L.a, L.m, L.n + 1, false, 0⟩ by unfold Lk.miss; rw [if_neg hm, decide_eq_false hm]]
      have q0 : (L.n + 1 == L.m) = false := by simp [hm]
      have q1 : decide (L.n + 1 = L.m) = false := decide_eq_false hm
      clear ho hm
      go_enter Try.func17, Try.ntmps17
      go_wp2_with fail
      refine CX.out.mono ?_
      rintro r wn ⟨rfl, rfl⟩
      go_wp2_with fail
      go_region_held3 (fun w' => w'.cell? ⟨x, 0, none⟩ = some (.pointer (some ⟨b, 0, none⟩)) ∧ w'.cell? ⟨x, 1, none⟩ = some (.int .i64 L.t) ∧ w'.cell? ⟨x, 2, none⟩ = some (.int .i64 L.a)) (first | exact ⟨c0, c1, c2⟩ | with_reducible exact ⟨d0, d1, d2⟩) (first | (go_at_call 33; refine CC.out.mono ?_; rintro r w1 ⟨rfl, ha⟩; have hx1 := HX.out.below (below_drewN (Below.refl _ _) 1); have hx2 : RAt w1 x b L := hx1.keep (by obtain ⟨_, _, _, hf⟩ := ha; exact hf.block x hx1.lt HD.out); have d0 := hx2.c0; have d1 := hx2.c1; have d2 := hx2.c2))
      all_goals
        have HA := Lib.hid ha
        have c4 := hx2.c4
        have f4 := hx2.f4
        have c3 := hx2.c3
        have HX2 := Lib.hid hx2
        have hs := hx2.setN (L.n + 1)
        have s4 := hs.c4
        have s3 := hs.c3
        have hs2 := hs
        have g5 := hs2.c5
        have g6 := hs2.c6
        have v5 := hs2.f5
        have v6 := hs2.f6
        clear ha hx1 hx2
        rw [hz] at hs2 g6
        have hs4 := hs2.setS false
        have x5 := hs4.c5
        have HS := Lib.hid (show RAt _ x b ⟨L.t, L.a, L.m, L.n + 1, false, 0⟩ from hs4.drew.drew)
        clear hs hs2 hs4
        go_wp2_with fail
        go_region
        all_goals
          go_wp2_with fail
          go_region
          all_goals
            go_wp2
            go_ret2
            exact ⟨rfl, AftL.of (HA.out.behind (Fr.of_below (below_drewN (Below.refl _ _) 1))) hlt HD.out HS.out (Fx.drew (Fx.drew (Fx.set (Fx.set (Fr.of_below (Below.refl _ _)) _) _)))⟩
set_option maxRecDepth 100000 in
set_option maxHeartbeats 1000000 in
theorem unlockR_any (b p : Nat) (q : Option Nat) (M : Wm) (t a : Int) (w : World) (h : At 55 w b p q M) (hL : M.L.length ≤ 50000) : Calls Try.prog 12 #[.pointer (some ⟨b, 0, none⟩), .int .i64 t, .int .i64 a] w (UnP 55 b p q M t a w) := by
  have C := checkR_any b p q M t a 0 w h
  rw [lkE_m0] at C
  unfold UnP unM
  by_cases he : M.err t a = 0
  · obtain ⟨t0, t1, a0, a1⟩ := Wm.err_zero he
    have CS := storeR_any b p q M t a 0 w h hL (by omega) (by omega)
    unfold StP at CS
    rw [he, Wm.after_zero] at CS
    rw [he] at C
    have e1 : IntKind.u64.wrap t = t := by rw [IntKind.wrap_u64]; omega
    have e2 : IntKind.u64.wrap (t + 1) = t + 1 := by rw [IntKind.wrap_u64]; omega
    obtain ⟨i, rfl⟩ := Int.eq_ofNat_of_zero_le a0
    have HA := Lib.hid (After.same h (Below.refl _ w))
    obtain ⟨c, v, rfl, h⟩ := h
    have hi : i < M.W.length := by omega
    have c0 := h.c0
    have cw := (h.word hi).1
    have n1 := h.n1
    by_cases hg : M.get (i : Nat) = t + 1
    · have hu : unE M t (i : Nat) = 0 := by unfold unE; rw [if_pos he, if_pos hg]
      rw [hu, if_pos rfl]
      have u0 : (M.get (i : Nat) == t + 1) = true := by simp [hg]
      have u1 : decide (M.get (i : Nat) = t + 1) = true := decide_eq_true hg
      replace C := Lib.hid C
      replace CS := Lib.hid CS
      clear h he hg hu HA
      go_enter Try.func12, Try.ntmps12
      go_wp2_with fail
      refine C.out.mono ?_
      rintro r w1 ⟨rfl, rfl⟩
      go_wp2_with fail
      refine CS.out.mono ?_
      rintro r w1 ⟨rfl, ha⟩
      have HA := Lib.hid ha
      clear ha
      go_wp2
      go_ret
      exact ⟨rfl, HA.out⟩
    · have hu : unE M t (i : Nat) = 8 := by unfold unE; rw [if_pos he, if_neg hg]
      rw [hu, if_neg (by decide)]
      have u0 : (M.get (i : Nat) == t + 1) = false := by simp [hg]
      have u1 : decide (M.get (i : Nat) = t + 1) = false := decide_eq_false hg
      replace C := Lib.hid C
      clear h he hg hu CS
      go_enter Try.func12, Try.ntmps12
      go_wp2_with fail
      refine C.out.mono ?_
      rintro r w1 ⟨rfl, rfl⟩
      go_wp2
      go_ret
      exact ⟨rfl, HA.out⟩
  · have hu : unE M t a = M.err t a := by unfold unE; rw [if_neg he]
    rw [hu, if_neg he]
    have HA := Lib.hid (After.same h (Below.refl _ w))
    have t0 : (M.err t a == 0) = false := beq_eq_false_iff_ne.2 he
    have t1 : (M.err t a != 0) = true := by simp [bne, t0]
    have t2 : decide (M.err t a = 0) = false := decide_eq_false he
    clear h hu he
    generalize M.err t a = y at *
    replace C := Lib.hid C
    go_enter Try.func12, Try.ntmps12
    go_wp2_with fail
    refine C.out.mono ?_
    rintro r w1 ⟨rfl, rfl⟩
    go_wp2
    go_ret
    exact ⟨rfl, HA.out⟩
end Lt
end Go.Proofs.Ytjocbmoelkobaaa
