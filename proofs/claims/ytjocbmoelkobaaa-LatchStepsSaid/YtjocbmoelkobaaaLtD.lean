/- New, try, Step, Unlock of package latch: contracts of the translated code. Conditions: the bounds of each number's kind; at most 1,000,000 failures; a log of at most 50,000 accesses. -/
import Derived.Test.YtjocbmoelkobaaaLtC
import Derived.Deep.RegionHeld3
namespace Go.Proofs.Ytjocbmoelkobaaa
open Go.RowKit Go.Sort
set_option linter.unusedVariables false
set_option linter.unusedSimpArgs false
namespace Lt
open Wd
open Dm (addr_lit info_parts spot_none RdK flatU infoU bel_alloc bel_trans own_keep below_drewN)
/-- what a step leaves: the memory M, the operation X, nothing else changed -/
def AftL (ty : TypeId) (X : World → Prop) (b p : Nat) (q : Option Nat) (x : Nat) (M : Wm) (w w' : World) : Prop :=
  ∃ q', At ty w' b p q' M ∧ X w' ∧ (∀ g, q' = some g → q = some g ∨ w.heap.size ≤ g) ∧ Fr (fun i => Of b p q i ∨ i = x) w w'
theorem AftL.of {ty : TypeId} {X : World → Prop} {b p : Nat} {q : Option Nat} {x : Nat} {M : Wm} {w w1 w' : World} (h : After ty b p q M w w1) (hx : x < w.heap.size) (hd : ¬ Of b p q x) (hX : X w') (hf : Fr (fun i => i = x) w1 w') : AftL ty X b p q x M w w' := by
  obtain ⟨q', h1, h2, h3⟩ := h
  have hn : ∀ i, Of b p q' i → i ≠ x := fun i hi e => by
    subst e
    rcases hi with e | e | e
    · exact hd (.inl e)
    · exact hd (.inr (.inl e))
    · rcases h2 _ e with h | h
      · exact hd (.inr (.inr h))
      · omega
  exact ⟨q', h1.keep fun i hi ho => hf.block i hi (hn i ho), hX, h2, Fr.trans (S := fun i => Of b p q i ∨ i = x) (T := fun i => Of b p q i ∨ i = x) ⟨h3.os, h3.tape, h3.output, h3.size, fun i hi hn => h3.block i hi fun e => hn (.inl e)⟩ ⟨hf.os, hf.tape, hf.output, hf.size, fun i hi hn => hf.block i hi fun e => hn (.inr e)⟩ fun _ _ e => e⟩
theorem AftL.same {ty : TypeId} {X : World → Prop} {b p : Nat} {q : Option Nat} {x : Nat} {M : Wm} {w w' : World} (h : At ty w b p q M) (hX : X w') (hb : Below w.heap.size w w') : AftL ty X b p q x M w w' := ⟨q, h.below hb, hX, fun g hg => .inl hg, Fr.of_below hb⟩
/-! ### New -/
def NlP (b : Nat) (M : Wm) (t a m : Int) (w : World) (e : Ending) (w' : World) : Prop :=
  (lkE M t a m ≠ 0 ∧ e = .returned (.tuple #[.pointer none, .int .i64 (lkE M t a m)]) ∧ w' = w) ∨
  (lkE M t a m = 0 ∧ e = .returned (.tuple #[.pointer (some ⟨w.heap.size, 0, none⟩), .int .i64 0]) ∧ LAt w' w.heap.size b (Lk.new t a m) ∧ Below w.heap.size w w')
theorem new_nil (t a m : Int) (w : World) : Calls Try.prog 9 #[.pointer none, .int .i64 t, .int .i64 a, .int .i64 m] w fun e w' => e = .returned (.tuple #[.pointer none, .int .i64 1]) ∧ w' = w := by
  have C := Lib.hid (check_nil t a m w)
  go_enter Try.func9, Try.ntmps9
  go_wp2_with fail
  refine C.out.mono ?_
  rintro r w1 ⟨rfl, rfl⟩
  go_wp2
  go_ret2
  exact ⟨rfl, rfl⟩
set_option maxRecDepth 100000 in
set_option maxHeartbeats 1000000 in
theorem new_any (b p : Nat) (q : Option Nat) (M : Wm) (t a m : Int) (w : World) (h : At 73 w b p q M) : Calls Try.prog 9 #[.pointer (some ⟨b, 0, none⟩), .int .i64 t, .int .i64 a, .int .i64 m] w (NlP b M t a m w) := by
  have C := check_any b p q M t a m w h
  clear h
  unfold NlP
  obtain ⟨y, hy⟩ : ∃ y, lkE M t a m = y := ⟨_, rfl⟩
  rw [hy] at C ⊢
  replace C := Lib.hid C
  by_cases h0 : y = 0
  · subst h0
    have hmf : ∀ (fn : Fn) (first cap : Array Value) (w : World), (Instr.makeFunc fn first cap).run Try.prog w = .ok (.func fn first cap) w := fun _ _ _ _ => rfl
    have sf := sto_fn
    go_enter Try.func9, Try.ntmps9
    go_wp2_with fail
    refine C.out.mono ?_
    rintro r w1 ⟨rfl, rfl⟩
    go_wp2
    go_ret2
    exact .inr ⟨trivial, rfl, ⟨by simp [Lk.new], by simp [Lk.new], by simp, by simp [Lk.new], by simp [Lk.new], by simp [Lk.new, stV], by simp [Lk.new], by simp, by simp, by simp⟩, bel_alloc (Below.refl _ _) _⟩
  · have t0 : (y == 0) = false := beq_eq_false_iff_ne.2 h0
    have t1 : (y != 0) = true := by simp [bne, t0]
    have t2 : decide (y = 0) = false := decide_eq_false h0
    have H0 := Lib.hid h0
    clear h0
    go_enter Try.func9, Try.ntmps9
    go_wp2_with fail
    refine C.out.mono ?_
    rintro r w1 ⟨rfl, rfl⟩
    go_wp2
    go_ret2
    exact .inl ⟨H0.out, rfl, rfl⟩
/-! ### try -/
set_option maxRecDepth 100000 in
set_option maxHeartbeats 1000000 in
theorem try_any (x b p : Nat) (q : Option Nat) (M : Wm) (L : Lk) (N : Int) (w : World) (h : At 73 w b p q M) (hx : LAt w x b L) (hd : ¬ Of b p q x) (ok : L.Ok M.W.length N) (ho : L.ov = false) (hN : N ≤ 1000000) (hL : M.L.length ≤ 50000) :
    Calls Try.prog 27 #[.pointer (some ⟨x, 0, none⟩)] w fun e w' => e = .returned (.bool (L.step M).ov) ∧ AftL 73 (fun w' => LAt w' x b (L.step M)) b p q x (L.mem M) w w' := by
  have t0 := ok.t0
  have t1 := ok.t1
  have n0 := ok.n0
  have n1 := ok.n1
  have c1 := hx.c1
  have c2 := hx.c2
  have c3 := hx.c3
  have c4 := hx.c4
  have he : M.err L.t L.a = 0 := Wm.err_ok ok.t0 ok.t1 ok.a0 ok.a1
  have CM := fun W => Lib.hid (mark_any L.t W t0 t1)
  have CC := cas_any b p q M L.t L.a 0 (L.t + 1) w.drew (h.below (below_drewN (Below.refl _ w) 1)) hL (by omega) (by omega)
  unfold CaP casT at CC
  rw [he, Wm.after_zero] at CC
  have hlt := hx.lt
  have hz := ok.z ho
  have HX := Lib.hid hx
  have HD := Lib.hid hd
  rw [Lk.mem_run ho]
  clear h hx hd ok he
  by_cases hg : M.get L.a = 0
  · rw [Lk.step_hit ho hg]
    clear ho
    rw [decide_eq_true (show (0 : Int) = 0 ∧ M.get L.a = 0 from ⟨rfl, hg⟩)] at CC
    replace CC := Lib.hid CC
    clear hg
    go_enter Try.func27, Try.ntmps27
    go_wp2_with fail
    go_region_held3 (fun w' => w'.cell? ⟨x, 2, none⟩ = some (.pointer (some ⟨b, 0, none⟩)) ∧ w'.cell? ⟨x, 3, none⟩ = some (.int .i64 L.t) ∧ w'.cell? ⟨x, 4, none⟩ = some (.int .i64 L.a)) (first | exact ⟨c2, c3, c4⟩ | with_reducible exact ⟨d2, d3, d4⟩) (first | (go_at_call 29; refine (CM _).out.mono ?_; rintro r w1 ⟨rfl, rfl⟩) | (go_at_call 38; refine CC.out.mono ?_; rintro r w1 ⟨rfl, ha⟩; have hx1 := HX.out.below (below_drewN (Below.refl _ w) 1); have hx2 : LAt w1 x b L := hx1.keep (by obtain ⟨_, _, _, hf⟩ := ha; exact hf.block x hx1.lt HD.out); have d2 := hx2.c2; have d3 := hx2.c3; have d4 := hx2.c4))
    all_goals
      have HA := Lib.hid ha
      have HX2 := Lib.hid hx2
      clear ha hx1 hx2
      go_wp2_with fail
      refine (end_any x b L 0 w1 HX2.out).mono ?_
      rintro r w2 ⟨rfl, hl, hf⟩
      have HL := Lib.hid hl
      have HF := Lib.hid hf
      clear hl hf
      go_wp2
      go_ret
      exact ⟨rfl, AftL.of (HA.out.behind (Fr.of_below (below_drewN (Below.refl _ w) 1))) hlt HD.out HL.out HF.out⟩
  · rw [Lk.step_miss ho hg]
    rw [decide_eq_false (show ¬ ((0 : Int) = 0 ∧ M.get L.a = 0) from fun e => hg e.2)] at CC
    replace CC := Lib.hid CC
    clear hg
    by_cases hm : L.n + 1 = L.m
    · rw [show L.miss = ⟨L.t, L.a, L.m, L.n + 1, true, 11⟩ by unfold Lk.miss; rw [if_pos hm, decide_eq_true hm]]
      have HB := Lib.hid (decide_eq_true hm)
      clear ho hz hm
      go_enter Try.func27, Try.ntmps27
      go_wp2_with fail
      go_region_held3 (fun w' => w'.cell? ⟨x, 2, none⟩ = some (.pointer (some ⟨b, 0, none⟩)) ∧ w'.cell? ⟨x, 3, none⟩ = some (.int .i64 L.t) ∧ w'.cell? ⟨x, 4, none⟩ = some (.int .i64 L.a)) (first | exact ⟨c2, c3, c4⟩ | with_reducible exact ⟨d2, d3, d4⟩) (first | (go_at_call 29; refine (CM _).out.mono ?_; rintro r w1 ⟨rfl, rfl⟩) | (go_at_call 38; refine CC.out.mono ?_; rintro r w1 ⟨rfl, ha⟩; have hx1 := HX.out.below (below_drewN (Below.refl _ w) 1); have hx2 : LAt w1 x b L := hx1.keep (by obtain ⟨_, _, _, hf⟩ := ha; exact hf.block x hx1.lt HD.out); have d2 := hx2.c2; have d3 := hx2.c3; have d4 := hx2.c4))
      all_goals
        have HA := Lib.hid ha
        have HX2 := Lib.hid hx2
        clear ha hx1 hx2
        have CF := fail_any x b L w1 HX2.out n0 (by omega)
        rw [HB.out] at CF
        replace CF := Lib.hid CF
        go_wp2_with fail
        refine CF.out.mono ?_
        rintro r w2 ⟨rfl, hl, hf⟩
        have HL := Lib.hid hl
        have HF := Lib.hid hf
        clear hl hf
        go_wp2_with fail
        refine (end_any x b ⟨L.t, L.a, L.m, L.n + 1, L.ov, L.e⟩ 11 w2 HL.out).mono ?_
        rintro r w3 ⟨rfl, hl, hf⟩
        have HL2 := Lib.hid hl
        have HF2 := Lib.hid (HF.out.trans hf fun _ _ e => e)
        clear hl hf
        go_wp2
        go_ret
        exact ⟨rfl, AftL.of (HA.out.behind (Fr.of_below (below_drewN (Below.refl _ w) 1))) hlt HD.out HL2.out HF2.out⟩
    · rw [show L.miss = ⟨L.t, L.a, L.m, L.n + 1, false, 0⟩ by unfold Lk.miss; rw [if_neg hm, decide_eq_false hm]]
      have HB := Lib.hid (decide_eq_false hm)
      have HZ := Lib.hid hz
      have HO := Lib.hid ho
      clear ho hz hm
      go_enter Try.func27, Try.ntmps27
      go_wp2_with fail
      go_region_held3 (fun w' => w'.cell? ⟨x, 2, none⟩ = some (.pointer (some ⟨b, 0, none⟩)) ∧ w'.cell? ⟨x, 3, none⟩ = some (.int .i64 L.t) ∧ w'.cell? ⟨x, 4, none⟩ = some (.int .i64 L.a)) (first | exact ⟨c2, c3, c4⟩ | with_reducible exact ⟨d2, d3, d4⟩) (first | (go_at_call 29; refine (CM _).out.mono ?_; rintro r w1 ⟨rfl, rfl⟩) | (go_at_call 38; refine CC.out.mono ?_; rintro r w1 ⟨rfl, ha⟩; have hx1 := HX.out.below (below_drewN (Below.refl _ w) 1); have hx2 : LAt w1 x b L := hx1.keep (by obtain ⟨_, _, _, hf⟩ := ha; exact hf.block x hx1.lt HD.out); have d2 := hx2.c2; have d3 := hx2.c3; have d4 := hx2.c4))
      all_goals
        have HA := Lib.hid ha
        have HX2 := Lib.hid hx2
        clear ha hx1 hx2
        have CF := fail_any x b L w1 HX2.out n0 (by omega)
        rw [HB.out] at CF
        replace CF := Lib.hid CF
        go_wp2_with fail
        refine CF.out.mono ?_
        rintro r w2 ⟨rfl, hl, hf⟩
        have HL := Lib.hid hl
        have HF := Lib.hid hf
        clear hl hf
        go_wp2
        go_ret
        have h2 := HL.out
        rw [HO.out, HZ.out] at h2
        exact ⟨rfl, AftL.of (HA.out.behind (Fr.of_below (below_drewN (Below.refl _ w) 1))) hlt HD.out h2 HF.out⟩
/-! ### Step -/
def SlP (ty : TypeId) (X : Lk → World → Prop) (b p : Nat) (q : Option Nat) (x : Nat) (M : Wm) (L : Lk) (w : World) (e : Ending) (w' : World) : Prop :=
  e = .returned (.tuple #[.int .u8 L.pc, .bool (L.fin M)]) ∧ AftL ty (X (L.step M)) b p q x (L.mem M) w w'
theorem step_nil (w : World) : Calls Try.prog 16 #[.pointer none] w fun e w' => e = .returned (.tuple #[.int .u8 0, .bool false]) ∧ w' = w := by
  have C := Lib.hid (under_nil w)
  go_enter Try.func16, Try.ntmps16
  go_wp2_with fail
  refine C.out.mono ?_
  rintro r w1 ⟨rfl, rfl⟩
  go_wp2
  go_ret2
  exact ⟨rfl, rfl⟩
set_option maxRecDepth 100000 in
set_option maxHeartbeats 1000000 in
theorem step_any (x b p : Nat) (q : Option Nat) (M : Wm) (L : Lk) (N : Int) (w : World) (h : At 73 w b p q M) (hx : LAt w x b L) (hd : ¬ Of b p q x) (ok : L.Ok M.W.length N) (hN : N ≤ 1000000) (hL : M.L.length ≤ 50000) :
    Calls Try.prog 16 #[.pointer (some ⟨x, 0, none⟩)] w (SlP 73 (fun L w' => LAt w' x b L) b p q x M L w) := by
  have CU := under_any x b L w hx
  have c5 := hx.c5
  unfold SlP
  by_cases ho : L.ov = true
  · rw [show L.pc = 0 from if_pos ho, show L.fin M = false by unfold Lk.fin; rw [ho]; rfl, Lk.mem_over ho, Lk.step_over ho]
    rw [ho] at CU
    replace CU := Lib.hid CU
    have HA := Lib.hid (AftL.same (x := x) (X := fun w' => LAt w' x b L) h hx (Below.refl _ w))
    clear h hx c5 ho hd
    go_enter Try.func16, Try.ntmps16
    go_wp2_with fail
    refine CU.out.mono ?_
    rintro r w1 ⟨rfl, rfl⟩
    go_wp2
    go_ret2
    exact ⟨rfl, HA.out⟩
  · replace ho : L.ov = false := by simpa using ho
    have CT := Lib.hid (try_any x b p q M L N w h hx hd ok ho hN hL)
    rw [show L.pc = 2 from if_neg (by rw [ho]; simp), show L.fin M = (L.step M).ov by unfold Lk.fin; rw [ho]; rfl]
    rw [ho] at CU c5
    unfold stV at c5
    rw [if_neg (by simp)] at c5
    replace CU := Lib.hid CU
    clear h hx ho hd
    go_enter Try.func16, Try.ntmps16
    go_wp2_with fail
    refine CU.out.mono ?_
    rintro r w1 ⟨rfl, rfl⟩
    go_wp2_with fail
    refine CT.out.mono ?_
    rintro r w2 ⟨rfl, ha⟩
    have HA := Lib.hid ha
    clear ha
    go_wp2
    go_ret2
    exact ⟨rfl, HA.out⟩
/-! ### Unlock -/
def UnP (ty : TypeId) (b p : Nat) (q : Option Nat) (M : Wm) (t a : Int) (w : World) (e : Ending) (w' : World) : Prop := e = .returned (.int .i64 (unE M t a)) ∧ After ty b p q (unM M t a) w w'
theorem unlock_nil (t a : Int) (w : World) : Calls Try.prog 11 #[.pointer none, .int .i64 t, .int .i64 a] w fun e w' => e = .returned (.int .i64 1) ∧ w' = w := by
  have C := Lib.hid (check_nil t a 0 w)
  go_enter Try.func11, Try.ntmps11
  go_wp2_with fail
  refine C.out.mono ?_
  rintro r w1 ⟨rfl, rfl⟩
  go_wp2
  go_ret
  exact ⟨rfl, rfl⟩
set_option maxRecDepth 100000 in
set_option maxHeartbeats 1000000 in
theorem unlock_any (b p : Nat) (q : Option Nat) (M : Wm) (t a : Int) (w : World) (h : At 73 w b p q M) (hL : M.L.length ≤ 50000) : Calls Try.prog 11 #[.pointer (some ⟨b, 0, none⟩), .int .i64 t, .int .i64 a] w (UnP 73 b p q M t a w) := by
  have C := check_any b p q M t a 0 w h
  rw [lkE_m0] at C
  unfold UnP unM
  by_cases he : M.err t a = 0
  · obtain ⟨t0, t1, a0, a1⟩ := Wm.err_zero he
    have CP := peek_any b p q M a w h
    unfold peekT at CP
    rw [if_pos ⟨a0, a1⟩, decide_eq_true (show 0 ≤ a ∧ a < M.W.length from ⟨a0, a1⟩)] at CP
    have CS := store_any b p q M t a 0 w h hL (by omega) (by omega)
    unfold StP at CS
    have CM := fun W => Lib.hid (mark_any t W t0 t1)
    rw [he, Wm.after_zero] at CS
    rw [he] at C
    by_cases hg : M.get a = t + 1
    · have hu : unE M t a = 0 := by unfold unE; rw [if_pos he, if_pos hg]
      rw [hu, if_pos rfl]
      have u0 : (M.get a == t + 1) = true := by simp [hg]
      have u1 : decide (M.get a = t + 1) = true := decide_eq_true hg
      replace C := Lib.hid C
      replace CP := Lib.hid CP
      replace CS := Lib.hid CS
      clear h he hg hu a0 a1
      go_enter Try.func11, Try.ntmps11
      go_wp2_with fail
      refine C.out.mono ?_
      rintro r w1 ⟨rfl, rfl⟩
      go_wp2_with fail
      refine CP.out.mono ?_
      rintro r w1 ⟨rfl, rfl⟩
      go_wp2_with fail
      refine (CM _).out.mono ?_
      rintro r w1 ⟨rfl, rfl⟩
      go_wp2_with fail
      refine CS.out.mono ?_
      rintro r w1 ⟨rfl, ha⟩
      have HA := Lib.hid ha
      clear ha
      go_wp2
      go_ret
      exact ⟨rfl, HA.out⟩
    · have hu : unE M t a = 8 := by unfold unE; rw [if_pos he, if_neg hg]
      rw [hu, if_neg (by decide)]
      have u0 : (M.get a == t + 1) = false := by simp [hg]
      have u1 : decide (M.get a = t + 1) = false := decide_eq_false hg
      replace C := Lib.hid C
      replace CP := Lib.hid CP
      have HA := Lib.hid (After.same h (Below.refl _ w))
      clear h he hg hu a0 a1 CS
      go_enter Try.func11, Try.ntmps11
      go_wp2_with fail
      refine C.out.mono ?_
      rintro r w1 ⟨rfl, rfl⟩
      go_wp2_with fail
      refine CP.out.mono ?_
      rintro r w1 ⟨rfl, rfl⟩
      go_wp2_with fail
      refine (CM _).out.mono ?_
      rintro r w1 ⟨rfl, rfl⟩
      go_wp2
      go_ret
      exact ⟨rfl, HA.out⟩
  · have hu : unE M t a = M.err t a := by unfold unE; rw [if_neg he]
    rw [hu, if_neg he]
    have HA := Lib.hid (After.same h (Below.refl _ w))
    have t0 : (M.err t a == 0) = false := beq_eq_false_iff_ne.2 he
    have t1 : (M.err t a != 0) = true := by simp [bne, t0]
    have t2 : decide (M.err t a = 0) = false := decide_eq_false he
    clear h hu he
    generalize M.err t a = y at *
    replace C := Lib.hid C
    go_enter Try.func11, Try.ntmps11
    go_wp2_with fail
    refine C.out.mono ?_
    rintro r w1 ⟨rfl, rfl⟩
    go_wp2
    go_ret
    exact ⟨rfl, HA.out⟩
end Lt
end Go.Proofs.Ytjocbmoelkobaaa
