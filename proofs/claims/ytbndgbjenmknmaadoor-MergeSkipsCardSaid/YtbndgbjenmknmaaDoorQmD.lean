/- Pop of package merge: contract of the translated code. Conditions: the bounds of each number's kind. -/
import Derived.Test.YtbndgbjenmknmaaDoorQmC
import Derived.StillTailTactics
namespace Go.Proofs.YtbndgbjenmknmaaDoor
open Go.RowKit Go.Sort
set_option linter.unusedVariables false
set_option linter.unusedSimpArgs false
namespace Hq
open Om (bel_alloc below_drewN Pr)
open Dm (or_nat and_nat wrap_pow p64 in_val)
open Mg (popT)
theorem Qu.other {w : World} {b q n c o : Nat} {a : Nat → Cd} {x : Value} (h : Qu w b q n c a) (ho : o ≠ 2) : Qu (w.setCell ⟨b, o, none⟩ x) b q n c a :=
  ⟨(World.cell?_setCell_other _ _ _ _ (fun e => ho (by cases e; rfl))).trans h.hd, by rw [World.frozen?_setCell]; exact h.fz, h.shp.set _ _, h.cs.keep (Below.heap_setCell w ⟨b, o, none⟩ _ q h.ne), h.nc, h.ne, h.n64⟩
theorem drop_lacks {M : Mg.Mg} {v u : Nat} (h1 : M.ls v = true) (h2 : M.en v = false) : (M.drop v).lacks u = (M.lacks u || decide (u = v)) := by
  unfold Mg.Mg.lacks Mg.Mg.drop
  by_cases e : u = v
  · subst e; simp [h1, h2]
  · simp [e]
theorem or_bit {X p u : Nat} : (X ||| 2 ^ p).testBit u = (X.testBit u || decide (u = p)) := by
  rw [Nat.testBit_or, Nat.testBit_two_pow]
  congr 1
  exact decide_eq_decide.2 ⟨fun h => h.symm, fun h => h.symm⟩
theorem or_lt {X p : Nat} (hX : X < 18446744073709551616) (hp : p < 64) : X ||| 2 ^ p < 18446744073709551616 := Nat.or_lt_two_pow (n := 64) hX (p64 hp)
theorem Cor.drop {a a' : Nat → Cd} {n : Nat} {M : Mg.Mg} (h : Cor a (n + 1) M) (hpm : Pm n (Hp.sw a 0 n) a') : Cor a' n (M.drop (a 0).l) := by
  have hm := fun x => (hpm.mem x).trans (pop_mem h.once x)
  refine ⟨fun k hk => ?_, fun u hu hh => ?_, hpm.once lst (pop_once lst h.once)⟩
  · obtain ⟨⟨j, hj, e⟩, hne⟩ := (hm (a' k)).1 ⟨k, hk, rfl⟩
    obtain ⟨q1, q2, q3⟩ := h.has j hj
    rw [e] at q1 q2 q3
    exact ⟨q1, by simp [Mg.Mg.drop, hne, q2], q3⟩
  · by_cases e : u = (a 0).l
    · subst e; simp [Mg.Mg.drop] at hh
    · simp only [Mg.Mg.drop, if_neg e] at hh
      obtain ⟨k, hk, ek⟩ := h.all u hu hh
      obtain ⟨j, hj, ej⟩ := (hm (a k)).2 ⟨⟨k, hk, rfl⟩, by rw [ek]; exact e⟩
      exact ⟨j, hj, by rw [ej, ek]⟩
theorem Cor.popped {a : Nat → Cd} {n v : Nat} {M : Mg.Mg} (h : Cor a n (M.drop v)) : Cor a n (M.popped v) := by
  unfold Mg.Mg.popped
  split <;> exact ⟨h.has, h.all, h.once⟩
theorem Cor.least {a : Nat → Cd} {n : Nat} {M : Mg.Mg} (h : Cor a (n + 1) M) (ho : Hp.Ok Hq.key a (n + 1)) : M.least (a 0).l ∧ M.p (a 0).l = ((a 0).k, (a 0).v) := by
  obtain ⟨q1, q2, q3⟩ := h.has 0 (by omega)
  refine ⟨⟨q1, q2, fun u hu hh => ?_⟩, q3⟩
  obtain ⟨k, hk, e⟩ := h.all u hu hh
  have hr := ho.root Hq.key k hk
  have h3 := (h.has k hk).2.2
  rw [e] at h3
  rw [q3, h3]
  exact hr
theorem miss_zero {X : Nat} {M : Mg.Mg} (hX : X < 18446744073709551616) (h : ∀ v, v < 64 → X.testBit v = M.lacks v) : X = 0 ↔ M.missN 64 = [] := by
  constructor
  · rintro rfl
    unfold Mg.Mg.missN
    rw [List.filter_eq_nil_iff.2 fun v hv => by rw [← h v (by simpa using hv)]; simp]; rfl
  · intro e
    refine Nat.eq_of_testBit_eq fun i => ?_
    rw [Nat.zero_testBit]
    by_cases hi : i < 64
    · rw [h i hi]
      have : (List.range 64).filter M.lacks = [] := by
        unfold Mg.Mg.missN at e
        exact List.map_eq_nil_iff.1 e
      have := List.filter_eq_nil_iff.1 this i (List.mem_range.2 hi)
      simpa using this
    · exact Nat.testBit_lt_two_pow (Nat.lt_of_lt_of_le hX (Nat.pow_le_pow_right (n := 2) (by omega) (by omega) : 2 ^ 64 ≤ 2 ^ i))
theorem pop_nil (w : World) :
    Calls Tryd.prog 18 #[.pointer none] w fun e w' => e = .returned (popT (0, 0) 0 false 1) ∧ Below w.heap.size w w' := by
  go_enter Tryd.func18, Tryd.ntmps18
  go_wp2
  exact bodyPost_ret (v := popT (0, 0) 0 false 1) (by simp [popT, results, Tryd.results18, go_sem]) rfl ⟨rfl, bel_alloc (Below.refl _ _) _⟩
def PopP (b : Nat) (Q : Option Nat) (M : Mg.Mg) (e : Ending) (w w' : World) : Prop := ∃ r N, e = .returned r ∧ M.pops r N ∧ After b Q N w w'
/-- what Pop leaves, its two writes told apart by the greatest key -/
theorem McAt.popped {w w4 : World} {b n q c S X : Nat} {v : Value} {a a' : Nat → Cd} {M : Mg.Mg} (h : McAt w b (n + 1) v a S X M) (hi : M.Inv) (hq : Qu w4 b q n c a') (ho : Hp.Ok key a' n) (hpm : Pm n (Hp.sw a 0 n) a') (hch : Ch b (Two b q) w w4) :
    ((a 0).k = 18446744073709551615 → McAt ((w4.setCell ⟨b, 1, none⟩ (.int .u64 ((X ||| 2 ^ (a 0).l : Nat) : Int))).setCell ⟨b, 4, none⟩ (.bool true)) b n (.slice (some ⟨q, 0, none⟩) n c) a' S (X ||| 2 ^ (a 0).l) (M.popped (a 0).l)) ∧
    ((a 0).k ≠ 18446744073709551615 → McAt ((w4.setCell ⟨b, 1, none⟩ (.int .u64 ((X ||| 2 ^ (a 0).l : Nat) : Int))).setCell ⟨b, 3, none⟩ (.int .u64 ((a 0).k + 1))) b n (.slice (some ⟨q, 0, none⟩) n c) a' S (X ||| 2 ^ (a 0).l) (M.popped (a 0).l)) := by
  obtain ⟨hl, hp⟩ := h.cor.least h.ok
  have hin := hi.hl (a 0).l hl.1 hl.2.1
  have of := hch.off h.lt
  have ne : ∀ {W : World} {o o' : Nat} {x : Value}, o ≠ o' → (W.setCell ⟨b, o', none⟩ x).cell? ⟨b, o, none⟩ = W.cell? ⟨b, o, none⟩ := fun ho => World.cell?_setCell_other _ _ _ _ (fun e => ho (by cases e; rfl))
  have fz : ∀ {W : World} {o' : Nat} {x : Value} {a : Addr}, (W.setCell ⟨b, o', none⟩ x).frozen? a = W.frozen? a := by intro W o' x a; rw [World.frozen?_setCell]
  have lk : ∀ u, u < 64 → (X ||| 2 ^ (a 0).l).testBit u = (M.popped (a 0).l).lacks u := fun u hu => by
    rw [or_bit, h.lk u hu, ← drop_lacks hin.1 hin.2]
    unfold Mg.Mg.popped; split <;> rfl
  have ls : ∀ u, u < 64 → S.testBit u = (M.popped (a 0).l).ls u := fun u hu => by
    rw [h.ls u hu]; unfold Mg.Mg.popped; split <;> rfl
  have hp1 : (M.p (a 0).l).1 = (a 0).k := by rw [hp]
  refine ⟨fun hk => ?_, fun hk => ?_⟩
  · have e : M.popped (a 0).l = { M.drop (a 0).l with fu := true } := by unfold Mg.Mg.popped; rw [hp1, if_pos hk]
    have q2 := (hq.other (o := 1) (x := .int .u64 ((X ||| 2 ^ (a 0).l : Nat) : Int)) (by omega)).other (o := 4) (x := .bool true) (by omega)
    exact ⟨(ne (by omega)).trans ((ne (by omega)).trans ((of 0 (by omega)).1.trans h.c0)), (ne (by omega)).trans (World.cell?_setCell_same _ _ _ ((of 1 (by omega)).1.trans h.c1)), (ne (by omega)).trans ((ne (by omega)).trans (((of 3 (by omega)).1.trans h.c3).trans (by rw [e]; rfl))),
      (World.cell?_setCell_same (u := .bool M.fu) _ _ _ ((ne (by omega)).trans ((of 4 (by omega)).1.trans h.c4))).trans (by rw [e]),
      fz.trans (fz.trans ((of 1 (by omega)).2.trans h.f1)), fz.trans (fz.trans ((of 3 (by omega)).2.trans h.f3)), fz.trans (fz.trans ((of 4 (by omega)).2.trans h.f4)), q2.q0, ho, (h.cor.drop hpm).popped, h.s64, or_lt h.x64 hl.1, ls, lk⟩
  · have e : M.popped (a 0).l = { M.drop (a 0).l with fl := (a 0).k + 1 } := by unfold Mg.Mg.popped; rw [hp1, if_neg hk]
    have q2 := (hq.other (o := 1) (x := .int .u64 ((X ||| 2 ^ (a 0).l : Nat) : Int)) (by omega)).other (o := 3) (x := .int .u64 ((a 0).k + 1)) (by omega)
    exact ⟨(ne (by omega)).trans ((ne (by omega)).trans ((of 0 (by omega)).1.trans h.c0)), (ne (by omega)).trans (World.cell?_setCell_same _ _ _ ((of 1 (by omega)).1.trans h.c1)),
      (World.cell?_setCell_same (u := .int .u64 M.fl) _ _ _ ((ne (by omega)).trans ((of 3 (by omega)).1.trans h.c3))).trans (by rw [e]),
      (ne (by omega)).trans ((ne (by omega)).trans (((of 4 (by omega)).1.trans h.c4).trans (by rw [e]; rfl))),
      fz.trans (fz.trans ((of 1 (by omega)).2.trans h.f1)), fz.trans (fz.trans ((of 3 (by omega)).2.trans h.f3)), fz.trans (fz.trans ((of 4 (by omega)).2.trans h.f4)), q2.q0, ho, (h.cor.drop hpm).popped, h.s64, or_lt h.x64 hl.1, ls, lk⟩
/-- the result's box, then -/
theorem far2 {w : World} {b g o1 o2 k : Nat} {x1 x2 r : Value} (hg : b < g) (h : w.cell? ⟨g, k, none⟩ = some r) : ((w.setCell ⟨b, o1, none⟩ x1).setCell ⟨b, o2, none⟩ x2).cell? ⟨g, k, none⟩ = some r := Mg.far hg (Mg.far hg h)
theorem pop_same {b n S X : Nat} {v x y : Value} {a : Nat → Cd} {M : Mg.Mg} {w W W1 : World} (h : McAt W1 b n v a S X M) (HB : Below w.heap.size w W) (hsz : W.heap.size = w.heap.size + 1) (b1 : Below W.heap.size W W1) (hbl : b < w.heap.size)
    (hql : ∀ k, v.ownBlock = some k → 0 ≤ k ∧ k < w.heap.size) : After b v.ownBlock M w ((W1.setCell ⟨w.heap.size, 0, none⟩ x).setCell ⟨w.heap.size, 1, none⟩ y) := by
  refine ⟨v.ownBlock, ⟨n, v, a, S, X, rfl, h.keep ?_ fun q hq => ?_⟩, fun q h => .inl h, ?_⟩
  · exact (Below.heap_setCell _ _ _ _ (by show b ≠ w.heap.size; omega)).trans (Below.heap_setCell _ _ _ _ (by show b ≠ w.heap.size; omega))
  · have := (hql q hq).2
    exact (Below.heap_setCell _ _ _ _ (by show q ≠ w.heap.size; omega)).trans (Below.heap_setCell _ _ _ _ (by show q ≠ w.heap.size; omega))
  · exact ((Fr.of_below (HB.trans (b1.mono (by omega)))).set ⟨w.heap.size, 0, none⟩ _ (.inr (Nat.le_refl _))).set ⟨w.heap.size, 1, none⟩ _ (.inr (Nat.le_refl _))
theorem pop_end {b m q c S Y : Nat} {a a' : Nat → Cd} {M : Mg.Mg} {w W W2 : World} (hM : M.missN 64 = []) (hL : M.least (a 0).l) (hp : M.p (a 0).l = ((a 0).k, (a 0).v)) (HB : Below w.heap.size w W) (hsz : W.heap.size = w.heap.size + 1)
    (HF : McAt W2 b m (.slice (some ⟨q, 0, none⟩) m c) a' S Y (M.popped (a 0).l)) (HC : Fr (Two b q) W W2) (hbl : b < w.heap.size) (hql : q < w.heap.size) :
    PopP b (Value.slice (some ⟨q, 0, none⟩) (m + 1) c).ownBlock M (.returned (popT ((a 0).k, (a 0).v) (a 0).l true 0)) w (((W2.setCell ⟨w.heap.size, 0, none⟩ (.int .u64 (a 0).k)).setCell ⟨w.heap.size, 1, none⟩ (.int .u64 (a 0).v)).drew) := by
  refine ⟨_, M.popped (a 0).l, rfl, .inr (.inr ⟨hM, (a 0).l, hL, by rw [hp], rfl⟩), some q, ⟨m, .slice (some ⟨q, 0, none⟩) m c, a', S, Y, rfl, ?_⟩, fun q' h => .inl h, ?_⟩
  · refine HF.keep ?_ fun q' hq' => ?_
    · exact (Below.heap_setCell _ _ _ _ (by show b ≠ w.heap.size; omega)).trans (Below.heap_setCell _ _ _ _ (by show b ≠ w.heap.size; omega))
    · have : q = q' := by injection hq'
      subst this
      exact (Below.heap_setCell _ _ _ _ (by show q ≠ w.heap.size; omega)).trans (Below.heap_setCell _ _ _ _ (by show q ≠ w.heap.size; omega))
  · have h1 : Fr (Of b (some q)) w W2 := (Fr.of_below HB).trans HC fun k hk e => by
      rcases e with rfl | rfl
      · exact .inl rfl
      · exact .inr rfl
    exact ((h1.set ⟨w.heap.size, 0, none⟩ _ (.inr (Nat.le_refl _))).set ⟨w.heap.size, 1, none⟩ _ (.inr (Nat.le_refl _))).drewN 1
set_option maxRecDepth 100000 in
set_option maxHeartbeats 2000000 in
theorem pop_any (b : Nat) (Q : Option Nat) (M : Mg.Mg) (w : World) (h : MAt w b Q M) (hi : M.Inv) (hu : M.U) :
    Calls Tryd.prog 18 #[.pointer (some ⟨b, 0, none⟩)] w fun e w' => PopP b Q M e w w' := by
  obtain ⟨n, v, a, S, X, rfl, h⟩ := h
  obtain ⟨W, hW⟩ : ∃ W, W = (w.alloc (.cells #[.int .u64 0, .int .u64 0] 39)) := ⟨_, rfl⟩
  have B0 : Below w.heap.size w W := by rw [hW]; exact bel_alloc (Below.refl _ _) _
  have hsz : W.heap.size = w.heap.size + 1 := by rw [hW]; simp
  have k0 : W.cell? ⟨w.heap.size, 0, none⟩ = some (.int .u64 0) := by rw [hW]; simp
  have k1 : W.cell? ⟨w.heap.size, 1, none⟩ = some (.int .u64 0) := by rw [hW]; simp
  have z0 : W.frozen? ⟨w.heap.size, 0, none⟩ = false := by rw [hW]; simp
  have z1 : W.frozen? ⟨w.heap.size, 1, none⟩ = false := by rw [hW]; simp
  have hbl := h.lt
  have hql := h.q.row.lt
  have h := h.below B0
  have HB := Lib.hid B0; clear B0
  have HWW := Lib.hid hW; clear hW
  have c1' := h.c1
  rw [HWW.out] at c1'
  have c1 := h.c1
  by_cases hmi : X = 0
  · have hM := (miss_zero h.x64 h.lk).1 hmi
    subst hmi
    obtain ⟨A, c, hv, hrd, hnc, hz⟩ := h.q.rd
    rcases Nat.eq_zero_or_pos n with hn | hn
    · subst hn
      subst hv
      have CT := Lib.hid (take_no b c A W h.q.hd)
      have HNO := Lib.hid (show ∀ u, u < 64 → M.hs u = false from fun u hu => by
        cases e : M.hs u with
        | false => rfl
        | true => obtain ⟨k, hk, _⟩ := h.cor.all u hu e; omega)
      have HH := Lib.hid h
      have HM := Lib.hid hM
      clear h hrd hM
      unfold iq takeT agg at CT
      go_enter Tryd.func18, Tryd.ntmps18
      go_wp2_with fail
      rw [← HWW.out]
      refine CT.out.mono ?_
      rintro r w1 ⟨rfl, b1⟩
      have hs1 := b1.size
      obtain ⟨W1, hW1⟩ : ∃ W1, W1 = w1.alloc (.cells #[.int .u64 0, .int .u64 0, .int .i64 0] 73) := ⟨_, rfl⟩
      have b1 : Below W.heap.size W W1 := by rw [hW1]; exact bel_alloc b1 _
      have k0 := (b1.cell (p := ⟨w.heap.size, 0, none⟩) (by show w.heap.size < _; omega)).trans k0
      have k1 := (b1.cell (p := ⟨w.heap.size, 1, none⟩) (by show w.heap.size < _; omega)).trans k1
      have z0 := (b1.frozen (p := ⟨w.heap.size, 0, none⟩) (by show w.heap.size < _; omega)).trans z0
      have z1 := (b1.frozen (p := ⟨w.heap.size, 1, none⟩) (by show w.heap.size < _; omega)).trans z1
      obtain ⟨r0, r1⟩ := Mg.box2 (x := .int .u64 0) (y := .int .u64 0) k0 k1
      have EN := Lib.hid (pop_same (x := .int .u64 0) (y := .int .u64 0) (HH.out.below b1) HB.out hsz b1 hbl hql)
      have HW1 := Lib.hid hW1
      rw [hW1] at k0 k1 z0 z1
      clear hW1 b1
      go_wp2
      rw [← HW1.out]
      exact bodyPost_ret (v := popT (0, 0) 0 false 0) (by simp [popT, results, Tryd.results18, go_sem, r0, r1]) rfl ⟨_, _, rfl, .inr (.inl ⟨HM.out, HNO.out, rfl, rfl⟩), EN.out⟩
    · rcases h.q.form with ⟨_, hn0⟩ | ⟨q, c', hv', hq⟩
      · omega
      · obtain ⟨hA, hcc⟩ : A = some ⟨q, 0, none⟩ ∧ c = c' := by rw [hv] at hv'; injection hv' with e1 e2 e3; exact ⟨e1, e3⟩
        subst hA hcc
        obtain ⟨m, rfl⟩ : ∃ m, n = m + 1 := ⟨n - 1, by omega⟩
        subst hv
        have CT := Lib.hid (take_yes b q m c a W hq h.ok)
        have HH := Lib.hid h
        clear h hq
        unfold iq takeT agg at CT
        go_enter Tryd.func18, Tryd.ntmps18
        go_wp2_with fail
        rw [← HWW.out]
        refine CT.out.mono ?_
        rintro r w1 ⟨rfl, a', hq1, ho1, hp1, hc1⟩
        have of := hc1.off HH.out.lt
        have d0 := (of 0 (by omega)).1.trans HH.out.c0
        have d1 := (of 1 (by omega)).1.trans HH.out.c1
        have d3 := (of 3 (by omega)).1.trans HH.out.c3
        have d4 := (of 4 (by omega)).1.trans HH.out.c4
        have e1 := (of 1 (by omega)).2.trans HH.out.f1
        have e3 := (of 3 (by omega)).2.trans HH.out.f3
        have e4 := (of 4 (by omega)).2.trans HH.out.f4
        have hs1 := hc1.size
        have k0 := (World.cell?_of_block (a := ⟨w.heap.size, 0, none⟩) (hc1.block w.heap.size (by omega) (fun e => by rcases e with e | e; omega; exact absurd (hql q rfl).2 (by omega)))).trans k0
        have k1 := (World.cell?_of_block (a := ⟨w.heap.size, 1, none⟩) (hc1.block w.heap.size (by omega) (fun e => by rcases e with e | e; omega; exact absurd (hql q rfl).2 (by omega)))).trans k1
        have z0 := (World.frozen?_of_block (a := ⟨w.heap.size, 0, none⟩) (hc1.block w.heap.size (by omega) (fun e => by rcases e with e | e; omega; exact absurd (hql q rfl).2 (by omega)))).trans z0
        have z1 := (World.frozen?_of_block (a := ⟨w.heap.size, 1, none⟩) (hc1.block w.heap.size (by omega) (fun e => by rcases e with e | e; omega; exact absurd (hql q rfl).2 (by omega)))).trans z1
        obtain ⟨W1, hW1⟩ : ∃ W1, W1 = w1.alloc (.cells #[.int .u64 (a 0).k, .int .u64 (a 0).v, .int .i64 (a 0).l] 73) := ⟨_, rfl⟩
        have y0 : W1.cell? ⟨w1.heap.size, 0, none⟩ = some (.int .u64 (a 0).k) := by rw [hW1]; simp
        have y1 : W1.cell? ⟨w1.heap.size, 1, none⟩ = some (.int .u64 (a 0).v) := by rw [hW1]; simp
        have y2 : W1.cell? ⟨w1.heap.size, 2, none⟩ = some (.int .i64 (a 0).l) := by rw [hW1]; simp
        have b1 : Below w1.heap.size w1 W1 := by rw [hW1]; exact bel_alloc (Below.refl _ _) _
        have hbl1 : b < w1.heap.size := by omega
        have d1 := (b1.cell (p := ⟨b, 1, none⟩) hbl1).trans d1
        have d3 := (b1.cell (p := ⟨b, 3, none⟩) hbl1).trans d3
        have d4 := (b1.cell (p := ⟨b, 4, none⟩) hbl1).trans d4
        have e1 := (b1.frozen (p := ⟨b, 1, none⟩) hbl1).trans e1
        have e3 := (b1.frozen (p := ⟨b, 3, none⟩) hbl1).trans e3
        have e4 := (b1.frozen (p := ⟨b, 4, none⟩) hbl1).trans e4
        have k0 := (b1.cell (p := ⟨w.heap.size, 0, none⟩) (by show w.heap.size < _; omega)).trans k0
        have k1 := (b1.cell (p := ⟨w.heap.size, 1, none⟩) (by show w.heap.size < _; omega)).trans k1
        have z0 := (b1.frozen (p := ⟨w.heap.size, 0, none⟩) (by show w.heap.size < _; omega)).trans z0
        have z1 := (b1.frozen (p := ⟨w.heap.size, 1, none⟩) (by show w.heap.size < _; omega)).trans z1
        have HW1 := Lib.hid hW1
        have hq1 := hq1.below b1
        have hc1 := hc1.trans (B' := Two b q) (Ch.of_below b1) fun _ _ h => h
        have HP := (HH.out.popped hi (hq1.drewN 1) ho1 hp1 (hc1.drewN 1))
        have HC := Lib.hid hc1
        have hl := (HH.out.cor.least HH.out.ok)
        have l64 := hl.1.1
        obtain ⟨Y, hY⟩ : ∃ Y : Nat, Y = 0 ||| 2 ^ (a 0).l := ⟨_, rfl⟩
        have hHI : bits .or .u64 (0 : Int) (IntKind.u64.wrap (2 ^ (a 0).l)) = (Y : Int) := by
          rw [hY]; exact (congrArg (bits .or .u64 ((0 : Nat) : Int)) (wrap_pow l64)).trans ((or_nat (by omega) (p64 l64)).trans rfl)
        have l64i : ((a 0).l : Int) < 64 := by omega
        have hku := hu (a 0).l l64
        rw [hl.2] at hku
        rw [← hY] at HP
        have HP := Lib.hid HP
        clear hY
        have HM := Lib.hid hM
        have HL := Lib.hid hl
        clear hW1 hq1 ho1 hp1 hc1 b1 of d0 CT hM hl
        go_wp2
        rw [← HW1.out]
        go_still_tail 10, (by kernel_rfl)
        change wpList _ _ _ _ _ W1.drew
        by_cases hk : (a 0).k = 18446744073709551615
        · skip
          have HF := Lib.hid ((HP.out.1 hk))
          have HK := Lib.hid hk
          clear hk
          have t0 : ((a 0).k == 18446744073709551615) = true := by rw [HK.out]; rfl
          go_wp2
          have k0 := far2 (o1 := 1) (x1 := .int .u64 (Y : Int)) (o2 := 4) (x2 := .bool true) hbl k0
          have k1 := far2 (o1 := 1) (x1 := .int .u64 (Y : Int)) (o2 := 4) (x2 := .bool true) hbl k1
          have y0 := far2 (o1 := 1) (x1 := .int .u64 (Y : Int)) (o2 := 4) (x2 := .bool true) hbl1 y0
          have y1 := far2 (o1 := 1) (x1 := .int .u64 (Y : Int)) (o2 := 4) (x2 := .bool true) hbl1 y1
          have y2 := far2 (o1 := 1) (x1 := .int .u64 (Y : Int)) (o2 := 4) (x2 := .bool true) hbl1 y2
          obtain ⟨W2, hW2⟩ : ∃ W2, W2 = ((W1.setCell ⟨b, 1, none⟩ (.int .u64 (Y : Int))).setCell ⟨b, 4, none⟩ (.bool true)).drew := ⟨_, rfl⟩
          have k0 : W2.cell? ⟨w.heap.size, 0, none⟩ = some (.int .u64 0) := by rw [hW2]; exact k0
          have k1 : W2.cell? ⟨w.heap.size, 1, none⟩ = some (.int .u64 0) := by rw [hW2]; exact k1
          have y0 : W2.cell? ⟨w1.heap.size, 0, none⟩ = some (.int .u64 (a 0).k) := by rw [hW2]; exact y0
          have y1 : W2.cell? ⟨w1.heap.size, 1, none⟩ = some (.int .u64 (a 0).v) := by rw [hW2]; exact y1
          have y2 : W2.cell? ⟨w1.heap.size, 2, none⟩ = some (.int .i64 (a 0).l) := by rw [hW2]; exact y2
          have z0 : W2.frozen? ⟨w.heap.size, 0, none⟩ = false := by
            rw [hW2]
            show ((W1.setCell ⟨b, 1, none⟩ (.int .u64 (Y : Int))).setCell ⟨b, 4, none⟩ (.bool true)).frozen? ⟨w.heap.size, 0, none⟩ = false
            rw [World.frozen?_setCell, World.frozen?_setCell]; exact z0
          have z1 : W2.frozen? ⟨w.heap.size, 1, none⟩ = false := by
            rw [hW2]
            show ((W1.setCell ⟨b, 1, none⟩ (.int .u64 (Y : Int))).setCell ⟨b, 4, none⟩ (.bool true)).frozen? ⟨w.heap.size, 1, none⟩ = false
            rw [World.frozen?_setCell, World.frozen?_setCell]; exact z1
          have HF := Lib.hid (show McAt W2 b m (.slice (some ⟨q, 0, none⟩) m c) a' S Y (M.popped (a 0).l) from by rw [hW2]; exact HF.out.keep rfl fun _ _ => rfl)
          have HC2 := Lib.hid (show Fr (Two b q) W W2 from by rw [hW2]; exact ((HC.out.fr.set ⟨b, 1, none⟩ (.int .u64 (Y : Int)) (.inl (.inl rfl))).set ⟨b, 4, none⟩ (.bool true) (.inl (.inl rfl))).drewN 1)
          rw [← hW2]
          clear hW2 HP HC d1 d3 d4 e1 e3 e4
          obtain ⟨r0, r1⟩ := Mg.box2 (x := .int .u64 (a 0).k) (y := .int .u64 (a 0).v) k0 k1
          go_region
          all_goals
            go_wp2
            exact bodyPost_ret (v := popT ((a 0).k, (a 0).v) (a 0).l true 0) (by simp [popT, results, Tryd.results18, go_sem, r0, r1]) rfl (pop_end HM.out HL.out.1 HL.out.2 HB.out hsz HF.out HC2.out hbl (hql q rfl).2)
        · skip
          have HF := Lib.hid ((HP.out.2 hk))
          have HK := Lib.hid hk
          clear hk
          have t0 : ((a 0).k == 18446744073709551615) = false := by exact beq_eq_false_iff_ne.2 HK.out
          have t3 : IntKind.u64.wrap ((a 0).k + 1) = (a 0).k + 1 := IntWalk.u64_in _ (by have := HK.out; omega)
          go_wp2
          have k0 := far2 (o1 := 1) (x1 := .int .u64 (Y : Int)) (o2 := 3) (x2 := .int .u64 ((a 0).k + 1)) hbl k0
          have k1 := far2 (o1 := 1) (x1 := .int .u64 (Y : Int)) (o2 := 3) (x2 := .int .u64 ((a 0).k + 1)) hbl k1
          have y0 := far2 (o1 := 1) (x1 := .int .u64 (Y : Int)) (o2 := 3) (x2 := .int .u64 ((a 0).k + 1)) hbl1 y0
          have y1 := far2 (o1 := 1) (x1 := .int .u64 (Y : Int)) (o2 := 3) (x2 := .int .u64 ((a 0).k + 1)) hbl1 y1
          have y2 := far2 (o1 := 1) (x1 := .int .u64 (Y : Int)) (o2 := 3) (x2 := .int .u64 ((a 0).k + 1)) hbl1 y2
          obtain ⟨W2, hW2⟩ : ∃ W2, W2 = ((W1.setCell ⟨b, 1, none⟩ (.int .u64 (Y : Int))).setCell ⟨b, 3, none⟩ (.int .u64 ((a 0).k + 1))).drew := ⟨_, rfl⟩
          have k0 : W2.cell? ⟨w.heap.size, 0, none⟩ = some (.int .u64 0) := by rw [hW2]; exact k0
          have k1 : W2.cell? ⟨w.heap.size, 1, none⟩ = some (.int .u64 0) := by rw [hW2]; exact k1
          have y0 : W2.cell? ⟨w1.heap.size, 0, none⟩ = some (.int .u64 (a 0).k) := by rw [hW2]; exact y0
          have y1 : W2.cell? ⟨w1.heap.size, 1, none⟩ = some (.int .u64 (a 0).v) := by rw [hW2]; exact y1
          have y2 : W2.cell? ⟨w1.heap.size, 2, none⟩ = some (.int .i64 (a 0).l) := by rw [hW2]; exact y2
          have z0 : W2.frozen? ⟨w.heap.size, 0, none⟩ = false := by
            rw [hW2]
            show ((W1.setCell ⟨b, 1, none⟩ (.int .u64 (Y : Int))).setCell ⟨b, 3, none⟩ (.int .u64 ((a 0).k + 1))).frozen? ⟨w.heap.size, 0, none⟩ = false
            rw [World.frozen?_setCell, World.frozen?_setCell]; exact z0
          have z1 : W2.frozen? ⟨w.heap.size, 1, none⟩ = false := by
            rw [hW2]
            show ((W1.setCell ⟨b, 1, none⟩ (.int .u64 (Y : Int))).setCell ⟨b, 3, none⟩ (.int .u64 ((a 0).k + 1))).frozen? ⟨w.heap.size, 1, none⟩ = false
            rw [World.frozen?_setCell, World.frozen?_setCell]; exact z1
          have HF := Lib.hid (show McAt W2 b m (.slice (some ⟨q, 0, none⟩) m c) a' S Y (M.popped (a 0).l) from by rw [hW2]; exact HF.out.keep rfl fun _ _ => rfl)
          have HC2 := Lib.hid (show Fr (Two b q) W W2 from by rw [hW2]; exact ((HC.out.fr.set ⟨b, 1, none⟩ (.int .u64 (Y : Int)) (.inl (.inl rfl))).set ⟨b, 3, none⟩ (.int .u64 ((a 0).k + 1)) (.inl (.inl rfl))).drewN 1)
          rw [← hW2]
          clear hW2 HP HC d1 d3 d4 e1 e3 e4
          obtain ⟨r0, r1⟩ := Mg.box2 (x := .int .u64 (a 0).k) (y := .int .u64 (a 0).v) k0 k1
          go_region
          all_goals
            go_wp2
            exact bodyPost_ret (v := popT ((a 0).k, (a 0).v) (a 0).l true 0) (by simp [popT, results, Tryd.results18, go_sem, r0, r1]) rfl (pop_end HM.out HL.out.1 HL.out.2 HB.out hsz HF.out HC2.out hbl (hql q rfl).2)
  · have hM := fun e => hmi ((miss_zero h.x64 h.lk).2 e)
    have t0 : ((X : Int) != 0) = true := by simp; omega
    have t1 : ((X : Int) == 0) = false := by simp; omega
    have HH := Lib.hid h
    have HM := Lib.hid hM
    clear h hM
    go_enter Tryd.func18, Tryd.ntmps18
    go_wp2
    exact bodyPost_ret (v := popT (0, 0) 0 false 8) (by simp [popT, results, Tryd.results18, go_sem]) rfl ⟨_, _, rfl, .inl ⟨HM.out, rfl, rfl⟩, by rw [← HWW.out]; exact ⟨v.ownBlock, ⟨n, v, a, S, X, rfl, HH.out⟩, fun q h => .inl h, Fr.of_below HB.out⟩⟩
end Hq
end Go.Proofs.YtbndgbjenmknmaaDoor
