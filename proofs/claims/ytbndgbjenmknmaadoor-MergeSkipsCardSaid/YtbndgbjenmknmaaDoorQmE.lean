/- Skip of package merge: contract of the translated code. Conditions: the bounds of each number's kind. -/
import Derived.Test.YtbndgbjenmknmaaDoorQmD
namespace Go.Proofs.YtbndgbjenmknmaaDoor
open Go.RowKit Go.Sort
set_option linter.unusedVariables false
set_option linter.unusedSimpArgs false
namespace Hq
open Om (bel_alloc below_drewN Pr)
open Dm (or_nat and_nat wrap_pow p64 in_val)
theorem skip_nil (k : Int) (w : World) :
    Calls Tryd.prog 21 #[.pointer none, .int .u64 k] w fun e w' => e = .returned (.tuple #[.int .i64 0, .int .i64 1]) ∧ w = w' := by
  go_enter Tryd.func21, Tryd.ntmps21
  go_wp2
  go_ret2
  exact ⟨rfl, rfl⟩
theorem Cor.skip {a a' : Nat → Cd} {n n' D : Nat} {M : Mg.Mg} {K : Int} (h : Cor a n M) (hd : Drp K a n a' n' D) (hk : ∀ x, Hp.Mem a' n' x → K ≤ x.k) : Cor a' n' (M.skipped K) ∧ ∀ u, u < 64 → D.testBit u = (M.hs u && decide ((M.p u).1 < K)) := by
  have pk : ∀ x, Hp.Mem a n x → x.l < 64 ∧ M.hs x.l = true ∧ M.p x.l = (x.k, x.v) := fun x ⟨k, hk, e⟩ => by rw [← e]; exact h.has k hk
  refine ⟨⟨fun k hk' => ?_, fun u hu hh => ?_, hd.once⟩, fun u hu => ?_⟩
  · obtain ⟨q1, q2, q3⟩ := pk _ (hd.sub (a' k) ⟨k, hk', rfl⟩)
    refine ⟨q1, ?_, q3⟩
    have := hk (a' k) ⟨k, hk', rfl⟩
    simp only [Mg.Mg.skipped, q3]
    rw [if_neg (fun e => by omega)]; exact q2
  · simp only [Mg.Mg.skipped] at hh
    split at hh
    · cases hh
    · rename_i hc
      obtain ⟨k, hk', e⟩ := h.all u hu hh
      rcases hd.all (a k) ⟨k, hk', rfl⟩ with ⟨j, hj, e2⟩ | ⟨h2, _⟩
      · exact ⟨j, hj, by rw [e2, e]⟩
      · have := (h.has k hk').2.2
        rw [e] at this
        exact absurd ⟨hh, by rw [this]; exact h2⟩ hc
  · cases hb : D.testBit u with
    | true =>
      obtain ⟨x, hx, h1, h2⟩ := hd.out u hb
      obtain ⟨q1, q2, q3⟩ := pk x hx
      subst h2
      rw [q2, q3, decide_eq_true h1]; rfl
    | false =>
      cases hh : M.hs u with
      | false => rfl
      | true =>
        obtain ⟨k, hk', e⟩ := h.all u hu hh
        obtain ⟨q1, q2, q3⟩ := h.has k hk'
        rw [e] at q3
        rw [q3]
        rcases hd.all (a k) ⟨k, hk', rfl⟩ with hm | ⟨_, h3⟩
        · have := hk _ hm
          rw [decide_eq_false (by omega)]; rfl
        · rw [e, hb] at h3; cases h3
theorem skip_lacks {M : Mg.Mg} {K : Int} {u : Nat} (hi : M.Inv) (hu : u < 64) : (M.skipped K).lacks u = (M.lacks u || (M.hs u && decide ((M.p u).1 < K))) := by
  unfold Mg.Mg.lacks Mg.Mg.skipped
  cases hh : M.hs u with
  | false => simp [hh]
  | true =>
    have := hi.hl u hu hh
    by_cases hk : (M.p u).1 < K
    · simp [hk, this.1, this.2]
    · simp [hk, hh]
theorem ones_skN {M : Mg.Mg} {K : Int} {D : Nat} (h : ∀ u, u < 64 → D.testBit u = (M.hs u && decide ((M.p u).1 < K))) : Pc.ones D = M.skN K 64 := by
  unfold Pc.ones Mg.Mg.skN
  congr 1
  exact List.filter_congr fun v hv => h v (by simpa using hv)
def SkP (b : Nat) (Q : Option Nat) (M : Mg.Mg) (K : Int) (e : Ending) (w w' : World) : Prop := e = .returned (.tuple #[.int .i64 (M.skN K 64 : Nat), .int .i64 0]) ∧ After b Q (M.skipped K) w w'
/-- the floor is written -/
theorem McAt.floor {w : World} {b n S X : Nat} {v : Value} {a : Nat → Cd} {M : Mg.Mg} (h : McAt w b n v a S X M) (F : Int) : McAt (w.setCell ⟨b, 3, none⟩ (.int .u64 F)) b n v a S X { M with fl := F } := by
  have ne : ∀ {o : Nat}, o ≠ 3 → (w.setCell ⟨b, 3, none⟩ (.int .u64 F)).cell? ⟨b, o, none⟩ = w.cell? ⟨b, o, none⟩ := fun ho => World.cell?_setCell_other _ _ _ _ (fun e => ho (by cases e; rfl))
  have fz : ∀ {a : Addr}, (w.setCell ⟨b, 3, none⟩ (.int .u64 F)).frozen? a = w.frozen? a := by intro a; rw [World.frozen?_setCell]
  refine ⟨(ne (by omega)).trans h.c0, (ne (by omega)).trans h.c1, World.cell?_setCell_same _ _ _ h.c3, (ne (by omega)).trans h.c4, fz.trans h.f1, fz.trans h.f3, fz.trans h.f4, ?_, h.ok, ⟨h.cor.has, h.cor.all, h.cor.once⟩, h.s64, h.x64, h.ls, h.lk⟩
  rcases h.q.form with ⟨rfl, rfl⟩ | ⟨q, c, rfl, hq⟩
  · exact ⟨(ne (by omega)).trans h.q.hd, fz.trans h.q.fz, World.ownsRow_nil _ _ _ _, h.q.ne, h.q.n64⟩
  · exact (hq.other (by omega)).q0
/-- what Skip leaves -/
theorem McAt.skipped {w0 w4 : World} {b n n' q c S X D : Nat} {v : Value} {a a' : Nat → Cd} {M : Mg.Mg} {K F : Int} (h : McAt w0 b n v a S X { M with fl := F }) (hF : F = if M.fl < K then K else M.fl) (hi : M.Inv) (hq : Qu w4 b q n' c a') (ho : Hp.Ok key a' n')
    (hd : Drp K a n a' n' D) (hk : ∀ x, Hp.Mem a' n' x → K ≤ x.k) (hch : Ch b (Two b q) w0 w4) : McAt (w4.setCell ⟨b, 1, none⟩ (.int .u64 ((X ||| D : Nat) : Int))) b n' (.slice (some ⟨q, 0, none⟩) n' c) a' S (X ||| D) (M.skipped K) ∧ Pc.ones D = M.skN K 64 := by
  have hcor : Cor a n M := ⟨h.cor.has, h.cor.all, h.cor.once⟩
  obtain ⟨k1, k2⟩ := hcor.skip hd hk
  have ne : ∀ {o : Nat}, o ≠ 1 → (w4.setCell ⟨b, 1, none⟩ (.int .u64 ((X ||| D : Nat) : Int))).cell? ⟨b, o, none⟩ = w4.cell? ⟨b, o, none⟩ := fun ho => World.cell?_setCell_other _ _ _ _ (fun e => ho (by cases e; rfl))
  have fz : ∀ {a : Addr}, (w4.setCell ⟨b, 1, none⟩ (.int .u64 ((X ||| D : Nat) : Int))).frozen? a = w4.frozen? a := by intro a; rw [World.frozen?_setCell]
  have of := hch.off h.lt
  refine ⟨⟨(ne (by omega)).trans ((of 0 (by omega)).1.trans h.c0), World.cell?_setCell_same _ _ _ ((of 1 (by omega)).1.trans h.c1), (ne (by omega)).trans (((of 3 (by omega)).1.trans h.c3).trans (by rw [hF]; rfl)), (ne (by omega)).trans ((of 4 (by omega)).1.trans h.c4),
    fz.trans ((of 1 (by omega)).2.trans h.f1), fz.trans ((of 3 (by omega)).2.trans h.f3), fz.trans ((of 4 (by omega)).2.trans h.f4), (hq.other (by omega)).q0, ho, k1, h.s64, Nat.or_lt_two_pow (n := 64) h.x64 hd.lt, h.ls, fun u hu => ?_⟩, ones_skN k2⟩
  rw [Nat.testBit_or, k2 u hu, skip_lacks hi hu]
  exact congrArg (· || _) (h.lk u hu)
set_option maxRecDepth 100000 in
set_option maxHeartbeats 2000000 in
theorem skip_step (b q n c : Nat) (a : Nat → Cd) (S X : Nat) (M : Mg.Mg) (K F : Int) (w : World) (h : McAt w b n (.slice (some ⟨q, 0, none⟩) n c) a S X M) (hq : Qu w b q n c a) (hi : M.Inv) (hF : F = if M.fl < K then K else M.fl) :
    Calls Tryd.prog 21 #[.pointer (some ⟨b, 0, none⟩), .int .u64 K] w fun e w' => SkP b (some q) M K e w w' := by
  have c3 := h.c3
  have f3 := h.f3
  have CD := Lib.hid (drop_any b q n c a K (w.setCell ⟨b, 3, none⟩ (.int .u64 F)) (hq.other (by omega)) h.ok (fun k hk => (h.cor.has k hk).1) h.cor.once)
  have HF := Lib.hid (h.floor F)
  have HI := Lib.hid hF
  have CO := fun D W (hD : D < 18446744073709551616) => Lib.hid (ones_any D W hD)
  have CC : Fr (Of b (some q)) w (w.setCell ⟨b, 3, none⟩ (.int .u64 F)) := (Fr.refl (Of b (some q)) w).set ⟨b, 3, none⟩ _ (.inl (.inl rfl))
  have CC := Lib.hid CC
  unfold iq at CD
  by_cases hlt : M.fl < K
  · have t0 : decide (M.fl < K) = true := decide_eq_true hlt
    rw [if_pos hlt] at hF
    have hF := hF.symm
    subst hF
    clear h
    go_enter Tryd.func21, Tryd.ntmps21
    go_wp2_with fail
    refine CD.out.mono ?_
    rintro r w1 ⟨n', a', D, rfl, hn', hq1, ho1, hd1, hk1, hc1⟩
    obtain ⟨e1, e2⟩ := HF.out.skipped HI.out hi hq1 ho1 hd1 hk1 hc1
    have of := hc1.off HF.out.lt
    have d1 := (of 1 (by omega)).1.trans HF.out.c1
    have g1 := (of 1 (by omega)).2.trans HF.out.f1
    have HO : bits .or .u64 (X : Int) (D : Int) = ((X ||| D : Nat) : Int) := or_nat HF.out.x64 hd1.lt
    have CO := CO D (w1.setCell ⟨b, 1, none⟩ (.int .u64 ((X ||| D : Nat) : Int))) hd1.lt
    rw [e2] at CO
    generalize X ||| D = Y at *
    have E1 := Lib.hid e1
    have HC := Lib.hid (CC.out.trans hc1.fr fun k hk e => by rcases e with rfl | rfl; exact .inl rfl; exact .inr rfl)
    clear e1 e2 hq1 ho1 hd1 hk1 hc1 of CD HI
    go_wp2_with fail
    refine CO.out.mono ?_
    rintro r w2 ⟨rfl, rfl⟩
    go_wp2
    go_ret2
    exact ⟨rfl, some q, ⟨n', _, a', S, Y, rfl, E1.out⟩, fun q' h => .inl h, HC.out.set _ _ (.inl (.inl rfl))⟩
  · have t0 : decide (M.fl < K) = false := decide_eq_false hlt
    have t1 : K ≤ M.fl := by omega
    rw [if_neg hlt] at hF
    have hF := hF.symm
    subst hF
    clear h
    go_enter Tryd.func21, Tryd.ntmps21
    go_wp2_with fail
    refine CD.out.mono ?_
    rintro r w1 ⟨n', a', D, rfl, hn', hq1, ho1, hd1, hk1, hc1⟩
    obtain ⟨e1, e2⟩ := HF.out.skipped HI.out hi hq1 ho1 hd1 hk1 hc1
    have of := hc1.off HF.out.lt
    have d1 := (of 1 (by omega)).1.trans HF.out.c1
    have g1 := (of 1 (by omega)).2.trans HF.out.f1
    have HO : bits .or .u64 (X : Int) (D : Int) = ((X ||| D : Nat) : Int) := or_nat HF.out.x64 hd1.lt
    have CO := CO D (w1.setCell ⟨b, 1, none⟩ (.int .u64 ((X ||| D : Nat) : Int))) hd1.lt
    rw [e2] at CO
    generalize X ||| D = Y at *
    have E1 := Lib.hid e1
    have HC := Lib.hid (CC.out.trans hc1.fr fun k hk e => by rcases e with rfl | rfl; exact .inl rfl; exact .inr rfl)
    clear e1 e2 hq1 ho1 hd1 hk1 hc1 of CD HI
    go_wp2_with fail
    refine CO.out.mono ?_
    rintro r w2 ⟨rfl, rfl⟩
    go_wp2
    go_ret2
    exact ⟨rfl, some q, ⟨n', _, a', S, Y, rfl, E1.out⟩, fun q' h => .inl h, HC.out.set _ _ (.inl (.inl rfl))⟩
set_option maxRecDepth 100000 in
set_option maxHeartbeats 2000000 in
theorem skip_none (b c : Nat) (A : Option Addr) (Q : Option Nat) (a : Nat → Cd) (S X : Nat) (M : Mg.Mg) (K F : Int) (w : World) (h : McAt w b 0 (.slice A 0 c) a S X M) (hv : (Value.slice A 0 c).ownBlock = Q) (hi : M.Inv) (hF : F = if M.fl < K then K else M.fl) :
    Calls Tryd.prog 21 #[.pointer (some ⟨b, 0, none⟩), .int .u64 K] w fun e w' => SkP b Q M K e w w' := by
  have c3 := h.c3
  have f3 := h.f3
  have CD := Lib.hid (drop_nil b c A K (w.setCell ⟨b, 3, none⟩ (.int .u64 F)) (h.floor F).q.hd)
  have HF := Lib.hid (h.floor F)
  have HI := Lib.hid hF
  have CO := fun D W (hD : D < 18446744073709551616) => Lib.hid (ones_any D W hD)
  have CC : Fr (Of b Q) w (w.setCell ⟨b, 3, none⟩ (.int .u64 F)) := (Fr.refl (Of b Q) w).set ⟨b, 3, none⟩ _ (.inl (.inl rfl))
  have CC := Lib.hid CC
  unfold iq at CD
  by_cases hlt : M.fl < K
  · have t0 : decide (M.fl < K) = true := decide_eq_true hlt
    rw [if_pos hlt] at hF
    have hF := hF.symm
    subst hF
    have HX : bits .or .u64 (X : Int) 0 = (X : Int) := (or_nat h.x64 (by omega : 0 < 18446744073709551616)).trans (by rw [Nat.or_zero])
    have NK : Pc.ones 0 = M.skN K 64 := ones_skN (D := 0) fun u hu => by
      rw [Nat.zero_testBit]
      cases e : M.hs u with
      | false => rfl
      | true => obtain ⟨k, hk, _⟩ := h.cor.all u hu e; omega
    have LK := Lib.hid (show ∀ u, u < 64 → (M.skipped K).lacks u = M.lacks u from fun u hu => by
        rw [skip_lacks hi hu]
        cases e : M.hs u with
        | false => simp
        | true => obtain ⟨k, hk, _⟩ := h.cor.all u hu e; omega)
    have EN := Lib.hid NK
    have H0 := Lib.hid h
    have CO := fun W => CO 0 W (by omega)
    clear h NK
    go_enter Tryd.func21, Tryd.ntmps21
    go_wp2_with fail
    refine CD.out.mono ?_
    rintro r w1 ⟨rfl, b1⟩
    have h1 := HF.out.below b1
    have d1 := h1.c1
    have g1 := h1.f1
    have E1 := Lib.hid (h1.miss (Y := X) (N := M.skipped K) h1.x64 (fun _ _ => rfl) (fun u hu => (h1.lk u hu).trans (LK.out u hu).symm) ⟨fun k hk => absurd hk (Nat.not_lt_zero _), (fun u hu hh => by
      simp only [Mg.Mg.skipped] at hh
      split at hh
      · cases hh
      · obtain ⟨k, hk, _⟩ := h1.cor.all u hu hh; omega), h1.cor.once⟩ HI.out.symm rfl)
    have HC := Lib.hid (CC.out.trans (Fr.of_below (B := Of b Q) b1) fun _ _ h => h)
    clear h1
    go_wp2_with fail
    refine (CO _).out.mono ?_
    rintro r w2 ⟨rfl, rfl⟩
    go_wp2
    go_ret2
    refine ⟨congrArg (fun z : Nat => Ending.returned (.tuple #[.int .i64 (z : Int), .int .i64 0])) EN.out, Q, ⟨0, _, a, S, X, hv, E1.out⟩, fun q' h => .inl h, HC.out.set _ _ (.inl (.inl rfl))⟩
  · have t0 : decide (M.fl < K) = false := decide_eq_false hlt
    have t1 : K ≤ M.fl := by omega
    rw [if_neg hlt] at hF
    have hF := hF.symm
    subst hF
    have HX : bits .or .u64 (X : Int) 0 = (X : Int) := (or_nat h.x64 (by omega : 0 < 18446744073709551616)).trans (by rw [Nat.or_zero])
    have NK : Pc.ones 0 = M.skN K 64 := ones_skN (D := 0) fun u hu => by
      rw [Nat.zero_testBit]
      cases e : M.hs u with
      | false => rfl
      | true => obtain ⟨k, hk, _⟩ := h.cor.all u hu e; omega
    have LK := Lib.hid (show ∀ u, u < 64 → (M.skipped K).lacks u = M.lacks u from fun u hu => by
        rw [skip_lacks hi hu]
        cases e : M.hs u with
        | false => simp
        | true => obtain ⟨k, hk, _⟩ := h.cor.all u hu e; omega)
    have EN := Lib.hid NK
    have H0 := Lib.hid h
    have CO := fun W => CO 0 W (by omega)
    clear h NK
    go_enter Tryd.func21, Tryd.ntmps21
    go_wp2_with fail
    refine CD.out.mono ?_
    rintro r w1 ⟨rfl, b1⟩
    have h1 := HF.out.below b1
    have d1 := h1.c1
    have g1 := h1.f1
    have E1 := Lib.hid (h1.miss (Y := X) (N := M.skipped K) h1.x64 (fun _ _ => rfl) (fun u hu => (h1.lk u hu).trans (LK.out u hu).symm) ⟨fun k hk => absurd hk (Nat.not_lt_zero _), (fun u hu hh => by
      simp only [Mg.Mg.skipped] at hh
      split at hh
      · cases hh
      · obtain ⟨k, hk, _⟩ := h1.cor.all u hu hh; omega), h1.cor.once⟩ HI.out.symm rfl)
    have HC := Lib.hid (CC.out.trans (Fr.of_below (B := Of b Q) b1) fun _ _ h => h)
    clear h1
    go_wp2_with fail
    refine (CO _).out.mono ?_
    rintro r w2 ⟨rfl, rfl⟩
    go_wp2
    go_ret2
    refine ⟨congrArg (fun z : Nat => Ending.returned (.tuple #[.int .i64 (z : Int), .int .i64 0])) EN.out, Q, ⟨0, _, a, S, X, hv, E1.out⟩, fun q' h => .inl h, HC.out.set _ _ (.inl (.inl rfl))⟩
theorem skip_any (b : Nat) (Q : Option Nat) (M : Mg.Mg) (K : Int) (w : World) (h : MAt w b Q M) (hi : M.Inv) :
    Calls Tryd.prog 21 #[.pointer (some ⟨b, 0, none⟩), .int .u64 K] w fun e w' => SkP b Q M K e w w' := by
  obtain ⟨n, v, a, S, X, rfl, h⟩ := h
  obtain ⟨A, c, hv, hrd, hnc, hz⟩ := h.q.rd
  rcases Nat.eq_zero_or_pos n with hn | hn
  · subst hn
    subst hv
    exact skip_none b c A _ a S X M K _ w h rfl hi rfl
  · rcases h.q.form with ⟨_, hn0⟩ | ⟨q, c', hv', hq⟩
    · omega
    · subst hv'
      exact skip_step b q n c' a S X M K _ w h hq hi rfl
end Hq
end Go.Proofs.YtbndgbjenmknmaaDoor
