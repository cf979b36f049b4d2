/- New, Missing and Offer of package merge: contracts of the translated code. Conditions: the bounds of each number's kind; the library's table (Tz). -/
import Derived.Test.YtbndgbjenmknmaaDoorQmB
import Derived.StillTailTactics
namespace Go.Proofs.YtbndgbjenmknmaaDoor
open Go.RowKit Go.Sort
set_option linter.unusedVariables false
set_option linter.unusedSimpArgs false
namespace Hq
open Om (bel_alloc below_drewN Pr)
open Dm (or_nat and_nat wrap_pow p64 in_val membersP_any memL flatI lst_mem memL_filter)
theorem new_any (S : Nat) (w : World) (hS : S < 18446744073709551616) :
    Calls Tryd.prog 9 #[.int .u64 (S : Nat)] w fun e w' => e = .returned (.pointer (some ⟨w.heap.size, 0, none⟩)) ∧ MAt w' w.heap.size none (Mg.Mg.new fun v => S.testBit v) ∧ Below w.heap.size w w' := by
  have HN : MAt (w.alloc (.cells #[.int .u64 (S : Nat), .int .u64 (S : Nat), .slice none 0 0, .int .u64 0, .bool false] 65)) w.heap.size none (Mg.Mg.new fun v => S.testBit v) :=
    ⟨0, .slice none 0 0, fun _ => ⟨0, 0, 0⟩, S, S, rfl, by simp, by simp, by simp; rfl, by simp; rfl, by simp, by simp, by simp, ⟨by simp, by simp, World.ownsRow_nil _ _ _ _, (fun e => by cases e), by omega⟩, fun k _ h => absurd h (Nat.not_lt_zero _),
      ⟨fun k h => absurd h (Nat.not_lt_zero _), fun v _ h => (by cases h), fun i j h => absurd h (Nat.not_lt_zero _)⟩, hS, hS, fun v _ => rfl, fun v _ => by simp [Mg.Mg.lacks, Mg.Mg.new]⟩
  have HN := Lib.hid HN
  go_enter Tryd.func9, Tryd.ntmps9
  go_wp2
  go_ret
  exact ⟨rfl, HN.out, bel_alloc (Below.refl _ _) _⟩
theorem missing_nil (w : World) :
    Calls Tryd.prog 12 #[.pointer none] w fun e w' => e = .returned (.slice none 0 0) ∧ w = w' := by
  go_enter Tryd.func12, Tryd.ntmps12
  go_wp2
  go_ret
  exact ⟨rfl, rfl⟩
theorem memL_miss {X : Nat} {M : Mg.Mg} (h : ∀ v, v < 64 → X.testBit v = M.lacks v) : memL X 64 = M.missN 64 := by
  rw [memL_filter, Mg.Mg.missN]
  congr 1
  exact List.filter_congr fun v hv => h v (by simpa using hv)
def MiP (l : List Int) (e : Ending) (w w' : World) : Prop := (∃ v, e = .returned v ∧ w'.ownsRow w.heap.size 3 1 v l.length (flatI l)) ∧ Below w.heap.size w w'
theorem missing_any (b : Nat) (Q : Option Nat) (M : Mg.Mg) (w : World) (h : MAt w b Q M) (hT : Dm.Tz w) :
    Calls Tryd.prog 12 #[.pointer (some ⟨b, 0, none⟩)] w fun e w' => MiP (M.missN 64) e w w' := by
  obtain ⟨n, v, a, S, X, rfl, h⟩ := h
  have c1 := h.c1
  have C := membersP_any X h.x64 w hT (Nat.lt_of_le_of_lt (Nat.zero_le _) h.lt)
  rw [memL_miss h.lk] at C
  have C := Lib.hid C
  go_enter Tryd.func12, Tryd.ntmps12
  go_wp2_with fail
  refine C.out.mono ?_
  rintro r w1 ⟨⟨v, rfl, ow⟩, b1⟩
  have OW := Lib.hid ow
  clear ow
  go_wp2
  go_ret
  exact ⟨⟨v, rfl, OW.out⟩, b1⟩
theorem offer_nil (l : Int) (x : Pr) (w : World) :
    Calls Tryd.prog 19 #[.pointer none, .int .i64 l, .agg #[.int .u64 x.1, .int .u64 x.2]] w fun e w' => e = .returned (.int .i64 1) ∧ Below w.heap.size w w' := by
  have C := fun W => Lib.hid (lacking_nil l W)
  have B0 : Below w.heap.size w (w.alloc (.cells #[.int .u64 x.1, .int .u64 x.2] 39)) := bel_alloc (Below.refl _ _) _
  go_enter Tryd.func19, Tryd.ntmps19
  go_wp2_with fail
  refine (C _).out.mono ?_
  rintro r w1 ⟨rfl, rfl⟩
  go_wp2
  go_ret
  exact ⟨rfl, B0⟩
theorem pig : ∀ (m n : Nat) (f : Nat → Nat), (∀ k, k < n → f k < m) → (∀ i j, i < n → j < n → f i = f j → i = j) → n ≤ m
  | 0, n, f, h, _ => by
    rcases Nat.eq_zero_or_pos n with rfl | h0
    · exact Nat.le_refl _
    · exact absurd (h 0 h0) (Nat.not_lt_zero _)
  | m + 1, 0, f, _, _ => Nat.zero_le _
  | m + 1, n + 1, f, h, hi => by
    have := pig m n (fun k => if f k = m then f n else f k) (fun k hk => by
      show (if f k = m then f n else f k) < m
      by_cases e : f k = m
      · rw [if_pos e]
        have h1 := h n (by omega)
        have h2 : f n ≠ m := fun e2 => by have := hi k n (by omega) (by omega) (by rw [e, e2]); omega
        omega
      · rw [if_neg e]
        have h1 := h k (by omega)
        omega) (fun i j hi' hj' e => by
      have e : (if f i = m then f n else f i) = (if f j = m then f n else f j) := e
      by_cases e1 : f i = m
      · by_cases e2 : f j = m
        · exact hi i j (by omega) (by omega) (by rw [e1, e2])
        · rw [if_pos e1, if_neg e2] at e
          have := hi n j (by omega) (by omega) e
          omega
      · by_cases e2 : f j = m
        · rw [if_neg e1, if_pos e2] at e
          have := hi i n (by omega) (by omega) e
          omega
        · rw [if_neg e1, if_neg e2] at e
          exact hi i j (by omega) (by omega) e)
    omega
theorem once_upd {a : Nat → Cd} {n : Nat} {y : Cd} (h : Hp.Once lst a n) (hy : ∀ k, k < n → (a k).l ≠ y.l) : Hp.Once lst (fun k => if k = n then y else a k) (n + 1) := fun i j hi hj e => by
  have e : lst (if i = n then y else a i) = lst (if j = n then y else a j) := e
  unfold lst at e
  by_cases e1 : i = n
  · by_cases e2 : j = n
    · omega
    · rw [if_pos e1, if_neg e2] at e
      exact absurd (by omega) (hy j (by omega))
  · by_cases e2 : j = n
    · rw [if_neg e1, if_pos e2] at e
      exact absurd (by omega) (hy i (by omega))
    · rw [if_neg e1, if_neg e2] at e
      exact h i j (by omega) (by omega) e
/-- one place is left for a list that has no candidate -/
theorem Cor.room {a : Nat → Cd} {n p : Nat} {M : Mg.Mg} (h : Cor a n M) (hp : p < 64) (h2 : M.hs p = false) : n < 64 ∧ ∀ k, k < n → (a k).l ≠ p := by
  have hne : ∀ k, k < n → (a k).l ≠ p := fun k hk e => by
    have := (h.has k hk).2.1
    rw [e, h2] at this; cases this
  refine ⟨?_, hne⟩
  have := pig 64 (n + 1) (fun k => (if k = n then (⟨0, 0, p⟩ : Cd) else a k).l) (fun k hk => by
    show (if k = n then (⟨0, 0, p⟩ : Cd) else a k).l < 64
    by_cases e : k = n
    · rw [if_pos e]; exact hp
    · rw [if_neg e]; exact (h.has k (by omega)).1) (fun i j hi hj e => once_upd (y := ⟨0, 0, p⟩) h.once hne i j hi hj (by unfold lst; exact congrArg Int.ofNat e))
  omega
theorem Cor.put {a a' : Nat → Cd} {n p : Nat} {M : Mg.Mg} {x : Pr} (h : Cor a n M) (hp : p < 64) (h2 : M.hs p = false) (hpm : Pm (n + 1) (fun k => if k = n then ⟨x.1, x.2, p⟩ else a k) a') : Cor a' (n + 1) (M.put p x) := by
  have hne := (h.room hp h2).2
  refine ⟨fun k hk => ?_, fun u hu hh => ?_, hpm.once lst (once_upd h.once hne)⟩
  · obtain ⟨j, hj, e⟩ := (hpm.mem (a' k)).1 ⟨k, hk, rfl⟩
    rw [← e]
    show (if j = n then (⟨x.1, x.2, p⟩ : Cd) else a j).l < 64 ∧ _
    by_cases e1 : j = n
    · simp only [if_pos e1]
      exact ⟨hp, by simp [Mg.Mg.put], by simp [Mg.Mg.put]⟩
    · simp only [if_neg e1]
      have hn := hne j (by omega)
      obtain ⟨q1, q2, q3⟩ := h.has j (by omega)
      exact ⟨q1, by simp [Mg.Mg.put, hn, q2], by simp [Mg.Mg.put, hn, q3]⟩
  · have key : ∃ y, Hp.Mem (fun k => if k = n then (⟨x.1, x.2, p⟩ : Cd) else a k) (n + 1) y ∧ y.l = u := by
      by_cases e : u = p
      · exact ⟨⟨x.1, x.2, p⟩, ⟨n, by omega, if_pos rfl⟩, e.symm⟩
      · simp only [Mg.Mg.put, if_neg e] at hh
        obtain ⟨k, hk, ek⟩ := h.all u hu hh
        exact ⟨a k, ⟨k, by omega, if_neg (by omega)⟩, ek⟩
    obtain ⟨y, hy, ey⟩ := key
    obtain ⟨k, hk, e⟩ := (hpm.mem y).2 hy
    exact ⟨k, hk, by rw [e]; exact ey⟩
theorem put_lacks {M : Mg.Mg} {p u : Nat} {x : Pr} : (M.put p x).lacks u = (M.lacks u && !decide (u = p)) := by
  unfold Mg.Mg.lacks Mg.Mg.put
  by_cases e : u = p <;> simp [e]
theorem McAt.pushed {w w4 : World} {b n p q c S X : Nat} {v : Value} {a a' : Nat → Cd} {M : Mg.Mg} {x : Pr} (h : McAt w b n v a S X M) (hp : p < 64) (h2 : M.hs p = false) (hq : Qu w4 b q (n + 1) c a') (ho : Hp.Ok key a' (n + 1))
    (hpm : Pm (n + 1) (fun k => if k = n then ⟨x.1, x.2, p⟩ else a k) a') (hch : Ch b (Own b v) w w4) : McAt (w4.setCell ⟨b, 1, none⟩ (.int .u64 (clr X p : Nat))) b (n + 1) (.slice (some ⟨q, 0, none⟩) (n + 1) c) a' S (clr X p) (M.put p x) := by
  have ne : ∀ {o : Nat}, o ≠ 1 → (w4.setCell ⟨b, 1, none⟩ (.int .u64 (clr X p : Nat))).cell? ⟨b, o, none⟩ = w4.cell? ⟨b, o, none⟩ := fun ho => World.cell?_setCell_other _ _ _ _ (fun e => ho (by cases e; rfl))
  have fz : ∀ {a : Addr}, (w4.setCell ⟨b, 1, none⟩ (.int .u64 (clr X p : Nat))).frozen? a = w4.frozen? a := by intro a; rw [World.frozen?_setCell]
  have of := hch.off h.lt
  exact ⟨(ne (by omega)).trans ((of 0 (by omega)).1.trans h.c0), World.cell?_setCell_same _ _ _ ((of 1 (by omega)).1.trans h.c1), (ne (by omega)).trans ((of 3 (by omega)).1.trans h.c3), (ne (by omega)).trans ((of 4 (by omega)).1.trans h.c4),
    fz.trans ((of 1 (by omega)).2.trans h.f1), fz.trans ((of 3 (by omega)).2.trans h.f3), fz.trans ((of 4 (by omega)).2.trans h.f4),
    ⟨(ne (by omega)).trans hq.hd, fz.trans hq.fz, shp_own (hq.shp.set _ _) (hq.cs.keep (Below.heap_setCell w4 ⟨b, 1, none⟩ _ q hq.ne)) hq.nc, (fun e => hq.ne (by injection e)), hq.n64⟩,
    ho, h.cor.put hp h2 hpm, h.s64, clr_lt h.x64, h.ls, fun u hu => by rw [clr_bit hp hu, h.lk u hu]; exact put_lacks.symm⟩
theorem RdC.heap {w w' : World} {A : Option Addr} {n : Nat} {a : Nat → Cd} (h : RdC w A n a) (hb : w'.heap = w.heap) : RdC w' A n a := fun k hk => by
  obtain ⟨q, e, c0, c1, c2⟩ := h k hk
  have hb : w'.heap[q]? = w.heap[q]? := by rw [hb]
  exact ⟨q, e, (World.cell?_of_block (a := ⟨q, k * 3, none⟩) hb).trans c0, (World.cell?_of_block (a := ⟨q, k * 3 + 1, none⟩) hb).trans c1, (World.cell?_of_block (a := ⟨q, k * 3 + 2, none⟩) hb).trans c2⟩
theorem Q0.heap {w w' : World} {b n : Nat} {v : Value} {a : Nat → Cd} (h : Q0 w b n v a) (hb : w'.heap = w.heap) : Q0 w' b n v a := h.keep (by rw [hb]) fun q _ => by rw [hb]
/-- an equal key among the candidates -/
theorem Cor.key {a : Nat → Cd} {n : Nat} {M : Mg.Mg} (h : Cor a n M) (K : Int) : M.has K ↔ ∃ k, k < n ∧ K = (a k).k := by
  constructor
  · rintro ⟨u, hu, h1, h2⟩
    obtain ⟨k, hk, e⟩ := h.all u hu h1
    refine ⟨k, hk, ?_⟩
    have := (h.has k hk).2.2
    rw [e] at this
    rw [← h2, this]
  · rintro ⟨k, hk, e⟩
    obtain ⟨q1, q2, q3⟩ := h.has k hk
    exact ⟨(a k).l, q1, q2, by rw [q3, e]⟩
set_option maxRecDepth 100000 in
set_option maxHeartbeats 2000000 in
theorem offer_any (b : Nat) (Q : Option Nat) (M : Mg.Mg) (l : Int) (x : Pr) (w : World) (h : MAt w b Q M) (hi : M.Inv) (l0 : (-9223372036854775808) ≤ l) (l1 : l ≤ 9223372036854775807) :
    Calls Tryd.prog 19 #[.pointer (some ⟨b, 0, none⟩), .int .i64 l, .agg #[.int .u64 x.1, .int .u64 x.2]] w fun e w' => e = .returned (.int .i64 (M.offE l x)) ∧ After b Q (M.after (M.offE l x) (M.put l.toNat x)) w w' := by
  obtain ⟨n, v, a, S, X, rfl, h⟩ := h
  obtain ⟨W, hW⟩ : ∃ W, W = (w.alloc (.cells #[.int .u64 x.1, .int .u64 x.2] 39)) := ⟨_, rfl⟩
  have B0 : Below w.heap.size w W := by rw [hW]; exact bel_alloc (Below.refl _ _) _
  have hsz : W.heap.size = w.heap.size + 1 := by rw [hW]; simp
  have k0 : W.cell? ⟨w.heap.size, 0, none⟩ = some (.int .u64 x.1) := by rw [hW]; simp
  have k1 : W.cell? ⟨w.heap.size, 1, none⟩ = some (.int .u64 x.2) := by rw [hW]; simp
  have hbl := h.lt
  have h := h.below B0
  have HB := Lib.hid B0; clear B0
  have HW := Lib.hid hW; clear hW
  have C := lacking_any b n v a S X M l W h l0 l1
  unfold lkT at C
  by_cases he : M.err l = 0
  · obtain ⟨p, hp, rfl, h1, h2, h3⟩ := Mg.err_zero he
    rw [he] at C
    simp only [if_true, Int.toNat_natCast] at C
    have C := Lib.hid C
    have HH := Lib.hid h
    clear h
    have HV := Lib.hid (clr_val HH.out.x64 hp)
    generalize hz : (2 ^ p : Nat) = z at *
    go_enter Tryd.func19, Tryd.ntmps19
    go_wp2_with fail
    rw [← HW.out]
    refine C.out.mono ?_
    rintro r w1 ⟨rfl, b1⟩
    have k0 := (b1.cell (p := ⟨w.heap.size, 0, none⟩) (by show w.heap.size < _; omega)).trans k0
    have k1 := (b1.cell (p := ⟨w.heap.size, 1, none⟩) (by show w.heap.size < _; omega)).trans k1
    have hs1 : w.heap.size < w1.heap.size := by have := b1.size; omega
    have h := HH.out.below b1
    have b0 := Lib.hid (HB.out.trans (b1.mono (by omega)))
    have c3 := h.c3
    have c4 := h.c4
    clear HH b1 C
    have HH := Lib.hid h
    clear h
    by_cases hlo : M.fu = true ∨ x.1 < M.fl
    · have HE := Lib.hid (Mg.offE_low (x := x) he hlo)
      clear he
      have EN : ∀ d, After b v.ownBlock (M.after 2 (M.put p x)) w (w1.drewN d) := fun d => ⟨v.ownBlock, ⟨n, v, a, S, X, rfl, HH.out.below (below_drewN (Below.refl _ _) d)⟩, fun q hq => .inl hq, (Fr.of_below b0.out).drewN d⟩
      have EN := Lib.hid EN
      by_cases hfu : M.fu = true
      · rw [hfu] at c4
        go_wp2
        go_quiet (fail)
        go_wp2
        go_ret
        exact ⟨by rw [HE.out]; rfl, by rw [HE.out]; exact EN.out _⟩
      · have hfu : M.fu = false := by simpa using hfu
        rw [hfu] at c4
        have t0 : decide (x.1 < M.fl) = true := decide_eq_true (by rcases hlo with h | h; (rw [hfu] at h; cases h); exact h)
        clear hlo
        go_wp2
        go_quiet (fail)
        go_wp2
        go_ret
        exact ⟨by rw [HE.out]; rfl, by rw [HE.out]; exact EN.out _⟩
    · have hfu : M.fu = false := by cases e : M.fu; rfl; exact absurd (.inl e) hlo
      rw [hfu] at c4
      have t0 : decide (x.1 < M.fl) = false := decide_eq_false fun h => hlo (.inr h)
      have EH := Lib.hid (fun h3 => Mg.offE_have (x := x) he hlo h3)
      have EO := Lib.hid (fun h3 => Mg.offE_ok (x := x) he hlo h3)
      clear he hlo
      go_wp2
      go_quiet (fail)
      have b1 := below_drewN b0.out nq
      have h := HH.out.below (below_drewN (Below.refl _ w1) nq)
      clear b0 HH c3 c4
      have k0 : (w1.drewN nq).cell? ⟨w.heap.size, 0, none⟩ = some (.int .u64 x.1) := k0
      have k1 : (w1.drewN nq).cell? ⟨w.heap.size, 1, none⟩ = some (.int .u64 x.2) := k1
      have hs1 : w.heap.size < (w1.drewN nq).heap.size := hs1
      generalize w1.drewN nq = w2 at *
      -- the candidate is laid
      obtain ⟨W2, hW2⟩ : ∃ W2, W2 = w2.alloc (.cells #[.int .u64 x.1, .int .u64 x.2, .int .i64 (p : Nat)] 73) := ⟨_, rfl⟩
      have b2 : Below w2.heap.size w2 W2 := by rw [hW2]; exact bel_alloc (Below.refl _ _) _
      have g0 : W2.cell? ⟨w2.heap.size, 0, none⟩ = some (.int .u64 x.1) := by rw [hW2]; simp
      have g1 : W2.cell? ⟨w2.heap.size, 1, none⟩ = some (.int .u64 x.2) := by rw [hW2]; simp
      have g2 : W2.cell? ⟨w2.heap.size, 2, none⟩ = some (.int .i64 (p : Nat)) := by rw [hW2]; simp
      have hs2 : W2.heap.size = w2.heap.size + 1 := by rw [hW2]; simp
      have h := h.below b2
      have b3 := Lib.hid (b1.trans (b2.mono (by omega)))
      have HW2 := Lib.hid hW2
      clear hW2
      obtain ⟨A, c, rfl, rd, hnc, hz⟩ := h.q.rd
      have hd := h.q.hd
      by_cases hhas : M.has x.1
      · have HE := Lib.hid (EH.out hhas)
        have CK := Lib.hid (contains_yes A n c a ⟨x.1, x.2, p⟩ W2.drew h.q.n64 (rd.heap rfl) ((h.cor.key x.1).1 hhas))
        have HH := Lib.hid h
        clear h rd hhas EH EO
        unfold bnd agg at CK
        go_wp2
        rw [← HW2.out]
        go_still_tail 6, (by kernel_rfl)
        change wpList _ _ _ _ _ W2.drew
        go_wp2_with fail
        refine CK.out.mono ?_
        rintro r w3 ⟨rfl, b4⟩
        have b5 : Below W2.heap.size W2 w3 := (below_drewN (Below.refl _ W2) 1).trans b4
        go_wp2
        go_ret
        exact ⟨by rw [HE.out]; rfl, by rw [HE.out]; exact ⟨_, ⟨n, _, a, S, X, rfl, HH.out.below b5⟩, fun q hq => .inl hq, Fr.of_below (b3.out.trans (b5.mono (by omega)))⟩⟩
      · have HE := Lib.hid (EO.out hhas)
        have CK := Lib.hid (contains_no A n c a ⟨x.1, x.2, p⟩ W2.drew h.q.n64 (rd.heap rfl) (fun k hk e => hhas ((h.cor.key x.1).2 ⟨k, hk, e⟩)))
        have hroom := (h.cor.room hp h2).1
        have HH := Lib.hid h
        clear h rd hhas EH EO
        unfold bnd agg at CK
        go_wp2
        rw [← HW2.out]
        go_still_tail 6, (by kernel_rfl)
        change wpList _ _ _ _ _ W2.drew
        go_wp2_with fail
        refine CK.out.mono ?_
        rintro r w3 ⟨rfl, b4⟩
        have b5 : Below W2.heap.size W2 w3 := (below_drewN (Below.refl _ W2) 1).trans b4
        have h := HH.out.below b5
        have b6 := Lib.hid (b3.out.trans (b5.mono (by omega)))
        have hs3 := b5.size
        have g0 := (b5.cell (p := ⟨w2.heap.size, 0, none⟩) (by show w2.heap.size < _; omega)).trans g0
        have g1 := (b5.cell (p := ⟨w2.heap.size, 1, none⟩) (by show w2.heap.size < _; omega)).trans g1
        have g2 := (b5.cell (p := ⟨w2.heap.size, 2, none⟩) (by show w2.heap.size < _; omega)).trans g2
        have CP := Lib.hid (hpush_any b n (.slice A n c) a ⟨x.1, x.2, p⟩ w3.drew (h.q.heap rfl) hroom h.ok)
        have HH := Lib.hid (h.below (below_drewN (Below.refl _ w3) 1))
        clear h hd b4 b5 CK
        unfold iq agg at CP
        go_wp2
        go_still_tail 6, (by kernel_rfl)
        change wpList _ _ _ _ _ w3.drew
        go_wp2_with fail
        refine CP.out.mono ?_
        rintro r w4 ⟨rfl, q, c', a', hq, ho, hpm, hat, hch⟩
        have of := hch.off HH.out.lt
        have c1 := (of 1 (by omega)).1.trans HH.out.c1
        have f1 := (of 1 (by omega)).2.trans HH.out.f1
        have HF := Lib.hid (HH.out.pushed hp h2 hq ho hpm hch)
        have HA := Lib.hid hat
        have HC := Lib.hid hch
        clear hq ho hpm hat hch of
        go_wp2
        go_ret
        rw [HE.out, HV.out]
        refine ⟨rfl, some q, ⟨n + 1, _, a', S, clr X p, rfl, HF.out⟩, fun q' hq' => ?_, ?_⟩
        · cases hq'
          refine HA.out.imp id fun h => ?_
          have : w3.drew.heap.size = w3.heap.size := rfl
          omega
        · exact ((Fr.of_below b6.out).trans ((Fr.of_below (below_drewN (Below.refl _ w3) 1)).trans HC.out.fr fun _ _ h => h) fun _ _ h => h).set _ _ (.inl (.inl rfl))
  · have t0 : decide (M.err l = 0) = false := decide_eq_false he
    have t1 : (M.err l == 0) = false := beq_eq_false_iff_ne.2 he
    have t2 : (M.err l != 0) = true := by simp [bne, t1]
    rw [if_neg he] at C
    have HO := Lib.hid (Mg.offE_err (x := x) he)
    have HE := Lib.hid (show M.after (M.err l) (M.put l.toNat x) = M from if_neg he)
    have HH := Lib.hid h
    clear h he
    rw [HO.out]
    generalize hy : M.err l = y at *
    have C := Lib.hid C
    have HY := Lib.hid hy
    clear hy
    go_enter Tryd.func19, Tryd.ntmps19
    go_wp2_with fail
    rw [← HW.out]
    refine C.out.mono ?_
    rintro r w1 ⟨rfl, b1⟩
    go_wp2
    go_ret
    exact ⟨rfl, v.ownBlock, by rw [HE.out]; exact ⟨n, v, a, S, X, rfl, HH.out.below b1⟩, fun q hq => .inl hq, Fr.of_below (HB.out.trans (b1.mono (by omega)))⟩
end Hq
end Go.Proofs.YtbndgbjenmknmaaDoor
