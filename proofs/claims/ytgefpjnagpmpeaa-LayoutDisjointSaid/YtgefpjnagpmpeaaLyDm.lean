/- Each address leads back to itself: mathematics. -/
import Derived.Test.YtgefpjnagpmpeaaLyQ
import Derived.Test.YtgefpjnagpmpeaaLyP
import Derived.Test.YtgefpjnagpmpeaaLyL
import Derived.Test.YtgefpjnagpmpeaaLyDk
namespace Go.Proofs.Ytgefpjnagpmpeaa
open Go.RowKit Go.Sort
set_option linter.unusedVariables false
set_option linter.unusedSimpArgs false
namespace Ly
theorem adL_skip {q : G} {r : List G} {f : Nat} {k x w : Int} (h : k ≠ q.k) : adL (q :: r) f (k, x, w) = adL r (f + q.n * q.s) (k, x, w) := by
  rw [adL, if_neg (fun c => h c.1)]
theorem adL_hit {q : G} {r : List G} {f i w : Nat} (hi : i < q.n) (hw : w < q.s) : adL (q :: r) f (q.k, ((q.i + i : Nat) : Int), (w : Int)) = some (f + i * q.s + w) := by
  rw [adL, if_pos ⟨rfl, by show (q.i : Int) ≤ ((q.i + i : Nat) : Int); omega, by show ((q.i + i : Nat) : Int) < ((q.i + q.n : Nat) : Int); omega, by show (0 : Int) ≤ (w : Int); omega, by show (w : Int) < (q.s : Int); omega⟩]
  have h1 : (((q.i + i : Nat) : Int) - (q.i : Int)).toNat = i := by omega
  have h2 : ((w : Nat) : Int).toNat = w := by omega
  simp only [h1, h2]
/-- what is at the address a, and how it leads back -/
def Bk9 (g : Ge) (a k x w : Nat) : Prop :=
  (k = 1 ∧ a = x) ∨ (k = 2 ∧ a = pE g + w) ∨ (k = 3 ∧ a = pM g) ∨ (k = 4 ∧ a = pL g + 3 * x + w) ∨ (k = 5 ∧ a = pD g + x) ∨ (k = 6 ∧ a = pP g + x) ∨ (k = 7 ∧ 1 ≤ x ∧ a + 1 = pK g + x) ∨
  (k = 8 ∧ w = 0 ∧ ltO g (-1 - (x : Int)) = some a) ∨ (k = 8 ∧ 0 < w ∧ nxO g (-1 - (x : Int)) ((w : Int) - 1) = some a) ∨
  (k = 9 ∧ w ≤ 4 ∧ wdO g (x : Int) (w : Int) = some a) ∨ (k = 9 ∧ 4 < w ∧ nxO g (x : Int) ((w : Int) - 5) = some a)
theorem back {g : Ge} (ok : g.ok) {a : Nat} (ha : a < pW g) : ∃ k x w : Nat, ofL (gs g) a = ((k : Int), (x : Int), (w : Int)) ∧ k ≤ 9 ∧ x ≤ 1200 ∧ w ≤ 200 ∧ Bk9 g a k x w := by
  have htt := ok.tt
  have hs2 := ok.s2
  have he2 := ok.e2
  have hl2 := ok.l2
  have hd2 := ok.d2
  obtain ⟨q, hq, i, w, hi, hw, e⟩ := ofL_mem (gs g) a (by rw [total_gs]; exact ha)
  have had := ad_in ha e
  unfold ad gs g0 at had
  simp only [List.cons_append, List.nil_append] at had
  rcases gs_mem hq with hm | ⟨t, ht, rfl⟩
  · simp only [g0, List.mem_cons, List.not_mem_nil, or_false] at hm
    rcases hm with rfl | rfl | rfl | rfl | rfl | rfl | rfl | rfl
    all_goals simp only at hi hw
    · rw [adL_hit (q := ⟨1, 0, g.S, 1⟩) hi hw] at had
      refine ⟨1, 0 + i, w, e, by omega, by omega, by omega, Or.inl ⟨rfl, ?_⟩⟩
      have this := Option.some.inj had; (try simp only at this); omega
    · rw [adL_skip (by simp)] at had
      rw [adL_hit (q := ⟨2, 0, 1, g.E⟩) hi hw] at had
      refine ⟨2, 0 + i, w, e, by omega, by omega, by omega, Or.inr (Or.inl ⟨rfl, ?_⟩)⟩
      have this := Option.some.inj had; (try simp only at this); unfold pE
      have : i = 0 := by omega
      subst this; omega
    · rw [adL_skip (by simp), adL_skip (by simp)] at had
      rw [adL_hit (q := ⟨3, 0, 1, 1⟩) (r := _) hi hw] at had
      refine ⟨3, 0 + i, w, e, by omega, by omega, by omega, Or.inr (Or.inr (Or.inl ⟨rfl, ?_⟩))⟩
      have this := Option.some.inj had; (try simp only at this); unfold pM; omega
    · rw [adL_skip (by simp), adL_skip (by simp), adL_skip (by simp)] at had
      rw [adL_hit (q := ⟨4, 0, g.L, 3⟩) (r := _) hi hw] at had
      refine ⟨4, 0 + i, w, e, by omega, by omega, by omega, Or.inr (Or.inr (Or.inr (Or.inl ⟨rfl, ?_⟩)))⟩
      have this := Option.some.inj had; (try simp only at this); unfold pL; omega
    · rw [adL_skip (by simp), adL_skip (by simp), adL_skip (by simp), adL_skip (by simp)] at had
      rw [adL_hit (q := ⟨5, 0, g.L, 1⟩) (r := _) hi hw] at had
      refine ⟨5, 0 + i, w, e, by omega, by omega, by omega, Or.inr (Or.inr (Or.inr (Or.inr (Or.inl ⟨rfl, ?_⟩))))⟩
      have this := Option.some.inj had; (try simp only at this); unfold pD; omega
    · rw [adL_skip (by simp), adL_skip (by simp), adL_skip (by simp), adL_skip (by simp), adL_skip (by simp)] at had
      rw [adL_hit (q := ⟨6, 0, 6, 1⟩) (r := _) hi hw] at had
      refine ⟨6, 0 + i, w, e, by omega, by omega, by omega, Or.inr (Or.inr (Or.inr (Or.inr (Or.inr (Or.inl ⟨rfl, ?_⟩)))))⟩
      have this := Option.some.inj had; (try simp only at this); unfold pP; omega
    · rw [adL_skip (by simp), adL_skip (by simp), adL_skip (by simp), adL_skip (by simp), adL_skip (by simp), adL_skip (by simp)] at had
      rw [adL_hit (q := ⟨7, 1, tot g.t 6, 1⟩) (r := _) hi hw] at had
      refine ⟨7, 1 + i, w, e, by omega, by omega, by omega, Or.inr (Or.inr (Or.inr (Or.inr (Or.inr (Or.inr (Or.inl ⟨rfl, by omega, ?_⟩))))))⟩
      have this := Option.some.inj had; (try simp only at this); unfold pK; omega
    · have had2 := ad_in ha e
      simp only at had2
      rcases Nat.eq_zero_or_pos w with rfl | hw0
      · refine ⟨8, 0 + i, 0, e, by omega, by omega, by omega, Or.inr (Or.inr (Or.inr (Or.inr (Or.inr (Or.inr (Or.inr (Or.inl ⟨rfl, rfl, ?_⟩)))))))⟩
        unfold ltO
        rw [if_neg (by omega), if_neg (by omega), show -1 - (-1 - ((0 + i : Nat) : Int)) = ((0 + i : Nat) : Int) by omega]
        exact had2
      · refine ⟨8, 0 + i, w, e, by omega, by omega, by omega, Or.inr (Or.inr (Or.inr (Or.inr (Or.inr (Or.inr (Or.inr (Or.inr (Or.inl ⟨rfl, hw0, ?_⟩))))))))⟩
        unfold nxO
        rw [if_pos (by omega), if_neg (by omega), if_neg (by omega), show -1 - (-1 - ((0 + i : Nat) : Int)) = ((0 + i : Nat) : Int) by omega, show (1 : Int) + ((w : Int) - 1) = (w : Int) by omega]
        exact had2
  · have had2 := ad_in ha e
    simp only [tg] at had2 hi hw e
    have h3 := tot_le g.t ht
    by_cases h4 : w ≤ 4
    · refine ⟨9, 1 + tot g.t t + i, w, e, by omega, by omega, by omega, Or.inr (Or.inr (Or.inr (Or.inr (Or.inr (Or.inr (Or.inr (Or.inr (Or.inr (Or.inl ⟨rfl, h4, ?_⟩)))))))))⟩
      unfold wdO
      rw [if_pos (by omega)]
      exact had2
    · refine ⟨9, 1 + tot g.t t + i, w, e, by omega, by omega, by omega, Or.inr (Or.inr (Or.inr (Or.inr (Or.inr (Or.inr (Or.inr (Or.inr (Or.inr (Or.inr ⟨rfl, by omega, ?_⟩)))))))))⟩
      unfold nxO
      rw [if_pos (by omega), if_pos (by omega), show (5 : Int) + ((w : Int) - 5) = (w : Int) by omega]
      exact had2
theorem ofZ_nat (g : Ge) (a : Nat) : ofZ g (a : Int) = ofL (gs g) a := by unfold ofZ; rw [if_pos (by omega), Int.toNat_natCast]
theorem ofZ_end (g : Ge) : ofZ g (pW g : Nat) = (0, 0, 0) := by rw [ofZ_nat]; exact ofL_out _ _ (by rw [total_gs]; exact Nat.le_refl _)
theorem resp_form (o : Option Nat) : ∃ p q : Int, resp o = .tuple #[.int .i64 p, .int .i64 q] := by cases o <;> exact ⟨_, _, rfl⟩
/-- '==' of two zero places -/
theorem eqP (w : World) : (Op.equalIn 10000 59 (.agg #[.int .u8 0, .int .i64 0, .int .i64 0]) (.agg #[.int .u8 0, .int .i64 0, .int .i64 0])).run Try.prog w = .ok true w := by kernel_rfl
theorem guardP : Try.prog.eqGuardType Try.prog.depth 59 = false := by kernel_rfl
end Ly
end Go.Proofs.Ytgefpjnagpmpeaa
