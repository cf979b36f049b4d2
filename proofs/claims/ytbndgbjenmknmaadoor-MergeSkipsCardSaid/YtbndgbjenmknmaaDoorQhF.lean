/- drop of package merge: what it drops, as mathematics, and the contract of the translated code. Conditions: those of XQhA; the lists of the candidates are below 64. -/
import Derived.Test.YtbndgbjenmknmaaDoorQhE
import Derived.Test.YtbndgbjenmknmaaDoorDm7
import Derived.Deep.LoopGhost
namespace Go.Proofs.YtbndgbjenmknmaaDoor
open Go.RowKit Go.Sort
set_option linter.unusedVariables false
set_option linter.unusedSimpArgs false
namespace Hq
open Om (bel_alloc below_drewN)
open Dm (or_nat and_nat wrap_pow p64)
def lst (x : Cd) : Int := (x.l : Int)
/-- without the first one -/
theorem pop_mem {a : Nat → Cd} {n : Nat} (h : Hp.Once lst a (n + 1)) (x : Cd) : Hp.Mem (Hp.sw a 0 n) n x ↔ Hp.Mem a (n + 1) x ∧ x.l ≠ (a 0).l := by
  constructor
  · rintro ⟨k, hk, rfl⟩
    by_cases k0 : k = 0
    · subst k0
      rw [Hp.sw_l]
      refine ⟨⟨n, by omega, rfl⟩, fun e => ?_⟩
      have := h n 0 (by omega) (by omega) (by unfold lst; rw [e])
      omega
    · rw [Hp.sw_o a k0 (by omega)]
      refine ⟨⟨k, by omega, rfl⟩, fun e => ?_⟩
      exact k0 (h k 0 (by omega) (by omega) (by unfold lst; rw [e]))
  · rintro ⟨⟨k, hk, rfl⟩, hne⟩
    have k0 : k ≠ 0 := fun e => hne (by rw [e])
    by_cases kn : k = n
    · subst kn
      exact ⟨0, by omega, Hp.sw_l a 0 k⟩
    · exact ⟨k, by omega, Hp.sw_o a k0 kn⟩
theorem pop_once {a : Nat → Cd} {n : Nat} (m : Cd → Int) (h : Hp.Once m a (n + 1)) : Hp.Once m (Hp.sw a 0 n) n := by
  have := Hp.once_sw (i := 0) (j := n) h (by omega) (by omega)
  exact fun i j hi hj e => this i j (by omega) (by omega) e
theorem ok_least {a : Nat → Cd} {n : Nat} {K : Int} (h : Hp.Ok key a n) (hk : n = 0 ∨ K ≤ (a 0).k) : ∀ x, Hp.Mem a n x → K ≤ x.k := by
  rintro x ⟨k, hk', rfl⟩
  have := h.root key k hk'
  simp only [key] at this
  rcases hk with rfl | hk
  · omega
  · omega
/-- what has been dropped so far: of a the n' ones of a' are left, the lists of the others are X -/
structure Drp (K : Int) (a : Nat → Cd) (n : Nat) (a' : Nat → Cd) (n' : Nat) (X : Nat) : Prop where
  sub : ∀ x, Hp.Mem a' n' x → Hp.Mem a n x
  all : ∀ x, Hp.Mem a n x → Hp.Mem a' n' x ∨ x.k < K ∧ X.testBit x.l = true
  out : ∀ v, X.testBit v = true → ∃ x, Hp.Mem a n x ∧ x.k < K ∧ x.l = v
  once : Hp.Once lst a' n'
  lt : X < 18446744073709551616
theorem Drp.start (K : Int) {a : Nat → Cd} {n : Nat} (h : Hp.Once lst a n) : Drp K a n a n 0 :=
  ⟨fun _ h => h, fun _ h => .inl h, fun v h => by simp at h, h, by omega⟩
theorem Drp.step {K : Int} {a a' a'' : Nat → Cd} {n n' X : Nat} (h : Drp K a n a' (n' + 1) X) (hk : (a' 0).k < K) (hl : (a' 0).l < 64) (hp : Pm n' (Hp.sw a' 0 n') a'') : Drp K a n a'' n' (X ||| 2 ^ (a' 0).l) := by
  have hm := fun x => (hp.mem x).trans (pop_mem h.once x)
  have m0 : Hp.Mem a n (a' 0) := h.sub _ ⟨0, by omega, rfl⟩
  refine ⟨fun x hx => h.sub x ((hm x).1 hx).1, fun x hx => ?_, fun v hv => ?_, hp.once _ (pop_once _ h.once), ?_⟩
  · rcases h.all x hx with h1 | ⟨h1, h2⟩
    · by_cases e : x.l = (a' 0).l
      · right
        obtain ⟨k, hk', rfl⟩ := h1
        have : k = 0 := h.once k 0 hk' (by omega) (by unfold lst; rw [e])
        subst this
        exact ⟨hk, by rw [Nat.testBit_or, Nat.testBit_two_pow_self, Bool.or_true]⟩
      · exact .inl ((hm x).2 ⟨h1, e⟩)
    · exact .inr ⟨h1, by rw [Nat.testBit_or, h2, Bool.true_or]⟩
  · rw [Nat.testBit_or, Bool.or_eq_true] at hv
    rcases hv with hv | hv
    · exact h.out v hv
    · rw [Nat.testBit_two_pow] at hv
      have hv : (a' 0).l = v := by simpa using hv
      exact ⟨a' 0, m0, hk, hv⟩
  · have := p64 hl
    exact Nat.or_lt_two_pow (n := 64) h.lt this
def DrP (b q n c : Nat) (a : Nat → Cd) (K : Int) (e : Ending) (w w' : World) : Prop := ∃ n' a' X, e = .returned (.int .u64 ((X : Nat) : Int)) ∧ n' ≤ n ∧ Qu w' b q n' c a' ∧ Hp.Ok key a' n' ∧ Drp K a n a' n' X ∧ (∀ x, Hp.Mem a' n' x → K ≤ x.k) ∧ Ch b (Two b q) w w'
set_option maxRecDepth 100000 in
set_option maxHeartbeats 2000000 in
theorem drop_any (b q n c : Nat) (a : Nat → Cd) (K : Int) (w : World) (h : Qu w b q n c a) (ho : Hp.Ok key a n) (hl : ∀ k, k < n → (a k).l < 64) (h1 : Hp.Once lst a n) :
    Calls Tryd.prog 39 #[iq b, .int .u64 K] w fun e w' => DrP b q n c a K e w w' := by
  have HH := Lib.hid h
  have HO := Lib.hid ho
  have HL := Lib.hid hl
  have H1 := Lib.hid h1
  have hlt := h.lt
  clear h ho hl h1
  unfold iq
  go_enter Tryd.func39, Tryd.ntmps39
  go_wp2
  go_loopg [5, 6, 7] n (fun g s _ _ wr => ∃ (n' : Nat) (a' : Nat → Cd) (X : Nat), n' ≤ g ∧ n' ≤ n ∧ s = .int .u64 ((X : Nat) : Int) ∧ Qu wr b q n' c a' ∧ Hp.Ok key a' n' ∧ Drp K a n a' n' X ∧ Ch b (Two b q) w wr)
  case atStart => exact ⟨n, a, 0, Nat.le_refl _, Nat.le_refl _, rfl, HH.out, HO.out, Drp.start K H1.out, Ch.refl b _ w⟩
  case round =>
    obtain ⟨n', a', X, hg, hn, rfl, hq, ho, hd, hc⟩ := hrel
    have hd2 := hq.hd
    have hqlt := hq.lt
    have HQ := Lib.hid hq
    have HO := Lib.hid ho
    have HD := Lib.hid hd
    clear hq ho hd
    have m1 := fun g => via_least g b _ n' c wr hd2
    have m0 := fun g => nil_any g ⟨b, 2, none⟩ wr "leapfrog/merge.least" (by simp)
    rcases Nat.eq_zero_or_pos n' with n0 | n0
    · subst n0
      have CL := Lib.hid (least_no (some ⟨q, 0, none⟩) c wr)
      unfold agg at CL
      go_wp2_with fail
      refine CL.out.mono ?_
      rintro r w1 ⟨rfl, b1⟩
      clear m0 m1
      have EN : DrP b q n c a K (.returned (.int .u64 ((X : Nat) : Int))) w (w1.alloc (.cells #[.int .u64 0, .int .u64 0, .int .i64 0] 73)) :=
        ⟨0, a', X, rfl, hn, (HQ.out.below b1).below (bel_alloc (Below.refl _ _) _), HO.out, HD.out, ok_least HO.out (.inl rfl), (hc.trans (Ch.of_below (B := Two b q) b1) fun _ _ h => h).alloc _⟩
      have EN := Lib.hid EN
      go_wp2
      go_ret
      exact EN.out
    · obtain ⟨m, rfl⟩ : ∃ m, n' = m + 1 := ⟨n' - 1, by omega⟩
      have CL := Lib.hid (least_yes b q (m + 1) c a' wr HQ.out (by omega))
      unfold agg at CL
      have hlX := HL
      have l64 : (a' 0).l < 64 := by
        obtain ⟨k, hk, e⟩ := HD.out.sub (a' 0) ⟨0, by omega, rfl⟩
        rw [← e]; exact HL.out k hk
      by_cases hk : K ≤ (a' 0).k
      · have t0 : decide (K ≤ (a' 0).k) = true := decide_eq_true hk
        have LE := Lib.hid (ok_least HO.out (.inr hk))
        go_wp2_with fail
        refine CL.out.mono ?_
        rintro r w1 ⟨rfl, b1⟩
        clear m0 m1 hk
        have EN : DrP b q n c a K (.returned (.int .u64 ((X : Nat) : Int))) w (w1.alloc (.cells #[.int .u64 (a' 0).k, .int .u64 (a' 0).v, .int .i64 (a' 0).l] 73)) :=
          ⟨m + 1, a', X, rfl, hn, (HQ.out.below b1).below (bel_alloc (Below.refl _ _) _), HO.out, HD.out, LE.out, (hc.trans (Ch.of_below (B := Two b q) b1) fun _ _ h => h).alloc _⟩
        have EN := Lib.hid EN
        go_wp2
        go_ret
        exact EN.out
      · have t0 : decide (K ≤ (a' 0).k) = false := decide_eq_false hk
        have HI := Lib.hid ((congrArg (bits .or .u64 ((X : Nat) : Int)) (wrap_pow l64)).trans ((or_nat HD.out.lt (p64 l64)).trans rfl))
        have NX := Lib.hid (fun a'' hp => HD.out.step (a'' := a'') (Int.not_le.1 hk) l64 hp)
        have l64i : ((a' 0).l : Int) < 64 := by omega
        clear hk
        go_wp2_with fail
        refine CL.out.mono ?_
        rintro r w1 ⟨rfl, b1⟩
        clear m0 m1
        have hs1 := b1.size
        have hq1 := (HQ.out.below b1).below (bel_alloc (Below.refl w1.heap.size w1) (.cells #[.int .u64 (a' 0).k, .int .u64 (a' 0).v, .int .i64 (a' 0).l] 73))
        have CP := Lib.hid (hpop_any b q m c a' _ hq1 HO.out)
        unfold iq at CP
        have k0 := hq1.lt
        clear hq1
        go_wp2_with fail
        refine CP.out.mono ?_
        rintro r w2 ⟨rfl, a'', hq3, ho3, hp3, hc3⟩
        have hs3 := hc3.size
        rw [World.size_alloc] at hs3
        have g1 := hc3.block w1.heap.size (by rw [World.size_alloc]; omega) (fun e => by rcases e with e | e <;> omega)
        have y2 : w2.cell? ⟨w1.heap.size, 2, none⟩ = some (.int .i64 (a' 0).l) := (World.cell?_of_block (a := ⟨w1.heap.size, 2, none⟩) g1).trans (by simp)
        have HC := Lib.hid (hc.trans (((Ch.of_below (B := Two b q) b1).alloc (.cells #[.int .u64 (a' 0).k, .int .u64 (a' 0).v, .int .i64 (a' 0).l] 73)).trans hc3 fun _ _ h => h) fun _ _ h => h)
        have HP := Lib.hid (NX.out a'' hp3)
        clear g1 hc3 hp3 CP hc NX
        go_wp2
        go_roundg m
        case measure => omega
        case rel => exact ⟨m, a'', X ||| 2 ^ (a' 0).l, Nat.le_refl _, by omega, congrArg (Value.int .u64) HI.out, hq3, ho3, HP.out, HC.out⟩
theorem drop_nil (b c : Nat) (A : Option Addr) (K : Int) (w : World) (hd : w.cell? ⟨b, 2, none⟩ = some (.slice A 0 c)) :
    Calls Tryd.prog 39 #[iq b, .int .u64 K] w fun e w' => e = .returned (.int .u64 0) ∧ Below w.heap.size w w' := by
  have HD := Lib.hid hd
  have hbl := World.block_lt_of_cell? w ⟨b, 2, none⟩ hd
  clear hd
  unfold iq
  go_enter Tryd.func39, Tryd.ntmps39
  go_wp2
  refine wp_loop_rounds 1 ?_
  rw [rounds_succ]
  have m1 := fun g => via_least g b _ 0 c w HD.out
  have m0 := fun g => nil_any g ⟨b, 2, none⟩ w "leapfrog/merge.least" (by simp)
  have CL := Lib.hid (least_no A c w)
  unfold agg at CL
  go_wp2_with fail
  refine CL.out.mono ?_
  rintro r w1 ⟨rfl, b1⟩
  clear m0 m1
  go_wp2
  go_ret
  exact ⟨rfl, bel_alloc b1 _⟩
end Hq
end Go.Proofs.YtbndgbjenmknmaaDoor
