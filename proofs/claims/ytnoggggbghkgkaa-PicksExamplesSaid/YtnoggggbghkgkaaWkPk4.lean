/- PicksGaps: the walk. Conditions: the bounds of each argument's kind. -/
import Derived.Test.YtnoggggbghkgkaaWkPk3
namespace Go.Proofs.Ytnoggggbghkgkaa
open Go.RowKit Go.Shelf Go.Sort
set_option linter.unusedVariables false
set_option linter.unusedSimpArgs false
namespace Wk
open Pk
open Dm (RdK BdI bel_alloc bel_trans cell_lt flatI info info_parts row_rd app1 appAll addr_lit ret_eq)
/-- the greatest number of elements in a row that are not h among the first, and the number of those at their end -/
def gN (h : Int) (Y : Nat → Int) : Nat → Nat × Nat
  | 0 => (0, 0)
  | j + 1 => if Y j = h then ((gN h Y j).1, 0) else (max (gN h Y j).1 ((gN h Y j).2 + 1), (gN h Y j).2 + 1)
theorem gN_end (h : Int) (Y : Nat → Int) : ∀ j, (gN h Y j).2 ≤ j ∧ (∀ i, j - (gN h Y j).2 ≤ i → i < j → Y i ≠ h) ∧ ((gN h Y j).2 < j → Y (j - (gN h Y j).2 - 1) = h)
  | 0 => ⟨Nat.le_refl _, fun i _ hi => by omega, fun hh => absurd hh (by simp [gN])⟩
  | j + 1 => by
    obtain ⟨a, b, c⟩ := gN_end h Y j
    rw [gN]
    by_cases e : Y j = h
    · rw [if_pos e]
      exact ⟨Nat.zero_le _, fun i h1 h2 => by simp only [Nat.sub_zero] at h1; omega, fun _ => by simpa using e⟩
    · rw [if_neg e]
      refine ⟨by simp only; omega, fun i h1 h2 => ?_, fun hh => ?_⟩
      · simp only at h1
        by_cases ei : i = j
        · subst ei; exact e
        · exact b i (by omega) (by omega)
      · simp only at hh ⊢
        rw [show j + 1 - ((gN h Y j).2 + 1) - 1 = j - (gN h Y j).2 - 1 by omega]
        exact c (by omega)
theorem gN_run (h : Int) (Y : Nat → Int) (k : Nat) (hk : 1 ≤ k) : ∀ j, k ≤ (gN h Y j).1 ↔ ∃ f, f + k ≤ j ∧ ∀ i, f ≤ i → i < f + k → Y i ≠ h
  | 0 => by
    constructor
    · intro hh; simp [gN] at hh; omega
    · rintro ⟨f, hf, _⟩; omega
  | j + 1 => by
    have ih := gN_run h Y k hk j
    obtain ⟨a, b, c⟩ := gN_end h Y j
    rw [gN]
    by_cases e : Y j = h
    · rw [if_pos e]
      simp only
      rw [ih]
      constructor
      · rintro ⟨f, hf, hw⟩; exact ⟨f, by omega, hw⟩
      · rintro ⟨f, hf, hw⟩
        by_cases hfj : f + k = j + 1
        · exact absurd e (hw j (by omega) (by omega))
        · exact ⟨f, by omega, hw⟩
    · rw [if_neg e]
      simp only
      constructor
      · intro hh
        rcases (show k ≤ (gN h Y j).1 ∨ k ≤ (gN h Y j).2 + 1 by omega) with hh | hh
        · obtain ⟨f, hf, hw⟩ := ih.1 hh
          exact ⟨f, by omega, hw⟩
        · refine ⟨j + 1 - k, by omega, fun i h1 h2 => ?_⟩
          by_cases ei : i = j
          · subst ei; exact e
          · exact b i (by omega) (by omega)
      · rintro ⟨f, hf, hw⟩
        by_cases hfj : f + k ≤ j
        · have := ih.2 ⟨f, hfj, hw⟩; omega
        · have hfe : f + k = j + 1 := by omega
          rcases Nat.lt_or_ge ((gN h Y j).2 + 1) k with g | g
          · have := c (by omega)
            exact absurd this (hw _ (by omega) (by omega))
          · omega
/-- one of n elements from f on is h -/
def anB (h : Int) (Y : Nat → Int) (f : Nat) : Nat → Bool
  | 0 => false
  | n + 1 => anB h Y f n || decide (Y (f + n) = h)
/-- each of the first n rows of k elements has an h -/
def faB (h : Int) (Y : Nat → Int) (k : Nat) : Nat → Bool
  | 0 => true
  | n + 1 => faB h Y k n && anB h Y n k
theorem anB_iff (h : Int) (Y : Nat → Int) (f : Nat) : ∀ n, anB h Y f n = true ↔ ∃ i, f ≤ i ∧ i < f + n ∧ Y i = h
  | 0 => by simp [anB]; intro x h1 h2; omega
  | n + 1 => by
    rw [anB, Bool.or_eq_true, anB_iff h Y f n, decide_eq_true_eq]
    constructor
    · rintro (⟨i, h1, h2, h3⟩ | h3)
      · exact ⟨i, h1, by omega, h3⟩
      · exact ⟨f + n, by omega, by omega, h3⟩
    · rintro ⟨i, h1, h2, h3⟩
      by_cases e : i = f + n
      · subst e; exact .inr h3
      · exact .inl ⟨i, h1, by omega, h3⟩
theorem faB_iff (h : Int) (Y : Nat → Int) (k : Nat) : ∀ n, faB h Y k n = true ↔ ∀ f, f < n → anB h Y f k = true
  | 0 => by simp [faB]
  | n + 1 => by
    rw [faB, Bool.and_eq_true, faB_iff h Y k n]
    constructor
    · rintro ⟨a, b⟩ f hf
      by_cases e : f = n
      · subst e; exact b
      · exact a f (by omega)
    · intro a
      exact ⟨fun f hf => a f (by omega), a n (by omega)⟩
theorem fair_iff (h : Int) (Y : Nat → Int) {k m : Nat} (h1 : 1 ≤ k) (h2 : k ≤ m + 1) : faB h Y k (m + 1 - k) = decide ((gN h Y m).1 < k) := by
  rw [Bool.eq_iff_iff, faB_iff, decide_eq_true_eq]
  have hr := gN_run h Y k h1 m
  constructor
  · intro hf
    rcases Nat.lt_or_ge (gN h Y m).1 k with g | g
    · exact g
    · obtain ⟨f, hf1, hw⟩ := hr.1 g
      obtain ⟨i, i1, i2, i3⟩ := (anB_iff h Y f k).1 (hf f (by omega))
      exact absurd i3 (hw i i1 i2)
  · intro hg f hf
    cases e : anB h Y f k with
    | true => rfl
    | false =>
      have : k ≤ (gN h Y m).1 := hr.2 ⟨f, by omega, fun i i1 i2 i3 => by
        have := (anB_iff h Y f k).2 ⟨i, i1, i2, i3⟩
        rw [e] at this; cases this⟩
      omega
theorem gN_le (h : Int) (Y : Nat → Int) : ∀ j, (gN h Y j).1 ≤ j
  | 0 => Nat.le_refl _
  | j + 1 => by
    have a := gN_le h Y j
    have b := (gN_end h Y j).1
    rw [gN]
    split
    · simp only; omega
    · simp only; omega
theorem gap_gN {T : Nat} (h1 : 1 ≤ T) (h2 : T ≤ 64) (h : Int) (l : List Int) : ∀ j, j ≤ l.length → gapF h ((chL T l).take j) = gN h (fun i => (chI T l).getD i 0) j
  | 0, _ => rfl
  | j + 1, hj => by
    have hl : j < (chL T l).length := by rw [chL_len]; omega
    rw [take_next hl, gapF_snoc, gap_gN h1 h2 h l j (by omega), gN]
    have e : (((chL T l)[j]).val : Int) = (chI T l).getD j 0 := by
      have : (chL T l)[j] = chF T l[j] := by simp [chL]
      rw [this, chF_val h1 h2, chI_get (by omega), List.getD_eq_getElem?_getD, List.getElem?_eq_getElem (by omega)]
      rfl
    rw [e]
theorem gap_all {T : Nat} (h1 : 1 ≤ T) (h2 : T ≤ 64) (h : Int) (l : List Int) : gapF h (chL T l) = gN h (fun i => (chI T l).getD i 0) l.length := by
  have := gap_gN h1 h2 h l l.length (Nat.le_refl _)
  rwa [List.take_of_length_le (by rw [chL_len]; exact Nat.le_refl _)] at this
set_option maxRecDepth 100000 in
set_option maxHeartbeats 2000000 in
theorem walk_picksGaps (a0 : Int) (a1 : Int) (a2 : Option Addr) (a2n a2c : Nat) (a2v : List Int) (w : World) (a0l : (-9223372036854775808) ≤ a0) (a0h : a0 ≤ 9223372036854775807) (a1l : (-9223372036854775808) ≤ a1) (a1h : a1 ≤ 9223372036854775807) (a2e : a2v.length = a2n) (a2m : a2n ≤ maxLen) (a2r : Dm.RdK .i64 w a2 a2v) (a2b : Dm.BdI a2v) (a2z : a2 = none → a2c = 0) (a2y : a2n ≤ a2c ∧ a2c ≤ maxLen) :
    Calls Try.prog 8 #[.int .i64 a0, .int .i64 a1, .slice a2 a2n a2c] w fun e w' => e = .returned (.bool true) ∧ Below w.heap.size w w' := by
  unfold maxLen at a2m a2y
  obtain ⟨u, hu, C0⟩ := threadsW a0
  obtain ⟨m, hm⟩ : ∃ m, min a2n 150 = m := ⟨_, rfl⟩
  have hmin : min (a2n : Int) 150 = (m : Int) := by omega
  have hm4 : m ≤ 150 := by omega
  have R1 := take_run a2 a2n m a2c (by omega) a2y.1
  have LX := Lib.hid (li_take a2r a2e (show m ≤ a2n by omega) (by omega))
  obtain ⟨xs, hxs⟩ : ∃ xs, a2v.take m = xs := ⟨_, rfl⟩
  rw [hxs] at LX
  have lxs := LX.out.ln
  have LXS := Lib.hid lxs
  clear a2r a2b a2e hxs hm lxs
  have u1 : (u : Int) < 64 := by omega
  have m1 : (m : Int) ≤ 150 := by omega
  have HU := Lib.hid (show (1 + (u : Int)).toNat = 1 + u by omega)
  have h8 : ((m : Int) != m) = false := by simp
  obtain ⟨h, hh, C1⟩ : ∃ h : Nat, h < 1 + u ∧ ∀ W, Hid (Calls Try.prog 31 #[.int .i64 a1, .int .i64 (1 + (u : Int))] W fun e w' => e = .returned (.int .i64 (h : Int)) ∧ W = w') := by
    have t0 := Int.emod_nonneg a1 (show (1 + (u : Int)) ≠ 0 by omega)
    have t1 := Int.emod_lt_of_pos a1 (show (0 : Int) < 1 + (u : Int) by omega)
    refine ⟨(a1 % (1 + (u : Int))).toNat, by omega, fun W => Lib.hid ?_⟩
    rw [show (((a1 % (1 + (u : Int))).toNat : Nat) : Int) = a1 % (1 + (u : Int)) by omega]
    exact modT a1 hu rfl W
  have h1 : (h : Int) < 1 + (u : Int) := by omega
  have HG := Lib.hid (gap_all (T := 1 + u) (by omega) (by omega) (h : Int) xs)
  go_enter Try.func8, Try.ntmps8
  go_wp2
  go_quiet ((go_at_call 31; apply Hp.quiet_left; exact (C0 _).out))
  have L0 := Lib.hid (show Li (w.drewN nq) a2 m xs from ⟨LX.out.rd.drewN nq, LX.out.ln, LX.out.mx⟩)
  have B0 := Lib.hid (below_drewN (Below.refl w.heap.size w) nq)
  clear LX C0 R1
  have HSZ := Lib.hid (show (w.drewN nq).heap.size = w.heap.size from rfl)
  generalize w.drewN nq = wd at *
  go_wp2_with fail
  refine (C1 _).out.mono ?_
  rintro e w' ⟨rfl, rfl⟩
  go_wp2_with fail
  refine (gap_ok (t := 1 + (u : Int)) (k := (h : Int)) L0.out (by omega) (by omega) (by omega) h1 (by omega)).mono ?_
  rw [HU.out]
  rintro e w1 ⟨rfl, b1⟩
  have L1 := Lib.hid (L0.out.below b1)
  go_wp2_with fail
  refine (chosen_ok (t := 1 + (u : Int)) L1.out (by omega) (by omega) (by omega)).mono ?_
  rw [HU.out]
  intro e w2 hp
  obtain ⟨A2, c2, rfl, _, _, li2, b2, _⟩ := li_len (n := m) hp (by simp [chI, LXS.out])
  clear hp
  have K1 := Lib.hid li2
  have HB := Lib.hid (B0.out.trans ((bel_trans b1 b2).mono B0.out.size))
  rw [HG.out, LXS.out]
  clear L0 L1 li2 b1 b2 B0 HG LXS C1
  obtain ⟨Y, hY⟩ : ∃ Y : Nat → Int, Y = fun i => (chI (1 + u) xs).getD i 0 := ⟨_, rfl⟩
  rw [← hY]
  have CY := Lib.hid (show ∀ i, i < m → ∃ b o, A2 = some ⟨b, o, none⟩ ∧ w2.cell? ⟨b, o + i, none⟩ = some (.int .i64 (Y i)) from fun i hi => by rw [hY]; exact K1.out.rd i (by rw [K1.out.ln]; exact hi))
  clear K1 hY
  have hgl := gN_le (h : Int) Y m
  have HF := Lib.hid (fun (k : Nat) (k1 : 1 ≤ k) (k2 : k ≤ m + 1) => fair_iff (h : Int) Y k1 k2)
  obtain ⟨g, hg⟩ : ∃ g, (gN (h : Int) Y m).1 = g := ⟨_, rfl⟩
  rw [hg] at hgl HF ⊢
  clear hg
  have g1 : (g : Int) ≤ m := by omega
  go_wp2
  go_loop [11] (fun i => ∃ k : Nat, 1 ≤ k ∧ k ≤ m + 2 ∧ i = .int .i64 k) (fun i => (m + 2 - intOf i).toNat)
  case atStart => exact ⟨1, Nat.le_refl _, by omega, rfl⟩
  case round =>
    obtain ⟨k, hk1, hk2, rfl⟩ := hrel
    by_cases hlt : k ≤ m + 1
    · have d0 : decide ((k : Int) ≤ (m : Int) + 1) = true := decide_eq_true (by omega)
      have k1 : (k : Int) ≤ 152 := by omega
      go_wp2
      go_loop [12, 13] (fun q i => ∃ f : Nat, f + k ≤ m + 1 ∧ i = .int .i64 f ∧ q = .bool (faB (h : Int) Y k f)) (fun q i => (m + 1 - intOf i).toNat)
      case atStart => exact ⟨0, by omega, rfl, rfl⟩
      case round =>
        obtain ⟨f, hf, rfl, rfl⟩ := hrel
        by_cases hlf : f + k ≤ m
        · have e0 : decide ((f : Int) + k ≤ m) = true := decide_eq_true (by omega)
          have f1 : (f : Int) ≤ 152 := by omega
          go_wp2
          go_loop [14, 15] (fun q i => ∃ n : Nat, n ≤ k ∧ i = .int .i64 ((f + n : Nat) : Int) ∧ q = .bool (anB (h : Int) Y f n)) (fun q i => (f + k - intOf i).toNat)
          case atStart => exact ⟨0, Nat.zero_le _, rfl, rfl⟩
          case round =>
            obtain ⟨n, hn, rfl, rfl⟩ := hrel
            by_cases hln : n < k
            · obtain ⟨b, o, rfl, g0⟩ := CY.out (f + n) (by omega)
              have i0 : decide (((f + n : Nat) : Int) < (f : Int) + k) = true := decide_eq_true (by omega)
              have i1 : ((f + n : Nat) : Int) < m := by omega
              have HA := Lib.hid (show anB (h : Int) Y f (n + 1) = (anB (h : Int) Y f n || decide (Y (f + n) = (h : Int))) from rfl)
              obtain ⟨y, hy⟩ : ∃ y, Y (f + n) = y := ⟨_, rfl⟩
              rw [hy] at g0 HA
              clear hy
              obtain ⟨an, han⟩ : ∃ an, anB (h : Int) Y f n = an := ⟨_, rfl⟩
              rw [han] at HA ⊢
              clear han
              have s0 : ((f + n : Nat) : Int) ≤ 400 := by omega
              have s1 : (0 : Int) ≤ ((f + n : Nat) : Int) := by omega
              obtain ⟨fn, hfn⟩ : ∃ fn, f + n = fn := ⟨_, rfl⟩
              have HFN := Lib.hid hfn
              rw [hfn] at g0 i0 i1 s0 s1 ⊢
              clear hfn
              by_cases hyh : y = (h : Int)
              · have i2 : (y == (h : Int)) = true := by simp [hyh]
                have HN := Lib.hid (show anB (h : Int) Y f (n + 1) = true by rw [HA.out, decide_eq_true hyh, Bool.or_true])
                clear HA hyh
                cases an
                all_goals
                  go_wp2
                  go_round
                  case rel => exact ⟨n + 1, by omega, by rw [show f + (n + 1) = fn + 1 by have := HFN.out; omega]; go_num, by rw [HN.out]⟩
                  case measure => have := HFN.out; simp [intOf]; omega
              · have i2 : (y == (h : Int)) = false := by simp [hyh]
                have HN := Lib.hid (show anB (h : Int) Y f (n + 1) = an by rw [HA.out, decide_eq_false hyh, Bool.or_false])
                clear HA hyh
                cases an
                all_goals
                  go_wp2
                  go_round
                  case rel => exact ⟨n + 1, by omega, by rw [show f + (n + 1) = fn + 1 by have := HFN.out; omega]; go_num, by rw [HN.out]⟩
                  case measure => have := HFN.out; simp [intOf]; omega
            · obtain rfl : n = k := by omega
              have i0 : decide (((f + n : Nat) : Int) < (f : Int) + n) = false := decide_eq_false (by omega)
              have HS := Lib.hid (show faB (h : Int) Y n (f + 1) = (faB (h : Int) Y n f && anB (h : Int) Y f n) from rfl)
              obtain ⟨fa, hfa⟩ : ∃ fa, faB (h : Int) Y n f = fa := ⟨_, rfl⟩
              obtain ⟨an, han⟩ : ∃ an, anB (h : Int) Y f n = an := ⟨_, rfl⟩
              rw [hfa, han] at HS
              rw [hfa, han]
              clear hfa han
              cases fa <;> cases an
              all_goals
                go_wp2
                go_round
                case rel => exact ⟨f + 1, by omega, by go_num, by rw [HS.out]; rfl⟩
                case measure => simp [intOf]; omega
        · obtain rfl : f = m + 1 - k := by omega
          have e0 : decide (((m + 1 - k : Nat) : Int) + k ≤ m) = false := decide_eq_false (by omega)
          rw [HF.out k hk1 hlt]
          by_cases hgk : g < k
          · have j0 : decide (g < k) = true := decide_eq_true hgk
            have j1 : decide ((g : Int) < k) = true := decide_eq_true (by omega)
            rw [j0]
            go_wp2
            go_round
            case rel => exact ⟨k + 1, by omega, by omega, by go_num⟩
            case measure => simp [intOf]; omega
          · have j0 : decide (g < k) = false := decide_eq_false hgk
            have j1 : decide ((g : Int) < k) = false := decide_eq_false (by omega)
            have j2 : decide ((m : Int) < k) = false := decide_eq_false (by omega)
            have j3 : decide (m < k) = false := decide_eq_false (by omega)
            rw [j0]
            go_wp2
            go_round
            case rel => exact ⟨k + 1, by omega, by omega, by go_num⟩
            case measure => simp [intOf]; omega
    · obtain rfl : k = m + 2 := by omega
      have d0 : decide (((m + 2 : Nat) : Int) ≤ (m : Int) + 1) = false := decide_eq_false (by omega)
      go_wp2_with fail
      refine (awake_any _).mono ?_
      rintro e w' ⟨rfl, b1⟩
      go_wp2
      go_ret
      exact ⟨rfl, HB.out.trans (b1.mono HB.out.size)⟩
end Wk
end Go.Proofs.Ytnoggggbghkgkaa
