/- leapfrogref09.Check: contract of the translated reference. No conditions beside those of each lemma. -/
import Derived.Test.YtjcbjbhlclajnaaLyC
import Derived.Test.YtjcbjbhlclajnaaDomQ
namespace Go.Proofs.Ytjcbjbhlclajnaa
open Go.RowKit Go.Sort
set_option linter.unusedVariables false
set_option linter.unusedSimpArgs false
set_option maxRecDepth 100000
namespace Ly
open Dm (RdK BdU dmB dmE dmN bel_alloc bel_trans cell_lt)
/-- what is tested ahead of the map -/
def okH (f : Cf) : Bool := (decide (1 ≤ f.th) && decide (f.th ≤ 64)) && (decide (1 ≤ f.sl) && decide (f.sl ≤ 64)) && (decide (1 ≤ f.en) && decide (f.en ≤ 3)) && engB f.en f.bu
/-- what is tested behind the towers -/
def okT (f : Cf) : Bool := (decide (1 ≤ f.lo) && decide (f.lo ≤ 16)) && (decide (1 ≤ f.tr) && decide (f.tr ≤ 255)) && (decide (0 ≤ f.ba) && decide (f.ba ≤ 64))
theorem okB_parts (f : Cf) (l : List Int) : okB f l = (okH f && dmB f.k f.n l && twB f.t 6 && okT f) := by
  have he : engB f.en f.bu = ((decide (1 ≤ f.en) && decide (f.en ≤ 3)) && engB f.en f.bu) := by
    unfold engB
    by_cases e1 : f.en = 1
    · simp [e1]
    by_cases e2 : f.en = 2
    · simp [e2]
    by_cases e3 : f.en = 3
    · simp [e3]
    · simp [e1, e2, e3]
  unfold okB okH okT
  rw [he]
  generalize (decide (1 ≤ f.th) && decide (f.th ≤ 64)) = b1
  generalize (decide (1 ≤ f.sl) && decide (f.sl ≤ 64)) = b2
  generalize (decide (1 ≤ f.en) && decide (f.en ≤ 3)) = b0
  generalize engB f.en f.bu = b3
  generalize dmB f.k f.n l = b4
  generalize twB f.t 6 = b5
  generalize (decide (1 ≤ f.lo) && decide (f.lo ≤ 16)) = b6
  generalize (decide (1 ≤ f.tr) && decide (f.tr ≤ 255)) = b7
  generalize (decide (0 ≤ f.ba) && decide (f.ba ≤ 64)) = b8
  cases b0 <;> cases b1 <;> cases b2 <;> cases b3 <;> cases b4 <;> cases b5 <;> cases b6 <;> cases b7 <;> cases b8 <;> rfl
set_option maxRecDepth 100000 in
set_option maxHeartbeats 4000000 in
theorem checkR_no (f : Cf) (l : List Int) (w : World) (hB : f.Bd l) (hh : okH f = false) : Calls Try.prog 87 #[.agg #[.int .i64 f.th, .int .i64 f.sl, .int .u8 f.en, .int .i64 f.bu, .int .u8 f.k, .int .i64 f.n, .slice f.A f.m f.c, .int .i64 (f.t 0), .int .i64 (f.t 1), .int .i64 (f.t 2), .int .i64 (f.t 3), .int .i64 (f.t 4), .int .i64 (f.t 5), .int .i64 f.lo, .int .i64 f.tr, .int .i64 f.ba]] w fun e w' => e = .returned (.int .i64 2) ∧ Below w.heap.size w w' := by
  have HH := Lib.hid hh
  clear hB hh
  go_enter Try.func87, Try.ntmps87
  go_wp2_with fail
  all_goals first
    | (go_ret; exact ⟨rfl, bel_alloc (Below.refl _ _) _⟩)
    | (exfalso; have h0 := HH.out; simp [okH, engB, *] at h0; done)
    | (exfalso
       have g1 : ¬ f.en = 3 := by assumption
       have g2 : (f.en != 3) = false ∨ (f.bu != 0) = false := by assumption
       have hb : f.bu = 0 := by
         rcases g2 with g2 | g2
         · exact absurd (by simpa using g2) g1
         · simpa using g2
       have he : f.en = 1 ∨ f.en = 2 := by omega
       have h0 := HH.out
       unfold okH engB at h0
       rw [if_pos he] at h0
       simp [*] at h0
       try omega)
theorem CfB.tw {w : World} {b : Nat} {f : Cf} (h : CfB w b f) {j : Nat} (hj : j < 6) : w.cell? ⟨b, 7 + j, none⟩ = some (.int .i64 (f.t j)) := by
  rcases (show j = 0 ∨ j = 1 ∨ j = 2 ∨ j = 3 ∨ j = 4 ∨ j = 5 by omega) with rfl | rfl | rfl | rfl | rfl | rfl
  · exact h.c7
  · exact h.c8
  · exact h.c9
  · exact h.c10
  · exact h.c11
  · exact h.c12
set_option maxRecDepth 100000 in
set_option maxHeartbeats 4000000 in
theorem checkR_yes (f : Cf) (l : List Int) (w : World) (hB : f.Bd l) (hr : RdK .u64 w f.A l) (hh : okH f = true) : Calls Try.prog 87 #[.agg #[.int .i64 f.th, .int .i64 f.sl, .int .u8 f.en, .int .i64 f.bu, .int .u8 f.k, .int .i64 f.n, .slice f.A f.m f.c, .int .i64 (f.t 0), .int .i64 (f.t 1), .int .i64 (f.t 2), .int .i64 (f.t 3), .int .i64 (f.t 4), .int .i64 (f.t 5), .int .i64 f.lo, .int .i64 f.tr, .int .i64 f.ba]] w fun e w' => e = .returned (.int .i64 (ckE f l)) ∧ Below w.heap.size w w' := by
  have HE := Lib.hid (show ckE f l = if (dmB f.k f.n l && twB f.t 6 && okT f) = true then 0 else 2 by unfold ckE; rw [okB_parts, hh, Bool.true_and])
  have CD := fun W (h : RdK .u64 W f.A l) => Lib.hid (Dm.checkR_any f.k f.n f.A f.m f.c l W hB.k.1 hB.k.2 hB.n.1 hB.n.2 hB.e hB.mx h hB.b)
  have HR := Lib.hid hr
  have hen : (f.en = 3 ∧ 1 ≤ f.bu ∧ f.bu ≤ 16) ∨ (f.en ≠ 3 ∧ f.bu = 0) := by
    have h0 := hh
    unfold okH engB at h0
    by_cases e1 : f.en = 1
    · right; simp [e1] at h0; exact ⟨by omega, h0.2⟩
    by_cases e2 : f.en = 2
    · right; simp [e2] at h0; exact ⟨by omega, h0.2⟩
    by_cases e3 : f.en = 3
    · left; simp [e3] at h0; exact ⟨e3, h0.2⟩
    · simp [e1, e2, e3] at h0
  have hg : (1 ≤ f.th ∧ f.th ≤ 64) ∧ (1 ≤ f.sl ∧ f.sl ≤ 64) ∧ (1 ≤ f.en ∧ f.en ≤ 3) := by
    have h0 := hh
    simp only [okH, Bool.and_eq_true, decide_eq_true_iff] at h0
    exact ⟨h0.1.1.1, h0.1.1.2, h0.1.2⟩
  obtain ⟨⟨g1, g2⟩, ⟨g3, g4⟩, ⟨g5, g6⟩⟩ := hg
  have HT := Lib.hid hB.t
  clear hB hr hh
  have d1 : decide (f.th < 1) = false := decide_eq_false (by omega)
  have d2 : decide (64 < f.th) = false := decide_eq_false (by omega)
  have d3 : decide (f.sl < 1) = false := decide_eq_false (by omega)
  have d4 : decide (64 < f.sl) = false := decide_eq_false (by omega)
  have d5 : decide (f.en < 1) = false := decide_eq_false (by omega)
  have d6 : decide (3 < f.en) = false := decide_eq_false (by omega)
  rcases hen with ⟨e3, e4, e5⟩ | ⟨e3, e4⟩
  · rw [e3]
    go_enter Try.func87, Try.ntmps87
    go_wp2_with fail
    refine (CD _ (HR.out.below (bel_alloc (Below.refl _ _) _))).out.mono ?_
    rintro r w1 ⟨rfl, b1⟩
    have CFx := Lib.hid ((CfB.made w (⟨f.th, f.sl, 3, f.bu, f.k, f.n, f.A, f.m, f.c, f.t, f.lo, f.tr, f.ba⟩ : Cf) 87).below b1)
    have B1 := Lib.hid (bel_trans (bel_alloc (Below.refl w.heap.size w) (.cells #[.int .i64 f.th, .int .i64 f.sl, .int .u8 3, .int .i64 f.bu, .int .u8 f.k, .int .i64 f.n, .slice f.A f.m f.c, .int .i64 (f.t 0), .int .i64 (f.t 1), .int .i64 (f.t 2), .int .i64 (f.t 3), .int .i64 (f.t 4), .int .i64 (f.t 5), .int .i64 f.lo, .int .i64 f.tr, .int .i64 f.ba] 87)) b1)
    clear b1 CD HR
    cases hd : dmB f.k f.n l with
    | false =>
      have HE2 := Lib.hid (show ckE f l = 2 by rw [HE.out, hd]; rfl)
      rw [Dm.dmE_no hd]
      clear hd
      go_wp2
      go_ret
      exact ⟨by rw [HE2.out]; rfl, B1.out⟩
    | true =>
      have HE2 := Lib.hid (show ckE f l = if (twB f.t 6 && okT f) = true then 0 else 2 by rw [HE.out, hd, Bool.true_and])
      rw [Dm.dmE_yes hd]
      clear hd HE
      go_wp2_with fail
      go_loop [3, 4] (fun q i => ∃ j : Nat, j ≤ 6 ∧ i = .int .i64 j ∧ q = .int .i64 (sm f.t j) ∧ twB f.t j = true) (fun q i => (6 - intOf i).toNat)
      case atStart => exact ⟨0, Nat.zero_le _, rfl, rfl, rfl⟩
      case round =>
        obtain ⟨j, hj, rfl, rfl, hB⟩ := hrel
        have hs := twB_sm hB
        by_cases h6 : j < 6
        · have c0 := CFx.out.tw h6
          simp only at c0
          have j6 : (j : Int) < 6 := by omega
          have dj : decide ((j : Int) < 6) = true := decide_eq_true j6
          have hN : twB f.t (j + 1) = (decide (0 ≤ f.t j) && decide (f.t j ≤ 1024 - sm f.t j)) := by rw [twB, hB]; rfl
          have hL : sm f.t (j + 1) = sm f.t j + f.t j := rfl
          have HB := Lib.hid hB
          clear hB
          by_cases hok : 0 ≤ f.t j ∧ f.t j ≤ 1024 - sm f.t j
          · have q0 : decide (f.t j < 0) = false := decide_eq_false (by omega)
            have q1 : decide (1024 - sm f.t j < f.t j) = false := decide_eq_false (by omega)
            rw [decide_eq_true hok.1, decide_eq_true hok.2] at hN
            have HN := Lib.hid hN
            have HL := Lib.hid hL
            obtain ⟨x, hx⟩ : ∃ x, f.t j = x := ⟨_, rfl⟩
            rw [hx] at c0 q0 q1 hok HL
            clear hN hL hx
            go_wp2_with fail
            go_round
            case rel => exact ⟨j + 1, by omega, by go_num, by rw [HL.out], HN.out⟩
            case measure => simp [intOf]; omega
          · have HN := Lib.hid (show twB f.t 6 = false by
              have h2 : twB f.t (j + 1) = false := by rw [hN, Bool.and_eq_false_iff, decide_eq_false_iff_not, decide_eq_false_iff_not]; omega
              have := twB_down (6 - (j + 1)) h2
              rwa [show j + 1 + (6 - (j + 1)) = 6 by omega] at this)
            have HE3 := Lib.hid (show ckE f l = 2 by rw [HE2.out, HN.out]; rfl)
            obtain ⟨x, hx⟩ : ∃ x, f.t j = x := ⟨_, rfl⟩
            rw [hx] at c0 hok
            have hbad : x < 0 ∨ 1024 - sm f.t j < x := by omega
            clear hN hL hx hok
            rcases hbad with hbad | hbad
            · go_wp2
              go_ret
              exact ⟨by rw [HE3.out]; rfl, B1.out⟩
            · go_wp2
              all_goals (go_ret; exact ⟨by rw [HE3.out]; rfl, B1.out⟩)
        · obtain rfl : j = 6 := by omega
          have dj : decide (((6 : Nat) : Int) < 6) = false := by decide
          have HE3 := Lib.hid (show ckE f l = if okT f = true then 0 else 2 by rw [HE2.out, hB, Bool.true_and])
          have x13 := CFx.out.c13
          have x14 := CFx.out.c14
          have x15 := CFx.out.c15
          simp only at x13 x14 x15
          clear hB hs
          cases ht : okT f with
          | true =>
            have HE4 := Lib.hid (show ckE f l = 0 by rw [HE3.out, ht]; rfl)
            simp only [okT, Bool.and_eq_true, decide_eq_true_iff] at ht
            obtain ⟨⟨⟨a1, a2⟩, ⟨a3, a4⟩⟩, ⟨a5, a6⟩⟩ := ht
            have k1 : decide (f.lo < 1) = false := decide_eq_false (by omega)
            have k2 : decide (16 < f.lo) = false := decide_eq_false (by omega)
            have k3 : decide (f.tr < 1) = false := decide_eq_false (by omega)
            have k4 : decide (255 < f.tr) = false := decide_eq_false (by omega)
            have k5 : decide (f.ba < 0) = false := decide_eq_false (by omega)
            have k6 : decide (64 < f.ba) = false := decide_eq_false (by omega)
            go_wp2
            go_ret
            exact ⟨by rw [HE4.out]; rfl, B1.out⟩
          | false =>
            have HE4 := Lib.hid (show ckE f l = 2 by rw [HE3.out, ht]; rfl)
            have HH := Lib.hid ht
            clear ht
            go_wp2
            all_goals first
              | (go_ret; exact ⟨by rw [HE4.out]; rfl, B1.out⟩)
              | (exfalso; have h0 := HH.out; simp [okT, *] at h0; done)
              | (exfalso; have h0 := HH.out; simp only [okT, Bool.and_eq_false_iff, decide_eq_false_iff_not] at h0; omega)
  · have e0 : (f.bu != 0) = false := by simp [e4]
    have e1 : (f.en == 3) = false := beq_eq_false_iff_ne.2 e3
    go_enter Try.func87, Try.ntmps87
    go_wp2_with fail
    refine (CD _ (HR.out.below (bel_alloc (Below.refl _ _) _))).out.mono ?_
    rintro r w1 ⟨rfl, b1⟩
    have CFx := Lib.hid ((CfB.made w (⟨f.th, f.sl, f.en, 0, f.k, f.n, f.A, f.m, f.c, f.t, f.lo, f.tr, f.ba⟩ : Cf) 87).below b1)
    have B1 := Lib.hid (bel_trans (bel_alloc (Below.refl w.heap.size w) (.cells #[.int .i64 f.th, .int .i64 f.sl, .int .u8 f.en, .int .i64 0, .int .u8 f.k, .int .i64 f.n, .slice f.A f.m f.c, .int .i64 (f.t 0), .int .i64 (f.t 1), .int .i64 (f.t 2), .int .i64 (f.t 3), .int .i64 (f.t 4), .int .i64 (f.t 5), .int .i64 f.lo, .int .i64 f.tr, .int .i64 f.ba] 87)) b1)
    clear b1 CD HR
    cases hd : dmB f.k f.n l with
    | false =>
      have HE2 := Lib.hid (show ckE f l = 2 by rw [HE.out, hd]; rfl)
      rw [Dm.dmE_no hd]
      clear hd
      go_wp2
      go_ret
      exact ⟨by rw [HE2.out]; rfl, B1.out⟩
    | true =>
      have HE2 := Lib.hid (show ckE f l = if (twB f.t 6 && okT f) = true then 0 else 2 by rw [HE.out, hd, Bool.true_and])
      rw [Dm.dmE_yes hd]
      clear hd HE
      go_wp2_with fail
      go_loop [3, 4] (fun q i => ∃ j : Nat, j ≤ 6 ∧ i = .int .i64 j ∧ q = .int .i64 (sm f.t j) ∧ twB f.t j = true) (fun q i => (6 - intOf i).toNat)
      case atStart => exact ⟨0, Nat.zero_le _, rfl, rfl, rfl⟩
      case round =>
        obtain ⟨j, hj, rfl, rfl, hB⟩ := hrel
        have hs := twB_sm hB
        by_cases h6 : j < 6
        · have c0 := CFx.out.tw h6
          simp only at c0
          have j6 : (j : Int) < 6 := by omega
          have dj : decide ((j : Int) < 6) = true := decide_eq_true j6
          have hN : twB f.t (j + 1) = (decide (0 ≤ f.t j) && decide (f.t j ≤ 1024 - sm f.t j)) := by rw [twB, hB]; rfl
          have hL : sm f.t (j + 1) = sm f.t j + f.t j := rfl
          have HB := Lib.hid hB
          clear hB
          by_cases hok : 0 ≤ f.t j ∧ f.t j ≤ 1024 - sm f.t j
          · have q0 : decide (f.t j < 0) = false := decide_eq_false (by omega)
            have q1 : decide (1024 - sm f.t j < f.t j) = false := decide_eq_false (by omega)
            rw [decide_eq_true hok.1, decide_eq_true hok.2] at hN
            have HN := Lib.hid hN
            have HL := Lib.hid hL
            obtain ⟨x, hx⟩ : ∃ x, f.t j = x := ⟨_, rfl⟩
            rw [hx] at c0 q0 q1 hok HL
            clear hN hL hx
            go_wp2_with fail
            go_round
            case rel => exact ⟨j + 1, by omega, by go_num, by rw [HL.out], HN.out⟩
            case measure => simp [intOf]; omega
          · have HN := Lib.hid (show twB f.t 6 = false by
              have h2 : twB f.t (j + 1) = false := by rw [hN, Bool.and_eq_false_iff, decide_eq_false_iff_not, decide_eq_false_iff_not]; omega
              have := twB_down (6 - (j + 1)) h2
              rwa [show j + 1 + (6 - (j + 1)) = 6 by omega] at this)
            have HE3 := Lib.hid (show ckE f l = 2 by rw [HE2.out, HN.out]; rfl)
            obtain ⟨x, hx⟩ : ∃ x, f.t j = x := ⟨_, rfl⟩
            rw [hx] at c0 hok
            have hbad : x < 0 ∨ 1024 - sm f.t j < x := by omega
            clear hN hL hx hok
            rcases hbad with hbad | hbad
            · go_wp2
              go_ret
              exact ⟨by rw [HE3.out]; rfl, B1.out⟩
            · go_wp2
              all_goals (go_ret; exact ⟨by rw [HE3.out]; rfl, B1.out⟩)
        · obtain rfl : j = 6 := by omega
          have dj : decide (((6 : Nat) : Int) < 6) = false := by decide
          have HE3 := Lib.hid (show ckE f l = if okT f = true then 0 else 2 by rw [HE2.out, hB, Bool.true_and])
          have x13 := CFx.out.c13
          have x14 := CFx.out.c14
          have x15 := CFx.out.c15
          simp only at x13 x14 x15
          clear hB hs
          cases ht : okT f with
          | true =>
            have HE4 := Lib.hid (show ckE f l = 0 by rw [HE3.out, ht]; rfl)
            simp only [okT, Bool.and_eq_true, decide_eq_true_iff] at ht
            obtain ⟨⟨⟨a1, a2⟩, ⟨a3, a4⟩⟩, ⟨a5, a6⟩⟩ := ht
            have k1 : decide (f.lo < 1) = false := decide_eq_false (by omega)
            have k2 : decide (16 < f.lo) = false := decide_eq_false (by omega)
            have k3 : decide (f.tr < 1) = false := decide_eq_false (by omega)
            have k4 : decide (255 < f.tr) = false := decide_eq_false (by omega)
            have k5 : decide (f.ba < 0) = false := decide_eq_false (by omega)
            have k6 : decide (64 < f.ba) = false := decide_eq_false (by omega)
            go_wp2
            go_ret
            exact ⟨by rw [HE4.out]; rfl, B1.out⟩
          | false =>
            have HE4 := Lib.hid (show ckE f l = 2 by rw [HE3.out, ht]; rfl)
            have HH := Lib.hid ht
            clear ht
            go_wp2
            all_goals first
              | (go_ret; exact ⟨by rw [HE4.out]; rfl, B1.out⟩)
              | (exfalso; have h0 := HH.out; simp [okT, *] at h0; done)
              | (exfalso; have h0 := HH.out; simp only [okT, Bool.and_eq_false_iff, decide_eq_false_iff_not] at h0; omega)
theorem checkR_any (f : Cf) (l : List Int) (w : World) (hB : f.Bd l) (hr : RdK .u64 w f.A l) : Calls Try.prog 87 #[.agg #[.int .i64 f.th, .int .i64 f.sl, .int .u8 f.en, .int .i64 f.bu, .int .u8 f.k, .int .i64 f.n, .slice f.A f.m f.c, .int .i64 (f.t 0), .int .i64 (f.t 1), .int .i64 (f.t 2), .int .i64 (f.t 3), .int .i64 (f.t 4), .int .i64 (f.t 5), .int .i64 f.lo, .int .i64 f.tr, .int .i64 f.ba]] w fun e w' => e = .returned (.int .i64 (ckE f l)) ∧ Below w.heap.size w w' := by
  cases hh : okH f with
  | true => exact checkR_yes f l w hB hr hh
  | false =>
    rw [show ckE f l = 2 by unfold ckE; rw [okB_parts, hh]; rfl]
    exact checkR_no f l w hB hh
end Ly
end Go.Proofs.Ytjcbjbhlclajnaa
