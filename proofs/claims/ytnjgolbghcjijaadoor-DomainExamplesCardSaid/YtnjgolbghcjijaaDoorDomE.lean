/- Image of package domain: contract of the translated code. Conditions: those of XDom. -/
import Derived.Test.YtnjgolbghcjijaaDoorDomJ
namespace Go.Proofs.YtnjgolbghcjijaaDoor
open Go.RowKit Go.Sort
set_option linter.unusedVariables false
set_option linter.unusedSimpArgs false
namespace Dm
theorem dmL_bd {k n : Int} {l : List Int} {v f x : Int} (hd : BdU l) (fl : 0 ≤ f) (fh : f ≤ 18446744073709551615) (h : dmL k n l v f = some x) : f ≤ x ∧ x ≤ 18446744073709551615 := by
  unfold dmL at h
  by_cases hb : dmB k n l = true
  · rw [if_pos hb] at h
    by_cases hv : lsB k n l v = true
    · rw [if_pos hv] at h
      have hv' : 0 ≤ v ∧ v < dmN k n l := of_decide_eq_true hv
      by_cases h3 : k = 3
      · subst h3
        rw [if_pos rfl] at h
        have hN : dmN 3 n l = l.length + 1 := by
          rcases dm_forms hb with ⟨a, _⟩ | ⟨a, _⟩ | ⟨_, _, _, _, _, a, _⟩
          · omega
          · omega
          · exact a
        obtain ⟨p, rfl⟩ := Int.eq_ofNat_of_zero_le hv'.1
        rcases p with _ | p
        · rw [lsC_zero] at h
          split at h
          · cases h
          · cases h; exact ⟨by omega, fh⟩
        · have hp := hd p (by omega)
          by_cases hu : f < l.getD p 0
          · rw [lsC_high hu] at h
            split at h
            · cases h
            · cases h; exact ⟨by omega, hp.2⟩
          · rw [lsC_low hu] at h
            split at h
            · cases h
            · cases h; exact ⟨by omega, fh⟩
      · rw [if_neg h3, lsM] at h
        have hN := dmN_pos hb
        have T0 : 0 ≤ (v - f) % dmN k n l := Int.emod_nonneg _ (by omega)
        split at h
        · cases h; omega
        · cases h
    · rw [if_neg hv] at h; cases h
  · rw [if_neg hb] at h; cases h
set_option maxHeartbeats 1000000 in
theorem img_any (k n lo hi : Int) (A : Option Addr) (m c : Nat) (l : List Int) (w : World) (kl : 0 ≤ k) (kh : k ≤ 255) (nl : -9223372036854775808 ≤ n) (nh : n ≤ 9223372036854775807) (ll : 0 ≤ lo) (lh : lo ≤ 18446744073709551615) (hl : 0 ≤ hi) (hh : hi ≤ 18446744073709551615) (hm : l.length = m) (hx : m ≤ maxLen) (hr : RdK .u64 w A l) (hd : BdU l) :
    Calls Tryd.prog 22 #[.agg #[.int .u8 k, .int .i64 n, .slice A m c], .agg #[.int .u64 lo, .int .u64 hi]] w fun e w' => e = .returned (.tuple #[.int .u64 (imV k n l lo hi : Nat), .int .i64 (imE k n l lo hi)]) ∧ Below w.heap.size w w' := by
  have HR := Lib.hid hr; clear hr
  have HD := Lib.hid hd; clear hd
  have HM := Lib.hid hm; clear hm
  have b0 : Below w.heap.size w ((w.alloc (Obj.cells #[.int .u8 k, .int .i64 n, .slice A m c] 24)).alloc (Obj.cells #[.int .u64 lo, .int .u64 hi] 37)) := bel_alloc (bel_alloc (Below.refl _ _) _) _
  have C := fun W h => Lib.hid (values_any k n A m c l W kl kh nl nh HM.out hx h HD.out)
  have CS := fun W => Lib.hid (Sp.check_any lo hi ll lh hl hh W)
  cases hb : dmB k n l with
  | false =>
    have HE := Lib.hid (dmE_no hb)
    have HN := Lib.hid (dmN_no hb)
    have HO := Lib.hid (show imV k n l lo hi = 0 ∧ imE k n l lo hi = 2 by simp [imV, imB, imE, hb])
    clear hb
    go_enter Tryd.func22, Tryd.ntmps22
    go_wp2_with fail
    refine (C _ (HR.out.below b0)).out.mono ?_
    rw [HE.out, HN.out]
    rintro r w1 ⟨rfl, b1⟩
    go_wp2
    go_ret2
    exact ⟨by rw [HO.out.1, HO.out.2]; rfl, bel_trans b0 b1⟩
  | true =>
    have HE := Lib.hid (dmE_yes hb)
    obtain ⟨N0, N1⟩ := dmN_64 (k := k) (n := n) (l := l)
    by_cases hle : lo ≤ hi
    · have HO := Lib.hid (show imV k n l lo hi = img (lsAt k n l lo hi) (dmN k n l).toNat ∧ imE k n l lo hi = 0 by simp [imV, imB, imE, hb, hle])
      have HC := Lib.hid (show Sp.ckE lo hi = 0 from if_pos hle)
      have HA := fun j => Lib.hid (show lsAt k n l lo hi j = match dmL k n l (j : Nat) lo with | some x => decide (x ≤ hi) | none => false from rfl)
      have HX := fun (v x : Int) (h : dmL k n l v lo = some x) => dmL_bd HD.out ll lh h
      have HL := fun (v : Int) (v0 : 0 ≤ v) (v1 : v < dmN k n l) W h => Lib.hid (leastP_any k n v lo A m c l W kl kh nl nh ll lh hb (decide_eq_true ⟨v0, v1⟩) HM.out hx h HD.out)
      clear hb
      generalize dmN k n l = N at *
      obtain ⟨M, rfl⟩ := Int.eq_ofNat_of_zero_le N0
      rw [Int.toNat_natCast] at HO
      generalize lsAt k n l lo hi = F at *
      clear N0
      go_enter Tryd.func22, Tryd.ntmps22
      go_wp2_with fail
      refine (C _ (HR.out.below b0)).out.mono ?_
      rw [HE.out]
      rintro r w1 ⟨rfl, b1⟩
      have bw := bel_trans b0 b1
      obtain ⟨kc, kf⟩ := bcell b1
      have e0 : w1.cell? ⟨w.heap.size, 0, none⟩ = some (.int .u8 k) := by rw [kc _ _ (by simp; omega)]; simp
      have e1 : w1.cell? ⟨w.heap.size, 1, none⟩ = some (.int .i64 n) := by rw [kc _ _ (by simp; omega)]; simp
      have e2 : w1.cell? ⟨w.heap.size, 2, none⟩ = some (.slice A m c) := by rw [kc _ _ (by simp; omega)]; simp
      have s0 : w1.cell? ⟨w.heap.size + 1, 0, none⟩ = some (.int .u64 lo) := by rw [kc _ _ (by simp)]; simp
      have s1 : w1.cell? ⟨w.heap.size + 1, 1, none⟩ = some (.int .u64 hi) := by rw [kc _ _ (by simp)]; simp
      have hws : w.heap.size < w1.heap.size := by have := b1.size; simp at this; omega
      have hws1 : w.heap.size + 1 < w1.heap.size := by have := b1.size; simp at this; omega
      clear kc kf
      go_wp2_with fail
      refine (CS _).out.mono ?_
      rw [HC.out]
      rintro r w2 ⟨rfl, b2⟩
      have bw2 := bel_trans bw b2
      have f0 : w2.cell? ⟨w.heap.size, 0, none⟩ = some (.int .u8 k) := by rw [b2.cell (p := ⟨w.heap.size, 0, none⟩) hws]; exact e0
      have f1 : w2.cell? ⟨w.heap.size, 1, none⟩ = some (.int .i64 n) := by rw [b2.cell (p := ⟨w.heap.size, 1, none⟩) hws]; exact e1
      have f2 : w2.cell? ⟨w.heap.size, 2, none⟩ = some (.slice A m c) := by rw [b2.cell (p := ⟨w.heap.size, 2, none⟩) hws]; exact e2
      have f3 : w2.cell? ⟨w.heap.size + 1, 0, none⟩ = some (.int .u64 lo) := by rw [b2.cell (p := ⟨w.heap.size + 1, 0, none⟩) hws1]; exact s0
      have f4 : w2.cell? ⟨w.heap.size + 1, 1, none⟩ = some (.int .u64 hi) := by rw [b2.cell (p := ⟨w.heap.size + 1, 1, none⟩) hws1]; exact s1
      have hw2 : w.heap.size + 1 < w2.heap.size := by have := b2.size; omega
      clear e0 e1 e2 s0 s1
      go_wp2
      go_loopw [9, 27] (fun q i wr => ∃ j : Nat, j ≤ M ∧ q = .int .u64 (img F j : Nat) ∧ i = .int .i64 j ∧ Below w2.heap.size w2 wr) (fun q i _ => (M - intOf i).toNat)
      case atStart => exact ⟨0, Nat.zero_le _, rfl, rfl, Below.refl _ _⟩
      case round =>
        obtain ⟨j, hj, rfl, rfl, bel⟩ := hrel
        have bt := bw2.trans (bel.mono bw2.size)
        by_cases hlt : j < M
        · have hj64 : j < 64 := by omega
          have t4 : decide ((j : Int) < M) = true := by simp; omega
          have g0 : wr.cell? ⟨w.heap.size, 0, none⟩ = some (.int .u8 k) := by rw [bel.cell (p := ⟨w.heap.size, 0, none⟩) (by simp; omega)]; exact f0
          have g1 : wr.cell? ⟨w.heap.size, 1, none⟩ = some (.int .i64 n) := by rw [bel.cell (p := ⟨w.heap.size, 1, none⟩) (by simp; omega)]; exact f1
          have g2 : wr.cell? ⟨w.heap.size, 2, none⟩ = some (.slice A m c) := by rw [bel.cell (p := ⟨w.heap.size, 2, none⟩) (by simp; omega)]; exact f2
          have g3 : wr.cell? ⟨w.heap.size + 1, 0, none⟩ = some (.int .u64 lo) := by rw [bel.cell (p := ⟨w.heap.size + 1, 0, none⟩) hw2]; exact f3
          have g4 : wr.cell? ⟨w.heap.size + 1, 1, none⟩ = some (.int .u64 hi) := by rw [bel.cell (p := ⟨w.heap.size + 1, 1, none⟩) hw2]; exact f4
          have hwr : w.heap.size + 1 < wr.heap.size := by have := bel.size; omega
          have HAj := HA j
          have HXj := HX (j : Int)
          have HLj := HL (j : Int) (by omega) (by omega) wr (HR.out.below bt)
          generalize dmL k n l (j : Int) lo = o at HLj HAj HXj
          cases o with
          | none =>
            have HI := Lib.hid (img_skip (p := F) (n := j) HAj.out)
            clear HXj HAj
            go_wp2_with fail
            refine HLj.out.mono ?_
            rintro r w3 ⟨rfl, b3⟩
            unfold lsP
            go_wp2
            go_roundw
            case rel => exact ⟨j + 1, by omega, by rw [HI.out], by go_num, bel.trans (b3.mono bel.size)⟩
            case measure => simp [intOf]; omega
          | some x =>
            have HAj' : F j = decide (x ≤ hi) := HAj.out
            obtain ⟨x0, x1⟩ := HXj x rfl
            have CH := fun W => Lib.hid (Sp.has_any lo hi x ll lh hl hh (by omega) x1 W)
            have HB := Lib.hid (show Sp.hasB lo hi x = decide (x ≤ hi) from decide_eq_decide.2 ⟨fun h => h.2, fun h => ⟨x0, h⟩⟩)
            clear HXj
            by_cases hxh : x ≤ hi
            · have HI := Lib.hid ((congrArg (bits .or .u64 (img F j : Nat)) (wrap_pow hj64)).trans <| (or_nat (img64 F (Nat.le_of_lt hj64)) (p64 hj64)).trans (congrArg Int.ofNat (img_step (p := F) (n := j) (HAj'.trans (decide_eq_true hxh))).symm))
              have HB' := Lib.hid (HB.out.trans (decide_eq_true hxh))
              have hji : (j : Int) < 64 := by omega
              clear HAj HAj' HB hxh
              go_wp2_with fail
              refine HLj.out.mono ?_
              rintro r w3 ⟨rfl, b3⟩
              have h3 : w3.cell? ⟨w.heap.size + 1, 0, none⟩ = some (.int .u64 lo) := by rw [b3.cell (p := ⟨w.heap.size + 1, 0, none⟩) hwr]; exact g3
              have h4 : w3.cell? ⟨w.heap.size + 1, 1, none⟩ = some (.int .u64 hi) := by rw [b3.cell (p := ⟨w.heap.size + 1, 1, none⟩) hwr]; exact g4
              unfold lsP
              go_wp2_with fail
              refine (CH _).out.mono ?_
              rw [HB'.out]
              rintro r w4 ⟨rfl, b4⟩
              generalize img F j = y at *
              go_wp2
              go_roundw
              case rel => exact ⟨j + 1, by omega, congrArg (Value.int .u64) HI.out, by go_num, (bel.trans (b3.mono bel.size)).trans (b4.mono (bel.trans (b3.mono bel.size)).size)⟩
              case measure => simp [intOf]; omega
            · have HI := Lib.hid (img_skip (p := F) (n := j) (HAj'.trans (decide_eq_false hxh)))
              have HB' := Lib.hid (HB.out.trans (decide_eq_false hxh))
              clear HAj HAj' HB hxh
              go_wp2_with fail
              refine HLj.out.mono ?_
              rintro r w3 ⟨rfl, b3⟩
              have h3 : w3.cell? ⟨w.heap.size + 1, 0, none⟩ = some (.int .u64 lo) := by rw [b3.cell (p := ⟨w.heap.size + 1, 0, none⟩) hwr]; exact g3
              have h4 : w3.cell? ⟨w.heap.size + 1, 1, none⟩ = some (.int .u64 hi) := by rw [b3.cell (p := ⟨w.heap.size + 1, 1, none⟩) hwr]; exact g4
              unfold lsP
              go_wp2_with fail
              refine (CH _).out.mono ?_
              rw [HB'.out]
              rintro r w4 ⟨rfl, b4⟩
              go_wp2
              go_roundw
              case rel => exact ⟨j + 1, by omega, by rw [HI.out], by go_num, (bel.trans (b3.mono bel.size)).trans (b4.mono (bel.trans (b3.mono bel.size)).size)⟩
              case measure => simp [intOf]; omega
        · obtain rfl : j = M := by omega
          have t4 : decide ((j : Int) < j) = false := by simp
          go_wp2
          go_ret2
          exact ⟨by rw [HO.out.1, HO.out.2]; rfl, bt⟩
    · have HO := Lib.hid (show imV k n l lo hi = 0 ∧ imE k n l lo hi = 13 by simp [imV, imB, imE, hb, hle])
      have HC := Lib.hid (show Sp.ckE lo hi = 13 from if_neg hle)
      clear hb hle
      generalize dmN k n l = N at *
      go_enter Tryd.func22, Tryd.ntmps22
      go_wp2_with fail
      refine (C _ (HR.out.below b0)).out.mono ?_
      rw [HE.out]
      rintro r w1 ⟨rfl, b1⟩
      have bw := bel_trans b0 b1
      obtain ⟨kc, kf⟩ := bcell b1
      have s0 : w1.cell? ⟨w.heap.size + 1, 0, none⟩ = some (.int .u64 lo) := by rw [kc _ _ (by simp)]; simp
      have s1 : w1.cell? ⟨w.heap.size + 1, 1, none⟩ = some (.int .u64 hi) := by rw [kc _ _ (by simp)]; simp
      clear kc kf
      go_wp2_with fail
      refine (CS _).out.mono ?_
      rw [HC.out]
      rintro r w2 ⟨rfl, b2⟩
      go_wp2
      go_ret2
      exact ⟨by rw [HO.out.1, HO.out.2]; rfl, bel_trans bw b2⟩
end Dm
end Go.Proofs.YtnjgolbghcjijaaDoor
