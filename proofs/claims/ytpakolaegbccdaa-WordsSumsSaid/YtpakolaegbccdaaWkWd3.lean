/- The walk of the law WordsSums, from the contracts of the memory. Conditions: those of the contracts. -/
import Derived.Test.YtpakolaegbccdaaWdF
namespace Go.Proofs.Ytpakolaegbccdaa
open Go.RowKit Go.Sort
set_option linter.unusedVariables false
set_option linter.unusedSimpArgs false
namespace Wk
open Wd
open Dm (addr_lit info_parts spot_none RdK flatU infoU bel_alloc bel_trans own_keep below_drewN)
/-- a memory of one word s -/
structure One (M : Wm) (s : Int) (n : Nat) : Prop where
  w : M.W = [s]
  l : M.L.length = n
theorem One.get {M : Wm} {s : Int} {n : Nat} (h : One M s n) : M.get 0 = s := by unfold Wm.get; rw [h.w]; rfl
theorem One.err {M : Wm} {s : Int} {n : Nat} (h : One M s n) {t : Int} (h0 : 0 ≤ t) (h1 : t < 64) : 0 = M.err t 0 := (Wm.err_ok h0 h1 (Int.le_refl _) (by rw [h.w]; simp)).symm
theorem One.addw {M : Wm} {s : Int} {n : Nat} (h : One M s n) (t d : Int) : One (M.addw t 0 d) ((s + d) % 18446744073709551616) (n + 1) := by
  refine ⟨?_, by unfold Wm.addw Wm.put; simp [h.l]⟩
  show M.W.set 0 (M.sum 0 d) = _
  rw [h.w, Wm.sum, h.get]; rfl
theorem One.load {M : Wm} {s : Int} {n : Nat} (h : One M s n) (t : Int) : One (M.load t 0) s (n + 1) := by
  refine ⟨?_, by unfold Wm.load Wm.put; simp [h.l]⟩
  show M.W.set 0 (M.get 0) = _
  rw [h.w, h.get]; rfl
theorem One.cas {M : Wm} {s : Int} {n : Nat} (h : One M s n) (t o x : Int) (ho : s ≠ o) : One (M.cas t 0 o x) s (n + 1) := by
  unfold Wm.cas
  rw [if_neg (by rw [h.get]; exact ho)]
  refine ⟨?_, by unfold Wm.put; simp [h.l]⟩
  show M.W.set 0 (M.get 0) = _
  rw [h.w, h.get]; rfl
set_option maxRecDepth 100000 in
set_option maxHeartbeats 4000000 in
theorem walk_wordsSums (a0 : Int) (a1 : Option Addr) (a1n a1c : Nat) (a1v : List Int) (w : World) (a0l : 0 ≤ a0) (a0h : a0 ≤ 18446744073709551615) (a1e : a1v.length = a1n) (a1m : a1n ≤ maxLen) (a1r : Dm.RdK .u64 w a1 a1v) (a1b : Dm.BdU a1v) (a1z : a1 = none → a1c = 0) :
    Calls Try.prog 9 #[.int .u64 a0, .slice a1 a1n a1c] w fun e w' => e = .returned (.bool true) ∧ Below w.heap.size w w' := by
  by_cases g2 : 200 < a1n
  · have t2 : decide ((200 : Int) < a1n) = true := decide_eq_true (by omega)
    go_enter Try.func9, Try.ntmps9
    go_wp2
    go_ret
    exact ⟨rfl, Below.refl _ _⟩
  have t2 : decide ((200 : Int) < a1n) = false := decide_eq_false (by omega)
  have rd0 : RdK .u64 (w.alloc (.cells #[.int .u64 a0] 31)) (some ⟨w.heap.size, 0, none⟩) [a0] := fun k hk => ⟨w.heap.size, 0, rfl, by
    have : k = 0 := by simpa using hk
    subst this; simp⟩
  have CN := Lib.hid (new_any (some ⟨w.heap.size, 0, none⟩) 1 1 [a0] _ rfl (by unfold maxLen; omega) rd0 (fun x hx => by have := List.mem_singleton.1 hx; omega))
  have B0 : Below w.heap.size w (w.alloc (.cells #[.int .u64 a0] 31)) := bel_alloc (Below.refl _ _) _
  have HR := Lib.hid a1r
  have HD := Lib.hid a1b
  have HN := Lib.hid a1e
  clear a1r a1b a1e rd0
  go_enter Try.func9, Try.ntmps9
  go_wp2_with fail
  refine CN.out.mono ?_
  rintro r w1 (⟨he, _⟩ | ⟨_, b, p, rfl, ha, hbs, hps, b1⟩)
  · exact absurd (show newE 1 = 0 from rfl) he
  have B1 := Lib.hid (B0.trans (b1.mono B0.size))
  have hbs : w.heap.size ≤ b := Nat.le_trans B0.size hbs
  have hps : w.heap.size ≤ p := Nat.le_trans B0.size hps
  have HA := Lib.hid ha
  clear ha b1 B0 CN
  go_wp2
  go_loopw [7, 8] (fun s i wr => ∃ (j : Nat) (S : Int) (M : Wm) (q : Option Nat), j ≤ a1n ∧ s = .int .u64 S ∧ i = .int .i64 j ∧ One M S (3 * j) ∧ At 75 wr b p q M ∧ (∀ g, q = some g → w.heap.size ≤ g) ∧ 0 ≤ S ∧ S ≤ 18446744073709551615 ∧ Below w.heap.size w wr) (fun _ i _ => (a1n - intOf i).toNat)
  case atStart => exact ⟨0, a0, ⟨[a0], []⟩, none, Nat.zero_le _, rfl, rfl, ⟨rfl, rfl⟩, HA.out, (fun g h => by cases h), a0l, a0h, B1.out⟩
  case round =>
    clear HA B1
    obtain ⟨j, S, M, q, hj, rfl, rfl, h1, ha, hq, s0, s1, bel⟩ := hrel
    by_cases hlt : j < a1n
    · obtain ⟨ab, ao, ea, ca⟩ := HR.out j (by rw [HN.out]; exact hlt)
      subst ea
      have alt := Dm.cell_lt ca
      obtain ⟨d0, d1⟩ := HD.out j (by rw [HN.out]; exact hlt)
      obtain ⟨d, hd⟩ : ∃ d, a1v.getD j 0 = d := ⟨_, rfl⟩
      rw [hd] at ca d0 d1
      have ca1 := (bel.cell (p := ⟨ab, ao + j, none⟩) alt).trans ca
      have hsz := bel.size
      obtain ⟨S', hS'⟩ : ∃ S', (S + d) % 18446744073709551616 = S' := ⟨_, rfl⟩
      have hw1 : IntKind.u64.wrap (S + d) = S' := by rw [IntKind.wrap_u64]; exact hS'
      obtain ⟨S2, hS2⟩ : ∃ S2, IntKind.u64.wrap (S' + 1) = S2 := ⟨_, rfl⟩
      have hne : S' ≠ S2 := by rw [← hS2, IntKind.wrap_u64]; omega
      have t64 : 0 ≤ (j : Int) % 64 ∧ (j : Int) % 64 < 64 := by omega
      have m1 := h1.addw ((j : Int) % 64) d
      rw [hS'] at m1
      have m2 := m1.cas 0 S2 7 hne
      have m3 := m2.load 1
      have C1 := Lib.hid (addZ b p q M ((j : Int) % 64) 0 d S' 0 wr ha (by have := h1.l; omega) d0 d1 (h1.err t64.1 t64.2) (by rw [← h1.err t64.1 t64.2, if_pos rfl, Wm.sum, h1.get]; exact hS'.symm))
      have HO : ∀ i, Of b p q i → w.heap.size ≤ i := fun i hi => by
        rcases hi with e | e | e
        · omega
        · omega
        · exact hq i e
      have hjl : (j : Int) < a1n := by omega
      have M1 := Lib.hid m1
      have M2 := Lib.hid m2
      have M3 := Lib.hid m3
      have lm := h1.l
      generalize hm1 : M.addw ((j : Int) % 64) 0 d = N1 at *
      generalize hm2 : N1.cas 0 0 S2 7 = N2 at *
      generalize hm3 : N2.load 1 0 = N3 at *
      have s0' : 0 ≤ S' := by omega
      have s1' : S' ≤ 18446744073709551615 := by omega
      clear ha m1 m2 m3 h1 hS' hm1
      go_wp2_with fail
      refine C1.out.mono ?_
      rintro r w2 ⟨rfl, hat⟩
      rw [Wm.after_zero] at hat
      obtain ⟨qa, h2, O2, b2⟩ := after_own HO hsz hat
      have B2 := bel.trans b2
      have ca2 := (B2.cell (p := ⟨ab, ao + j, none⟩) alt).trans ca
      have C2 := Lib.hid (casZ b p qa N1 0 0 S2 7 false 0 w2 h2 (by have := M1.out.l; omega) (by omega) (by omega) (M1.out.err (by omega) (by omega)) (by rw [← M1.out.err (t := 0) (by omega) (by omega), M1.out.get]; simp [hne]))
      have hsz2 := B2.size
      clear hat h2 ca1 C1
      go_wp2_with fail
      rw [hm2] at C2
      refine C2.out.mono ?_
      rintro r w3 ⟨rfl, hat⟩
      rw [Wm.after_zero] at hat
      obtain ⟨qb, h3, O3, b3⟩ := after_own O2 hsz2 hat
      have B3 := B2.trans b3
      have hsz3 := B3.size
      have C3 := Lib.hid (loadZ b p qb N2 1 0 S' 0 w3 h3 (by have := M2.out.l; omega) (M2.out.err (by omega) (by omega)) (by rw [← M2.out.err (t := 1) (by omega) (by omega), if_pos rfl, M2.out.get]))
      clear hat h3 ca2 C2
      go_wp2_with fail
      rw [hm3] at C3
      refine C3.out.mono ?_
      rintro r w4 ⟨rfl, hat⟩
      rw [Wm.after_zero] at hat
      obtain ⟨qc, h4, O4, b4⟩ := after_own O3 hsz3 hat
      have B4 := Lib.hid (B3.trans b4)
      have H4 := Lib.hid h4
      have HO4 := Lib.hid O4
      have M3' := Lib.hid (show One N3 S' (3 * (j + 1)) from by have := M3.out; rw [show 3 * j + 1 + 1 + 1 = 3 * (j + 1) by omega] at this; exact this)
      clear hat h4 C3 b2 b3 b4 B2 B3 O2 O3 O4 hm2 hm3 hne hd
      go_wp2
      go_roundw
      case rel => exact ⟨j + 1, S', N3, qc, by omega, rfl, by go_num, M3'.out, H4.out, fun g hg => HO4.out g (.inr (.inr hg)), s0', s1', B4.out⟩
      case measure => simp [intOf]; omega
    · obtain rfl : j = a1n := by omega
      have CP := peek_any b p q M 0 wr ha
      have CL := len_any b p q M wr ha
      unfold peekT at CP
      have hin : (0 : Int) ≤ 0 ∧ (0 : Int) < M.W.length := by rw [h1.w]; simp
      rw [if_pos hin, decide_eq_true hin, h1.get] at CP
      rw [h1.l] at CL
      have CPh := Lib.hid CP
      have CLh := Lib.hid CL
      clear CP CL ha h1 hin
      have e3 : wrap64 ((3 : Int) * j) = ((3 * j : Nat) : Int) := by rw [IntWalk.wrap64_in _ (by omega)]; omega
      go_wp2_with fail
      refine CPh.out.mono ?_
      rintro r w2 ⟨rfl, rfl⟩
      go_wp2_with fail
      refine CLh.out.mono ?_
      rintro r w2 ⟨rfl, rfl⟩
      go_wp2
      go_ret
      exact ⟨rfl, bel⟩
end Wk
end Go.Proofs.Ytpakolaegbccdaa
