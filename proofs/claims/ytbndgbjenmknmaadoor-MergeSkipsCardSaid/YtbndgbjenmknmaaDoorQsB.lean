/- sort.insertionSort_func over a row of candidates, 'less' a bound method: contract of the translated code. Conditions: at most 64 candidates. -/
import Derived.Test.YtbndgbjenmknmaaDoorQsA
namespace Go.Proofs.YtbndgbjenmknmaaDoor
open Go.RowKit Go.Sort Go.Shelf Go.Lib
set_option linter.unusedVariables false
set_option linter.unusedSimpArgs false
namespace Hq
open Om (bel_alloc below_drewN)
theorem sw3_far {W : World} {g i j k : Nat} {x y : Cd} (hk : k ≠ g) (o : Nat) : (sw3 W g i j x y).cell? ⟨k, o, none⟩ = W.cell? ⟨k, o, none⟩ := by
  unfold sw3
  rw [World.cell?_setCells_out g _ _ _ _ (fun e _ => absurd e hk), World.cell?_setCells_out g _ _ _ _ (fun e _ => absurd e hk)]
theorem sw3_farf {W : World} {g i j k : Nat} {x y : Cd} (o : Nat) : (sw3 W g i j x y).frozen? ⟨k, o, none⟩ = W.frozen? ⟨k, o, none⟩ := by
  unfold sw3
  rw [World.frozen?_setCells, World.frozen?_setCells]
def SoP (w : World) (g n a b : Nat) (f : Nat → Cd) (P : (Nat → Cd) → Prop) (e : Ending) (w' : World) : Prop := e = .returned (.tuple #[]) ∧ ∃ f', Sws a b f f' ∧ P f' ∧ Rw w g n f' w'
/-- ascending on [a, i] but for what lies at j -/
def But (a i j : Nat) (f : Nat → Cd) : Prop := ∀ p q, a ≤ p → p < q → q ≤ i → q ≠ j → (f p).k ≤ (f q).k
theorem But.start {a i : Nat} {f : Nat → Cd} (h : Srt a i f) : But a i i f := fun p q h1 h2 h3 h4 => h p q h1 h2 (by omega)
theorem But.done {a i j : Nat} {f : Nat → Cd} (h : But a i j f) (hj : j ≤ i) (hd : j = a ∨ a < j ∧ (f (j - 1)).k ≤ (f j).k) : Srt a (i + 1) f := fun p q h1 h2 h3 => by
  by_cases e : q = j
  · subst e
    rcases hd with hd | ⟨hd, hle⟩
    · omega
    · by_cases e2 : p = q - 1
      · subst e2; exact hle
      · exact Int.le_trans (h p (q - 1) h1 (by omega) (by omega) (by omega)) hle
  · exact h p q h1 h2 (by omega) e
theorem But.step {a i m : Nat} {f : Nat → Cd} (h : But a i (m + 1) f) (ha : a ≤ m) (hi : m + 1 ≤ i) (hl : (f (m + 1)).k < (f m).k) : But a i m (Hp.sw f (m + 1) m) := fun p q h1 h2 h3 h4 => by
  by_cases e : q = m + 1
  · rw [e, Hp.sw_l]
    by_cases e2 : p = m
    · rw [e2, Hp.sw_r]; omega
    · rw [Hp.sw_o _ (by omega) e2]; exact h p m h1 (by omega) (by omega) (by omega)
  · rw [Hp.sw_o _ e h4]
    by_cases e2 : p = m + 1
    · rw [e2, Hp.sw_l]; exact h m q ha (by omega) h3 e
    · by_cases e3 : p = m
      · rw [e3, Hp.sw_r]; exact h (m + 1) q (by omega) (by omega) h3 e
      · rw [Hp.sw_o _ e2 e3]; exact h p q h1 h2 h3 e
set_option maxRecDepth 100000 in
set_option maxHeartbeats 2000000 in
theorem insS_any (g n c a b sf : Nat) (sb : Array Value) (f : Nat → Cd) (w : World) (h : Rw w g n f w) (hs : Swp sf sb g n) (hn : n ≤ 64) (hab : a ≤ b) (hb : b ≤ n) :
    Calls Tryd.prog 66 #[.agg #[lsV g n c, swV sf sb], .int .i64 a, .int .i64 b] w fun e w' => SoP w g n a b f (Srt a b) e w' := by
  have HS := Lib.hid hs
  have H := Lib.hid h
  have hg := h.1
  have H1 := fun o => Lib.hid (h.alloc o)
  clear h hs
  have hls : lsV g n c = .func (.func 32) #[.slice (some ⟨g, 0, none⟩) n c] #[] := rfl
  have hsw : swV sf sb = .func (.func sf) #[] sb := rfl
  rw [hls, hsw]
  clear hls hsw
  go_enter Tryd.func66, Tryd.ntmps66
  go_wp2
  go_loopw [6] (fun s wr => ∃ (i : Nat) (f' : Nat → Cd), s = .int .i64 i ∧ a + 1 ≤ i ∧ i ≤ 65 ∧ (i ≤ b ∨ i = a + 1) ∧ Rw w g n f' wr ∧ Sws a b f f' ∧ Srt a i f' ∧ wr.cell? ⟨w.heap.size, 0, none⟩ = some (.func (.func 32) #[.slice (some ⟨g, 0, none⟩) n c] #[]) ∧ wr.cell? ⟨w.heap.size, 1, none⟩ = some (.func (.func sf) #[] sb)) (fun s _ => (65 - intOf s).toNat)
  case atStart => exact ⟨a + 1, f, by congr 1, Nat.le_refl _, by omega, .inr rfl, (H1 _).out, .refl, fun p q h1 h2 h3 => by omega, by simp, by simp⟩
  case round =>
    obtain ⟨i, f', rfl, hi1, hi2, hi3, hrw, hsws, hsrt, k0, k1⟩ := hrel
    have HR := Lib.hid hrw
    have HW := Lib.hid hsws
    have HT := Lib.hid hsrt
    clear hrw hsws hsrt
    by_cases hib : i < b
    · have t0 : decide ((i : Int) < (b : Int)) = true := decide_eq_true (by omega)
      go_wp2
      obtain ⟨wo, rfl⟩ : ∃ wo : World, wo = wr := ⟨_, rfl⟩
      go_loopw [7] (fun s wr => ∃ (j : Nat) (f' : Nat → Cd), s = .int .i64 j ∧ a ≤ j ∧ j ≤ i ∧ Rw w g n f' wr ∧ Sws a b f f' ∧ But a i j f' ∧ wr.cell? ⟨w.heap.size, 0, none⟩ = some (.func (.func 32) #[.slice (some ⟨g, 0, none⟩) n c] #[]) ∧ wr.cell? ⟨w.heap.size, 1, none⟩ = some (.func (.func sf) #[] sb)) (fun s _ => (intOf s).toNat)
      case atStart => exact ⟨i, f', rfl, by omega, Nat.le_refl _, HR.out, HW.out, But.start HT.out, k0, k1⟩
      case round =>
        clear k0 k1 HR HW HT
        obtain ⟨j, f', rfl, hj1, hj2, hrw, hsws, hbut, k0, k1⟩ := hrel
        have HR := Lib.hid hrw
        have HW := Lib.hid hsws
        have HT := Lib.hid hbut
        clear hrw hsws hbut
        by_cases hja : a < j
        · obtain ⟨m, rfl⟩ : ∃ m, j = m + 1 := ⟨j - 1, by omega⟩
          have t1 : decide ((a : Int) < (m : Int) + 1) = true := decide_eq_true (by omega)
          have CL := HR.out.less (c := c) hn (i := m + 1) (j := m) (by omega) (by omega)
          rw [show ((m + 1 : Nat) : Int) = (m : Int) + 1 by omega] at CL
          by_cases hlt : (f' (m + 1)).k < (f' m).k
          · rw [decide_eq_true hlt] at CL
            have CL := Lib.hid CL
            have NX := Lib.hid (HT.out.step (by omega) (by omega) hlt)
            clear hlt
            go_wp2_with fail
            refine CL.out.mono ?_
            rintro r w1 ⟨rfl, d, rfl⟩
            have hrw := HR.out.drewN d
            obtain ⟨es, hr2⟩ := hrw.swap HS.out (i := m + 1) (j := m) (by omega) (by omega)
            rw [show ((m + 1 : Nat) : Int) = (m : Int) + 1 by omega] at es
            have k0 : (sw3 (wr.drewN d) g (m + 1) m (f' (m + 1)) (f' m)).cell? ⟨w.heap.size, 0, none⟩ = some (.func (.func 32) #[.slice (some ⟨g, 0, none⟩) n c] #[]) := (sw3_far (by omega) 0).trans k0
            have k1 : (sw3 (wr.drewN d) g (m + 1) m (f' (m + 1)) (f' m)).cell? ⟨w.heap.size, 1, none⟩ = some (.func (.func sf) #[] sb) := (sw3_far (by omega) 1).trans k1
            have HR2 := Lib.hid hr2
            clear hrw hr2 CL
            generalize sw3 (wr.drewN d) g (m + 1) m (f' (m + 1)) (f' m) = w2 at *
            go_wp2
            go_roundw
            case rel => exact ⟨m, _, rfl, by omega, by omega, HR2.out, HW.out.step (by omega) (by omega) (by omega) (by omega), NX.out, k0, k1⟩
            case measure => simp [intOf]
          · rw [decide_eq_false hlt] at CL
            have CL := Lib.hid CL
            have NX := Lib.hid (HT.out.done hj2 (.inr ⟨hja, Int.not_lt.1 hlt⟩))
            clear hlt
            go_wp2_with fail
            refine CL.out.mono ?_
            rintro r w1 ⟨rfl, d, rfl⟩
            have HR2 := Lib.hid (HR.out.drewN d)
            clear CL
            go_wp2
            go_roundw
            case rel => exact ⟨i + 1, f', by go_num, by omega, by omega, .inl (by omega), HR2.out, HW.out, NX.out, k0, k1⟩
            case measure => simp [intOf]; omega
        · have t1 : decide ((a : Int) < (j : Int)) = false := decide_eq_false (by omega)
          go_wp2
          go_roundw
          case rel => exact ⟨i + 1, f', by go_num, by omega, by omega, .inl (by omega), HR.out, HW.out, HT.out.done hj2 (.inl (by omega)), k0, k1⟩
          case measure => simp [intOf]; omega
    · have t0 : decide ((i : Int) < (b : Int)) = false := decide_eq_false (by omega)
      go_wp2
      go_end0
      refine ⟨rfl, f', HW.out, fun p q h1 h2 h3 => ?_, HR.out⟩
      exact HT.out p q h1 h2 (by omega)
end Hq
end Go.Proofs.YtbndgbjenmknmaaDoor
