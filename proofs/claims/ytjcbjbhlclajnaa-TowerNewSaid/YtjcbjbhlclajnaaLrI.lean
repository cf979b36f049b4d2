/- leapfrogref09: Initial: contract of the translated code. Conditions: those of each lemma. -/
import Derived.Test.YtjcbjbhlclajnaaLrM
import Derived.Test.YtjcbjbhlclajnaaLyIn
namespace Go.Proofs.Ytjcbjbhlclajnaa
open Go.RowKit Go.Sort
set_option linter.unusedVariables false
set_option linter.unusedSimpArgs false
set_option maxRecDepth 100000
namespace Ly
open Dm (RdK BdU dmB dmE dmN bel_alloc bel_trans cell_lt)
theorem hL_at (t : Nat → Nat) : ∀ (n k : Nat), k < tot t n → ∃ j, j < n ∧ tot t j ≤ k ∧ k < tot t j + t j ∧ (hL t n)[k]? = some ((j + 1 : Nat) : Int)
  | 0, k, h => by simp [tot] at h
  | n + 1, k, h => by
    rw [tot] at h
    rw [hL]
    by_cases hk : k < tot t n
    · obtain ⟨j, h1, h2, h3, h4⟩ := hL_at t n k hk
      exact ⟨j, by omega, h2, h3, by rw [List.getElem?_append_left (by rw [hL_len]; exact hk)]; exact h4⟩
    · refine ⟨n, by omega, by omega, h, ?_⟩
      rw [List.getElem?_append_right (by rw [hL_len]; omega), hL_len, List.getElem?_replicate, if_pos (by omega)]
set_option maxRecDepth 100000 in
set_option maxHeartbeats 4000000 in
theorem initialR_any {w : World} {b : Nat} {g : Ge} (h : RAt w b g) (ok : g.ok) : Calls Try.prog 61 #[.pointer (some ⟨b, 0, none⟩)] w fun e w' =>
    e = .returned (.slice (some ⟨w.heap.size, 0, none⟩) (pW g) (pW g)) ∧ w'.ownsRow w.heap.size 27 1 (.slice (some ⟨w.heap.size, 0, none⟩) (pW g) (pW g)) (pW g) ((ini g).map (Value.int .u64)) ∧ Below w.heap.size w w' := by
  have HINI := Lib.hid (show rowU (sr g 0) (pW g) = (ini g).map (Value.int .u64) by rw [sr_end]; exact rowU_ini g)
  have lt := h.lt
  have H := Lib.hid h
  have c27 : ∃ A c, w.cell? ⟨b, 27, none⟩ = some (.slice A (pW g) c) := by obtain ⟨A, c, h1, _⟩ := h.pr; exact ⟨A, c, h1⟩
  obtain ⟨Ap, cp, c27⟩ := c27
  obtain ⟨Ah, ch, c26, rdh⟩ := h.hr
  have RDH := Lib.hid rdh
  have C5 := Lib.hid (h.pl 5 (by omega))
  have C6 := Lib.hid (h.pl 6 (by omega))
  have hpb := pW_20 ok
  have hpk : pK g = pP g + 6 := by unfold pK pP; omega
  have hpw : pK g + tot g.t 6 ≤ pW g := by unfold pW pT pK; omega
  have htt := ok.tt
  have MT := Lib.hid (sr_top g)
  have HGT := Lib.hid (fun k hk => hL_at g.t 6 k hk)
  obtain ⟨N, hN⟩ : ∃ N, pW g = N := ⟨_, rfl⟩
  obtain ⟨TT, hTT⟩ : ∃ TT, tot g.t 6 = TT := ⟨_, rfl⟩
  have C26 := Lib.hid c26
  rw [hN] at HINI c27 hpb hpw ⊢
  rw [hTT] at hpw htt MT HGT c26 C26
  have hN1 : (N : Int) ≤ 20000 := by omega
  have hT1 : (TT : Int) ≤ 1024 := by omega
  clear h ok rdh hN hTT
  obtain ⟨i0, hi, hz0, hz1, hz2⟩ := info_u
  go_enter Try.func61, Try.ntmps61
  go_upto_region 4 with (at_make; refine wpList_make_full _ rfl _ _ 43 rfl w.heap.size 27 i0 (.int .u64 0) 1 Try.underlying43 hi hz0 hz1 .i64 .i64 _ _ N rfl rfl rfl rfl (by rw [hz2]; omega) (by unfold maxLen; omega) (Nat.le_refl _) ?_; intro w1 hown hgrow)
  rw [madeU_flat] at hown
  have bw1 : Below w.heap.size w w1 := (Below.refl _ w).grown hgrow (Nat.le_refl _) fun g h => by cases h
  have OW1 := Lib.hid (show Rn w1 w.heap.size N (fun _ => 0) from hown)
  have BW1 := Lib.hid bw1
  have x26 := (bw1.cell (p := ⟨b, 26, none⟩) lt).trans c26
  clear hown hgrow bw1 hi hz0 hz1 hz2 c26 c27
  go_wp2_with fail
  go_loopw [4] (fun v wr => ∃ t : Nat, t ≤ TT ∧ v = .int .i64 t ∧ Rn wr w.heap.size N (sr g t) ∧ Below w.heap.size w wr) (fun v _ => (intOf v).toNat)
  case atStart => exact ⟨TT, Nat.le_refl _, rfl, by rw [MT.out]; exact OW1.out, BW1.out⟩
  case round =>
    clear OW1 BW1 x26
    obtain ⟨t, ht, rfl, ow, bel⟩ := hrel
    have OW := Lib.hid ow
    have BE := Lib.hid bel
    have hszr := (World.ownsRow.lt ow w.heap.size rfl).2
    clear ow bel
    by_cases ht0 : 1 ≤ t
    · have d0 : decide ((t : Int) ≥ 1) = true := decide_eq_true (by omega)
      have d0' : decide (1 ≤ t) = true := decide_eq_true (by omega)
      obtain ⟨s, hs⟩ : ∃ s, t = s + 1 := ⟨t - 1, by omega⟩
      obtain ⟨j, hj, h0, h1, hgj⟩ := HGT.out s (by omega)
      have x26 := (BE.out.cell (p := ⟨b, 26, none⟩) lt).trans C26.out
      have x5 : wr.cell? ⟨b, 21, none⟩ = some (.int .i64 (pP g : Nat)) := (BE.out.cell (p := ⟨b, 21, none⟩) lt).trans C5.out
      have x6 : wr.cell? ⟨b, 22, none⟩ = some (.int .i64 (pK g : Nat)) := (BE.out.cell (p := ⟨b, 22, none⟩) lt).trans C6.out
      obtain ⟨gb, go, rfl, ath⟩ := (RDH.out.below BE.out) s _ hgj
      have xk : wr.cell? ⟨gb, go + s, none⟩ = some (.int .i64 ((j + 1 : Nat) : Int)) := by
        have := ath 0 _ rfl
        rw [show KI.sz = 1 from rfl, Nat.mul_one, Nat.add_zero] at this
        exact this
      have SR := Lib.hid (sr_read g hj h0 h1)
      have SS := Lib.hid (sr_step g hj h0 h1)
      rw [← hs] at SR SS
      obtain ⟨PP, hPP⟩ : ∃ PP, pP g = PP := ⟨_, rfl⟩
      obtain ⟨KP, hKP⟩ : ∃ KP, pK g = KP := ⟨_, rfl⟩
      rw [hPP] at x5 SR SS hpk
      rw [hKP] at x6 SS hpk hpw
      obtain ⟨hh, hhh⟩ : ∃ hh, j + 1 = hh := ⟨_, rfl⟩
      rw [hhh] at xk
      obtain ⟨z1, hz1⟩ : ∃ z, KP + t = z := ⟨_, rfl⟩
      obtain ⟨ix, hix⟩ : ∃ z, KP + s = z := ⟨_, rfl⟩
      obtain ⟨z2, hz2⟩ : ∃ z, PP + hh = z := ⟨_, rfl⟩
      obtain ⟨iy, hiy⟩ : ∃ z, PP + j = z := ⟨_, rfl⟩
      rw [hix] at SS
      rw [hiy] at SR SS
      have hs1 : s < TT := by omega
      have s1 : (s : Int) < TT := by omega
      have a1 : IntKind.i64.wrap ((KP : Int) + (t : Int)) = (z1 : Int) := by rw [IntWalk.i64_in _ (by omega)]; omega
      have a2 : IntKind.i64.wrap ((z1 : Int) - 1) = (ix : Int) := by rw [IntWalk.i64_in _ (by omega)]; omega
      have a3 : IntKind.i64.wrap ((PP : Int) + (hh : Int)) = (z2 : Int) := by rw [IntWalk.i64_in _ (by omega)]; omega
      have a4 : IntKind.i64.wrap ((z2 : Int) - 1) = (iy : Int) := by rw [IntWalk.i64_in _ (by omega)]; omega
      have a5 : IntKind.i64.wrap ((t : Int) - 1) = (s : Int) := by rw [IntWalk.i64_in _ (by omega)]; omega
      have a6 : IntKind.u64.wrap (t : Int) = (t : Int) := by
        show (t : Int) % 18446744073709551616 = (t : Int)
        omega
      have hxN : ix < N := by omega
      have hyN : iy < N := by omega
      have hxy : ix ≠ iy := by omega
      have i1 : (ix : Int) < N := by omega
      have i2 : (iy : Int) < N := by omega
      obtain ⟨k0, f0⟩ := OW.out.cell hyN
      obtain ⟨k1, f1⟩ := OW.out.cell hxN
      rw [SR.out] at k0
      obtain ⟨nv, hnv⟩ : ∃ nv, nx g s = nv := ⟨_, rfl⟩
      rw [hnv] at k0 SS
      have HT := Lib.hid (show s + 1 = t by omega)
      have OWD := Lib.hid ((OW.out.below (Om_drew (Below.refl wr.heap.size wr))).set ix ((nv : Nat) : Int))
      have BED := Lib.hid ((Om_drew BE.out).setCell (p := ⟨w.heap.size, ix, none⟩) (Nat.le_refl _) (.int .u64 (nv : Nat)))
      clear hs h0 h1 hgj ath hPP hKP hhh hz1 hix hz2 hiy hnv SR hpk
      go_wp2_with fail
      go_cut [] from 31 to 51 (fun wx => Rn wx w.heap.size N (updN (sr g t) ix ((nv : Nat) : Int)) ∧ Below w.heap.size w wx)
      case first =>
        go_region_law (fail)
        all_goals (go_wp2_with fail)
        all_goals (go_meet)
        all_goals (exact ⟨OWD.out, BED.out⟩)
      case rest =>
        obtain ⟨ow2, be2⟩ := hcut
        have OW2 := Lib.hid ow2
        have BE2 := Lib.hid be2
        have x5 : wc.cell? ⟨b, 21, none⟩ = some (.int .i64 (PP : Nat)) := (be2.cell (p := ⟨b, 21, none⟩) lt).trans ((BE.out.cell (p := ⟨b, 21, none⟩) lt).symm.trans x5)
        obtain ⟨k0, f0⟩ := ow2.cell hyN
        have OW3 := Lib.hid (ow2.set iy ((t : Nat) : Int))
        rw [SS.out] at OW3
        have BE3 := Lib.hid (be2.setCell (p := ⟨w.heap.size, iy, none⟩) (Nat.le_refl _) (.int .u64 (t : Nat)))
        clear ow2 be2 OW2 BE2 OWD BED
        go_wp2_with fail
        go_roundw
        case rel => exact ⟨s, by omega, by first | rfl | rw [a5], OW3.out, BE3.out⟩
        case measure => have := HT.out; simp [intOf]; omega
    · obtain rfl : t = 0 := by omega
      have d0 : decide (((0 : Nat) : Int) ≥ 1) = false := by decide
      go_wp2
      go_ret
      refine ⟨rfl, ?_, BE.out⟩
      rw [← HINI.out]
      exact OW.out
end Ly
end Go.Proofs.Ytjcbjbhlclajnaa
