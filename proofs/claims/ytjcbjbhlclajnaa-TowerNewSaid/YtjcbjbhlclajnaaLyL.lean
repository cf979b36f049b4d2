/- Package layout: Word, node, Next, Latch, Of: contracts of the translated code. No conditions beside those of each lemma. -/
import Derived.Test.YtjcbjbhlclajnaaLyK
namespace Go.Proofs.Ytjcbjbhlclajnaa
open Go.RowKit Go.Sort
set_option linter.unusedVariables false
set_option linter.unusedSimpArgs false
set_option maxRecDepth 100000
namespace Ly
open Dm (RdK BdU dmB dmE dmN bel_alloc bel_trans cell_lt)
theorem at_x (k : Int) (i n s f j : Nat) (x : Int) (w : World) (hx : x = ((i + j : Nat) : Int)) (hb : i + j ≤ 100000) (hs : j * s ≤ 100000) (hf : f ≤ 100000) : Calls Try.prog 58 #[.agg #[.int .u8 k, .int .i64 (i : Nat), .int .i64 (n : Nat), .int .i64 (s : Nat), .int .i64 (f : Nat)], .int .i64 x] w fun e w' =>
    e = .returned (.int .i64 ((f + j * s : Nat) : Int)) ∧ Below w.heap.size w w' := by subst hx; exact at_any k i n s f j w hb hs hf
/-- Word -/
def wdO (g : Ge) (x u : Int) : Option Nat := if 0 ≤ u ∧ u ≤ 4 then ad g 9 x u else none
theorem ad9 (g : Ge) {i y I N S F u : Nat} (hi : i < 6) (hy : y < N) (eI : I = 1 + tot g.t i) (eN : N = g.t i) (eS : S = 6 + i) (eF : F = pT g + wds g.t i) (hu : u < S) : ad g 9 ((I + y : Nat) : Int) (u : Int) = some (F + y * S + u) := by
  subst eI eN eS eF
  exact ad_tower g hi hy hu
theorem ad9_none (g : Ge) {x : Int} (h : ∀ i, i < 6 → ¬ InT g x i) (u : Int) : ad g 9 x u = none := ad_tower_none g fun i hi hin => absurd hin (h i hi)
theorem ad9_high (g : Ge) {i y I N S F : Nat} {u : Int} (hi : i < 6) (hy : y < N) (eI : I = 1 + tot g.t i) (eN : N = g.t i) (eS : S = 6 + i) (hu : (S : Int) ≤ u) : ad g 9 ((I + y : Nat) : Int) u = none := ad_tower_none g fun i' hi' hin => by
  right
  have : i' = i := in_uniq g.t hin ⟨by omega, by omega⟩
  subst this; omega
theorem words_bnd {g : Ge} (ok : g.ok) {i y I N S F : Nat} (hi : i < 6) (hy : y < N) (eI : I = 1 + tot g.t i) (eN : N = g.t i) (eS : S = 6 + i) (eF : F = pT g + wds g.t i) : I + y ≤ 1024 ∧ y * S ≤ 12000 ∧ F ≤ 14000 := by
  have h1 := tot_le g.t (i := i) (j := 6) hi
  have h2 := wds_tot g.t 6 (Nat.le_refl _)
  have h3 := wds_le g.t (i := i) (j := 6) hi
  have h4 : y * S ≤ g.t i * (6 + i) := by subst eS; exact Nat.mul_le_mul_right _ (by omega)
  have := ok.tt
  have := ok.s2
  have := ok.e2
  have := ok.l2
  have := ok.d2
  simp only [pT] at eF
  refine ⟨by omega, by omega, by omega⟩
theorem word_any {w : World} {b : Nat} {f : Cf} {l : List Int} {g : Ge} (h : LyAt w b f l g) (ok : g.ok) (x u : Int) : Calls Try.prog 28 #[.pointer (some ⟨b, 0, none⟩), .int .i64 x, .int .i64 u] w fun e w' => e = .returned (resp (wdO g x u)) ∧ Below w.heap.size w w' := by
  have C := Lib.hid (peers_x h ok x)
  have CW := fun W => Lib.hid (within_any u 0 4 W)
  clear h
  go_enter Try.func28, Try.ntmps28
  go_wp2_with fail
  refine C.out.mono ?_
  rintro r w1 ⟨⟨i, y, I, N, S, F, hi, hy, hx, eI, eN, eS, eF, rfl⟩ | ⟨hno, rfl⟩, b1⟩
  · have hb := words_bnd ok hi hy eI eN eS eF
    by_cases hu : 0 ≤ u ∧ u ≤ 4
    · obtain ⟨v, rfl⟩ : ∃ v : Nat, u = v := ⟨u.toNat, by omega⟩
      have HV := Lib.hid (show wdO g x (v : Int) = some (F + y * S + v) by rw [wdO, if_pos hu, hx]; exact ad9 g hi hy eI eN eS eF (by omega))
      have hbw : (decide ((0 : Int) ≤ (v : Int)) && decide ((v : Int) ≤ 4)) = true := by rw [decide_eq_true hu.1, decide_eq_true hu.2]; rfl
      rw [hbw] at CW
      have AT := fun W => Lib.hid (at_x 9 I N S F y x W hx (by omega) (by omega) (by omega))
      obtain ⟨q, hq⟩ : ∃ q, F + y * S = q := ⟨_, rfl⟩
      rw [hq] at HV
      simp only [hq] at AT
      have hv4 : (v : Int) ≤ 4 := hu.2
      have hq2 : (q : Int) ≤ 26000 := by omega
      clear C hx eI eN eS eF hu hbw hb hq hy
      go_wp2_with fail
      refine (CW _).out.mono ?_
      rintro r w2 ⟨rfl, rfl⟩
      go_wp2_with fail
      refine (AT _).out.mono ?_
      rintro r w2 ⟨rfl, b2⟩
      have B2 := Lib.hid (bel_trans (bel_trans b1 (bel_alloc (Below.refl _ _) _)) b2)
      clear b2
      go_wp2
      go_ret2
      exact ⟨by rw [HV.out]; simp [resp], B2.out⟩
    · have HV := Lib.hid (show wdO g x u = none by rw [wdO, if_neg hu])
      have hbw : (decide ((0 : Int) ≤ u) && decide (u ≤ 4)) = false := by rw [Bool.and_eq_false_iff, decide_eq_false_iff_not, decide_eq_false_iff_not]; omega
      rw [hbw] at CW
      clear C hx eI eN eS eF hu hbw hb hy
      go_wp2_with fail
      refine (CW _).out.mono ?_
      rintro r w2 ⟨rfl, rfl⟩
      go_wp2
      go_ret2
      exact ⟨by rw [HV.out]; rfl, bel_trans b1 (bel_alloc (Below.refl _ _) _)⟩
  · have HV := Lib.hid (show wdO g x u = none by rw [wdO]; split; exact ad9_none g hno u; rfl)
    clear C CW hno
    go_wp2
    go_ret2
    exact ⟨by rw [HV.out]; rfl, bel_trans b1 (bel_alloc (Below.refl _ _) _)⟩
/-- what node leaves -/
def NodePost (g : Ge) (r : Int) (w : World) (e : Ending) (w' : World) : Prop :=
  ((∃ v A : Nat, v < g.D ∧ r = -1 - (v : Int) ∧ A = pH g + 7 * v ∧ e = .returned (.tuple #[.agg #[.int .i64 (A : Nat), .int .i64 ((A : Int) + 1), .int .i64 6], .int .i64 0])) ∨
   (∃ i y I N S F A : Nat, i < 6 ∧ y < N ∧ r = ((I + y : Nat) : Int) ∧ I = 1 + tot g.t i ∧ N = g.t i ∧ S = 6 + i ∧ F = pT g + wds g.t i ∧ A = F + y * S ∧ e = .returned (.tuple #[.agg #[.int .i64 ((A : Int) + 3), .int .i64 ((A : Int) + 5), .int .i64 ((i : Int) + 1)], .int .i64 0])) ∨
   ((∀ i, i < 6 → ¬ InT g r i) ∧ ¬ (r ≤ -1 ∧ -1 - r < (g.D : Int)) ∧ e = .returned (.tuple #[.agg #[.int .i64 0, .int .i64 0, .int .i64 0], .int .i64 3]))) ∧ Below w.heap.size w w'
set_option maxRecDepth 100000 in
set_option maxHeartbeats 4000000 in
theorem node_any {w : World} {b : Nat} {f : Cf} {l : List Int} {g : Ge} (h : LyAt w b f l g) (ok : g.ok) (r : Int) (hr : I64 r) : Calls Try.prog 54 #[.pointer (some ⟨b, 0, none⟩), .int .i64 r] w (NodePost g r w) := by
  have H := Lib.hid h
  have HK := Lib.hid ok
  have C := fun W (hb : Below w.heap.size w W) => Lib.hid (peers_x (h.below hb) ok r)
  have lt := h.lt
  have c0 : w.cell? ⟨b, 32, none⟩ = some (.int .u8 8) := h.hd 0 _ rfl
  have c1 : w.cell? ⟨b, 33, none⟩ = some (.int .i64 0) := h.hd 1 _ rfl
  have c2 : w.cell? ⟨b, 34, none⟩ = some (.int .i64 (g.D : Nat)) := h.hd 2 _ rfl
  have c3 : w.cell? ⟨b, 35, none⟩ = some (.int .i64 7) := h.hd 3 _ rfl
  have c4 : w.cell? ⟨b, 36, none⟩ = some (.int .i64 (pH g : Nat)) := h.hd 4 _ rfl
  have hD := ok.d2
  have hH : pH g ≤ 14000 := by have := ok.tt; have := ok.s2; have := ok.e2; have := ok.l2; simp only [pH]; omega
  obtain ⟨r0, r1⟩ := hr
  clear h ok
  by_cases hv : r ≤ -1 ∧ -1 - r < (g.D : Int)
  · obtain ⟨v, hv2⟩ : ∃ v : Nat, -1 - r = v := ⟨(-1 - r).toNat, by omega⟩
    have HAS := fun W => Lib.hid (has_any 8 0 g.D 7 (pH g) (v : Int) W (by omega))
    have hb : (decide (((0 : Nat) : Int) ≤ (v : Int)) && decide ((v : Int) < ((0 + g.D : Nat) : Int))) = true := by rw [decide_eq_true (by omega), decide_eq_true (by omega)]; rfl
    rw [hb] at HAS
    have AT := fun W => Lib.hid (at_x 8 0 g.D 7 (pH g) v (v : Int) W (by omega) (by omega) (by omega) (by omega))
    obtain ⟨A, hA⟩ : ∃ A, pH g + v * 7 = A := ⟨_, rfl⟩
    simp only [hA] at AT
    have hA2 : (A : Int) ≤ 20000 := by omega
    have HFin := Lib.hid (show v < g.D ∧ r = -1 - (v : Int) ∧ A = pH g + 7 * v by omega)
    clear hb hA hv C
    go_enter Try.func54, Try.ntmps54
    go_wp2_with fail
    refine (HAS _).out.mono ?_
    rintro q w2 ⟨rfl, b2⟩
    have hz1 : (w.alloc (.cells #[.int .i64 0, .int .i64 0, .int .i64 0] 143)).heap.size = w.heap.size + 1 := World.size_alloc _ _
    rw [hz1] at b2
    have BW := bel_alloc (Below.refl w.heap.size w) (.cells #[.int .i64 0, .int .i64 0, .int .i64 0] 143)
    have B2 := Lib.hid (BW.trans (b2.mono (Nat.le_succ _)))
    have BX := Lib.hid b2
    clear c0 c1 c2 c3 c4 b2 BW
    have h' := H.out.below B2.out
    have c0 : w2.cell? ⟨b, 32, none⟩ = some (.int .u8 8) := h'.hd 0 _ rfl
    have c1 : w2.cell? ⟨b, 33, none⟩ = some (.int .i64 0) := h'.hd 1 _ rfl
    have c2 : w2.cell? ⟨b, 34, none⟩ = some (.int .i64 (g.D : Nat)) := h'.hd 2 _ rfl
    have c3 : w2.cell? ⟨b, 35, none⟩ = some (.int .i64 7) := h'.hd 3 _ rfl
    have c4 : w2.cell? ⟨b, 36, none⟩ = some (.int .i64 (pH g : Nat)) := h'.hd 4 _ rfl
    clear h'
    have lt2 : b < w2.heap.size := by have := B2.out.size; omega
    go_wp2_with fail
    refine (AT _).out.mono ?_
    rintro q w3 ⟨rfl, b3⟩
    have B3 := Lib.hid (bel_trans B2.out b3)
    have b3' := BX.out.trans (b3.mono (by have := BX.out.size; rw [hz1] at this; exact this))
    rw [hz1] at *
    clear c0 c1 c2 c3 c4
    have kr_ := (b3'.block w.heap.size (by omega)).trans (heap_new w (.cells #[.int .i64 0, .int .i64 0, .int .i64 0] 143))
    have r0 := cell_of (j := 0) kr_ rfl
    have r1' := cell_of (j := 1) kr_ rfl
    have r2 := cell_of (j := 2) kr_ rfl
    have fr : ∀ j, w3.frozen? ⟨w.heap.size, j, none⟩ = false := fun j => by simp [World.frozen?, kr_]
    have fr0 := fr 0
    have fr1 := fr 1
    have fr2 := fr 2
    clear fr kr_
    clear b3 b3' BX
    go_wp2
    refine bodyPost_ret (v := .tuple #[.agg #[.int .i64 (A : Nat), .int .i64 ((A : Int) + 1), .int .i64 6], .int .i64 0]) ?_ rfl ⟨.inl ⟨v, A, HFin.out.1, HFin.out.2.1, HFin.out.2.2, rfl⟩, ?_⟩
    · simp [results, Try.results54, go_sem, r0, r1', r2]
    · exact ((B3.out.setCell (p := ⟨w.heap.size, 0, none⟩) (Nat.le_refl _) _).setCell (p := ⟨w.heap.size, 1, none⟩) (Nat.le_refl _) _).setCell (p := ⟨w.heap.size, 2, none⟩) (Nat.le_refl _) _
  · obtain ⟨z, hz⟩ : ∃ z, -1 - r = z := ⟨_, rfl⟩
    have HAS := fun W => Lib.hid (has_any 8 0 g.D 7 (pH g) z W (by omega))
    have hb : (decide (((0 : Nat) : Int) ≤ z) && decide (z < ((0 + g.D : Nat) : Int))) = false := by rw [Bool.and_eq_false_iff, decide_eq_false_iff_not, decide_eq_false_iff_not]; omega
    rw [hb] at HAS
    have HNo := Lib.hid hv
    clear hb hv
    go_enter Try.func54, Try.ntmps54
    go_wp2_with fail
    refine (HAS _).out.mono ?_
    rintro q w2 ⟨rfl, b2⟩
    have hz1 : (w.alloc (.cells #[.int .i64 0, .int .i64 0, .int .i64 0] 143)).heap.size = w.heap.size + 1 := World.size_alloc _ _
    rw [hz1] at b2
    have BW := bel_alloc (Below.refl w.heap.size w) (.cells #[.int .i64 0, .int .i64 0, .int .i64 0] 143)
    have B2 := Lib.hid (BW.trans (b2.mono (Nat.le_succ _)))
    have BX := Lib.hid b2
    have hs2 : w.heap.size + 1 ≤ w2.heap.size := by have := BX.out.size; rw [hz1] at this; exact this
    clear c0 c1 c2 c3 c4 b2 BW
    go_wp2_with fail
    refine (C _ B2.out).out.mono ?_
    rintro q w3 ⟨⟨i, y, I, N, S, F, hi, hy, hx, eI, eN, eS, eF, rfl⟩ | ⟨hno, rfl⟩, b3⟩
    · have hbd := words_bnd HK.out hi hy eI eN eS eF
      have B3 := Lib.hid (bel_trans B2.out b3)
      have BX3 := Lib.hid (BX.out.trans (b3.mono hs2))
      have hs3 : w.heap.size + 1 ≤ w3.heap.size := Nat.le_trans hs2 b3.size
      have AT := fun W => Lib.hid (at_x 9 I N S F y r W hx (by omega) (by omega) (by omega))
      obtain ⟨A, hA⟩ : ∃ A, F + y * S = A := ⟨_, rfl⟩
      simp only [hA] at AT
      have HFin := Lib.hid (show i < 6 ∧ y < N ∧ r = ((I + y : Nat) : Int) ∧ I = 1 + tot g.t i ∧ N = g.t i ∧ S = 6 + i ∧ F = pT g + wds g.t i ∧ A = F + y * S from ⟨hi, hy, hx, eI, eN, eS, eF, hA.symm⟩)
      have hA2 : (A : Int) ≤ 30000 := by omega
      have hi6 : (i : Int) < 6 := by omega
      have HSI := Lib.hid (show (S : Int) - 5 = (i : Int) + 1 by omega)
      have hS1 : (S : Int) ≤ 12 := by omega
      have hS2 : 6 ≤ (S : Int) := by omega
      clear C hA b3 hx eI eN eF hbd hy eS
      go_wp2_with fail
      refine (AT _).out.mono ?_
      rintro q w4 ⟨rfl, b4⟩
      have b4' := b4.mono (show w3.heap.size ≤ _ from by rw [World.size_alloc]; omega)
      have B34 := (bel_alloc (Below.refl w3.heap.size w3) (.cells #[.int .u8 9, .int .i64 (I : Nat), .int .i64 (N : Nat), .int .i64 (S : Nat), .int .i64 (F : Nat)] 138)).trans b4'
      have B4 := Lib.hid (B3.out.trans (B34.mono (Nat.le_trans (Nat.le_succ _) hs3)))
      have bx4 := BX3.out.trans (B34.mono hs3)
      have kg := (b4.block w3.heap.size (by rw [World.size_alloc]; omega)).trans (heap_new w3 (.cells #[.int .u8 9, .int .i64 (I : Nat), .int .i64 (N : Nat), .int .i64 (S : Nat), .int .i64 (F : Nat)] 138))
      have q0 := cell_of (j := 0) kg rfl
      have q1 := cell_of (j := 1) kg rfl
      have q2 := cell_of (j := 2) kg rfl
      have q3 := cell_of (j := 3) kg rfl
      have q4 := cell_of (j := 4) kg rfl
      have kr_ := (bx4.block w.heap.size (by omega)).trans (heap_new w (.cells #[.int .i64 0, .int .i64 0, .int .i64 0] 143))
      have r0 := cell_of (j := 0) kr_ rfl
      have r1' := cell_of (j := 1) kr_ rfl
      have r2 := cell_of (j := 2) kr_ rfl
      have fr : ∀ j, w4.frozen? ⟨w.heap.size, j, none⟩ = false := fun j => by simp [World.frozen?, kr_]
      have fr0 := fr 0
      have fr1 := fr 1
      have fr2 := fr 2
      clear fr kr_
      clear kg bx4 B34 b4' b4
      go_wp2
      refine bodyPost_ret (v := .tuple #[.agg #[.int .i64 ((A : Int) + 3), .int .i64 ((A : Int) + 5), .int .i64 ((S : Int) - 5)], .int .i64 0]) ?_ rfl ⟨.inr (.inl ⟨i, y, I, N, S, F, A, HFin.out.1, HFin.out.2.1, HFin.out.2.2.1, HFin.out.2.2.2.1, HFin.out.2.2.2.2.1, HFin.out.2.2.2.2.2.1, HFin.out.2.2.2.2.2.2.1, HFin.out.2.2.2.2.2.2.2, by rw [HSI.out]⟩), ?_⟩
      · simp [results, Try.results54, go_sem, r0, r1', r2]
        try omega
      · exact ((B4.out.setCell (p := ⟨w.heap.size, 0, none⟩) (Nat.le_refl _) _).setCell (p := ⟨w.heap.size, 1, none⟩) (Nat.le_refl _) _).setCell (p := ⟨w.heap.size, 2, none⟩) (Nat.le_refl _) _
    · have B3 := Lib.hid (bel_trans B2.out b3)
      have bx3 := BX.out.trans (b3.mono hs2)
      have hs3 : w.heap.size + 1 ≤ w3.heap.size := Nat.le_trans hs2 b3.size
      have HN2 := Lib.hid hno
      have hlt3 : w.heap.size < w3.heap.size := hs3
      have kr_ := (bx3.block w.heap.size (by omega)).trans (heap_new w (.cells #[.int .i64 0, .int .i64 0, .int .i64 0] 143))
      have r0 := cell_of (j := 0) kr_ rfl
      have r1' := cell_of (j := 1) kr_ rfl
      have r2 := cell_of (j := 2) kr_ rfl
      have fr : ∀ j, w3.frozen? ⟨w.heap.size, j, none⟩ = false := fun j => by simp [World.frozen?, kr_]
      have fr0 := fr 0
      have fr1 := fr 1
      have fr2 := fr 2
      clear fr kr_
      clear C b3 bx3 hno
      go_wp2
      have K : ∀ j, (((((w3.setCell ⟨w.heap.size, 0, none⟩ (.int .i64 0)).setCell ⟨w.heap.size, 1, none⟩ (.int .i64 0)).setCell ⟨w.heap.size, 2, none⟩ (.int .i64 0))).alloc (.cells #[.int .u8 0, .int .i64 0, .int .i64 0, .int .i64 0, .int .i64 0] 138)).cell? ⟨w.heap.size, j, none⟩ = ((((w3.setCell ⟨w.heap.size, 0, none⟩ (.int .i64 0)).setCell ⟨w.heap.size, 1, none⟩ (.int .i64 0)).setCell ⟨w.heap.size, 2, none⟩ (.int .i64 0))).cell? ⟨w.heap.size, j, none⟩ := fun j => World.cell?_alloc_lt _ _ _ (by simp; omega)
      have BL : Below w.heap.size w (((((w3.setCell ⟨w.heap.size, 0, none⟩ (.int .i64 0)).setCell ⟨w.heap.size, 1, none⟩ (.int .i64 0)).setCell ⟨w.heap.size, 2, none⟩ (.int .i64 0))).alloc (.cells #[.int .u8 0, .int .i64 0, .int .i64 0, .int .i64 0, .int .i64 0] 138)) := bel_alloc' (((B3.out.setCell (p := ⟨w.heap.size, 0, none⟩) (Nat.le_refl _) _).setCell (p := ⟨w.heap.size, 1, none⟩) (Nat.le_refl _) _).setCell (p := ⟨w.heap.size, 2, none⟩) (Nat.le_refl _) _) _ (by simp; omega)
      refine bodyPost_ret (v := .tuple #[.agg #[.int .i64 0, .int .i64 0, .int .i64 0], .int .i64 3]) ?_ rfl ⟨.inr (.inr ⟨HN2.out, HNo.out, rfl⟩), BL⟩
      simp [results, Try.results54, go_sem, K, r0, r1', r2]
end Ly
end Go.Proofs.Ytjcbjbhlclajnaa
