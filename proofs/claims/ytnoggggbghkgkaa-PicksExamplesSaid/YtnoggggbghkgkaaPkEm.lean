/- Facts of PicksExamples. Conditions: those of each lemma. -/
import Derived.Test.YtnoggggbghkgkaaWkPk7
namespace Go.Proofs.Ytnoggggbghkgkaa
open Go.RowKit Go.Shelf Go.Sort
set_option linter.unusedVariables false
set_option linter.unusedSimpArgs false
namespace Pk
open Wk
open Dm (RdK BdI bel_alloc bel_trans cell_lt flatI info info_parts row_rd app1 appAll addr_lit ret_eq)
theorem repz_get {n k : Nat} (h : k < n) : (List.replicate n (0 : Int)).getD k 0 = 0 := by
  rw [List.getD_eq_getElem?_getD, List.getElem?_replicate, if_pos h]; rfl
theorem zeros_li {W : World} {base g : Nat} (n : Nat) (hn : n + 1 ≤ 100000) (h : W.ownsRow base 3 1 (.slice (some ⟨g, 0, none⟩) (n + 1) (n + 1)) (n + 1) (flatI (List.replicate (n + 1) 0))) : Li W (some ⟨g, 0, none⟩) (n + 1) (List.replicate (n + 1) 0) ∧ Li W (some ⟨g, 1, none⟩) n (List.replicate n 0) := by
  obtain ⟨A, c, e, _, _, _, li⟩ := row_li h hn
  injection e with e1 e2 e3
  subst e1
  refine ⟨li, fun k hk => ⟨g, 1, rfl, ?_⟩, List.length_replicate, by omega⟩
  have hk : k < n := by rwa [List.length_replicate] at hk
  obtain ⟨b, o, e, c⟩ := li.rd (k + 1) (by rw [List.length_replicate]; omega)
  cases e
  rw [repz_get (by omega)] at c
  rw [repz_get hk, Nat.add_comm 1 k, ← Nat.zero_add (k + 1)]
  exact c
theorem chosen_len {A : Option Addr} {n c : Nat} {l : List Int} {w : World} (h : Li w A n l) (hn : n ≤ 65536) : Calls Try.prog 12 #[.int .i64 3, .slice A n c] w fun e w' => ∃ B d, e = .returned (.tuple #[.slice B n d, .int .i64 0]) ∧ Below w.heap.size w w' :=
  (chosen_ok (t := 3) h (by omega) (by omega) hn).mono fun e w' hp => by
    obtain ⟨B, d, e1, _, _, _, hb, _⟩ := li_len (n := n) hp (by unfold chI; rw [List.length_map]; exact h.ln)
    exact ⟨B, d, e1, hb⟩
theorem chosen_long {A : Option Addr} {n c : Nat} {l : List Int} {w : World} (h : Li w A n l) (hn : 65536 < n) : Calls Try.prog 12 #[.int .i64 3, .slice A n c] w fun e w' => e = .returned (.tuple #[.slice none 0 0, .int .i64 5]) ∧ Below w.heap.size w w' :=
  (chosen_any 3 A n c l h.ln (by have := h.mx; unfold maxLen; omega) w h.rd).mono fun e w' ⟨h1, h2⟩ => by
    have hf : fitE 3 (l.length : Int) = 5 := fitE_long (by omega) (by omega) (by have := h.ln; omega)
    rw [hf, if_neg (by decide)] at h1
    exact ⟨h1, h2⟩
theorem gN_no {h : Int} {Y : Nat → Int} : ∀ j, (∀ i, i < j → Y i ≠ h) → gN h Y j = (j, j)
  | 0, _ => rfl
  | j + 1, hh => by
    rw [gN, gN_no j fun i hi => hh i (by omega), if_neg (hh j (by omega))]
    simp
theorem gap_zero {A : Option Addr} {n c : Nat} {w : World} (h : Li w A n (List.replicate n 0)) (hn : n ≤ 65536) : Calls Try.prog 18 #[.int .i64 3, .int .i64 1, .slice A n c] w fun e w' => e = .returned (.tuple #[.int .i64 (n : Nat), .int .i64 0]) ∧ Below w.heap.size w w' :=
  (gap_ok (t := 3) (k := 1) h (by omega) (by omega) (by omega) (by omega) hn).mono fun e w' ⟨h1, h2⟩ => by
    have hg : (gapF 1 (chL (3 : Int).toNat (List.replicate n (0 : Int)))).1 = n := by
      rw [show (3 : Int).toNat = 3 from rfl, gap_all (by omega) (by omega), List.length_replicate, gN_no n fun i hi => by
        show (chI 3 (List.replicate n 0)).getD i 0 ≠ 1
        rw [chI_get (by rw [List.length_replicate]; exact hi), repz_get hi]
        decide]
    rw [hg] at h1
    exact ⟨h1, h2⟩
theorem round_len {n : Nat} {w : World} (hn : n ≤ 65536) : Calls Try.prog 24 #[.int .i64 3, .int .i64 (n : Nat)] w fun e w' => ∃ B d, e = .returned (.tuple #[.slice B n d, .int .i64 0]) ∧ Below w.heap.size w w' :=
  (round_ok (t := 3) (n := (n : Int)) (by omega) (by omega) (by omega) (by omega)).mono fun e w' hp => by
    obtain ⟨B, d, e1, _, _, _, hb, _⟩ := li_len (n := n) hp (by unfold rdL; rw [List.length_map, List.length_range]; omega)
    exact ⟨B, d, e1, hb⟩
theorem mixed_long {n : Int} {w : World} (hn : 65536 < n) : Calls Try.prog 26 #[.int .u64 1, .int .i64 3, .int .i64 n] w fun e w' => e = .returned (.tuple #[.slice none 0 0, .int .i64 5]) ∧ Below w.heap.size w w' :=
  (mixed_any 1 (by omega) 3 n w).mono fun e w' ⟨h1, h2⟩ => by
    have hf : fitE 3 n = 5 := fitE_long (by omega) (by omega) hn
    rw [hf, if_neg (by decide)] at h1
    exact ⟨h1, h2⟩
theorem expand_err {A : Option Addr} {n c : Nat} {l : List Int} {w : World} {er : Int} (h : Li w A n l) (hn : n ≤ 2000) (hc : n ≤ c) (hc2 : c ≤ 9223372036854775807) (hb : BdI l) (hz : fcE l = er) (h0 : er ≠ 0) : Calls Try.prog 29 #[.slice A n c] w fun e w' => e = .returned (.tuple #[.slice none 0 0, .int .i64 er]) ∧ Below w.heap.size w w' :=
  (expand_any A n c l h.ln hn hc hc2 hb w h.rd).mono fun e w' ⟨h1, h2⟩ => by
    rw [hz, if_neg h0] at h1
    exact ⟨h1, h2⟩
def x1 : List Int := [1, 65536]
def x2 : List Int := [1, 65536, 0, 1, 2, -1]
def x3 : List Int := [1, 4611686018427387904, 2, 4611686018427387904, 3, 4611686018427387904]
theorem x1_ok : fcE x1 = 0 := by
  refine fcE_ok rfl ?_ ?_
  · rintro ⟨j, hj, h⟩
    have hj : j < 1 := hj
    obtain rfl : j = 0 := by omega
    exact absurd h (by show ¬ (65536 : Int) < 0; decide)
  · rintro ⟨j, hj, h⟩
    have hj : j < 1 := hj
    obtain rfl : j = 0 := by omega
    exact absurd h (by show ¬ (65536 : Int) - 0 < 65536; decide)
theorem x1_len : (exN x1 (x1.length / 2)).length = 65536 := by
  have h := exN_len (l := x1) 1 fun i hi => by
    obtain rfl : i = 0 := by omega
    show (0 : Int) ≤ 65536; decide
  have e : sm x1 1 = 65536 := rfl
  rw [e] at h
  have : (exN x1 1).length = 65536 := by omega
  exact this
theorem x2_er : fcE x2 = 2 := fcE_neg rfl ⟨2, by show 2 < 3; decide, by show (-1 : Int) < 0; decide⟩
theorem x3_er : fcE x3 = 5 := by
  refine fcE_long rfl ?_ ⟨0, by show 0 < 3; decide, by show (65536 : Int) - 0 < 4611686018427387904; decide⟩
  rintro ⟨j, hj, h⟩
  have hj : j < 3 := hj
  have : j = 0 ∨ j = 1 ∨ j = 2 := by omega
  rcases this with rfl | rfl | rfl <;> exact absurd h (by show ¬ (4611686018427387904 : Int) < 0; decide)
theorem x1_bd : BdI x1 := fun i hi => by
  have hi : i < 2 := hi
  have : i = 0 ∨ i = 1 := by omega
  rcases this with rfl | rfl <;> decide
theorem x2_bd : BdI x2 := fun i hi => by
  have hi : i < 6 := hi
  have : i = 0 ∨ i = 1 ∨ i = 2 ∨ i = 3 ∨ i = 4 ∨ i = 5 := by omega
  rcases this with rfl | rfl | rfl | rfl | rfl | rfl <;> decide
theorem x3_bd : BdI x3 := fun i hi => by
  have hi : i < 6 := hi
  have : i = 0 ∨ i = 1 ∨ i = 2 ∨ i = 3 ∨ i = 4 ∨ i = 5 := by omega
  rcases this with rfl | rfl | rfl | rfl | rfl | rfl <;> decide
theorem ex_1 (W : World) : Calls Try.prog 29 #[.slice (some ⟨W.heap.size, 0, none⟩) 2 2] (W.alloc (.cells #[.int .i64 1, .int .i64 65536] 3)) fun e w' => ∃ B d, e = .returned (.tuple #[.slice B 65536 d, .int .i64 0]) ∧ Below W.heap.size W w' :=
  (expand_ok (c := 2) (lit_li W x1 3 (by decide)) (by decide) (by decide) (by decide) x1_bd x1_ok (by rw [x1_len]; decide)).mono fun e w' hp => by
    obtain ⟨B, d, e1, _, _, _, hb, _⟩ := li_len (n := 65536) hp x1_len
    exact ⟨B, d, e1, bel_trans (bel_alloc (Below.refl _ _) _) hb⟩
theorem ex_2 (W : World) : Calls Try.prog 29 #[.slice (some ⟨W.heap.size, 0, none⟩) 6 6] (W.alloc (.cells #[.int .i64 1, .int .i64 65536, .int .i64 0, .int .i64 1, .int .i64 2, .int .i64 (-1)] 3)) fun e w' => e = .returned (.tuple #[.slice none 0 0, .int .i64 2]) ∧ Below W.heap.size W w' :=
  (expand_err (c := 6) (lit_li W x2 3 (by decide)) (by decide) (by decide) (by decide) x2_bd x2_er (by decide)).mono fun e w' ⟨h1, h2⟩ => ⟨h1, bel_trans (bel_alloc (Below.refl _ _) _) h2⟩
theorem ex_3 (W : World) : Calls Try.prog 29 #[.slice (some ⟨W.heap.size, 0, none⟩) 6 6] (W.alloc (.cells #[.int .i64 1, .int .i64 4611686018427387904, .int .i64 2, .int .i64 4611686018427387904, .int .i64 3, .int .i64 4611686018427387904] 3)) fun e w' => e = .returned (.tuple #[.slice none 0 0, .int .i64 5]) ∧ Below W.heap.size W w' :=
  (expand_err (c := 6) (lit_li W x3 3 (by decide)) (by decide) (by decide) (by decide) x3_bd x3_er (by decide)).mono fun e w' ⟨h1, h2⟩ => ⟨h1, bel_trans (bel_alloc (Below.refl _ _) _) h2⟩
theorem tail_run (b n : Nat) (hn : 1 ≤ n) : ∀ w : World, (Instr.sliceAt 22 (.slice (some ⟨b, 0, none⟩) (n + 1) (n + 1)) (some (.int .i64 1)) none none).run Try.prog w = .ok (.slice (some ⟨b, 1, none⟩) n n) w := fun w => by
  have u : Try.prog.underlying 22 = some (.slice (Try.prog.elem 22)) := by kernel_rfl
  have h1 : (1 : Int) ≤ (n : Int) + 1 := by omega
  have h2 : n ≠ 0 := by omega
  simp [go_sem, Instr.sliceBounds, sliced, h1, h2]
end Pk
end Go.Proofs.Ytnoggggbghkgkaa
