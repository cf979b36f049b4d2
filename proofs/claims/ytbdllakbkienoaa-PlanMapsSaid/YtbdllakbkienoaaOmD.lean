/- The library's slices.Delete at pairs, on a row of the program's own: contract of the translated code. Conditions: i <= j <= n. -/
import Derived.Test.YtbdllakbkienoaaOmX
namespace Go.Proofs.Ytbdllakbkienoaa
open Go.RowKit Go.Sort Go.Lib
set_option linter.unusedVariables false
set_option linter.unusedSimpArgs false
namespace Om
theorem splice_app {α : Type} (A D Z : List α) (o : Nat) (h : o = A.length) : splice (A ++ D) o Z = A ++ (Z ++ D.drop Z.length) := by
  subst h
  unfold splice
  rw [List.take_left, List.drop_append]
  simp
theorem flat_cell {w : World} {g c : Nat} {l : List Pr} {R : List Value} (h : Blk w g c (flat l ++ R)) (i : Nat) : ∀ t u, (flat (l.drop i))[t]? = some u → w.cell? ⟨g, i * 2 + t, none⟩ = some u := by
  intro t u hu
  rw [flat_drop, List.getElem?_drop] at hu
  rw [h.cell, List.getElem?_append_left (List.getElem?_eq_some_iff.1 hu).1]
  exact hu
theorem flat_split (l : List Pr) (i : Nat) : flat l = flat (l.take i) ++ flat (l.drop i) := by rw [← flat_append, List.take_append_drop]
set_option maxRecDepth 100000 in
set_option maxHeartbeats 4000000 in
theorem delete_any (B g n c i j : Nat) (l : List Pr) (w : World) (hr : w.ownsRow B 43 2 (.slice (some ⟨g, 0, none⟩) n c) n (flat l)) (hij : i ≤ j) (hj : j ≤ n) :
    Calls Try.prog 73 #[.slice (some ⟨g, 0, none⟩) n c, .int .i64 i, .int .i64 j] w fun e w' => e = .returned (.slice (some ⟨g, 0, none⟩) (n - (j - i)) c) ∧ w'.ownsRow B 43 2 (.slice (some ⟨g, 0, none⟩) (n - (j - i)) c) (n - (j - i)) (flat (l.take i ++ l.drop j)) ∧ w.grownBy w' (some g) := by
  obtain ⟨R, hb, hn, hnc, hcm, hB⟩ := row_blk hr
  have hc63 : c ≤ 9223372036854775807 := by simpa [maxLen] using hcm
  obtain ⟨i0, hi, hz0, hz1, hz2⟩ := info_parts info
  by_cases heq : i = j
  · subst heq
    have e : n - (i - i) = n := by omega
    rw [e, List.take_append_drop]
    clear e
    have HR := Lib.hid hr; clear hr hb hn hi hz0 hz1 hz2
    go_enter Try.func73, Try.ntmps73
    go_wp2
    all_goals (go_ret; first | exact ⟨rfl, HR.out, grown_refl _ _⟩ | (obtain rfl : n = i := by omega
                                                                      exact ⟨rfl, HR.out, grown_refl _ _⟩))
  · have hlt : i < j := by omega
    obtain ⟨X, hX⟩ : ∃ X, X = flat (l.drop j) := ⟨_, rfl⟩
    have hXl : X.length = (n - j) * 2 := by rw [hX, flat_len, List.length_drop, hn]
    have hXc : ∀ t u, X[t]? = some u → w.drew.cell? ⟨g, j * 2 + t, none⟩ = some u := fun t u hu => flat_cell hb j t u (by rwa [hX] at hu)
    obtain ⟨W1, hW1⟩ : ∃ W1, W1 = w.drew.setCells g (0 + i * 2) X := ⟨_, rfl⟩
    have hB1 : Blk W1 g c (splice (flat l ++ R) (0 + i * 2) X) := by rw [hW1]; exact hb.drew.set (by rw [hXl]; omega)
    have hG1 : w.grownBy W1 (some g) := by rw [hW1]; exact (grown_drew w _).trans (grown_set _ _ _ _)
    have e1 : splice (flat l ++ R) (0 + i * 2) X = flat (l.take i ++ l.drop j) ++ (flat (l.drop i) ++ R).drop X.length := by
      rw [flat_split l i, List.append_assoc, splice_app _ _ _ _ (by rw [flat_len, List.length_take]; omega), flat_append, ← hX, List.append_assoc]
    rw [e1] at hB1
    have hcl : ∀ ty, (Builtin.clear_ #[22] ty #[.slice (some ⟨g, (i + (n - j)) * 2, none⟩) (n - (i + (n - j))) (c - (i + (n - j)))]).run Try.prog W1 = .ok (.tuple #[]) (W1.setCells g ((i + (n - j)) * 2) (zeros (n - (i + (n - j))))) := fun ty =>
      run_clear2 W1 ty g _ _ _ (fun t ht => hB1.some (by omega)) (fun t ht => hB1.frozen _)
    have hB2 := hB1.set (o := (i + (n - j)) * 2) (vs := zeros (n - (i + (n - j)))) (by rw [zeros_len]; omega)
    rw [splice_app _ _ _ _ (by rw [flat_len, List.length_append, List.length_take, List.length_drop]; omega)] at hB2
    have hN : n - (j - i) = i + (n - j) := by omega
    have hR2 := blk_row hB2 (n := i + (n - j)) (B := B) (by rw [List.length_append, List.length_take, List.length_drop]; omega) (by omega) hcm hB
    have hG2 := hG1.trans (grown_set W1 g ((i + (n - j)) * 2) (zeros (n - (i + (n - j)))))
    rw [hN]
    generalize hW2 : W1.setCells g ((i + (n - j)) * 2) (zeros (n - (i + (n - j)))) = W2 at *
    have HR2 := Lib.hid hR2
    have HG2 := Lib.hid hG2
    have HW := Lib.hid hW1
    have s1 := Lib.hid hXl
    have s2 := Lib.hid (show ∀ u ∈ X, u.oneCell' = true by rw [hX]; exact flat_one_cell _)
    have s3 := Lib.hid (show ∀ t, t < X.length → (w.drew.cell? ⟨g, 0 + i * 2 + t, none⟩).isSome = true ∧ w.drew.frozen? ⟨g, 0 + i * 2 + t, none⟩ = false from fun t ht => ⟨hb.drew.some (by rw [hXl] at ht; omega), hb.drew.frozen _⟩)
    have hic : i ≤ c := by omega
    have hjc : j ≤ c := by omega
    obtain ⟨A, hA, hsrc⟩ : ∃ A : Addr, (if c = j then some (⟨g, 0, none⟩ : Addr) else some ⟨g, j * 2, none⟩) = some A ∧ Hid (∀ t u, X[t]? = some u → w.drew.cell? (A.add t) = some u) := by
      by_cases h : c = j
      · refine ⟨⟨g, 0, none⟩, by simp [h], fun t u hu => ?_⟩
        have h0 : X = [] := List.eq_nil_of_length_eq_zero (by rw [hXl]; omega)
        rw [h0] at hu
        simp at hu
      · exact ⟨⟨g, j * 2, none⟩, by simp [h], fun t u hu => by rw [addr_lit]; exact hXc t u hu⟩
    clear hW1 hB1 hG1 hB2 hR2 hG2 hW2 hXc hXl hX e1 hb hr hn hN
    go_enter Try.func73, Try.ntmps73
    go_wp2_with fail
    go_region_law (refine step_append_room rfl (.tmp 22) (.tmp 25) 22 rfl 43 i0 2 Try.underlying22 hi hz1 g 0 i c (by simp [Act.eval, Act.put]) A (n - j) (c - j) X (by simp [Act.eval, Act.put]) s1.out hsrc.out s2.out (by omega) s3.out ?_; rw [← HW.out])
    go_wp2
    go_ret
    exact ⟨rfl, HR2.out, HG2.out⟩
end Om
end Go.Proofs.Ytbdllakbkienoaa
