/- The library's slices.Replace at pairs, on a row of the program's own: contract of the translated code. Conditions: i <= j <= n; what is put in lies in another row of the program's own, is not shorter than what it replaces, and fits into the capacity. -/
import Derived.Test.YtbdllakbkienoaaOmI
namespace Go.Proofs.Ytbdllakbkienoaa
open Go.RowKit Go.Sort Go.Lib
set_option linter.unusedVariables false
set_option linter.unusedSimpArgs false
namespace Om
theorem shift_cells2 (l ps : List Pr) (i : Nat) (R X : List Value) (hi : i ≤ l.length) (hR : (i + ps.length) * 2 ≤ l.length * 2 + R.length) :
    ∃ R', splice (splice (flat l ++ R) ((i + ps.length) * 2) X) (i * 2) (flat ps) = flat (l.take i ++ ps) ++ (X ++ R') := by
  have h1 : (flat (l.take i)).length = i * 2 := by rw [flat_len, List.length_take, Nat.min_eq_left hi]
  have h2 : (flat (l.drop i)).length = (l.length - i) * 2 := by rw [flat_len, List.length_drop]
  obtain ⟨D, hD⟩ : ∃ D, D = flat (l.drop i) ++ R := ⟨_, rfl⟩
  have hDl : D.length = (l.length - i) * 2 + R.length := by rw [hD, List.length_append, h2]
  have e1 : flat l ++ R = (flat (l.take i) ++ D.take (ps.length * 2)) ++ D.drop (ps.length * 2) := by
    rw [List.append_assoc, List.take_append_drop, hD, ← List.append_assoc, ← flat_split]
  have h3 : (D.take (ps.length * 2)).length = ps.length * 2 := by rw [List.length_take]; omega
  rw [e1, splice_app _ _ _ _ (by rw [List.length_append, h1, h3]; omega), List.append_assoc, splice_app _ _ _ _ h1.symm, flat_append, List.drop_append_of_le_length (by rw [flat_len, h3]; omega), List.drop_eq_nil_of_le (show (D.take (ps.length * 2)).length ≤ (flat ps).length by rw [flat_len, h3]; omega), List.nil_append]
  exact ⟨_, by rw [List.append_assoc]⟩
theorem put_cells (l ps : List Pr) (i : Nat) (R : List Value) (hi : i ≤ l.length) : ∃ R', splice (flat l ++ R) (i * 2) (flat ps) = flat (l.take i ++ ps) ++ R' := by
  have h1 : (flat (l.take i)).length = i * 2 := by rw [flat_len, List.length_take, Nat.min_eq_left hi]
  rw [flat_split l i, List.append_assoc, splice_app _ _ _ _ h1.symm, flat_append]
  exact ⟨_, by rw [List.append_assoc]⟩
set_option maxRecDepth 100000 in
set_option maxHeartbeats 4000000 in
theorem replace_same (B n c i vb m vc : Nat) (A : Option Addr) (l ps : List Pr) (w : World) (hr : w.ownsRow B 43 2 (.slice A n c) n (flat l)) (hv : w.ownsRow 0 43 2 (.slice (some ⟨vb, 0, none⟩) m vc) m (flat ps)) (hne : (Value.slice A n c).ownBlock ≠ some vb) (hi : i ≤ n) (hs : (n + m) * 16 ≤ 140737488355328) (hw : B ≤ w.heap.size) :
    Calls Try.prog 63 #[.slice A n c, .int .i64 i, .int .i64 i, .slice (some ⟨vb, 0, none⟩) m vc] w (InsPost w B (.slice A n c) (l.take i ++ (ps ++ l.drop i))) := by
  have C := Lib.hid (insert_any B n c i vb m vc A l ps w hr hv hne hi hs hw)
  rcases hr.2 with ⟨e, _⟩ | ⟨g, cap, cur, e, _, _, hnc, hcm, _⟩
  · injection e with e1 e2 e3
    subst e1 e2 e3
    obtain rfl : i = 0 := by omega
    clear hr hv hne
    go_enter Try.func63, Try.ntmps63
    go_wp2_with fail
    refine C.out.mono ?_
    rintro e w' ⟨v', rfl, h⟩
    have H := Lib.hid h; clear h
    go_wp2
    go_ret
    exact ⟨v', rfl, H.out⟩
  · injection e with e1 e2 e3
    subst e1 e3
    have hc63 : c ≤ 9223372036854775807 := by simpa [maxLen] using hcm
    clear hr hv hne
    by_cases hci : c = i
    · subst hci
      obtain rfl : n = c := by omega
      go_enter Try.func63, Try.ntmps63
      go_wp2_with fail
      refine C.out.mono ?_
      rintro e w' ⟨v', rfl, h⟩
      have H := Lib.hid h; clear h
      go_wp2
      go_ret
      exact ⟨v', rfl, H.out⟩
    · go_enter Try.func63, Try.ntmps63
      go_wp2_with fail
      refine C.out.mono ?_
      rintro e w' ⟨v', rfl, h⟩
      have H := Lib.hid h; clear h
      go_wp2
      go_ret
      exact ⟨v', rfl, H.out⟩
set_option maxRecDepth 100000 in
set_option maxHeartbeats 4000000 in
theorem replace_tail (B g n c i vb m vc : Nat) (l ps : List Pr) (w : World) (hr : w.ownsRow B 43 2 (.slice (some ⟨g, 0, none⟩) n c) n (flat l)) (hv : w.ownsRow 0 43 2 (.slice (some ⟨vb, 0, none⟩) m vc) m (flat ps)) (hi : i < n) (hm : n ≤ i + m) (hroom : i + m ≤ c) :
    Calls Try.prog 63 #[.slice (some ⟨g, 0, none⟩) n c, .int .i64 i, .int .i64 n, .slice (some ⟨vb, 0, none⟩) m vc] w (InPlace w B g c (l.take i ++ ps)) := by
  obtain ⟨R, hb, hn, hnc, hcm, hB⟩ := row_blk hr
  obtain ⟨R2, hb2, hn2, hnc2, hcm2, _⟩ := row_blk hv
  obtain ⟨i0, hi0, hz0, hzs, hzb⟩ := info_parts info
  have hc63 : c ≤ 9223372036854775807 := by simpa [maxLen] using hcm
  have hYl : (flat ps).length = m * 2 := by rw [flat_len, hn2]
  have hrun : ∀ ty, (Builtin.append_ #[22, 22] ty #[.slice (some ⟨g, 0, none⟩) i c, .slice (some ⟨vb, 0, none⟩) m vc]).run Try.prog w = .ok (.slice (some ⟨g, 0, none⟩) (i + m) c) (w.setCells g (0 + i * 2) (flat ps)) := fun ty => by
    have h := run_append_room_cells (P := Try.prog) w 22 ty 43 i0 Try.underlying22 hi0 g 0 i c ⟨vb, 0, none⟩ m vc (flat ps) (by rw [hzs]; exact hYl)
      (fun j u hj => by
        rw [addr_lit]
        have := flat_cell hb2 0 j u (by rw [List.drop_zero]; exact hj)
        simpa using this) (flat_one_cell _) hroom (fun j hj => by rw [hzs]; exact hb.some (by rw [hYl] at hj; omega)) (fun j hj => hb.frozen _)
    rw [hzs] at h
    exact h
  have hB2 := hb.set (o := 0 + i * 2) (vs := flat ps) (by rw [hYl]; omega)
  obtain ⟨R', hR'⟩ := put_cells l ps i R (by omega)
  rw [Nat.zero_add] at hB2 hrun
  rw [hR'] at hB2
  have hlen : (l.take i ++ ps).length = i + m := by rw [List.length_append, List.length_take]; omega
  have hR2 := blk_row hB2 (n := i + m) (B := B) hlen hroom hcm hB
  have HP := Lib.hid (show InPlace w B g c (l.take i ++ ps) (.returned (.slice (some ⟨g, 0, none⟩) (i + m) c)) (w.setCells g (i * 2) (flat ps)) from ⟨by rw [hlen], by rw [hlen]; exact hR2, grown_set _ _ _ _⟩)
  generalize w.setCells g (i * 2) (flat ps) = W2 at *
  have hz1 : ¬ ((i : Int) = (n : Int)) := by omega
  have hz2 : decide ((i : Int) + (m : Int) < n) = false := decide_eq_false (by omega)
  have hz3 : (i : Int) ≤ n := by omega
  clear hB2 hR' hlen hR2 hYl hb hb2 hr hv hn hn2
  go_enter Try.func63, Try.ntmps63
  go_wp2_with (at_builtin; refine Lib.wpList_append_run _ rfl _ _ _ _ rfl _ _ rfl rfl _ _ (hrun _) ?_)
  all_goals (go_ret; exact HP.out)
set_option maxRecDepth 100000 in
set_option maxHeartbeats 4000000 in
theorem replace_fit (B g n c i vb m vc : Nat) (l ps : List Pr) (w : World) (hr : w.ownsRow B 43 2 (.slice (some ⟨g, 0, none⟩) n c) n (flat l)) (hv : w.ownsRow 0 43 2 (.slice (some ⟨vb, 0, none⟩) m vc) m (flat ps)) (hne : vb ≠ g) (hi : 0 < m) (hj : i + m < n) :
    Calls Try.prog 63 #[.slice (some ⟨g, 0, none⟩) n c, .int .i64 i, .int .i64 (i + m : Nat), .slice (some ⟨vb, 0, none⟩) m vc] w (InPlace w B g c (l.take i ++ (ps ++ l.drop (i + m)))) := by
  obtain ⟨R, hb, hn, hnc, hcm, hB⟩ := row_blk hr
  obtain ⟨R2, hb2, hn2, hnc2, hcm2, _⟩ := row_blk hv
  have hc63 : c ≤ 9223372036854775807 := by simpa [maxLen] using hcm
  obtain ⟨Y, hY⟩ : ∃ Y, Y = flat ps := ⟨_, rfl⟩
  have hYl : Y.length = m * 2 := by rw [hY, flat_len, hn2]
  obtain ⟨X, hX⟩ : ∃ X, X = flat (l.drop (i + m)) := ⟨_, rfl⟩
  have hXl : X.length = (n - (i + m)) * 2 := by rw [hX, flat_len, List.length_drop, hn]
  have h1 : (flat (l.take i)).length = i * 2 := by rw [flat_len, List.length_take, Nat.min_eq_left (by omega)]
  have e1 : splice (flat l ++ R) (i * 2) Y = flat (l.take i ++ (ps ++ l.drop (i + m))) ++ R := by
    rw [hY, flat_split l i, List.append_assoc, splice_app _ _ _ _ h1.symm, flat_append, flat_append, List.append_assoc, List.append_assoc]
    congr 2
    rw [List.drop_append_of_le_length (by rw [flat_len, flat_len, List.length_drop]; omega), flat_len, ← flat_drop, List.drop_drop, hn2]
  have hmin1 : Nat.min m (n - i) = m := by simp only [Nat.min_def]; split <;> omega
  have hms : Nat.min (n - (i + m)) (n - (i + m)) = n - (i + m) := Nat.min_self _
  have hdr : (l.take i ++ (ps ++ l.drop (i + m))).drop (i + m) = l.drop (i + m) := by
    rw [← List.append_assoc, List.drop_append_of_le_length (by rw [List.length_append, List.length_take]; omega), List.drop_eq_nil_of_le (by rw [List.length_append, List.length_take]; omega), List.nil_append]
  have hlen : (l.take i ++ (ps ++ l.drop (i + m))).length = n := by rw [List.length_append, List.length_append, List.length_take, List.length_drop]; omega
  have e2 : splice (flat (l.take i ++ (ps ++ l.drop (i + m))) ++ R) ((i + m) * 2) X = flat (l.take i ++ (ps ++ l.drop (i + m))) ++ R := by
    have e3 : l.take i ++ (ps ++ l.drop (i + m)) = (l.take i ++ ps) ++ l.drop (i + m) := by rw [List.append_assoc]
    rw [e3, flat_append, List.append_assoc, splice_app _ _ _ _ (by rw [flat_len, List.length_append, List.length_take]; omega), hX, List.drop_left]
  have key : ∀ w0, Blk w0 g c (flat l ++ R) → Blk w0 vb vc (flat ps ++ R2) → w.grownBy w0 (some g) →
      (∀ ty dc, (Builtin.copy_ #[22, 22] ty #[.slice (some ⟨g, i * 2, none⟩) (n - i) dc, .slice (some ⟨vb, 0, none⟩) m vc]).run Try.prog w0 = .ok (goInt m) (w0.setCells g (i * 2) Y)) ∧
      (∀ (W : World), (∀ x, W.cell? x = (w0.setCells g (i * 2) Y).cell? x) → (∀ x, W.frozen? x = (w0.setCells g (i * 2) Y).frozen? x) → ∀ ty dc sc, (Builtin.copy_ #[22, 22] ty #[.slice (some ⟨g, (i + m) * 2, none⟩) (n - (i + m)) dc, .slice (some ⟨g, (i + m) * 2, none⟩) (n - (i + m)) sc]).run Try.prog W = .ok (goInt ((n - (i + m) : Nat) : Int)) (W.setCells g ((i + m) * 2) X)) ∧
      (∀ W : World, (w0.setCells g (i * 2) Y).grownBy W (some g) → W.heap[g]? = (w0.setCells g (i * 2) Y).heap[g]? → InPlace w B g c (l.take i ++ (ps ++ l.drop (i + m))) (.returned (.slice (some ⟨g, 0, none⟩) n c)) (W.setCells g ((i + m) * 2) X)) := by
    intro w0 hb hb2 hG0
    have hG1 : w.grownBy (w0.setCells g (i * 2) Y) (some g) := hG0.trans (grown_set _ _ _ _)
    have hB1 : Blk (w0.setCells g (i * 2) Y) g c (flat (l.take i ++ (ps ++ l.drop (i + m))) ++ R) := by rw [← e1]; exact hb.set (by rw [hYl]; omega)
    refine ⟨fun ty dc => ?_, fun W hWc hWf ty dc sc => ?_, fun W hW hW2 => ?_⟩
    rotate_left 1
    · have h := run_copy2 W ty g ((i + m) * 2) (n - (i + m)) dc ⟨g, (i + m) * 2, none⟩ (n - (i + m)) sc X (by rw [hXl, hms])
        (fun q v hq => by rw [addr_lit, hWc]; exact flat_cell hB1 (i + m) q v (by rw [hdr, ← hX]; exact hq)) (fun q hq => by rw [hWc]; exact hB1.some (by rw [hXl] at hq; omega)) (fun q hq => by rw [hWf]; exact hB1.frozen _) (by rw [hX]; exact flat_one_cell _)
      rw [hms] at h
      exact h
    · have h : Blk W g c (flat (l.take i ++ (ps ++ l.drop (i + m))) ++ R) := ⟨hW2.trans hB1.1, hB1.2⟩
      have h2 := h.set (o := (i + m) * 2) (vs := X) (by rw [hXl]; omega)
      rw [e2] at h2
      exact ⟨by rw [hlen], by rw [hlen]; exact blk_row h2 hlen hnc hcm hB, (hG1.trans hW).trans (grown_set _ _ _ _)⟩
    · have h := run_copy2 w0 ty g (i * 2) (n - i) dc ⟨vb, 0, none⟩ m vc Y (by rw [hYl, hmin1])
        (fun q v hq => by
          rw [addr_lit]
          have := flat_cell hb2 0 q v (by rw [List.drop_zero, ← hY]; exact hq)
          simpa using this) (fun q hq => hb.some (by rw [hYl] at hq; omega)) (fun q hq => hb.frozen _) (by rw [hY]; exact flat_one_cell _)
      rw [hmin1] at h
      exact h
  have KEY := fun nq => key (w.drewN nq) hb hb2 ⟨rfl, rfl, rfl, Nat.le_refl _, fun _ _ _ => rfl⟩
  have KA := Lib.hid (fun nq => (KEY nq).1)
  have KB := Lib.hid (fun nq => (KEY nq).2.1)
  have HP := Lib.hid (fun nq => (KEY nq).2.2)
  clear KEY
  have hz0 : ¬ ((i : Int) = (i : Int) + m) := by omega
  have hz1 : ¬ ((i : Int) + m = (n : Int)) := by omega
  have hz4 : (i : Int) ≤ (i : Int) + m := by omega
  have hz5 : (i : Int) + m ≤ n := by omega
  have hz6 : (i : Int) ≤ n := by omega
  have hz7 : (n : Int) ≤ c := by omega
  have hx1 : IntKind.i64.wrap ((i : Int) + (m : Int)) = (i : Int) + (m : Int) := by rw [IntKind.wrap_i64]; omega
  have hx2 : (0 : Int) ≤ (i : Int) + (m : Int) := by omega
  have hx3 : ((i : Int) + (m : Int)).toNat = i + m := by omega
  have hx4 : IntKind.i64.wrap ((i : Int) + (m : Int) + ((n - (i + m) : Nat) : Int)) = n := by rw [IntKind.wrap_i64]; omega
  have hx5 : (i : Int) + (m : Int) + ((n - (i + m) : Nat) : Int) = n := by omega
  have hx6 : ¬ (c = i) := by omega
  have hx7 : ¬ (c = i + m) := by omega
  have hxn : i + m ≤ n := by omega
  have hxi : i ≤ n := by omega
  clear key hlen e1 e2 hdr hX hXl hY hYl hmin1 hms hb hb2 hr hv hn hn2 h1
  go_enter Try.func63, Try.ntmps63
  go_wp2_with fail
  go_quiet (fail)
  go_wp2_with (refine wpList_copy_runI _ rfl (.tmp 95) (.tmp 96) 22 22 rfl _ _ rfl rfl (KA.out _ _ _) ?_)
  go_region_law (refine step_copy_run2 rfl (.tmp 103) (.tmp 106) rfl (.slice (some ⟨g, (i + m) * 2, none⟩) (n - (i + m)) (c - (i + m))) (.slice (some ⟨g, (i + m) * 2, none⟩) (n - (i + m)) (c - (i + m))) (by simp [Act.eval, Act.put]) (by simp [Act.eval, Act.put]) (KB.out nq (((w.drewN nq).setCells g (i * 2) Y).drew) (fun _ => rfl) (fun _ => rfl) _ _ _) ?_)
  have ht : ∀ (W : World) (ty : TypeId) (a : Option Addr) (c' : Nat), (Builtin.clear_ #[22] ty #[.slice a 0 c']).run Try.prog W = .ok (.tuple #[]) W := run_clear_none
  go_wp2
  all_goals
    go_ret
    first
    | exact HP.out nq _ (grown_drew _ _) rfl
    | (obtain rfl : c = n := by omega
       exact HP.out nq _ (grown_drew _ _) rfl)
set_option maxRecDepth 100000 in
set_option maxHeartbeats 4000000 in
theorem replace_over (B g n c i j vb m vc : Nat) (l ps : List Pr) (w : World) (hr : w.ownsRow B 43 2 (.slice (some ⟨g, 0, none⟩) n c) n (flat l)) (hv : w.ownsRow 0 43 2 (.slice (some ⟨vb, 0, none⟩) m vc) m (flat ps)) (hne : vb ≠ g) (hi : i < j) (hj : j < n) (hm : j < i + m) (hroom : i + m + (n - j) ≤ c) :
    Calls Try.prog 63 #[.slice (some ⟨g, 0, none⟩) n c, .int .i64 i, .int .i64 j, .slice (some ⟨vb, 0, none⟩) m vc] w (InPlace w B g c (l.take i ++ (ps ++ l.drop j))) := by
  obtain ⟨R, hb, hn, hnc, hcm, hB⟩ := row_blk hr
  obtain ⟨R2, hb2, hn2, hnc2, hcm2, _⟩ := row_blk hv
  have hc63 : c ≤ 9223372036854775807 := by simpa [maxLen] using hcm
  obtain ⟨T, hT⟩ : ∃ T, T = i + m + (n - j) := ⟨_, rfl⟩
  obtain ⟨Y, hY⟩ : ∃ Y, Y = flat ps := ⟨_, rfl⟩
  have hYl : Y.length = m * 2 := by rw [hY, flat_len, hn2]
  obtain ⟨X, hX⟩ : ∃ X, X = flat (l.drop j) := ⟨_, rfl⟩
  have hXl : X.length = (n - j) * 2 := by rw [hX, flat_len, List.length_drop, hn]
  have hmin1 : Nat.min m (T - i) = m := by simp only [Nat.min_def]; split <;> omega
  have hmin2 : Nat.min (n - j) (T - (i + m)) = n - j := by simp only [Nat.min_def]; split <;> omega
  have hlen : (l.take i ++ (ps ++ l.drop j)).length = T := by rw [List.length_append, List.length_append, List.length_take, List.length_drop]; omega
  obtain ⟨R', e1⟩ := shift_cells2 l ps i R X (by omega) (by have := hb.2; rw [List.length_append, flat_len] at this; omega)
  rw [hn2, ← hY] at e1
  have e2 : flat (l.take i ++ ps) ++ (X ++ R') = flat (l.take i ++ (ps ++ l.drop j)) ++ R' := by rw [← List.append_assoc, hX, ← flat_append, List.append_assoc]
  have hov : ∀ nq la ca, (callFunc 78 #[.slice (some ⟨g, (i + m) * 2, none⟩) la ca, .slice (some ⟨vb, 0, none⟩) m vc]).run Try.prog (w.drewN nq) = .ok (.value (.bool false)) (w.drewN nq) := fun nq la ca => over_no (w.drewN nq) g vb c vc ((i + m) * 2) 0 (flat l ++ R) (flat ps ++ R2) la ca m vc (fun e => hne e.symm) hb hb2 (by omega)
  have key : ∀ w0, Blk w0 g c (flat l ++ R) → Blk w0 vb vc (flat ps ++ R2) → w.grownBy w0 (some g) →
      (∀ ty dc sc, (Builtin.copy_ #[22, 22] ty #[.slice (some ⟨g, (i + m) * 2, none⟩) (T - (i + m)) dc, .slice (some ⟨g, j * 2, none⟩) (n - j) sc]).run Try.prog w0 = .ok (goInt ((n - j : Nat) : Int)) (w0.setCells g ((i + m) * 2) X)) ∧
      (∀ ty dc, (Builtin.copy_ #[22, 22] ty #[.slice (some ⟨g, i * 2, none⟩) (T - i) dc, .slice (some ⟨vb, 0, none⟩) m vc]).run Try.prog (w0.setCells g ((i + m) * 2) X) = .ok (goInt m) ((w0.setCells g ((i + m) * 2) X).setCells g (i * 2) Y)) ∧
      InPlace w B g c (l.take i ++ (ps ++ l.drop j)) (.returned (.slice (some ⟨g, 0, none⟩) T c)) ((w0.setCells g ((i + m) * 2) X).setCells g (i * 2) Y) := by
    intro w0 hb hb2 hG0
    have hG1 : w0.grownBy (w0.setCells g ((i + m) * 2) X) (some g) := grown_set _ _ _ _
    have hB1 : Blk (w0.setCells g ((i + m) * 2) X) g c (splice (flat l ++ R) ((i + m) * 2) X) := hb.set (by rw [hXl]; omega)
    have hB2 := hB1.set (o := i * 2) (vs := Y) (by rw [hYl]; omega)
    rw [e1, e2] at hB2
    have hb3 : Blk (w0.setCells g ((i + m) * 2) X) vb vc (flat ps ++ R2) := ⟨(heap_setCells_other g vb hne X _ w0).trans hb2.1, hb2.2⟩
    refine ⟨fun ty dc sc => ?_, fun ty dc => ?_, ?_⟩
    · have h := run_copy2 w0 ty g ((i + m) * 2) (T - (i + m)) dc ⟨g, j * 2, none⟩ (n - j) sc X (by rw [hXl, hmin2])
        (fun q v hq => by rw [addr_lit]; exact flat_cell hb j q v (by rw [← hX]; exact hq)) (fun q hq => hb.some (by rw [hXl] at hq; omega)) (fun q hq => hb.frozen _) (by rw [hX]; exact flat_one_cell _)
      rw [hmin2] at h
      exact h
    · have h := run_copy2 (w0.setCells g ((i + m) * 2) X) ty g (i * 2) (T - i) dc ⟨vb, 0, none⟩ m vc Y (by rw [hYl, hmin1])
        (fun q v hq => by
          rw [addr_lit]
          have := flat_cell hb3 0 q v (by rw [List.drop_zero, ← hY]; exact hq)
          simpa using this) (fun q hq => hB1.some (by rw [hYl] at hq; omega)) (fun q hq => hB1.frozen _) (by rw [hY]; exact flat_one_cell _)
      rw [hmin1] at h
      exact h
    · exact ⟨by rw [hlen], by rw [hlen]; exact blk_row hB2 hlen (by omega) hcm hB, (hG0.trans hG1).trans (grown_set _ _ _ _)⟩
  have KEY := fun nq => key ((w.drewN nq).drew) hb hb2 ⟨rfl, rfl, rfl, Nat.le_refl _, fun _ _ _ => rfl⟩
  have KA := Lib.hid (fun nq => (KEY nq).1)
  have KB := Lib.hid (fun nq => (KEY nq).2.1)
  have HP := Lib.hid (fun nq => (KEY nq).2.2)
  clear KEY
  have hz0 : ¬ ((i : Int) = (j : Int)) := by omega
  have hz1 : ¬ ((j : Int) = (n : Int)) := by omega
  have hz2 : decide ((i : Int) + (m : Int) ≤ j) = false := decide_eq_false (by omega)
  have hz3 : decide ((c : Int) < T) = false := decide_eq_false (by omega)
  have hz4 : (i : Int) ≤ (j : Int) := by omega
  have hz5 : (j : Int) ≤ n := by omega
  have hz6 : (i : Int) ≤ n := by omega
  have hz7 : (n : Int) ≤ c := by omega
  have hz8 : (T : Int) ≤ c := by omega
  have hx1 : IntKind.i64.wrap ((i : Int) + (m : Int)) = (i : Int) + (m : Int) := by rw [IntKind.wrap_i64]; omega
  have hx2 : (0 : Int) ≤ (i : Int) + (m : Int) := by omega
  have hx3 : ((i : Int) + (m : Int)).toNat = i + m := by omega
  have hx4 : IntKind.i64.wrap ((i : Int) + (m : Int) + ((n - j : Nat) : Int)) = T := by rw [IntKind.wrap_i64]; omega
  have hx5 : (i : Int) + (m : Int) + ((n - j : Nat) : Int) = T := by omega
  have hx6 : ¬ (c = i) := by omega
  have hx7 : ¬ (c = i + m) := by omega
  have hx8 : ¬ (c = j) := by omega
  have hx9 : i + m ≤ T := by omega
  have hxa : (i : Int) + (m : Int) ≤ T := by omega
  have hxb : (i : Int) ≤ T := by omega
  have hxj : j ≤ n := by omega
  have hxi : i ≤ n := by omega
  have hxt : i ≤ T := by omega
  clear key hlen e1 e2 hX hXl hY hYl hmin1 hmin2 hb hb2 hr hv hn hn2 hT
  go_enter Try.func63, Try.ntmps63
  go_wp2_with fail
  go_quiet (fail)
  go_wp2_with (simp only [hov])
  go_region_law (refine step_copy_run2 rfl (.tmp 126) (.tmp 129) rfl (.slice (some ⟨g, (i + m) * 2, none⟩) (T - (i + m)) (c - (i + m))) (.slice (some ⟨g, j * 2, none⟩) (n - j) (c - j)) (by simp [Act.eval, Act.put]) (by simp [Act.eval, Act.put]) (KA.out nq _ _ _) ?_)
  go_wp2_with (refine wpList_copy_runI _ rfl (.tmp 133) (.tmp 134) 22 22 rfl _ _ rfl rfl (KB.out nq _ _) ?_)
  go_ret
  exact HP.out nq
end Om
end Go.Proofs.Ytbdllakbkienoaa
