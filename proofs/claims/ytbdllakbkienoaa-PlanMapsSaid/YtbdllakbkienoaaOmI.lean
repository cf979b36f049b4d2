/- The library's slices.Insert at pairs, on a row of the program's own: contract of the translated code. Conditions: i <= n; what is inserted lies in another row of the program's own. -/
import Derived.Test.YtbdllakbkienoaaOmD
namespace Go.Proofs.Ytbdllakbkienoaa
open Go.RowKit Go.Sort Go.Lib
set_option linter.unusedVariables false
set_option linter.unusedSimpArgs false
namespace Om
/-- a row that may have been made longer: in its own place, or anew -/
def InsPost (w : World) (B : Nat) (v : Value) (l' : List Pr) (e : Ending) (w' : World) : Prop :=
  ∃ v', e = .returned v' ∧ w'.ownsRow B 43 2 v' l'.length (flat l') ∧ w.grownBy w' v.ownBlock ∧ (v'.ownBlock = v.ownBlock ∨ v'.ownBlock = some w.heap.size)
/-- a row that was changed in its own place -/
def InPlace (w : World) (B g c : Nat) (l' : List Pr) (e : Ending) (w' : World) : Prop :=
  e = .returned (.slice (some ⟨g, 0, none⟩) l'.length c) ∧ w'.ownsRow B 43 2 (.slice (some ⟨g, 0, none⟩) l'.length c) l'.length (flat l') ∧ w.grownBy w' (some g)
theorem InPlace.post {w w' : World} {B g c n : Nat} {l' : List Pr} {e : Ending} (h : InPlace w B g c l' e w') : InsPost w B (.slice (some ⟨g, 0, none⟩) n c) l' e w' := ⟨_, h.1, h.2.1, h.2.2, .inl rfl⟩
theorem insert_zero (A V : Option Addr) (n c i vc : Nat) (w : World) (hi : i ≤ n) (hnc : n ≤ c) (hc63 : c ≤ 9223372036854775807) (hA : A = none → c = 0) (hsp : ∀ a, A = some a → ∃ g, a = ⟨g, 0, none⟩) :
    Calls Try.prog 77 #[.slice A n c, .int .i64 i, .slice V 0 vc] w fun e w' => e = .returned (.slice A n c) ∧ w = w' := by
  cases A with
  | none =>
    obtain rfl := hA rfl
    obtain rfl : n = 0 := by omega
    obtain rfl : i = 0 := by omega
    clear hA hsp
    go_enter Try.func77, Try.ntmps77
    go_wp2
    all_goals (go_ret; exact ⟨rfl, rfl⟩)
  | some a =>
    obtain ⟨g, rfl⟩ := hsp a rfl
    clear hA hsp
    go_enter Try.func77, Try.ntmps77
    go_wp2
    all_goals (go_ret; exact ⟨rfl, rfl⟩)
theorem step_copy_run2 {ops : Array Oper} {o : Oper} {a : Act} {w : World} {K : Act → World → Prop} {Q : Exit → Act → World → Prop} {E : Prop}
    (hg : o.guard = none) (d x : Operand) (hop : o.op = Op.call { callee := Callee.builtin Builtin.copy, args := #[d, x], argTypes := #[22, 22] })
    (v u : Value) (hd : a.eval d = v) (hx : a.eval x = u) {v' : Value} {w' : World} (hr : (Builtin.copy_ #[22, 22] o.type #[v, u]).run Try.prog w = .ok v' w') (hK : K (a.put o.dst v') w') :
    if Region.wanted o (yielded ops a.tmps) = true then Oper.wp Try.prog o a w K Q else E :=
  step_copy_runI (P := Try.prog) hg d x 22 22 hop v u hd hx hr hK
/-- overlaps of two rows in two blocks -/
theorem over_no (w : World) (g h c d o PP : Nat) (L M : List Value) (la ca lb cb : Nat) (hne : g ≠ h) (hg : Blk w g c L) (hh : Blk w h d M) (hd : 0 < d) :
    (callFunc 78 #[.slice (some ⟨g, o, none⟩) la ca, .slice (some ⟨h, PP, none⟩) lb cb]).run Try.prog w = .ok (.value (.bool false)) w := by
  rw [run_callFunc_extern Try.func78 (by kernel_rfl) (by kernel_rfl) (by kernel_rfl) (e := Extern.SlicesOverlaps.overlaps #[22, 22] #[4]) (by kernel_rfl),
    Lib.run_overlaps_apart w 22 4 43 Try.underlying22 2 Try.sizeOf43 ⟨g, o, none⟩ ⟨h, PP, none⟩ la ca lb cb hne 43 43 (c * 2) (d * 2) hg.shape hh.shape (by omega) (hg.frozen _) (hg.frozen _)]
  rfl
theorem shift_cells (l ps : List Pr) (i : Nat) (R : List Value) (hi : i ≤ l.length) (hR : ps.length * 2 ≤ R.length) :
    ∃ R', splice (splice (flat l ++ R) ((i + ps.length) * 2) (flat (l.drop i))) (i * 2) (flat ps) = flat (l.take i ++ (ps ++ l.drop i)) ++ R' := by
  have h1 : (flat (l.take i)).length = i * 2 := by rw [flat_len, List.length_take, Nat.min_eq_left hi]
  have h2 : (flat (l.drop i)).length = (l.length - i) * 2 := by rw [flat_len, List.length_drop]
  obtain ⟨D, hD⟩ : ∃ D, D = flat (l.drop i) ++ R := ⟨_, rfl⟩
  have hDl : D.length = (l.length - i) * 2 + R.length := by rw [hD, List.length_append, h2]
  have e1 : flat l ++ R = (flat (l.take i) ++ D.take (ps.length * 2)) ++ D.drop (ps.length * 2) := by
    rw [List.append_assoc, List.take_append_drop, hD, ← List.append_assoc, ← flat_split]
  have h3 : (D.take (ps.length * 2)).length = ps.length * 2 := by rw [List.length_take]; omega
  rw [e1, splice_app _ _ _ _ (by rw [List.length_append, h1, h3]; omega), List.append_assoc, splice_app _ _ _ _ h1.symm, flat_append, flat_append, List.drop_append_of_le_length (by rw [flat_len, h3]; omega), List.drop_eq_nil_of_le (show (D.take (ps.length * 2)).length ≤ (flat ps).length by rw [flat_len, h3]; omega), List.nil_append]
  exact ⟨_, by rw [List.append_assoc, List.append_assoc]⟩
set_option maxRecDepth 100000 in
set_option maxHeartbeats 4000000 in
theorem insert_shift (B g n c i vb m vc : Nat) (l ps : List Pr) (w : World) (hr : w.ownsRow B 43 2 (.slice (some ⟨g, 0, none⟩) n c) n (flat l)) (hv : w.ownsRow 0 43 2 (.slice (some ⟨vb, 0, none⟩) m vc) m (flat ps)) (hne : vb ≠ g) (hi : i < n) (hm : 0 < m) (hroom : n + m ≤ c) :
    Calls Try.prog 77 #[.slice (some ⟨g, 0, none⟩) n c, .int .i64 i, .slice (some ⟨vb, 0, none⟩) m vc] w (InPlace w B g c (l.take i ++ (ps ++ l.drop i))) := by
  obtain ⟨R, hb, hn, hnc, hcm, hB⟩ := row_blk hr
  obtain ⟨R2, hb2, hn2, hnc2, hcm2, _⟩ := row_blk hv
  have hc63 : c ≤ 9223372036854775807 := by simpa [maxLen] using hcm
  have hz1 : ¬ ((m : Int) = 0) := by omega
  have hz2 : ¬ ((i : Int) = (n : Int)) := by omega
  have hov : ∀ lb cb, (callFunc 78 #[.slice (some ⟨vb, 0, none⟩) m vc, .slice (some ⟨g, (i + m) * 2, none⟩) lb cb]).run Try.prog w = .ok (.value (.bool false)) w := fun lb cb => over_no w vb g vc c 0 _ _ _ m vc lb cb hne hb2 hb (by omega)
  obtain ⟨X, hX⟩ : ∃ X, X = flat (l.drop i) := ⟨_, rfl⟩
  have hXl : X.length = (n - i) * 2 := by rw [hX, flat_len, List.length_drop, hn]
  obtain ⟨Y, hY⟩ : ∃ Y, Y = flat ps := ⟨_, rfl⟩
  have hYl : Y.length = m * 2 := by rw [hY, flat_len, hn2]
  have hw1 : IntKind.i64.wrap ((i : Int) + (m : Int)) = (i : Int) + (m : Int) := by rw [IntKind.wrap_i64]; omega
  have hb1 : (0 : Int) ≤ (i : Int) + (m : Int) := by omega
  have hin : i ≤ n := by omega
  have htn : ((i : Int) + (m : Int)).toNat = i + m := by omega
  have hq2 : ¬ (c = i + m) := by omega
  have hq3 : (i : Int) ≤ (n : Int) + (m : Int) := by omega
  have hq4 : ¬ (c = i) := by omega
  have hmin1 : Nat.min (n + m - i) (n + m - (i + m)) = n - i := by simp only [Nat.min_def]; split <;> omega
  have hmin2 : Nat.min m (n + m - i) = m := by simp only [Nat.min_def]; split <;> omega
  obtain ⟨W1, hW1⟩ : ∃ W1, W1 = w.drew.setCells g ((i + m) * 2) X := ⟨_, rfl⟩
  have hcp1 : ∀ ty dc sc, (Builtin.copy_ #[22, 22] ty #[.slice (some ⟨g, (i + m) * 2, none⟩) (n + m - (i + m)) dc, .slice (some ⟨g, i * 2, none⟩) (n + m - i) sc]).run Try.prog w.drew = .ok (goInt ((n - i : Nat) : Int)) W1 := fun ty dc sc => by
    have h := run_copy2 w.drew ty g ((i + m) * 2) (n + m - (i + m)) dc ⟨g, i * 2, none⟩ (n + m - i) sc X (by rw [hXl, hmin1])
      (fun j v hj => by rw [addr_lit]; exact flat_cell hb i j v (by rwa [hX] at hj)) (fun j hj => hb.drew.some (by rw [hXl] at hj; omega)) (fun j hj => hb.drew.frozen _) (by rw [hX]; exact flat_one_cell _)
    rw [hmin1, ← hW1] at h
    exact h
  have hB1 : Blk W1 g c (splice (flat l ++ R) ((i + m) * 2) X) := by rw [hW1]; exact hb.drew.set (by rw [hXl]; omega)
  have hG1 : w.grownBy W1 (some g) := by rw [hW1]; exact (grown_drew w _).trans (grown_set _ _ _ _)
  have hV1 : ∀ x : Addr, x.block = vb → W1.cell? x = w.cell? x := fun x hx => World.cell?_of_block (by rw [hx]; exact hG1.block vb hb2.lt (fun e => hne (by injection e)))
  have hcp2 : ∀ (W : World), (∀ x, W.cell? x = W1.cell? x) → (∀ x, W.frozen? x = W1.frozen? x) → ∀ ty dc, (Builtin.copy_ #[22, 22] ty #[.slice (some ⟨g, i * 2, none⟩) (n + m - i) dc, .slice (some ⟨vb, 0, none⟩) m vc]).run Try.prog W = .ok (goInt m) (W.setCells g (i * 2) Y) := fun W hWc hWf ty dc => by
    have h := run_copy2 W ty g (i * 2) (n + m - i) dc ⟨vb, 0, none⟩ m vc Y (by rw [hYl, hmin2])
      (fun j v hj => by
        rw [addr_lit, hWc, hV1 _ rfl]
        have := flat_cell hb2 0 j v (by rw [List.drop_zero, ← hY]; exact hj)
        simpa using this) (fun j hj => by rw [hWc]; exact hB1.some (by rw [hYl] at hj; omega)) (fun j hj => by rw [hWf]; exact hB1.frozen _) (by rw [hY]; exact flat_one_cell _)
    rw [hmin2] at h
    exact h
  have hB2 := hB1.set (o := i * 2) (vs := Y) (by rw [hYl]; omega)
  obtain ⟨R', hR'⟩ := shift_cells l ps i R (by omega) (by have := hb.2; rw [List.length_append, flat_len, hn] at this; rw [hn2]; omega)
  rw [hX, hY, ← hn2, hR', ← hY] at hB2
  have hlen : (l.take i ++ (ps ++ l.drop i)).length = n + m := by rw [List.length_append, List.length_append, List.length_take, List.length_drop]; omega
  have hR2 := blk_row hB2 (n := n + m) (B := B) hlen hroom hcm hB
  have hG2 := hG1.trans (grown_set W1 g (i * 2) Y)
  have HP := Lib.hid (show InPlace w B g c (l.take i ++ (ps ++ l.drop i)) (.returned (.slice (some ⟨g, 0, none⟩) (n + m) c)) (W1.setCells g (i * 2) Y) from ⟨by rw [hlen], by rw [hlen]; exact hR2, hG2⟩)
  clear hW1 hB1 hG1 hB2 hR2 hG2 hlen hR' hV1 hX hXl hY hYl hmin1 hmin2 hb hb2 hr hv hn hn2
  go_enter Try.func77, Try.ntmps77
  go_wp2_with (simp only [hov])
  go_region_law (refine step_copy_run2 rfl _ _ rfl _ _ (by simp [Act.eval, Act.put]) (by simp [Act.eval, Act.put]) (hcp1 _ _ _) ?_)
  go_wp2_with (at_builtin; refine wpList_copy_runI _ rfl _ _ 22 22 rfl _ _ rfl rfl (hcp2 _ (fun _ => rfl) (fun _ => rfl) _ _) ?_)
  go_ret
  exact HP.out
set_option maxRecDepth 100000 in
set_option maxHeartbeats 4000000 in
theorem insert_end (B n c vb m vc : Nat) (A : Option Addr) (l ps : List Pr) (w : World) (hr : w.ownsRow B 43 2 (.slice A n c) n (flat l)) (hv : w.ownsRow 0 43 2 (.slice (some ⟨vb, 0, none⟩) m vc) m (flat ps)) (hm : 0 < m) (hs : (n + m) * 16 ≤ 140737488355328) (hw : B ≤ w.heap.size) :
    Calls Try.prog 77 #[.slice A n c, .int .i64 n, .slice (some ⟨vb, 0, none⟩) m vc] w (InsPost w B (.slice A n c) (l ++ ps)) := by
  obtain ⟨R2, hb2, hn2, hnc2, hcm2, _⟩ := row_blk hv
  obtain ⟨i0, hi, hz0, hz1, hz2⟩ := info_parts info
  have hn : l.length = n := by have := hr.1; rw [flat_len] at this; omega
  have hz3 : ¬ ((m : Int) = 0) := by omega
  have hY := Lib.hid (show ∀ (j : Nat) (u : Value), (flat ps)[j]? = some u → w.cell? ((⟨vb, 0, none⟩ : Addr).add j) = some u from fun j u hj => by
    rw [addr_lit]
    have := flat_cell hb2 0 j u (by rw [List.drop_zero]; exact hj)
    simpa using this)
  have hYl := Lib.hid (show (flat ps).length = m * 2 by rw [flat_len, hn2])
  have hL := Lib.hid (show (l ++ ps).length = n + m by rw [List.length_append, hn, hn2])
  have HR := Lib.hid hr
  have go : ∀ v' w', w'.ownsRow B 43 2 v' (n + m) (flat l ++ flat ps) → w.grownBy w' (Value.slice A n c).ownBlock → (v'.ownBlock = (Value.slice A n c).ownBlock ∨ v'.ownBlock = some w.heap.size) → InsPost w B (.slice A n c) (l ++ ps) (.returned v') w' := fun v' w' h1 h2 h3 => ⟨v', rfl, by rw [hL.out, flat_append]; exact h1, h2, h3⟩
  have GO := Lib.hid go
  rcases hr.2 with ⟨e, _⟩ | ⟨g, cap, cur, e, _, _, hnc, hcm, _⟩
  · injection e with e1 e2 e3
    subst e1 e2 e3
    clear hr hv go hb2 hn2 hn
    go_enter Try.func77, Try.ntmps77
    go_wp2_with (at_builtin; refine wpList_append_own_at _ rfl (.tmp 23) (.tmp 24) 22 rfl B 43 i0 _ 2 16 Try.underlying22 hi hz0 hz1 hz2 rfl (by omega) (.slice none 0 0) 0 (flat l) rfl HR.out ⟨vb, 0, none⟩ m vc (flat ps) rfl hYl.out hY.out (flat_one_cell _) (by unfold maxLen; omega) hs hw ?_; intro v' w' h1 h2 _ h3; have HP := Lib.hid (GO.out v' w' h1 h2 h3); clear h1 h2 h3)
    go_ret
    exact HP.out
  · injection e with e1 e2 e3
    subst e1 e3
    have hc63 : c ≤ 9223372036854775807 := by simpa [maxLen] using hcm
    clear hr hv go hb2 hn2 hn
    go_enter Try.func77, Try.ntmps77
    go_wp2_with (at_builtin; refine wpList_append_own_at _ rfl (.tmp 23) (.tmp 24) 22 rfl B 43 i0 _ 2 16 Try.underlying22 hi hz0 hz1 hz2 rfl (by omega) (.slice (some ⟨g, 0, none⟩) n c) n (flat l) rfl HR.out ⟨vb, 0, none⟩ m vc (flat ps) rfl hYl.out hY.out (flat_one_cell _) (by unfold maxLen; omega) hs hw ?_; intro v' w' h1 h2 _ h3; have HP := Lib.hid (GO.out v' w' h1 h2 h3); clear h1 h2 h3)
    all_goals (go_ret; exact HP.out)
theorem grow_cells (l ps : List Pr) (i : Nat) (D : List Value) (hi : i ≤ l.length) (hD : (ps.length + (l.length - i)) * 2 ≤ D.length) :
    ∃ R', splice (splice (flat (l.take i) ++ D) (i * 2) (flat ps)) ((i + ps.length) * 2) (flat (l.drop i)) = flat (l.take i ++ (ps ++ l.drop i)) ++ R' := by
  have h1 : (flat (l.take i)).length = i * 2 := by rw [flat_len, List.length_take, Nat.min_eq_left hi]
  rw [splice_app _ _ _ _ h1.symm, ← List.append_assoc, splice_app _ _ _ _ (by rw [List.length_append, h1, flat_len]; omega), flat_append, flat_append]
  exact ⟨_, by rw [List.append_assoc, List.append_assoc, List.append_assoc]⟩
set_option maxRecDepth 100000 in
set_option maxHeartbeats 4000000 in
theorem insert_grow (B g n c i vb m vc : Nat) (l ps : List Pr) (w : World) (hr : w.ownsRow B 43 2 (.slice (some ⟨g, 0, none⟩) n c) n (flat l)) (hv : w.ownsRow 0 43 2 (.slice (some ⟨vb, 0, none⟩) m vc) m (flat ps)) (hi : i < n) (hm : 0 < m) (hroom : c < n + m) (hs : (n + m) * 16 ≤ 140737488355328) (hw : B ≤ w.heap.size) :
    Calls Try.prog 77 #[.slice (some ⟨g, 0, none⟩) n c, .int .i64 i, .slice (some ⟨vb, 0, none⟩) m vc] w (InsPost w B (.slice (some ⟨g, 0, none⟩) n c) (l.take i ++ (ps ++ l.drop i))) := by
  obtain ⟨R, hb, hn, hnc, hcm, hB⟩ := row_blk hr
  obtain ⟨R2, hb2, hn2, hnc2, hcm2, _⟩ := row_blk hv
  obtain ⟨i0, hi0, hz0, hzs, hzb⟩ := info_parts info
  have hz1 : ¬ ((m : Int) = 0) := by omega
  have hz2 : ¬ ((i : Int) = (n : Int)) := by omega
  have hz3 : (c : Int) < (n : Int) + (m : Int) := by omega
  have hgw : g < w.heap.size := hb.lt
  have hvw : vb < w.heap.size := hb2.lt
  have hkk : (n : Int) + (m : Int) - (i : Int) = ((n + m - i : Nat) : Int) := by omega
  have hik : i + (n + m - i) = n + m := by omega
  have h1 : (flat (l.take i)).length = i * 2 := by rw [flat_len, List.length_take, Nat.min_eq_left (by omega)]
  have hold : (Builtin.firstCells i0.size i (.slice (some ⟨g, 0, none⟩) i c)).run Try.prog w.drew = .ok (flat (l.take i)).toArray w.drew := by
    rw [hzs]
    exact run_firstCells_some w.drew 2 i ⟨g, 0, none⟩ i c (flat (l.take i)) h1 (fun j v hj => by
      rw [addr_lit]
      have : (flat l)[j]? = some v := by
        rw [flat_take, List.getElem?_take] at hj
        split at hj
        · exact hj
        · cases hj
      have := flat_cell hb 0 j v (by rw [List.drop_zero]; exact this)
      simpa using this)
  have hrz : ∀ ty, (Builtin.append_ #[22, 3] ty #[.slice (some ⟨g, 0, none⟩) i c, .int .i64 ((n : Int) + (m : Int) - (i : Int))]).run Try.prog w =
      .ok (.slice (some ⟨w.heap.size, 0, none⟩) (n + m) (grownCap w (n + m) c 43)) (w.drew.alloc (.cells ((flat (l.take i)).toArray ++ Builtin.zeroCells (Value.agg #[.int .u64 0, .int .u64 0]).cells (n + m - i) ++ Builtin.zeroCells (Value.agg #[.int .u64 0, .int .u64 0]).cells (grownCap w (n + m) c 43 - (n + m))) 43)) := fun ty => by
    have h := Lib.run_append_grow_zeros w 22 3 ty 43 i0 _ .i64 .i64 Try.underlying22 Try.underlying3 hi0 hz0 (some ⟨g, 0, none⟩) i c (flat (l.take i)) hold (n + m - i) (by omega) (by omega) (by omega) (by omega) (by rw [hzb]; omega) (by rw [hzb, hik]; exact growslice_fits hroom hs)
    rw [hik] at h
    rw [hkk]
    exact h
  obtain ⟨G, hG⟩ : ∃ G, G = grownCap w (n + m) c 43 := ⟨_, rfl⟩
  have hGn : n + m ≤ G := by rw [hG]; exact grownCap_ge w _ _ _
  have hGm : G ≤ maxLen := by rw [hG]; exact grownCap_le_maxLen w (n + m) c _ (by unfold maxLen; omega)
  have hG63 : G ≤ 9223372036854775807 := by simpa [maxLen] using hGm
  rw [← hG] at hrz
  obtain ⟨D, hD⟩ : ∃ D : List Value, D = zeros (n + m - i) ++ zeros (G - (n + m)) := ⟨_, rfl⟩
  have hDl : D.length = (G - i) * 2 := by rw [hD, List.length_append, zeros_len, zeros_len]; omega
  obtain ⟨ROW, hROW⟩ : ∃ ROW : Array Value, ROW = (flat (l.take i)).toArray ++ Builtin.zeroCells (Value.agg #[.int .u64 0, .int .u64 0]).cells (n + m - i) ++ Builtin.zeroCells (Value.agg #[.int .u64 0, .int .u64 0]).cells (G - (n + m)) := ⟨_, rfl⟩
  have hRL : ROW = (flat (l.take i) ++ D).toArray := by rw [hROW, hD]; simp [zeros]
  rw [← hROW] at hrz
  obtain ⟨W1, hW1⟩ : ∃ W1, W1 = w.drew.alloc (.cells ROW 43) := ⟨_, rfl⟩
  rw [← hW1] at hrz
  have hB1 : Blk W1 w.heap.size G (flat (l.take i) ++ D) := by
    refine ⟨?_, by rw [List.length_append, h1, hDl]; omega⟩
    rw [hW1, hRL]
    exact heap_alloc_new w.drew _
  have bel1 : Below w.heap.size w W1 := by rw [hW1]; exact ⟨rfl, rfl, rfl, by simp, fun k hk => heap_alloc_old w.drew _ hk⟩
  obtain ⟨X, hX⟩ : ∃ X, X = flat (l.drop i) := ⟨_, rfl⟩
  have hXl : X.length = (n - i) * 2 := by rw [hX, flat_len, List.length_drop, hn]
  obtain ⟨Y, hY⟩ : ∃ Y, Y = flat ps := ⟨_, rfl⟩
  have hYl : Y.length = m * 2 := by rw [hY, flat_len, hn2]
  have hmin1 : Nat.min m (n + m - i) = m := by simp only [Nat.min_def]; split <;> omega
  have hmin2 : Nat.min (n - i) (n + m - (i + m)) = n - i := by simp only [Nat.min_def]; split <;> omega
  have hOld : ∀ x : Addr, x.block < w.heap.size → W1.cell? x = w.cell? x := fun x hx => bel1.cell hx
  have hcpA : ∀ (W : World), (∀ x, W.cell? x = W1.cell? x) → (∀ x, W.frozen? x = W1.frozen? x) → ∀ ty dc, (Builtin.copy_ #[22, 22] ty #[.slice (some ⟨w.heap.size, i * 2, none⟩) (n + m - i) dc, .slice (some ⟨vb, 0, none⟩) m vc]).run Try.prog W = .ok (goInt m) (W.setCells w.heap.size (i * 2) Y) := fun W hWc hWf ty dc => by
    have h := run_copy2 W ty w.heap.size (i * 2) (n + m - i) dc ⟨vb, 0, none⟩ m vc Y (by rw [hYl, hmin1])
      (fun j v hj => by
        rw [addr_lit, hWc, hOld _ hvw]
        have := flat_cell hb2 0 j v (by rw [List.drop_zero, ← hY]; exact hj)
        simpa using this) (fun j hj => by rw [hWc]; exact hB1.some (by rw [hYl] at hj; omega)) (fun j hj => by rw [hWf]; exact hB1.frozen _) (by rw [hY]; exact flat_one_cell _)
    rw [hmin1] at h
    exact h
  have hB2 := hB1.set (o := i * 2) (vs := Y) (by rw [hYl]; omega)
  have hOut : ∀ x : Addr, x.block < w.heap.size → (W1.setCells w.heap.size (i * 2) Y).cell? x = w.cell? x := fun x hx => by rw [World.cell?_setCells_out _ _ _ _ _ (fun h _ => by omega)]; exact hOld x hx
  have hcpB : ∀ (W : World), (∀ x, W.cell? x = (W1.setCells w.heap.size (i * 2) Y).cell? x) → (∀ x, W.frozen? x = (W1.setCells w.heap.size (i * 2) Y).frozen? x) → ∀ ty dc sc, (Builtin.copy_ #[22, 22] ty #[.slice (some ⟨w.heap.size, (i + m) * 2, none⟩) (n + m - (i + m)) dc, .slice (some ⟨g, i * 2, none⟩) (n - i) sc]).run Try.prog W = .ok (goInt ((n - i : Nat) : Int)) (W.setCells w.heap.size ((i + m) * 2) X) := fun W hWc hWf ty dc sc => by
    have h := run_copy2 W ty w.heap.size ((i + m) * 2) (n + m - (i + m)) dc ⟨g, i * 2, none⟩ (n - i) sc X (by rw [hXl, hmin2])
      (fun j v hj => by rw [addr_lit, hWc, hOut _ hgw]; exact flat_cell hb i j v (by rwa [hX] at hj)) (fun j hj => by rw [hWc]; exact hB2.some (by rw [hXl] at hj; omega)) (fun j hj => by rw [hWf]; exact hB2.frozen _) (by rw [hX]; exact flat_one_cell _)
    rw [hmin2] at h
    exact h
  have hC2 := hB1.drew.set (o := i * 2) (vs := Y) (by rw [hYl]; omega)
  have hB3 := hC2.set (o := (i + m) * 2) (vs := X) (by rw [hXl]; omega)
  obtain ⟨R', hR'⟩ := grow_cells l ps i D (by omega) (by rw [hDl, hn2, hn]; omega)
  rw [hX, hY, ← hn2, hR', hn2, ← hX, ← hY] at hB3
  have hlen : (l.take i ++ (ps ++ l.drop i)).length = n + m := by rw [List.length_append, List.length_append, List.length_take, List.length_drop]; omega
  have hR3 := blk_row hB3 (n := n + m) (B := B) hlen hGn hGm hw
  have hG3 : w.grownBy ((W1.drew.setCells w.heap.size (i * 2) Y).setCells w.heap.size ((i + m) * 2) X) (some g) :=
    ⟨by rw [(os_setCells _ _ _ _).1, (os_setCells _ _ _ _).1]; exact bel1.os, by rw [(os_setCells _ _ _ _).2.1, (os_setCells _ _ _ _).2.1]; exact bel1.tape, by rw [(os_setCells _ _ _ _).2.2, (os_setCells _ _ _ _).2.2]; exact bel1.output, by rw [size_setCells, size_setCells]; exact bel1.size, fun k hk _ => by rw [heap_setCells_other _ _ (by omega), heap_setCells_other _ _ (by omega)]; exact bel1.block k hk⟩
  have HP := Lib.hid (show InsPost w B (.slice (some ⟨g, 0, none⟩) n c) (l.take i ++ (ps ++ l.drop i)) (.returned (.slice (some ⟨w.heap.size, 0, none⟩) (n + m) G)) ((W1.drew.setCells w.heap.size (i * 2) Y).setCells w.heap.size ((i + m) * 2) X) from ⟨_, rfl, by rw [hlen]; exact hR3, hG3, .inr rfl⟩)
  have hx1 : IntKind.i64.wrap ((i : Int) + (m : Int)) = (i : Int) + (m : Int) := by rw [IntKind.wrap_i64]; omega
  have hx2 : (0 : Int) ≤ (i : Int) + (m : Int) := by omega
  have hx3 : i ≤ n := by omega
  have hx4 : ((i : Int) + (m : Int)).toNat = i + m := by omega
  have hx5 : (i : Int) ≤ (n : Int) := by omega
  have hx6 : ¬ (G = i) := by omega
  have hx7 : ¬ (G = i + m) := by omega
  have hx8 : ¬ (c = i) := by omega
  clear hB1 hB2 hC2 hB3 hR3 hG3 bel1 hOld hOut hR' hlen hkk hik hold hRL hG hROW hX hXl hY hYl hmin1 hmin2 hD hDl hb hb2 hr hv hn hn2 h1
  subst hW1
  have hE1 : ∀ x, ((w.alloc (.cells ROW 43)).drew).cell? x = (w.drew.alloc (.cells ROW 43)).cell? x := fun x => rfl
  have hE2 : ∀ x, ((w.alloc (.cells ROW 43)).drew).frozen? x = (w.drew.alloc (.cells ROW 43)).frozen? x := fun x => rfl
  have hF1 : ∀ x, (((w.alloc (.cells ROW 43)).drew.setCells w.heap.size (i * 2) Y).drew).cell? x = ((w.drew.alloc (.cells ROW 43)).setCells w.heap.size (i * 2) Y).cell? x := fun x => rfl
  have hF2 : ∀ x, (((w.alloc (.cells ROW 43)).drew.setCells w.heap.size (i * 2) Y).drew).frozen? x = ((w.drew.alloc (.cells ROW 43)).setCells w.heap.size (i * 2) Y).frozen? x := fun x => rfl
  go_enter Try.func77, Try.ntmps77
  go_wp2_with (first
    | (at_builtin; refine Lib.wpList_append_run _ rfl _ _ _ _ rfl _ _ rfl rfl _ _ (hrz _) ?_)
    | (at_builtin; refine wpList_copy_runI _ rfl _ _ 22 22 rfl _ _ rfl rfl (hcpA _ hE1 hE2 _ _) ?_)
    | (at_builtin; refine wpList_copy_runI _ rfl _ _ 22 22 rfl _ _ rfl rfl (hcpB _ (fun _ => rfl) (fun _ => rfl) _ _ _) ?_))
  go_region_law (refine step_copy_run2 rfl _ _ rfl (.slice (some ⟨w.heap.size, (i + m) * 2, none⟩) (n + m - (i + m)) (G - (i + m))) (.slice (some ⟨g, i * 2, none⟩) (n - i) (c - i)) (by simp [Act.eval, Act.put]) (by simp [Act.eval, Act.put]) (hcpB _ hF1 hF2 _ (G - (i + m)) (c - i)) ?_)
  go_wp2
  go_ret
  rw [drew_setCells]
  exact HP.out
theorem insert_any (B n c i vb m vc : Nat) (A : Option Addr) (l ps : List Pr) (w : World) (hr : w.ownsRow B 43 2 (.slice A n c) n (flat l)) (hv : w.ownsRow 0 43 2 (.slice (some ⟨vb, 0, none⟩) m vc) m (flat ps)) (hne : (Value.slice A n c).ownBlock ≠ some vb) (hi : i ≤ n) (hs : (n + m) * 16 ≤ 140737488355328) (hw : B ≤ w.heap.size) :
    Calls Try.prog 77 #[.slice A n c, .int .i64 i, .slice (some ⟨vb, 0, none⟩) m vc] w (InsPost w B (.slice A n c) (l.take i ++ (ps ++ l.drop i))) := by
  have hn : l.length = n := by have := hr.1; rw [flat_len] at this; omega
  have hn2 : ps.length = m := by have := hv.1; rw [flat_len] at this; omega
  by_cases h0 : m = 0
  · subst h0
    obtain rfl : ps = [] := List.eq_nil_of_length_eq_zero hn2
    rw [List.nil_append, List.take_append_drop]
    have hc : n ≤ c ∧ c ≤ 9223372036854775807 ∧ (A = none → c = 0) ∧ (∀ a, A = some a → ∃ g, a = ⟨g, 0, none⟩) := by
      rcases hr.2 with ⟨e, _⟩ | ⟨g, cap, cur, e, _, _, hnc, hcm, _⟩
      · injection e with e1 e2 e3
        subst e1 e2 e3
        exact ⟨by omega, by omega, fun _ => rfl, fun a h => by cases h⟩
      · injection e with e1 e2 e3
        subst e1 e3
        exact ⟨hnc, by simpa [maxLen] using hcm, fun h => (by cases h), fun a h => (by cases h; exact ⟨g, rfl⟩)⟩
    refine (insert_zero A _ n c i vc w hi hc.1 hc.2.1 hc.2.2.1 hc.2.2.2).mono ?_
    rintro e w' ⟨rfl, rfl⟩
    exact ⟨_, rfl, by rw [hn]; exact hr, grown_refl _ _, .inl rfl⟩
  · by_cases hin : i = n
    · subst hin
      rw [List.take_of_length_le (by omega), List.drop_eq_nil_of_le (by omega), List.append_nil]
      exact insert_end B _ c vb m vc A l ps w hr hv (by omega) hs hw
    · rcases hr.2 with ⟨e, h⟩ | ⟨g, cap, cur, e, _, _, hnc, hcm, _⟩
      · omega
      · injection e with e1 e2 e3
        subst e1 e3
        by_cases hroom : n + m ≤ c
        · exact (insert_shift B g n c i vb m vc l ps w hr hv (fun e => hne (by rw [e]; rfl)) (by omega) (by omega) hroom).mono fun e w' h => h.post
        · exact insert_grow B g n c i vb m vc l ps w hr hv (by omega) (by omega) (by omega) hs hw
end Om
end Go.Proofs.Ytbdllakbkienoaa
