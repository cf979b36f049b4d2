/- leapfrogref02.Has, and cut of leapfrogref05: contracts of the translated code. Conditions: at most 1000 pairs; the bounds of each number's kind. -/
import Derived.Test.YtbdllakbkienoaaOmR
import Derived.Maps.AppendAt
namespace Go.Proofs.Ytbdllakbkienoaa
open Go.RowKit Go.Sort
set_option linter.unusedVariables false
set_option linter.unusedSimpArgs false
namespace Om
theorem hasR_any (a b k : Int) (al : 0 ≤ a) (ah : a ≤ 18446744073709551615) (bl : 0 ≤ b) (bh : b ≤ 18446744073709551615) (kl : 0 ≤ k) (kh : k ≤ 18446744073709551615) (w : World) :
    Calls Try.prog 43 #[.agg #[.int .u64 a, .int .u64 b], .int .u64 k] w fun e w' => e = .returned (.bool (decide (a ≤ k ∧ k ≤ b))) ∧ Below w.heap.size w w' := by
  go_enter Try.func43, Try.ntmps43
  go_wp2
  all_goals (go_ret; refine ⟨ret_eq ?_, (bel_alloc (Below.refl _ _) _)⟩; simp; try omega)
/-- two slices that share no block -/
def Apt (q r : Value) : Prop := ∀ k, q.ownBlock = some k → r.ownBlock ≠ some k
theorem apt_nil (r : Value) : Apt (.slice none 0 0) r := fun k hk => by simp [Value.ownBlock] at hk
theorem Apt.symm {q r : Value} (h : Apt q r) : Apt r q := fun k hk hk2 => h k hk2 hk
/-- 'out = append(out, y)' onto a row of the call's own: what other rows keep -/
theorem app2 {ops : Array Oper} {rest : List Oper} {o : Oper} {a : Act} {Q : Exit → Act → World → Prop} (hgd : o.guard = none) (s x : Operand)
    (ho : o.op = .call { callee := .builtin .append, args := #[s, x], argTypes := #[22, 22] }) (w : World) (base n : Nat) (v : Value) (ys : List Pr) (y : Pr)
    (hs : a.eval s = v) (hx : a.eval x = .slice (some ⟨w.heap.size, 0, none⟩) 1 1) (hown : w.ownsRow base 43 2 v n (flat ys)) (hn : (n + 1) * 16 ≤ 140737488355328) (hb : base ≤ w.heap.size)
    (h : ∀ v' w', w'.ownsRow base 43 2 v' (n + 1) (flat (ys ++ [y])) → Below base w w' → (∀ B m r xs, w.ownsRow B 43 2 r m xs → Apt v r → w'.ownsRow B 43 2 r m xs ∧ Apt v' r) → wpList Try.prog ops Q rest (a.put o.dst v') w') :
    wpList Try.prog ops Q (o :: rest) a (w.alloc (.cells #[.int .u64 y.1, .int .u64 y.2] 43)) := by
  obtain ⟨i0, hi, hz0, hz1, hz2⟩ := info_parts info
  refine wpList_append_own_at _ hgd s x 22 ho base 43 i0 _ 2 16 Try.underlying22 hi hz0 hz1 hz2 rfl (by omega) v n (flat ys) hs (hown.alloc _) ⟨w.heap.size, 0, none⟩ 1 1 [.int .u64 y.1, .int .u64 y.2] hx rfl ?_ ?_ (by unfold maxLen; omega) (by omega) (by simp; omega) ?_
  · intro j u hj
    rw [addr_lit, Nat.zero_add, World.cell?_alloc_new]
    simpa using hj
  · intro u hu
    simp at hu
    rcases hu with rfl | rfl <;> rfl
  · intro v' w' h1 h2 _ hat
    rw [show flat ys ++ [.int .u64 y.1, .int .u64 y.2] = flat (ys ++ [y]) by rw [flat_append, flat_one]] at h1
    refine h v' w' h1 (((Below.refl _ _).alloc hb _).grown h2 (by simp; omega) fun k hk => (hown.lt k hk).1) fun B m r xs hr hap => ⟨?_, ?_⟩
    · refine row_keep hr fun k hk => ?_
      have hlt := (hr.lt k hk).2
      exact (h2.block k (by simp; omega) (fun e => hap k e.symm hk)).trans (Below.heap_alloc w _ k hlt)
    · intro k hk hk2
      rcases hat with e | e
      · exact hap k (e.symm.trans hk) hk2
      · have hlt := (hr.lt k hk2).2
        rw [hk] at e
        injection e with e
        simp at e
        omega
theorem in_take {l : List Pr} {k : Nat} {x : Pr} {lo hi : Int} (hx : l[k]? = some x) (c : lo ≤ x.1 ∧ x.1 ≤ hi) : inL (l.take (k + 1)) lo hi = inL (l.take k) lo hi ++ [x] ∧ outL (l.take (k + 1)) lo hi = outL (l.take k) lo hi := by
  rw [take_succ' hx, inL, inL, outL, outL, List.filter_append, List.filter_append]
  have : inB lo hi x = true := decide_eq_true c
  simp [List.filter_cons, this]
theorem out_take {l : List Pr} {k : Nat} {x : Pr} {lo hi : Int} (hx : l[k]? = some x) (c : ¬ (lo ≤ x.1 ∧ x.1 ≤ hi)) : inL (l.take (k + 1)) lo hi = inL (l.take k) lo hi ∧ outL (l.take (k + 1)) lo hi = outL (l.take k) lo hi ++ [x] := by
  rw [take_succ' hx, inL, inL, outL, outL, List.filter_append, List.filter_append]
  have : inB lo hi x = false := decide_eq_false c
  simp [List.filter_cons, this]
theorem inL_len (l : List Pr) (lo hi : Int) : (inL l lo hi).length ≤ l.length := List.length_filter_le _ _
theorem outL_len (l : List Pr) (lo hi : Int) : (outL l lo hi).length ≤ l.length := List.length_filter_le _ _
/-- the outcome of cut -/
def CutPost (w : World) (bm : Nat) (l : List Pr) (lo hi : Int) (e : Ending) (w' : World) : Prop :=
  ∃ r v, e = .returned r ∧ w'.ownsRow w.heap.size 43 2 r (inL l lo hi).length (flat (inL l lo hi)) ∧ MapAt w' bm v (outL l lo hi) ∧ Fresh w.heap.size v ∧ Only bm w w'
set_option maxRecDepth 100000 in
set_option maxHeartbeats 1000000 in
theorem cut_any (bm : Nat) (v : Value) (l : List Pr) (lo hi : Int) (w : World) (hm : MapAt w bm v l) (hs : l.length ≤ 1000) (hd : Bd l) (ll : 0 ≤ lo) (lh : lo ≤ 18446744073709551615) (hl : 0 ≤ hi) (hh : hi ≤ 18446744073709551615) :
    Calls Try.prog 67 #[.pointer (some ⟨bm, 0, none⟩), .agg #[.int .u64 lo, .int .u64 hi]] w (CutPost w bm l lo hi) := by
  obtain ⟨A, c, rfl, hc, rd, hz⟩ := hm.rd
  have hbm := hm.lt
  have HM := Lib.hid hm; clear hm
  have HR := Lib.hid rd; clear rd
  have HD := Lib.hid hd; clear hd
  have hl1 : (l.length : Int) ≤ 1000 := by omega
  have CH := fun k h1 h2 W => Lib.hid (hasR_any lo hi k ll lh hl hh h1 h2 W)
  generalize hn : l.length = n at *
  have HN := Lib.hid hn; clear hn
  go_enter Try.func67, Try.ntmps67
  go_wp2
  go_loopw [5, 6, 7] (fun q r i wr => ∃ (k : Nat), k ≤ n ∧ i = .int .i64 k ∧ wr.ownsRow (w.heap.size + 1) 43 2 q (inL (l.take k) lo hi).length (flat (inL (l.take k) lo hi)) ∧ wr.ownsRow (w.heap.size + 1) 43 2 r (outL (l.take k) lo hi).length (flat (outL (l.take k) lo hi)) ∧ Apt q r ∧ Below (w.heap.size + 1) (w.alloc (.cells #[.int .u64 lo, .int .u64 hi] 25)) wr) (fun _ _ i _ => n - (intOf i).toNat)
  case atStart => exact ⟨0, Nat.zero_le _, rfl, World.ownsRow_nil _ _ _ _, World.ownsRow_nil _ _ _ _, apt_nil _, Below.refl _ _⟩
  case round =>
    obtain ⟨k, hk, rfl, hq, hr, hap, bel⟩ := hrel
    have hbs := bel.size
    simp at hbs
    have t0 : wr.cell? ⟨w.heap.size, 0, none⟩ = some (.int .u64 lo) := by rw [bel.cell (p := ⟨w.heap.size, 0, none⟩) (by simp)]; simp
    have t1 : wr.cell? ⟨w.heap.size, 1, none⟩ = some (.int .u64 hi) := by rw [bel.cell (p := ⟨w.heap.size, 1, none⟩) (by simp)]; simp
    have belw : Below w.heap.size w wr := ((Below.refl _ _).alloc (Nat.le_refl _) _).trans (bel.mono (by omega))
    have m0 : wr.cell? ⟨bm, 0, none⟩ = some (.slice A n c) := (HM.out.below belw).1
    have f0 : wr.frozen? ⟨bm, 0, none⟩ = false := (HM.out.below belw).2.1
    have hq1 := inL_len (l.take k) lo hi
    have hr1 := outL_len (l.take k) lo hi
    have hk1 : (l.take k).length ≤ 1000 := by rw [List.length_take]; omega
    have OQ := Lib.hid hq; clear hq
    have OR := Lib.hid hr; clear hr
    have AP := Lib.hid hap; clear hap
    by_cases hlt : k < n
    · have u0 : decide ((k : Int) < n) = true := decide_eq_true (by omega)
      have hki : (k : Int) < n := by omega
      obtain ⟨x, hx, hmem⟩ := getElem?_lt HN.out hlt
      obtain ⟨d0, d1, d2, d3⟩ := HD.out x hmem
      have HX := Lib.hid hx; clear hx hmem
      obtain ⟨b, o, rfl, c0, c1⟩ := (HR.out.below belw) k x HX.out
      have HC := fun W => Lib.hid (CH x.1 d0 d1 W).out
      have k0 := cell_regrown c0
      have k1 := cell_regrown c1
      have k2 := cell_regrown t0
      have k3 := cell_regrown t1
      have k4 := cell_regrown m0
      by_cases hin : lo ≤ x.1 ∧ x.1 ≤ hi
      · obtain ⟨e1, e2⟩ := in_take (l := l) HX.out hin
        have E1 := Lib.hid e1
        have E2 := Lib.hid e2
        rw [decide_eq_true hin] at HC
        clear e1 e2 hin CH
        go_wp2
        refine wp_region_quiet_below (by kernel_rfl) (by kernel_rfl) ?_
        repeat (quiet_step ((go_at_call 43; exact Calls.regrown_of (HC _).out)))
        refine wpQuiet_nil ?_
        intro _ hw'
        obtain ⟨⟨dq, osq⟩, hw''⟩ := hw'
        subst hw''
        have b2 := below_regrown wr dq osq
        show Exit.then _ _ Exit.normal _ (grow (redrawn wr dq) osq)
        replace k0 := k0 dq osq
        replace k1 := k1 dq osq
        replace k4 := k4 dq osq
        have OQ2 := Lib.hid (row_below OQ.out b2)
        have OR2 := Lib.hid (row_below OR.out b2)
        have bel2 := bel.trans (b2.mono hbs)
        have hz2 : w.heap.size + 1 ≤ (grow (redrawn wr dq) osq).heap.size := Nat.le_trans hbs b2.size
        clear b2 OQ OR k2 k3 t0 t1 m0 f0 c0 c1 bel belw hbs
        generalize grow (redrawn wr dq) osq = w2 at *
        go_wp2_with (at_builtin; refine app2 rfl (.tmp 27) (.tmp 35) rfl w2 (w.heap.size + 1) _ _ _ x rfl rfl OQ2.out (by omega) hz2 ?_; intro v1 w1 h1 b1 s1; have H1 := Lib.hid h1; clear h1; have S1 := Lib.hid (s1 _ _ _ _ OR2.out AP.out); clear s1)
        go_roundw
        case rel => exact ⟨k + 1, by omega, by go_num, by rw [E1.out, List.length_append]; exact H1.out, by rw [E2.out]; exact S1.out.1, S1.out.2, bel2.trans b1⟩
        case measure => simp [intOf]; omega
      · obtain ⟨e1, e2⟩ := out_take (l := l) HX.out hin
        have E1 := Lib.hid e1
        have E2 := Lib.hid e2
        rw [decide_eq_false hin] at HC
        clear e1 e2 hin CH
        go_wp2
        refine wp_region_quiet_below (by kernel_rfl) (by kernel_rfl) ?_
        repeat (quiet_step ((go_at_call 43; exact Calls.regrown_of (HC _).out)))
        refine wpQuiet_nil ?_
        intro _ hw'
        obtain ⟨⟨dq, osq⟩, hw''⟩ := hw'
        subst hw''
        have b2 := below_regrown wr dq osq
        show Exit.then _ _ Exit.normal _ (grow (redrawn wr dq) osq)
        replace k0 := k0 dq osq
        replace k1 := k1 dq osq
        replace k4 := k4 dq osq
        have OQ2 := Lib.hid (row_below OQ.out b2)
        have OR2 := Lib.hid (row_below OR.out b2)
        have bel2 := bel.trans (b2.mono hbs)
        have hz2 : w.heap.size + 1 ≤ (grow (redrawn wr dq) osq).heap.size := Nat.le_trans hbs b2.size
        clear b2 OQ OR k2 k3 t0 t1 m0 f0 c0 c1 bel belw hbs
        generalize grow (redrawn wr dq) osq = w2 at *
        go_wp2_with (at_builtin; refine app2 rfl (.tmp 37) (.tmp 45) rfl w2 (w.heap.size + 1) _ _ _ x rfl rfl OR2.out (by omega) hz2 ?_; intro v1 w1 h1 b1 s1; have H1 := Lib.hid h1; clear h1; have S1 := Lib.hid (s1 _ _ _ _ OQ2.out AP.out.symm); clear s1)
        go_roundw
        case rel => exact ⟨k + 1, by omega, by go_num, by rw [E1.out]; exact S1.out.1, by rw [E2.out, List.length_append]; exact H1.out, S1.out.2.symm, bel2.trans b1⟩
        case measure => simp [intOf]; omega
    · obtain rfl : k = n := by omega
      have u0 : decide ((k : Int) < k) = false := decide_eq_false (by omega)
      have ht : l.take k = l := List.take_of_length_le (by have := HN.out; omega)
      rw [ht] at OQ OR
      obtain ⟨_, A', c', rfl, _⟩ := row_form OR.out
      clear CH
      go_wp2
      go_ret
      refine ⟨_, _, rfl, ?_, MapAt.made m0 f0 OR.out rfl (by omega), fun q hq => by have := row_fresh OR.out q hq; omega, (Only.of_below belw).set _⟩
      exact row_base (row_keep OQ.out fun g hg => Below.heap_setCell wr ⟨bm, 0, none⟩ _ g (fun e => by have := row_fresh OQ.out g hg; simp at e; omega)) (by omega)
end Om
end Go.Proofs.Ytbdllakbkienoaa
