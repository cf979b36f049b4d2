/- Gap of package picks: contract of the translated code. Conditions: those of each lemma. -/
import Derived.Test.YtnoggggbghkgkaaPkA
namespace Go.Proofs.Ytnoggggbghkgkaa
open Go.RowKit Go.Shelf Go.Sort
set_option linter.unusedVariables false
set_option linter.unusedSimpArgs false
attribute [local go_sem] Oper.semAt_some
namespace Pk
open Dm (RdK BdI bel_alloc bel_trans cell_lt flatI info info_parts row_rd)
/-- what Gap returns -/
def GapPost (t h : Int) (l : List Int) (w : World) (e : Ending) (w' : World) : Prop :=
  (e = .returned (if fitT t h l.length = 0 then .tuple #[.int .i64 ((gapF h (chL t.toNat l)).1 : Nat), .int .i64 0] else .tuple #[.int .i64 0, .int .i64 (fitT t h l.length)])) ∧ Below w.heap.size w w'
theorem fitT_ok {t h n : Int} (H : fitT t h n = 0) : 1 ≤ t ∧ t ≤ 64 ∧ 0 ≤ n ∧ n ≤ 65536 ∧ 0 ≤ h ∧ h < t := by
  unfold fitT at H
  split at H
  · cases H
  · have := fitE_ok H; omega
set_option maxRecDepth 100000 in
set_option maxHeartbeats 2000000 in
theorem gap_in (F : Fence) (hF : ∀ f, F.fn f) (hro : F.round = none) (hwide : ∀ {n g : Nat} {args : Array Value} {w : World} {R : Ending → World → Prop}, Calls Try.prog g args w R → CallsIn F n Try.prog g args w R) (n : Nat) (hn : 5 ≤ n) (t th : Int) (A : Option Addr) (m c : Nat) (xs : List Int) (hl : xs.length = m) (hx : m ≤ maxLen) (w : World) (hrd : RdK .i64 w A xs) :
    CallsIn F n Try.prog 18 #[.int .i64 t, .int .i64 th, .slice A m c] w (GapPost t th xs w) := by
  unfold maxLen at hx
  have h1 : 1 ≤ n := by omega
  have hf := hF 38
  have hf1 := hF 34
  by_cases h0 : fitT t th xs.length = 0
  · obtain ⟨a1, a2, a3, a4, a5, a6⟩ := fitT_ok h0
    have HP := Lib.hid (show ∀ e w', GapPost t th xs w e w' ↔ e = .returned (.tuple #[.int .i64 ((gapF th (chL t.toNat xs)).1 : Nat), .int .i64 0]) ∧ Below w.heap.size w w' from fun e w' => by unfold GapPost; rw [if_pos h0])
    have CF := fun (n : Nat) (W : World) => Lib.hid (hwide (n := n) (fitsThread_any t th m W))
    rw [hl] at h0 a4
    rw [h0] at CF
    obtain ⟨T, rfl⟩ := Int.eq_ofNat_of_zero_le (show 0 ≤ t by omega)
    obtain ⟨W0, hW0⟩ : ∃ W0 : World, W0 = ((((w.alloc (.cells #[.int .i64 th] 3)).alloc (.cells #[.int .i64 0] 3)).alloc (.cells #[.int .i64 0] 3)).alloc (.cells #[.int .i64 T] 3)).alloc (.cells #[.slice A m c] 22) := ⟨_, rfl⟩
    have hsz : W0.heap.size = w.heap.size + 5 := by rw [hW0]; simp
    have hB0 : Below w.heap.size w W0 := by rw [hW0]; exact bel_alloc (bel_alloc (bel_alloc (bel_alloc (bel_alloc (Below.refl _ _) _) _) _) _) _
    have bH : Boxed W0 w.heap.size 3 (.int .i64 th) := by rw [hW0]; exact ((((Boxed.new w _ _).alloc _).alloc _).alloc _).alloc _
    have bG : Boxed W0 (w.heap.size + 1) 3 (.int .i64 0) := by
      rw [hW0]
      have := (((Boxed.new (w.alloc (.cells #[.int .i64 th] 3)) 3 (.int .i64 0)).alloc (.cells #[.int .i64 0] 3)).alloc (.cells #[.int .i64 T] 3)).alloc (.cells #[.slice A m c] 22)
      rwa [World.size_alloc] at this
    have bS : Boxed W0 (w.heap.size + 2) 3 (.int .i64 0) := by
      rw [hW0]
      have := ((Boxed.new ((w.alloc (.cells #[.int .i64 th] 3)).alloc (.cells #[.int .i64 0] 3)) 3 (.int .i64 0)).alloc (.cells #[.int .i64 T] 3)).alloc (.cells #[.slice A m c] 22)
      rwa [World.size_alloc, World.size_alloc] at this
    have bT : Boxed W0 (w.heap.size + 3) 3 (.int .i64 T) := by
      rw [hW0]
      have := (Boxed.new (((w.alloc (.cells #[.int .i64 th] 3)).alloc (.cells #[.int .i64 0] 3)).alloc (.cells #[.int .i64 0] 3)) 3 (.int .i64 T)).alloc (.cells #[.slice A m c] 22)
      rwa [World.size_alloc, World.size_alloc, World.size_alloc] at this
    have bP : Boxed W0 (w.heap.size + 4) 22 (.slice A m c) := by
      rw [hW0]
      have := Boxed.new ((((w.alloc (.cells #[.int .i64 th] 3)).alloc (.cells #[.int .i64 0] 3)).alloc (.cells #[.int .i64 0] 3)).alloc (.cells #[.int .i64 T] 3)) 22 (.slice A m c)
      rwa [World.size_alloc, World.size_alloc, World.size_alloc, World.size_alloc] at this
    have hX : ∀ b, (fun b => b < w.heap.size ∨ b = w.heap.size + 3) b → b < W0.heap.size := fun b hb => by
      have hb : b < w.heap.size ∨ b = w.heap.size + 3 := hb
      omega
    have HS := Lib.hid (choices_stops F hF hro (fun h => hwide h) (n - 1) (by omega) (w.heap.size + 4) (w.heap.size + 3) T (by omega) (by omega) A m c xs hl (by omega) (fun b => b < w.heap.size ∨ b = w.heap.size + 3) (.inr rfl) (fun h a e => .inl (rd_lt hrd h a e)) W0 hX (by omega) bP.cell bT.cell (hrd.below hB0))
    have gle := fun pre => gapF_le th pre
    have hlen : (chL T xs).length ≤ 65536 := by rw [chL_len, hl]; omega
    clear h0 hl hrd
    refine callsIn_of_wp_marks Try.func18 rfl (hF _) ?_ hro
    simp only [Try.ntmps18, List.size_toArray, List.length_cons, List.length_nil, Nat.reduceAdd, Nat.reduceSub, Array.replicate_succ, Array.replicate_zero, List.push_toArray, List.append_toArray, List.nil_append, List.cons_append]
    gi_wp2_with (first | (gi_at_call 38; refine (CF _ _).out.mono ?_; rintro e w' ⟨rfl, rfl⟩) | (gi_at_call 34; refine (choices_in F (n - 1) hf1 hro T A m c _).mono ?_; rintro e w' ⟨rfl, rfl⟩))
    rw [← hW0]
    clear hW0
    refine wpIn_rangeFunc_ownF hro h1 (gf := 49) (lb := #[.pointer (some ⟨w.heap.size + 4, 0, none⟩), .pointer (some ⟨w.heap.size + 3, 0, none⟩)]) rfl (hF _) (enters_of Try.func49 (by kernel_rfl) rfl)
      HS.out KX.trans (KX.put hX) (Below.refl _ _) (fun _ => rfl)
      (fun pre W => ((Boxed W (w.heap.size + 1) 3 (.int .i64 ((gapF th pre).1 : Nat)) ∧ Boxed W (w.heap.size + 2) 3 (.int .i64 ((gapF th pre).2 : Nat))) ∧ Boxed W w.heap.size 3 (.int .i64 th)) ∧ Below w.heap.size w W)
      (fun _ _ _ => False)
      (OwnFrom.and (OwnFrom.and (OwnFrom.and (Own.from (boxed_own _ _ (fun pre => .int .i64 ((gapF th pre).1 : Nat))) _) (Own.from (boxed_own _ _ (fun pre => .int .i64 ((gapF th pre).2 : Nat))) _)) (Own.from (boxed_own _ _ (fun _ => .int .i64 th)) _)) (ownFrom_below (Nat.le_refl _) (by omega)))
      (fun _ _ _ _ _ hs _ _ => hs)
      ⟨⟨⟨bG, bS⟩, bH⟩, hB0⟩
      (fun x => { tmps := #[.int .i64 T, .int .i64 th, .slice A m c, undef, .pointer (some ⟨w.heap.size, 0, none⟩), undef, .int .i64 0, .int .i64 0, .int .i64 0, .pointer (some ⟨w.heap.size + 1, 0, none⟩), .pointer (some ⟨w.heap.size + 2, 0, none⟩), .int .i64 (x.val : Int), .int .i64 T, .int .i64 th, .slice A m c, .int .i64 m, .int .i64 0, .int .i64 0, .bool false, undef, .int .i64 T, .slice A m c, .func (.func 49) #[] #[.pointer (some ⟨w.heap.size + 4, 0, none⟩), .pointer (some ⟨w.heap.size + 3, 0, none⟩)], .int .i64 (x.val : Int), undef, undef, undef, undef, undef, undef, undef, undef, undef], defers := [] }) ?assign ?body ?done ?stop
    case assign =>
      intro l x W K hK
      gi_wp2
      exact hK
    case body =>
      rintro l pre x W ⟨⟨⟨hg, hs⟩, hh⟩, hB⟩ hlt
      have hcg := hg.cell
      have hcs := hs.cell
      have hch := hh.cell
      have hfg := hg.frozen
      have hfs := hs.frozen
      have hgl := gle pre
      have HSN := Lib.hid (gapF_snoc th pre x)
      obtain ⟨y1, hy1⟩ : ∃ y1, (gapF th pre).1 = y1 := ⟨_, rfl⟩
      obtain ⟨y2, hy2⟩ : ∃ y2, (gapF th pre).2 = y2 := ⟨_, rfl⟩
      rw [hy1] at hgl hg hcg
      rw [hy2] at hgl hs hcs
      have yb1 : (y1 : Int) ≤ 65536 := by omega
      have yb2 : (y2 : Int) ≤ 65536 := by omega
      by_cases hxh : (x.val : Int) = th
      · have e0 : ((x.val : Int) == th) = true := by simp [hxh]
        have HZ := Lib.hid (show gapF th (pre ++ [x]) = (y1, 0) by rw [HSN.out, if_pos hxh, hy1])
        clear HSN hxh hy1 hy2
        generalize hpx : pre ++ [x] = px at *
        generalize x.val = q at *
        clear hpx
        gi_wp2
        exact ⟨KeepsOthers.setCell _ _ _, KX.set (by omega), ⟨⟨⟨by rw [HZ.out]; exact hg.other (by omega) _, by rw [HZ.out]; exact hs.set _⟩, hh.other (by omega) _⟩, hB.setCell (p := ⟨w.heap.size + 2, 0, none⟩) (Nat.le_add_right _ _) _⟩⟩
      · have e0 : ((x.val : Int) == th) = false := by simp [hxh]
        have HZ := Lib.hid (show gapF th (pre ++ [x]) = (max y1 (y2 + 1), y2 + 1) by rw [HSN.out, if_neg hxh, hy1, hy2])
        clear HSN hxh hy1 hy2
        generalize hpx : pre ++ [x] = px at *
        generalize x.val = q at *
        clear hpx
        have FIN : ∀ v : Int, v = ((max y1 (y2 + 1) : Nat) : Int) → Hid (KeepsOthers W ((W.setCell ⟨w.heap.size + 2, 0, none⟩ (.int .i64 ((y2 : Int) + 1))).setCell ⟨w.heap.size + 1, 0, none⟩ (.int .i64 v)) ∧ KX (fun b => b < w.heap.size ∨ b = w.heap.size + 3) W ((W.setCell ⟨w.heap.size + 2, 0, none⟩ (.int .i64 ((y2 : Int) + 1))).setCell ⟨w.heap.size + 1, 0, none⟩ (.int .i64 v)) ∧ ((Boxed ((W.setCell ⟨w.heap.size + 2, 0, none⟩ (.int .i64 ((y2 : Int) + 1))).setCell ⟨w.heap.size + 1, 0, none⟩ (.int .i64 v)) (w.heap.size + 1) 3 (.int .i64 ((gapF th px).1 : Nat)) ∧ Boxed ((W.setCell ⟨w.heap.size + 2, 0, none⟩ (.int .i64 ((y2 : Int) + 1))).setCell ⟨w.heap.size + 1, 0, none⟩ (.int .i64 v)) (w.heap.size + 2) 3 (.int .i64 ((gapF th px).2 : Nat))) ∧ Boxed ((W.setCell ⟨w.heap.size + 2, 0, none⟩ (.int .i64 ((y2 : Int) + 1))).setCell ⟨w.heap.size + 1, 0, none⟩ (.int .i64 v)) w.heap.size 3 (.int .i64 th)) ∧ Below w.heap.size w ((W.setCell ⟨w.heap.size + 2, 0, none⟩ (.int .i64 ((y2 : Int) + 1))).setCell ⟨w.heap.size + 1, 0, none⟩ (.int .i64 v))) := fun v hv => Lib.hid ⟨(KeepsOthers.setCell _ _ _).trans (KeepsOthers.setCell _ _ _), (KX.set (by omega)).trans (KX.set (by omega)), ⟨⟨by rw [HZ.out, hv]; exact (hg.other (by omega) _).set _, by rw [HZ.out]; exact (hs.set _).other (by omega) _⟩, (hh.other (by omega) _).other (by omega) _⟩, (hB.setCell (p := ⟨w.heap.size + 2, 0, none⟩) (Nat.le_add_right _ _) _).setCell (p := ⟨w.heap.size + 1, 0, none⟩) (Nat.le_add_right _ _) _⟩
        gi_wp2
        all_goals exact (FIN _ (by omega)).out
    case done =>
      rintro D ys W hD rfl ⟨⟨⟨hg, hs⟩, hh⟩, hB⟩ hK
      have hcg := hg.cell
      have hy1 : T = ((T : Int)).toNat := by omega
      have HP2 := Lib.hid (show (gapF th (chL (T : Int).toNat xs)).1 = (gapF th (chL T xs)).1 by rw [← hy1])
      clear hy1
      generalize (gapF th (chL T xs)).1 = y at *
      gi_wp2
      refine ⟨by simp, .inl ⟨_, _, rfl, run_takeDeferred hK, ?_⟩⟩
      refine ⟨_, results_tmp2 rfl _ _ _, (HP.out _ _).2 ⟨by rw [HP2.out]; rfl, ?_⟩⟩
      exact hB.trans (belowK_b (w := w) (Nat.le_refl _) W D _ _ (by omega) hK rfl rfl)
    case stop =>
      rintro D c pre W _ _ h _
      exact h.elim
  · have HP := Lib.hid (show ∀ e w', GapPost t th xs w e w' ↔ e = .returned (.tuple #[.int .i64 0, .int .i64 (fitT t th xs.length)]) ∧ Below w.heap.size w w' from fun e w' => by unfold GapPost; rw [if_neg h0])
    have CF := fun (n : Nat) (W : World) => Lib.hid (hwide (n := n) (fitsThread_any t th m W))
    have HL := Lib.hid hl
    rw [hl] at h0
    obtain ⟨r, hr⟩ : ∃ r, fitT t th m = r := ⟨_, rfl⟩
    rw [hr] at CF h0
    have HRR := Lib.hid hr
    have z0 : (r == 0) = false := by simp; exact h0
    have z1 : (r != 0) = true := by simp; exact h0
    have hBA : Below w.heap.size w (w.alloc (.cells #[.int .i64 th] 3)) := bel_alloc (Below.refl _ _) _
    clear hr h0 hl hrd
    refine callsIn_of_wp Try.func18 rfl (hF _) ?_ hro
    simp only [Try.ntmps18, List.size_toArray, List.length_cons, List.length_nil, Nat.reduceAdd, Nat.reduceSub, Array.replicate_succ, Array.replicate_zero, List.push_toArray, List.append_toArray, List.nil_append, List.cons_append]
    gi_wp2_with (gi_at_call 38; refine (CF _ _).out.mono ?_; rintro e w' ⟨rfl, rfl⟩)
    go_ret2
    rw [HP.out, HL.out, HRR.out]
    exact ⟨rfl, hBA⟩
theorem gap_any (t th : Int) (A : Option Addr) (m c : Nat) (xs : List Int) (hl : xs.length = m) (hx : m ≤ maxLen) (w : World) (hrd : RdK .i64 w A xs) :
    Calls Try.prog 18 #[.int .i64 t, .int .i64 th, .slice A m c] w (GapPost t th xs w) :=
  callsIn_wide.1 (gap_in Fence.wide (fun _ => trivial) rfl (fun h => callsIn_wide.2 h) 5 (Nat.le_refl _) t th A m c xs hl hx w hrd)
end Pk
end Go.Proofs.Ytnoggggbghkgkaa
