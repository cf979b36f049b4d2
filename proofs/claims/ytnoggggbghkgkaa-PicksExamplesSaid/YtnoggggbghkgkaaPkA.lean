/- The library's slices.AppendSeq and slices.Collect over the threads that picks choose; Chosen of package picks: contracts of the translated code. Conditions: those of each lemma. -/
import Derived.Test.YtnoggggbghkgkaaPkC
namespace Go.Proofs.Ytnoggggbghkgkaa
open Go.RowKit Go.Shelf Go.Sort
set_option linter.unusedVariables false
set_option linter.unusedSimpArgs false
attribute [local go_sem] Oper.semAt_some
namespace Pk
open Dm (RdK BdI bel_alloc bel_trans cell_lt flatI info info_parts row_rd)
theorem own_base {w : World} {E : TypeId} {sz b b' n : Nat} {v : Value} {xs : List Value} (h : w.ownsRow b E sz v n xs) (hb : b' ≤ b) : w.ownsRow b' E sz v n xs := by
  rcases h.2 with ⟨rfl, rfl⟩ | ⟨g, cap, cur, rfl, h1, h2, h3, h4, h5, h6⟩
  · exact ⟨h.1, .inl ⟨rfl, rfl⟩⟩
  · exact ⟨h.1, .inr ⟨g, cap, cur, rfl, by omega, h2, h3, h4, h5, h6⟩⟩
/-- the function value that yields the threads -/
def chV (Bp Bt : Nat) : Value := .func (.func 49) #[] #[.pointer (some ⟨Bp, 0, none⟩), .pointer (some ⟨Bt, 0, none⟩)]
set_option maxRecDepth 100000 in
set_option maxHeartbeats 2000000 in
theorem appendSeq_in (F : Fence) (hF : ∀ f, F.fn f) (hro : F.round = none) (hwide : ∀ {n g : Nat} {args : Array Value} {w : World} {R : Ending → World → Prop}, Calls Try.prog g args w R → CallsIn F n Try.prog g args w R) (n : Nat) (hn : 3 ≤ n) (Bp Bt t : Nat) (t1 : 1 ≤ t) (t2 : t ≤ 64)
    (A : Option Addr) (m c : Nat) (xs : List Int) (hl : xs.length = m) (hm : m ≤ 100000) (w : World) (hp : Bp < w.heap.size) (ht : Bt < w.heap.size)
    (hBp : w.cell? ⟨Bp, 0, none⟩ = some (.slice A m c)) (hBt : w.cell? ⟨Bt, 0, none⟩ = some (.int .i64 (t : Int))) (hrd : RdK .i64 w A xs) :
    CallsIn F n Try.prog 48 #[.slice none 0 0, .func (.func 49) #[] #[.pointer (some ⟨Bp, 0, none⟩), .pointer (some ⟨Bt, 0, none⟩)]] w fun e W' => (∃ v, e = .returned v ∧ W'.ownsRow w.heap.size 3 1 v (lst (chL t xs)).length (flatI (lst (chL t xs)))) ∧ Below w.heap.size w W' := by
  have h1 : 1 ≤ n := by omega
  have hlen : (chL t xs).length ≤ 100000 := by rw [chL_len]; omega
  obtain ⟨i0, hi, hz0, hz1, hz2⟩ := info_parts info
  refine callsIn_of_wp_marks Try.func48 rfl (hF _) ?_ hro
  simp only [Try.ntmps48, List.size_toArray, List.length_cons, List.length_nil, Nat.reduceAdd, Nat.reduceSub, Array.replicate_succ, Array.replicate_zero, List.push_toArray, List.append_toArray, List.nil_append, List.cons_append]
  have HL := Lib.hid hl; clear hl
  have HR := Lib.hid hrd; clear hrd
  have HBp := Lib.hid hBp; clear hBp
  have HBt := Lib.hid hBt; clear hBt
  gi_wp2_with (fail)
  have bO := Boxed.new w 22 (.slice none 0 0)
  have hB0 : Below w.heap.size w (w.alloc (.cells #[.slice none 0 0] 22)) := (Below.refl _ w).alloc (Nat.le_refl _) _
  have hX : ∀ b, (fun b => b < w.heap.size) b → b < (w.alloc (.cells #[.slice none 0 0] 22)).heap.size := fun b hb => by rw [World.size_alloc]; exact Nat.lt_succ_of_lt hb
  refine wpIn_rangeFunc_ownG hro h1 (gf := 49) (lb := #[.pointer (some ⟨Bp, 0, none⟩), .pointer (some ⟨Bt, 0, none⟩)]) rfl (hF _) (enters_of Try.func49 (by kernel_rfl) rfl)
    (choices_stops F hF hro (fun h => hwide h) (n - 1) (by omega) Bp Bt t t1 t2 A m c xs HL.out hm (fun b => b < w.heap.size) ht (rd_lt HR.out) _ hX (hX _ hp) ((hB0.cell (p := ⟨Bp, 0, none⟩) hp).trans HBp.out) ((hB0.cell (p := ⟨Bt, 0, none⟩) ht).trans HBt.out) (HR.out.below hB0)) KX.trans (KX.put hX) (Below.refl _ _) (fun _ => rfl)
    (fun pre W => (∃ v, Boxed W w.heap.size 22 v ∧ W.ownsRow w.heap.size 3 1 v (lst pre).length ((lst pre).map (Value.int .i64)) ∧ (v = .slice none 0 0 ↔ lst pre = [])) ∧ Below w.heap.size w W)
    (fun _ _ _ => False)
    (OwnFrom.and (Own.from (holdsRow_own w.heap.size w.heap.size 22 3 1 (fun pre => (lst pre).length) (fun pre => (lst pre).map (Value.int .i64)) (fun pre v => v = .slice none 0 0 ↔ lst pre = [])) _) (ownFrom_below (Nat.le_refl _) (by simp)))
    (fun _ _ _ _ _ hs _ _ => hs)
    ⟨⟨_, bO, World.ownsRow_nil _ _ _ _, by simp [lst]⟩, hB0⟩
    (fun x => { tmps := #[.slice none 0 0, .func (.func 49) #[] #[.pointer (some ⟨Bp, 0, none⟩), .pointer (some ⟨Bt, 0, none⟩)], .pointer (some ⟨w.heap.size, 0, none⟩), undef, .slice none 0 0, .int .i64 (x.val : Int), .func (.func 49) #[] #[.pointer (some ⟨Bp, 0, none⟩), .pointer (some ⟨Bt, 0, none⟩)], .int .i64 (x.val : Int), undef, undef, undef, undef, undef], defers := [] }) ?assign ?body ?done ?stop
  case assign =>
    intro l x W K hK
    gi_wp2
    exact hK
  case body =>
    rintro l pre x W ⟨⟨v, hv, hrow, hnil⟩, hB⟩ hlt
    have hc := hv.cell
    have hpl : (lst pre).length ≤ 100000 := by simp [lst]; omega
    gi_wp2_with (gi_at_builtin; refine wpListIn_append_own _ rfl _ _ 22 rfl w.heap.size 3 i0 (.int .i64 0) 1 8 Try.underlying22 hi hz0 hz1 hz2 rfl (by decide) _ _ _ rfl (hrow.alloc _) ⟨W.heap.size, 0, none⟩ 1 1 [.int .i64 (x.val : Int)] rfl rfl (cell_one_new _ _ _) (by simp [Value.oneCell']) (by unfold maxLen; omega) (by omega) (by have := hB.size; simp; omega) ?_; intro v' w1 hown' hgrow _; obtain ⟨g', cap', rfl⟩ := ownsRow_succ hown'; obtain ⟨hv1, hv2, hr2, hk2, hb2⟩ := hv.appended (by decide) hrow hB.size (Nat.le_refl _) hown' hgrow; have hc1 := hv1.cell; have hf1 := hv1.frozen)
    exact ⟨hk2.from _, KX.below (fun _ h => h) hb2, ⟨_, hv2, by rw [lst_snoc]; simpa using hr2, by rw [lst_snoc]; simp⟩, hB.trans hb2⟩
  case done =>
    rintro D ys W hD rfl ⟨⟨v, hv, hrow, hnil⟩, hB⟩ hK
    have hc := hv.cell
    gi_wp2
    refine ⟨by simp, .inl ⟨_, _, rfl, run_takeDeferred hK, ?_⟩⟩
    exact ⟨_, results_tmp rfl _ _ _, ⟨v, rfl, ownsRow_putObj hrow _ hK rfl⟩, hB.trans (belowK_b (w := w) (Nat.le_refl _) W D _ _ (by simp at hD; omega) hK rfl rfl)⟩
  case stop =>
    rintro D c pre W _ _ h _
    exact h.elim
theorem collect_in (F : Fence) (hF : ∀ f, F.fn f) (hro : F.round = none) (hwide : ∀ {n g : Nat} {args : Array Value} {w : World} {R : Ending → World → Prop}, Calls Try.prog g args w R → CallsIn F n Try.prog g args w R) (n : Nat) (hn : 4 ≤ n) (Bp Bt t : Nat) (t1 : 1 ≤ t) (t2 : t ≤ 64)
    (A : Option Addr) (m c : Nat) (xs : List Int) (hl : xs.length = m) (hm : m ≤ 100000) (w : World) (hp : Bp < w.heap.size) (ht : Bt < w.heap.size)
    (hBp : w.cell? ⟨Bp, 0, none⟩ = some (.slice A m c)) (hBt : w.cell? ⟨Bt, 0, none⟩ = some (.int .i64 (t : Int))) (hrd : RdK .i64 w A xs) :
    CallsIn F n Try.prog 33 #[.func (.func 49) #[] #[.pointer (some ⟨Bp, 0, none⟩), .pointer (some ⟨Bt, 0, none⟩)]] w fun e W' => (∃ v, e = .returned v ∧ W'.ownsRow w.heap.size 3 1 v (lst (chL t xs)).length (flatI (lst (chL t xs)))) ∧ Below w.heap.size w W' := by
  have h1 : 1 ≤ n := by omega
  have CA := Lib.hid (appendSeq_in F hF hro (fun h => hwide h) (n - 1) (by omega) Bp Bt t t1 t2 A m c xs hl hm w hp ht hBp hBt hrd)
  have hf := hF 48
  clear hBp hBt hrd hl
  refine callsIn_of_wp Try.func33 rfl (hF _) ?_ hro
  simp only [Try.ntmps33, List.size_toArray, List.length_cons, List.length_nil, Nat.reduceAdd, Nat.reduceSub, Array.replicate_succ, Array.replicate_zero, List.push_toArray, List.append_toArray, List.nil_append, List.cons_append]
  gi_wp2_with (gi_at_call 48; refine CA.out.mono ?_; rintro e w' ⟨⟨v, rfl, ow⟩, bb⟩)
  go_ret
  exact ⟨⟨v, rfl, ow⟩, bb⟩
/-- what Chosen returns -/
def ChoPost (t : Int) (l : List Int) (w : World) (e : Ending) (w' : World) : Prop :=
  (if fitE t l.length = 0 then ∃ v, e = .returned (.tuple #[v, .int .i64 0]) ∧ w'.ownsRow w.heap.size 3 1 v l.length (flatI (chI t.toNat l)) else e = .returned (.tuple #[.slice none 0 0, .int .i64 (fitE t l.length)])) ∧ Below w.heap.size w w'
theorem fitE_ok {t n : Int} (h : fitE t n = 0) : 1 ≤ t ∧ t ≤ 64 ∧ 0 ≤ n ∧ n ≤ 65536 := by
  unfold fitE at h
  split at h
  · cases h
  · split at h
    · cases h
    · omega
set_option maxHeartbeats 1000000 in
theorem chosen_in (F : Fence) (hF : ∀ f, F.fn f) (hro : F.round = none) (hwide : ∀ {n g : Nat} {args : Array Value} {w : World} {R : Ending → World → Prop}, Calls Try.prog g args w R → CallsIn F n Try.prog g args w R) (n : Nat) (hn : 5 ≤ n) (t : Int) (A : Option Addr) (m c : Nat) (xs : List Int) (hl : xs.length = m) (hx : m ≤ maxLen) (w : World) (hrd : RdK .i64 w A xs) :
    CallsIn F n Try.prog 12 #[.int .i64 t, .slice A m c] w (ChoPost t xs w) := by
  unfold maxLen at hx
  have h1 : 1 ≤ n := by omega
  have hf := hF 32
  have hf1 := hF 34
  have hf2 := hF 33
  by_cases h0 : fitE t xs.length = 0
  · obtain ⟨a1, a2, a3, a4⟩ := fitE_ok h0
    have HP := Lib.hid (show ∀ e w', ChoPost t xs w e w' ↔ (∃ v, e = .returned (.tuple #[v, .int .i64 0]) ∧ w'.ownsRow w.heap.size 3 1 v xs.length (flatI (chI t.toNat xs))) ∧ Below w.heap.size w w' from fun e w' => by unfold ChoPost; rw [if_pos h0])
    have CF := fun (n : Nat) (W : World) => Lib.hid (hwide (n := n) (fits_any t m W))
    rw [hl] at h0
    rw [h0] at CF
    obtain ⟨T, rfl⟩ := Int.eq_ofNat_of_zero_le (show 0 ≤ t by omega)
    have hB0 : Below w.heap.size w ((w.alloc (.cells #[.int .i64 T] 3)).alloc (.cells #[.slice A m c] 22)) := bel_alloc (bel_alloc (Below.refl _ _) _) _
    have CC := Lib.hid (collect_in F hF hro (fun h => hwide h) (n - 1) (by omega) (w.heap.size + 1) w.heap.size T (by omega) (by omega) A m c xs hl (by omega) ((w.alloc (.cells #[.int .i64 T] 3)).alloc (.cells #[.slice A m c] 22)) (by simp) (by simp; omega) (by simp) (by simp) (hrd.below hB0))
    have HL := Lib.hid hl
    have HLn := Lib.hid (show lst (chL T xs) = chI T xs from lst_chL (by omega) (by omega) xs)
    have HLl := Lib.hid (show (lst (chL T xs)).length = xs.length by rw [lst_len, chL_len])
    clear h0 hl hrd
    refine callsIn_of_wp Try.func12 rfl (hF _) ?_ hro
    simp only [Try.ntmps12, List.size_toArray, List.length_cons, List.length_nil, Nat.reduceAdd, Nat.reduceSub, Array.replicate_succ, Array.replicate_zero, List.push_toArray, List.append_toArray, List.nil_append, List.cons_append]
    gi_wp2_with (first | (gi_at_call 32; refine (CF _ _).out.mono ?_; rintro e w' ⟨rfl, rfl⟩) | (gi_at_call 34; refine (choices_in F (n - 1) hf1 hro T A m c _).mono ?_; rintro e w' ⟨rfl, rfl⟩) | (gi_at_call 33; refine CC.out.mono ?_; rintro e w' ⟨⟨v, rfl, ow⟩, bb⟩))
    go_ret2
    rw [HP.out]
    rw [HLn.out] at ow
    rw [show (chI T xs).length = xs.length by simp [chI]] at ow
    refine ⟨⟨v, rfl, ?_⟩, hB0.trans (bb.mono hB0.size)⟩
    rw [show ((T : Int)).toNat = T by omega]
    exact own_base ow hB0.size
  · have HP := Lib.hid (show ∀ e w', ChoPost t xs w e w' ↔ e = .returned (.tuple #[.slice none 0 0, .int .i64 (fitE t xs.length)]) ∧ Below w.heap.size w w' from fun e w' => by unfold ChoPost; rw [if_neg h0])
    have CF := fun (n : Nat) (W : World) => Lib.hid (hwide (n := n) (fits_any t m W))
    have HL := Lib.hid hl
    rw [hl] at h0
    obtain ⟨r, hr⟩ : ∃ r, fitE t m = r := ⟨_, rfl⟩
    rw [hr] at CF h0
    have HRR := Lib.hid hr
    have z0 : (r == 0) = false := by simp; exact h0
    have z1 : (r != 0) = true := by simp; exact h0
    clear hr h0 hl hrd
    refine callsIn_of_wp Try.func12 rfl (hF _) ?_ hro
    simp only [Try.ntmps12, List.size_toArray, List.length_cons, List.length_nil, Nat.reduceAdd, Nat.reduceSub, Array.replicate_succ, Array.replicate_zero, List.push_toArray, List.append_toArray, List.nil_append, List.cons_append]
    gi_wp2_with (gi_at_call 32; refine (CF _ _).out.mono ?_; rintro e w' ⟨rfl, rfl⟩)
    go_ret2
    rw [HP.out, HL.out, HRR.out]
    exact ⟨rfl, Below.refl _ _⟩
theorem chosen_any (t : Int) (A : Option Addr) (m c : Nat) (xs : List Int) (hl : xs.length = m) (hx : m ≤ maxLen) (w : World) (hrd : RdK .i64 w A xs) :
    Calls Try.prog 12 #[.int .i64 t, .slice A m c] w (ChoPost t xs w) :=
  callsIn_wide.1 (chosen_in Fence.wide (fun _ => trivial) rfl (fun h => callsIn_wide.2 h) 5 (Nat.le_refl _) t A m c xs hl hx w hrd)
end Pk
end Go.Proofs.Ytnoggggbghkgkaa
