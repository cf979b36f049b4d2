/- List of package tower, over the iterator of XTwI: contract of the translated code. Conditions: those of the contract. -/
import Derived.Test.YtjcbjbhlclajnaaTwI
import Derived.Test.YtjcbjbhlclajnaaLyN
import Derived.Test.YtjcbjbhlclajnaaLyD
namespace Go.Proofs.Ytjcbjbhlclajnaa
open Go.RowKit Go.Shelf Go.Sort
set_option linter.unusedVariables false
set_option linter.unusedSimpArgs false
set_option maxRecDepth 100000
attribute [local go_sem] Oper.semAt_some
namespace Tw
open Wd
open Ly (Ge tot pk pW nxO wdO ad tg gs InT Cf LyAt I64 KI)
theorem box_app {W w1 : World} {n₀ B : Nat} {t e : TypeId} {size : Nat} {v v' : Value} {k m : Nat} {xs ys : List Value} {tmp : Obj}
    (hv : Boxed W B t v) (hte : t ≠ e) {nb : Nat} (hrow : W.ownsRow nb e size v k xs) (hn₀ : n₀ ≤ W.heap.size) (hown' : w1.ownsRow nb e size v' m ys) (hgrow : (W.alloc tmp).grownBy w1 v.ownBlock) :
    Boxed w1 B t v ∧ Boxed (w1.setCell ⟨B, 0, none⟩ v') B t v' ∧ (w1.setCell ⟨B, 0, none⟩ v').ownsRow nb e size v' m ys ∧ KeepsOthers W (w1.setCell ⟨B, 0, none⟩ v') ∧ Kx (fun i => i = B ∨ v.ownBlock = some i) n₀ W (w1.setCell ⟨B, 0, none⟩ v') := by
  obtain ⟨h1, h2, _, h4, _⟩ := hv.appended hte (Ly.row_base hrow (Nat.zero_le _)) (Nat.zero_le _) (Nat.zero_le _) (Ly.row_base hown' (Nat.zero_le _)) hgrow
  refine ⟨h1, h2, hown'.kept (grownBy_setCell' w1 B v') (.inr (h1.not_row hte hown').symm), h4, ?_⟩
  refine (Kx.of_below ((Below.refl n₀ W).alloc hn₀ tmp)).trans ((Kx.grown hgrow (by simp; omega) fun r er => ?_).trans (Kx.grown (grownBy_setCell' w1 B v') ?_ fun r er => ?_))
  · exact .inl (.inr er)
  · have := hgrow.size
    simp at this
    omega
  · cases er; exact .inl (.inl rfl)
theorem ownFrom_kx {Z : Nat → Prop} {n₀ B : Nat} {X : World} (h : n₀ ≤ X.heap.size) (hB : n₀ ≤ B) : OwnFrom B (fun (_ : List Int) W => Kx Z n₀ X W) := fun s A C row hs hg hr => hs.trans (Kx.grown hg (Nat.le_trans h hs.size) fun r e => .inr (Nat.le_trans hB (hr r e).1))
theorem infoI : (Try.prog.info? 3).map (fun i => (i.zero, i.size, i.bytes)) = some (some (.int .i64 0), 1, 8) := by kernel_rfl
section
variable {w : World} {x bm p : Nat} {q : Option Nat} {bl : Nat} {f : Cf} {l : List Int} {g : Ge} {M : Wm}
set_option maxHeartbeats 8000000 in
theorem listP_in (F : Fence) (hF : ∀ f, F.fn f) (hro : F.round = none) (hwide : ∀ {n g : Nat} {args : Array Value} {w : World} {R : Ending → World → Prop}, Calls Try.prog g args w R → CallsIn F n Try.prog g args w R) (n : Nat) (hn : 3 ≤ n) (hT : Tt w x bm p q bl f l g M) (v u : Int) (hv : I64 v) (hu : 0 ≤ u) (hu2 : u ≤ 9223372036854775807) (hh : hasB g v u = true) :
    CallsIn F n Try.prog 11 #[.pointer (some ⟨x, 0, none⟩), .int .i64 v, .int .i64 u] w fun e W' => (∃ v', e = .returned (.tuple #[v', .int .i64 0]) ∧ W'.ownsRow w.heap.size 3 1 v' (ls g M v u).length ((ls g M v u).map (Value.int .i64))) ∧ Below w.heap.size w W' := by
  have h1 : 1 ≤ n := by omega
  have hlen := ls_len g M v u
  have htt := hT.ok.tt
  have CH := has_any hT v u hv
  rw [hh] at CH
  replace CH := Lib.hid (hwide (n := n - 1) CH)
  have HT := Lib.hid hT
  obtain ⟨i0, hi, hz0, hz1, hz2⟩ := Dm.info_parts infoI
  have HV := Lib.hid hv
  clear hh hT hv
  refine callsIn_of_wp_marks Try.func11 rfl (hF _) ?_ hro
  simp only [Try.ntmps11, List.size_toArray, List.length_cons, List.length_nil, Nat.reduceAdd, Nat.reduceSub, Array.replicate_succ, Array.replicate_zero, List.push_toArray, List.append_toArray, List.nil_append, List.cons_append]
  gi_wp2_with (first | (gi_at_call 37; refine CH.out.mono ?_; rintro e w1 ⟨rfl, hb1⟩) | (gi_at_call 38; refine (list_in F (n - 1) hF hro x v u _).mono ?_; rintro e w' ⟨rfl, rfl⟩))
  obtain ⟨BT, hBT⟩ : ∃ BT, BT = w1.heap.size := ⟨_, rfl⟩
  have hle := hb1.size
  have bO := Boxed.new w1 25 (.slice none 0 0)
  obtain ⟨w5, hw5⟩ : ∃ W, W = (((w1.alloc (.cells #[.slice none 0 0] 25)).alloc (.cells #[.pointer (some ⟨x, 0, none⟩)] 22)).alloc (.cells #[.int .i64 v] 3)).alloc (.cells #[.int .i64 u] 3) := ⟨_, rfl⟩
  have hs5 : w5.heap.size = BT + 4 := by rw [hw5, hBT]; simp
  have b5 : Boxed w5 BT 25 (.slice none 0 0) := by rw [hw5, hBT]; exact ((bO.alloc _).alloc _).alloc _
  have h15 : Below w1.heap.size w1 w5 := by rw [hw5]; exact ((((Below.refl _ w1).alloc (Nat.le_refl _) _).alloc (by simp) _).alloc (by simp; omega) _).alloc (by simp; omega) _
  have hW := hb1.trans (h15.mono hle)
  have cT : w5.cell? ⟨BT + 1, 0, none⟩ = some (.pointer (some ⟨x, 0, none⟩)) := by
    rw [hw5, hBT, World.cell?_alloc_lt _ _ _ (by first | (simp; done) | (simp; omega)), World.cell?_alloc_lt _ _ _ (by simp)]
    have := World.cell?_alloc_new (w1.alloc (.cells #[.slice none 0 0] 25)) #[.pointer (some ⟨x, 0, none⟩)] 22 0
    rw [World.size_alloc] at this
    exact this
  have cV : w5.cell? ⟨BT + 1 + 1, 0, none⟩ = some (.int .i64 v) := by
    rw [hw5, hBT, World.cell?_alloc_lt _ _ _ (by first | (simp; done) | (simp; omega))]
    have := World.cell?_alloc_new ((w1.alloc (.cells #[.slice none 0 0] 25)).alloc (.cells #[.pointer (some ⟨x, 0, none⟩)] 22)) #[.int .i64 v] 3 0
    rw [World.size_alloc, World.size_alloc] at this
    exact this
  have cU : w5.cell? ⟨BT + 1 + 2, 0, none⟩ = some (.int .i64 u) := by
    rw [hw5, hBT]
    have := World.cell?_alloc_new (((w1.alloc (.cells #[.slice none 0 0] 25)).alloc (.cells #[.pointer (some ⟨x, 0, none⟩)] 22)).alloc (.cells #[.int .i64 v] 3)) #[.int .i64 u] 3 0
    rw [World.size_alloc, World.size_alloc, World.size_alloc] at this
    exact this
  rw [← hBT] at hle ⊢
  rw [← hw5]
  have hT5 := HT.out.below hW
  have hwl : w.heap.size ≤ BT := hle
  clear hw5 hBT bO h15 hb1
  refine range_all hro h1 (gf := 73) (lb := #[.pointer (some ⟨BT + 1 + 1, 0, none⟩), .pointer (some ⟨BT + 1, 0, none⟩), .pointer (some ⟨BT + 1 + 2, 0, none⟩)]) rfl (hF _) (enters_of Try.func73 (by kernel_rfl) rfl)
    (Z := fun i => i = BT) (n₀ := BT + 4) (w0 := w5) (list1_seq F (n - 1) hF hro (fun h => hwide h) (by omega) (BT + 1 + 1) (BT + 1) (BT + 1 + 2) v u HV.out hu hu2 hT5 cV cT cU (fun i => i = BT) (BT + 4) (by omega) ⟨by omega, by show ¬ _ = _; omega⟩ ⟨by omega, by show ¬ _ = _; omega⟩ ⟨by omega, by show ¬ _ = _; omega⟩ (fun V hV => HT.out.below (hW.trans (hV.below (fun i hi => by show ¬ _ = _; omega) (by omega))))) (by omega) (Below.refl _ _) rfl
    (fun pre W => (∃ v, Boxed W BT 25 v ∧ W.ownsRow (BT + 4) 3 1 v pre.length (pre.map (Value.int .i64)) ∧ (v = .slice none 0 0 ↔ pre = [])) ∧ Kx (fun i => i = BT) (BT + 4) w5 W)
    (OwnFrom.and (Own.from (holdsRow_own (BT + 4) BT 25 3 1 (fun pre : List Int => pre.length) (fun pre => pre.map (Value.int .i64)) (fun pre v => v = .slice none 0 0 ↔ pre = [])) _) (ownFrom_kx (by omega) (by omega)))
    ⟨⟨_, b5, World.ownsRow_nil _ _ _ _, by simp⟩, Kx.refl _ _ _⟩
    (fun y => { tmps := #[.pointer (some ⟨x, 0, none⟩), .int .i64 v, .int .i64 u, undef, undef, undef, .slice none 0 0, .int .i64 0, .pointer (some ⟨BT, 0, none⟩), .int .i64 y, .pointer (some ⟨x, 0, none⟩), .bool false, .pointer (some ⟨x, 0, none⟩), .int .i64 v, .int .i64 u, .bool true, .bool false, .pointer (some ⟨x, 0, none⟩), .int .i64 v, .int .i64 u, .func (.func 73) #[] #[.pointer (some ⟨BT + 1 + 1, 0, none⟩), .pointer (some ⟨BT + 1, 0, none⟩), .pointer (some ⟨BT + 1 + 2, 0, none⟩)], .int .i64 y, undef, undef, undef, undef, undef], defers := [] }) ?assign ?body ?done
  case assign =>
    intro l x W K hK
    gi_wp2
    exact hK
  case body =>
    rintro l pre y W ⟨⟨v', hv', hrow, hnil⟩, hB⟩ hpx
    have hc := hv'.cell
    have hpl : pre.length ≤ 1025 := by
      obtain ⟨r, hr⟩ := hpx
      have := congrArg List.length hr
      simp at this
      omega
    have hlt := hv'.lt
    have hsz : BT + 4 ≤ W.heap.size := by have := hB.size; omega
    gi_wp2_with (gi_at_builtin; refine wpListIn_append_own _ rfl _ _ 25 rfl (BT + 4) 3 i0 (.int .i64 0) 1 8 Try.underlying25 hi hz0 hz1 hz2 rfl (by decide) _ _ _ rfl (hrow.alloc _) ⟨W.heap.size, 0, none⟩ 1 1 [.int .i64 y] rfl rfl (cell_one_new _ _ _) (by simp [Value.oneCell']) (by unfold maxLen; omega) (by omega) (by simp; omega) ?_; intro v2 w2 hown' hgrow _; obtain ⟨g', cap', rfl⟩ := ownsRow_succ hown'; obtain ⟨hv1, hv2, hr2, hk2, hb2⟩ := box_app hv' (by decide) hrow hsz hown' hgrow; have hc1 := hv1.cell; have hf1 := hv1.frozen)
    have hb3 : Kx (fun i => i = BT) (BT + 4) W _ := ⟨hb2.os, hb2.tape, hb2.output, hb2.size, fun i hi hz => hb2.block i hi (fun q => by
      rcases q with q | q
      · exact hz q
      · have := (hrow.lt i q).1; omega)⟩
    exact ⟨hk2.from _, hb3, ⟨_, hv2, by simpa using hr2, by simp⟩, hB.trans hb3⟩
  case done =>
    rintro D W hD ⟨⟨v', hv', hrow, hnil⟩, hB⟩ hK
    have hc := hv'.cell
    gi_wp2
    refine ⟨by simp, .inl ⟨_, _, rfl, run_takeDeferred hK, ?_⟩⟩
    exact ⟨_, results_tmp2 rfl _ _ _, ⟨v', rfl, ownsRow_putObj (Ly.row_base hrow (by omega)) _ hK rfl⟩, (hW.trans (hB.below (fun i hi => by show ¬ _ = _; omega) (by omega))).trans (belowK_b (w := w5) (by omega) W D _ _ (by omega) hK rfl rfl)⟩
theorem hasB_yes {g : Ge} {v u : Int} (h : hasB g v u = true) : 0 ≤ v ∧ 0 ≤ u ∧ u ≤ 5 := by
  unfold hasB at h
  rw [Bool.and_eq_true, decide_eq_true_iff, decide_eq_true_iff] at h
  refine ⟨h.1, ?_⟩
  have h2 := h.2
  by_cases e : 0 ≤ u ∧ u ≤ 5
  · exact e
  · unfold nxE nxO at h2
    rw [if_neg e] at h2
    cases h2
/-- what List hands out -/
def LsP (g : Ge) (M : Wm) (v u : Int) (w : World) (e : Ending) (w' : World) : Prop :=
  (hasB g v u = true ∧ ∃ A c, e = .returned (.tuple #[.slice A (ls g M v u).length c, .int .i64 0]) ∧ KI.Rd w' A (ls g M v u) ∧ Below w.heap.size w w') ∨
  (hasB g v u = false ∧ e = .returned (.tuple #[.slice none 0 0, .int .i64 3]) ∧ Below w.heap.size w w')
theorem flatI_eq (l : List Int) : l.map (Value.int .i64) = KI.flat l := by
  induction l with
  | nil => rfl
  | cons a l ih => rw [List.map_cons, ih]; rfl
theorem list_any (hT : Tt w x bm p q bl f l g M) (v u : Int) (hv : I64 v) : Calls Try.prog 11 #[.pointer (some ⟨x, 0, none⟩), .int .i64 v, .int .i64 u] w (LsP g M v u w) := by
  cases hh : hasB g v u with
  | true =>
    obtain ⟨_, hu, hu2⟩ := hasB_yes hh
    refine (callsIn_wide.1 (listP_in Fence.wide (fun _ => trivial) rfl (fun h => callsIn_wide.2 h) 3 (Nat.le_refl _) hT v u hv hu (by omega) hh)).mono ?_
    rintro e w' ⟨⟨v', rfl, hr⟩, hb⟩
    rw [flatI_eq] at hr
    obtain ⟨_, A, c, rfl, _, r, _⟩ := KI.row hr
    exact .inl ⟨hh, A, c, rfl, r, hb⟩
  | false =>
    have CH := has_any hT v u hv
    rw [hh] at CH
    replace CH := Lib.hid CH
    have HP := Lib.hid hh
    clear hT hh hv
    go_enter Try.func11, Try.ntmps11
    go_wp2_with fail
    refine CH.out.mono ?_
    rintro r1 W1 ⟨rfl, hb1⟩
    have HB1 := Lib.hid hb1
    clear hb1
    go_wp2
    go_ret2
    exact .inr ⟨HP.out, rfl, HB1.out⟩
theorem list_nil (v u : Int) (w : World) : Calls Try.prog 11 #[.pointer none, .int .i64 v, .int .i64 u] w fun e w' => e = .returned (.tuple #[.slice none 0 0, .int .i64 1]) ∧ w' = w := by
  go_enter Try.func11, Try.ntmps11
  go_wp2
  go_ret2
  exact ⟨rfl, rfl⟩
theorem after_nil (v u : Int) (w : World) : Calls Try.prog 12 #[.pointer none, .int .i64 v, .int .i64 u] w fun e w' => e = .returned (.tuple #[.int .i64 0, .int .i64 1]) ∧ w' = w := by
  go_enter Try.func12, Try.ntmps12
  go_wp2
  go_ret2
  exact ⟨rfl, rfl⟩
end
end Tw
end Go.Proofs.Ytjcbjbhlclajnaa
