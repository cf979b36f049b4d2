/- Counts of package picks: contract of the translated code. Conditions: those of each lemma. -/
import Derived.Test.YtnoggggbghkgkaaPkG
namespace Go.Proofs.Ytnoggggbghkgkaa
open Go.RowKit Go.Shelf Go.Sort
set_option linter.unusedVariables false
set_option linter.unusedSimpArgs false
attribute [local go_sem] Oper.semAt_some
namespace Pk
open Dm (RdK BdI bel_alloc bel_trans cell_lt flatI info info_parts row_rd addr_lit)
theorem cloneI (A : Option Addr) (n c : Nat) (l : List Int) (w : World) (hn : l.length = n) (hs : n ≤ 100000) (hr : RdK .i64 w A l) :
    Calls Try.prog 37 #[.slice A n c] w fun e w' => ∃ v, e = .returned v ∧ w'.ownsRow w.heap.size 3 1 v n (flatI l) ∧ Below w.heap.size w w' := by
  obtain ⟨i0, hi, hz0, hz1, hz2⟩ := info_parts info
  have q : ∀ (w : World) (a : Option Addr) (n c n' c' : Nat), (binOp .eql 22 (.slice a n c) (.slice none n' c')).run Try.prog w = .ok (.bool a.isNone) w := fun w a n c n' c' => Lib.run_eql_slice_nil w _ _ a n c n' c' Try.underlying22
  cases A with
  | none =>
    have hl : l = [] := by
      cases l with
      | nil => rfl
      | cons x l => obtain ⟨b, o, e, _⟩ := hr 0 (by simp); cases e
    subst hl
    obtain rfl : n = 0 := by simpa using hn.symm
    clear hr hn
    go_enter Try.func37, Try.ntmps37
    go_wp2
    go_ret
    exact ⟨_, rfl, World.ownsRow_nil _ _ _ _, Below.refl _ _⟩
  | some a =>
    have hf : ∀ j u, (flatI l)[j]? = some u → w.cell? (a.add j) = some u := fun j u hj => by
      have hjl : j < l.length := by
        have := (List.getElem?_eq_some_iff.1 hj).1
        simpa [flatI] using this
      obtain ⟨b, o', e, g⟩ := hr j hjl
      cases e
      rw [addr_lit, g]
      simp only [flatI, List.getElem?_map, List.getElem?_eq_getElem hjl, List.getD_eq_getElem?_getD] at hj ⊢
      simpa using hj
    have HF := Lib.hid hf; clear hr hf
    have HN := Lib.hid hn; clear hn
    go_enter Try.func37, Try.ntmps37
    go_wp2_with (at_builtin; refine wpList_append_own _ rfl _ _ 22 rfl w.heap.size 3 i0 _ 1 8 Try.underlying22 hi hz0 hz1 hz2 rfl (by omega) _ _ _ rfl (World.ownsRow_made w #[] 0 (Nat.le_refl _) (Nat.zero_le _) (by simp)) a n c (flatI l) rfl ?qc1 ?qc2 ?qc3 ?qc4 ?qc5 ?qc6 ?_)
    case qc1 => rw [← HN.out]; simp [flatI]
    case qc2 =>
      intro j u hj
      have h := HF.out j u hj
      rw [World.cell?_alloc_lt w _ _ (World.block_lt_of_cell? w _ h)]
      exact h
    case qc3 => intro u hu; simp [flatI] at hu; obtain ⟨_, _, rfl⟩ := hu; rfl
    case qc4 => rw [Nat.zero_add]; unfold maxLen; omega
    case qc5 => rw [Nat.zero_add]; omega
    case qc6 => simp
    intro v' w1 hown hgrow hnil
    have HW := Lib.hid hown; clear hown hnil
    go_wp2
    go_ret
    refine ⟨v', rfl, by simpa using HW.out, ?_⟩
    exact ((Below.refl _ w).alloc (Nat.le_refl _) _).grown hgrow (by simp) (by intro k hk; simp [Value.ownBlock] at hk; omega)
/-- an array of 64 ints -/
def aB (f : Nat → Nat) : Array Value := ((List.range 64).map fun k => Value.int .i64 (f k : Nat)).toArray
def ArB (W : World) (B : Nat) (f : Nat → Nat) : Prop := W.heap[B]? = some (.cells (aB f) 53 (0, 0))
theorem ArB.lt {W : World} {B : Nat} {f : Nat → Nat} (h : ArB W B f) : B < W.heap.size := (Array.getElem?_eq_some_iff.1 h).1
theorem ArB.cell {W : World} {B : Nat} {f : Nat → Nat} (h : ArB W B f) {k : Nat} (hk : k < 64) : W.cell? ⟨B, k, none⟩ = some (.int .i64 (f k : Nat)) := by
  simp [World.cell?, show W.heap[B]? = _ from h, aB, hk]
theorem ArB.frozen {W : World} {B : Nat} {f : Nat → Nat} (h : ArB W B f) (k : Nat) : W.frozen? ⟨B, k, none⟩ = false := by simp [World.frozen?, show W.heap[B]? = _ from h]
theorem ArB.kept {W W' : World} {row : Option Nat} {B : Nat} {f : Nat → Nat} (h : ArB W B f) (hg : W.grownBy W' row) (hne : some B ≠ row) : ArB W' B f := (hg.block B h.lt hne).trans h
theorem ArB.alloc {W : World} {B : Nat} {f : Nat → Nat} (h : ArB W B f) (o : Obj) : ArB (W.alloc o) B f := h.kept (World.grownBy_alloc W o none) (by simp)
theorem ArB.set {W : World} {B : Nat} {f : Nat → Nat} (h : ArB W B f) {r : Nat} (hr : r < 64) (v : Nat) : ArB (W.setCell ⟨B, r, none⟩ (.int .i64 (v : Nat))) B (fun k => if k = r then v else f k) := by
  obtain ⟨hlt, hk⟩ := Array.getElem?_eq_some_iff.1 h
  show (W.heap.modify B _)[B]? = _
  rw [Array.getElem?_eq_getElem (by rw [Array.size_modify]; exact hlt), Array.getElem_modify_self, hk]
  show some (Obj.cells ((aB f).setIfInBounds r (.int .i64 (v : Nat))) 53 (0, 0)) = _
  congr 2
  apply Array.ext
  · simp [aB]
  · intro i h1 h2
    simp only [aB, List.size_toArray, List.length_map, List.length_range] at h2
    rw [Array.getElem_setIfInBounds (by simpa [aB] using h2)]
    by_cases e : i = r
    · subst e; simp [aB]
    · simp [aB, e, Ne.symm e]
theorem arB_own {β : Type} (B : Nat) (f : β → Nat → Nat) : Own (fun s W => ArB W B (f s)) := fun s X Y row hs hg hrow =>
  hs.kept hg (fun e' => by obtain ⟨o, ho, hc⟩ := hrow B e'.symm; rw [show X.heap[B]? = _ from hs] at ho; cases ho; cases hc)
theorem aB_zero : aB (fun _ => 0) = #[.int .i64 0, .int .i64 0, .int .i64 0, .int .i64 0, .int .i64 0, .int .i64 0, .int .i64 0, .int .i64 0, .int .i64 0, .int .i64 0, .int .i64 0, .int .i64 0, .int .i64 0, .int .i64 0, .int .i64 0, .int .i64 0, .int .i64 0, .int .i64 0, .int .i64 0, .int .i64 0, .int .i64 0, .int .i64 0, .int .i64 0, .int .i64 0, .int .i64 0, .int .i64 0, .int .i64 0, .int .i64 0, .int .i64 0, .int .i64 0, .int .i64 0, .int .i64 0, .int .i64 0, .int .i64 0, .int .i64 0, .int .i64 0, .int .i64 0, .int .i64 0, .int .i64 0, .int .i64 0, .int .i64 0, .int .i64 0, .int .i64 0, .int .i64 0, .int .i64 0, .int .i64 0, .int .i64 0, .int .i64 0, .int .i64 0, .int .i64 0, .int .i64 0, .int .i64 0, .int .i64 0, .int .i64 0, .int .i64 0, .int .i64 0, .int .i64 0, .int .i64 0, .int .i64 0, .int .i64 0, .int .i64 0, .int .i64 0, .int .i64 0, .int .i64 0] := rfl
theorem ArB.new (W : World) : ArB (W.alloc (.cells #[.int .i64 0, .int .i64 0, .int .i64 0, .int .i64 0, .int .i64 0, .int .i64 0, .int .i64 0, .int .i64 0, .int .i64 0, .int .i64 0, .int .i64 0, .int .i64 0, .int .i64 0, .int .i64 0, .int .i64 0, .int .i64 0, .int .i64 0, .int .i64 0, .int .i64 0, .int .i64 0, .int .i64 0, .int .i64 0, .int .i64 0, .int .i64 0, .int .i64 0, .int .i64 0, .int .i64 0, .int .i64 0, .int .i64 0, .int .i64 0, .int .i64 0, .int .i64 0, .int .i64 0, .int .i64 0, .int .i64 0, .int .i64 0, .int .i64 0, .int .i64 0, .int .i64 0, .int .i64 0, .int .i64 0, .int .i64 0, .int .i64 0, .int .i64 0, .int .i64 0, .int .i64 0, .int .i64 0, .int .i64 0, .int .i64 0, .int .i64 0, .int .i64 0, .int .i64 0, .int .i64 0, .int .i64 0, .int .i64 0, .int .i64 0, .int .i64 0, .int .i64 0, .int .i64 0, .int .i64 0, .int .i64 0, .int .i64 0, .int .i64 0, .int .i64 0] 53)) W.heap.size (fun _ => 0) := by
  unfold ArB; rw [aB_zero]; exact World.alloc_heap_new W _
/-- the counts as a list -/
def cntL (t : Nat) (l : List Int) : List Int := (List.range t).map fun k => ((cntF (chL t l) k : Nat) : Int)
/-- what Counts returns -/
def CntPost (t : Int) (l : List Int) (w : World) (e : Ending) (w' : World) : Prop :=
  (if fitE t l.length = 0 then ∃ v, e = .returned (.tuple #[v, .int .i64 0]) ∧ w'.ownsRow w.heap.size 3 1 v t.toNat (flatI (cntL t.toNat l)) else e = .returned (.tuple #[.slice none 0 0, .int .i64 (fitE t l.length)])) ∧ Below w.heap.size w w'
set_option maxRecDepth 100000 in
set_option maxHeartbeats 2000000 in
theorem counts_in (F : Fence) (hF : ∀ f, F.fn f) (hro : F.round = none) (hwide : ∀ {n g : Nat} {args : Array Value} {w : World} {R : Ending → World → Prop}, Calls Try.prog g args w R → CallsIn F n Try.prog g args w R) (n : Nat) (hn : 5 ≤ n) (t : Int) (A : Option Addr) (m c : Nat) (xs : List Int) (hl : xs.length = m) (hx : m ≤ maxLen) (w : World) (hrd : RdK .i64 w A xs) :
    CallsIn F n Try.prog 14 #[.int .i64 t, .slice A m c] w (CntPost t xs w) := by
  unfold maxLen at hx
  have h1 : 1 ≤ n := by omega
  have hf := hF 32
  have hf1 := hF 34
  have hf2 := hF 37
  by_cases h0 : fitE t xs.length = 0
  · obtain ⟨a1, a2, a3, a4⟩ := fitE_ok h0
    have HP := Lib.hid (show ∀ e w', CntPost t xs w e w' ↔ (∃ v, e = .returned (.tuple #[v, .int .i64 0]) ∧ w'.ownsRow w.heap.size 3 1 v t.toNat (flatI (cntL t.toNat xs))) ∧ Below w.heap.size w w' from fun e w' => by unfold CntPost; rw [if_pos h0])
    have CF := fun (n : Nat) (W : World) => Lib.hid (hwide (n := n) (fits_any t m W))
    rw [hl] at h0 a4
    rw [h0] at CF
    obtain ⟨T, rfl⟩ := Int.eq_ofNat_of_zero_le (show 0 ≤ t by omega)
    obtain ⟨W0, hW0⟩ : ∃ W0 : World, W0 = ((w.alloc (.cells #[.int .i64 0, .int .i64 0, .int .i64 0, .int .i64 0, .int .i64 0, .int .i64 0, .int .i64 0, .int .i64 0, .int .i64 0, .int .i64 0, .int .i64 0, .int .i64 0, .int .i64 0, .int .i64 0, .int .i64 0, .int .i64 0, .int .i64 0, .int .i64 0, .int .i64 0, .int .i64 0, .int .i64 0, .int .i64 0, .int .i64 0, .int .i64 0, .int .i64 0, .int .i64 0, .int .i64 0, .int .i64 0, .int .i64 0, .int .i64 0, .int .i64 0, .int .i64 0, .int .i64 0, .int .i64 0, .int .i64 0, .int .i64 0, .int .i64 0, .int .i64 0, .int .i64 0, .int .i64 0, .int .i64 0, .int .i64 0, .int .i64 0, .int .i64 0, .int .i64 0, .int .i64 0, .int .i64 0, .int .i64 0, .int .i64 0, .int .i64 0, .int .i64 0, .int .i64 0, .int .i64 0, .int .i64 0, .int .i64 0, .int .i64 0, .int .i64 0, .int .i64 0, .int .i64 0, .int .i64 0, .int .i64 0, .int .i64 0, .int .i64 0, .int .i64 0] 53)).alloc (.cells #[.int .i64 T] 3)).alloc (.cells #[.slice A m c] 22) := ⟨_, rfl⟩
    have hsz : W0.heap.size = w.heap.size + 3 := by rw [hW0]; simp
    have hB0 : Below w.heap.size w W0 := by rw [hW0]; exact bel_alloc (bel_alloc (bel_alloc (Below.refl _ _) _) _) _
    have bC : ArB W0 w.heap.size (cntF []) := by rw [hW0]; exact ((ArB.new w).alloc _).alloc _
    have bT : Boxed W0 (w.heap.size + 1) 3 (.int .i64 T) := by
      rw [hW0]
      have := (Boxed.new (w.alloc (.cells #[.int .i64 0, .int .i64 0, .int .i64 0, .int .i64 0, .int .i64 0, .int .i64 0, .int .i64 0, .int .i64 0, .int .i64 0, .int .i64 0, .int .i64 0, .int .i64 0, .int .i64 0, .int .i64 0, .int .i64 0, .int .i64 0, .int .i64 0, .int .i64 0, .int .i64 0, .int .i64 0, .int .i64 0, .int .i64 0, .int .i64 0, .int .i64 0, .int .i64 0, .int .i64 0, .int .i64 0, .int .i64 0, .int .i64 0, .int .i64 0, .int .i64 0, .int .i64 0, .int .i64 0, .int .i64 0, .int .i64 0, .int .i64 0, .int .i64 0, .int .i64 0, .int .i64 0, .int .i64 0, .int .i64 0, .int .i64 0, .int .i64 0, .int .i64 0, .int .i64 0, .int .i64 0, .int .i64 0, .int .i64 0, .int .i64 0, .int .i64 0, .int .i64 0, .int .i64 0, .int .i64 0, .int .i64 0, .int .i64 0, .int .i64 0, .int .i64 0, .int .i64 0, .int .i64 0, .int .i64 0, .int .i64 0, .int .i64 0, .int .i64 0, .int .i64 0] 53)) 3 (.int .i64 T)).alloc (.cells #[.slice A m c] 22)
      rwa [World.size_alloc] at this
    have bP : Boxed W0 (w.heap.size + 2) 22 (.slice A m c) := by
      rw [hW0]
      have := Boxed.new ((w.alloc (.cells #[.int .i64 0, .int .i64 0, .int .i64 0, .int .i64 0, .int .i64 0, .int .i64 0, .int .i64 0, .int .i64 0, .int .i64 0, .int .i64 0, .int .i64 0, .int .i64 0, .int .i64 0, .int .i64 0, .int .i64 0, .int .i64 0, .int .i64 0, .int .i64 0, .int .i64 0, .int .i64 0, .int .i64 0, .int .i64 0, .int .i64 0, .int .i64 0, .int .i64 0, .int .i64 0, .int .i64 0, .int .i64 0, .int .i64 0, .int .i64 0, .int .i64 0, .int .i64 0, .int .i64 0, .int .i64 0, .int .i64 0, .int .i64 0, .int .i64 0, .int .i64 0, .int .i64 0, .int .i64 0, .int .i64 0, .int .i64 0, .int .i64 0, .int .i64 0, .int .i64 0, .int .i64 0, .int .i64 0, .int .i64 0, .int .i64 0, .int .i64 0, .int .i64 0, .int .i64 0, .int .i64 0, .int .i64 0, .int .i64 0, .int .i64 0, .int .i64 0, .int .i64 0, .int .i64 0, .int .i64 0, .int .i64 0, .int .i64 0, .int .i64 0, .int .i64 0] 53)).alloc (.cells #[.int .i64 T] 3)) 22 (.slice A m c)
      rwa [World.size_alloc, World.size_alloc] at this
    have hX : ∀ b, (fun b => b < w.heap.size ∨ b = w.heap.size + 1) b → b < W0.heap.size := fun b hb => by
      have hb : b < w.heap.size ∨ b = w.heap.size + 1 := hb
      omega
    have HS := Lib.hid (choices_stops F hF hro (fun h => hwide h) (n - 1) (by omega) (w.heap.size + 2) (w.heap.size + 1) T (by omega) (by omega) A m c xs hl (by omega) (fun b => b < w.heap.size ∨ b = w.heap.size + 1) (.inr rfl) (fun h a e => .inl (rd_lt hrd h a e)) W0 hX (by omega) bP.cell bT.cell (hrd.below hB0))
    have gle := cntF_le
    have hlen : (chL T xs).length ≤ 65536 := by rw [chL_len, hl]; omega
    clear h0 hl hrd
    refine callsIn_of_wp_marks Try.func14 rfl (hF _) ?_ hro
    simp only [Try.ntmps14, List.size_toArray, List.length_cons, List.length_nil, Nat.reduceAdd, Nat.reduceSub, Array.replicate_succ, Array.replicate_zero, List.push_toArray, List.append_toArray, List.nil_append, List.cons_append]
    gi_wp2_with (first | (gi_at_call 32; refine (CF _ _).out.mono ?_; rintro e w' ⟨rfl, rfl⟩) | (gi_at_call 34; refine (choices_in F (n - 1) hf1 hro T A m c _).mono ?_; rintro e w' ⟨rfl, rfl⟩))
    rw [← hW0]
    clear hW0
    refine wpIn_rangeFunc_ownF hro h1 (gf := 49) (lb := #[.pointer (some ⟨w.heap.size + 2, 0, none⟩), .pointer (some ⟨w.heap.size + 1, 0, none⟩)]) rfl (hF _) (enters_of Try.func49 (by kernel_rfl) rfl)
      HS.out KX.trans (KX.put hX) (Below.refl _ _) (fun _ => rfl)
      (fun pre W => ArB W w.heap.size (cntF pre) ∧ Below w.heap.size w W)
      (fun _ _ _ => False)
      (OwnFrom.and (Own.from (arB_own _ cntF) _) (ownFrom_below (Nat.le_refl _) (by omega)))
      (fun _ _ _ _ _ hs _ _ => hs)
      ⟨bC, hB0⟩
      (fun x => { tmps := #[.int .i64 T, .slice A m c, undef, undef, .slice none 0 0, .int .i64 0, .int .i64 0, .pointer (some ⟨w.heap.size, 0, none⟩), .int .i64 (x.val : Int), .int .i64 T, .slice A m c, .int .i64 m, .int .i64 0, .int .i64 0, .bool false, undef, .int .i64 T, .slice A m c, .func (.func 49) #[] #[.pointer (some ⟨w.heap.size + 2, 0, none⟩), .pointer (some ⟨w.heap.size + 1, 0, none⟩)], .int .i64 (x.val : Int), undef, undef, undef, undef, undef, undef, undef, undef], defers := [] }) ?assign ?body ?done ?stop
    case assign =>
      intro l x W K hK
      gi_wp2
      exact hK
    case body =>
      rintro l pre x W ⟨hg, hB⟩ hlt
      have hx0 := x.isLt
      have hcg := hg.cell hx0
      have hfg := hg.frozen x.val
      have hgl := gle pre x.val
      have HSN := Lib.hid (fun k => cntF_snoc pre x k)
      have HG := Lib.hid hg
      obtain ⟨y, hy⟩ : ∃ y, cntF pre x.val = y := ⟨_, rfl⟩
      rw [hy] at hcg hgl
      have HY := Lib.hid hy
      have yb : (y : Int) ≤ 65536 := by omega
      clear hy hg
      have FIN := Lib.hid (show ArB (W.setCell ⟨w.heap.size, x.val, none⟩ (.int .i64 ((y : Int) + 1))) w.heap.size (cntF (pre ++ [x])) from by
        have := HG.out.set hx0 (y + 1)
        rw [show (fun k => if k = x.val then y + 1 else cntF pre k) = cntF (pre ++ [x]) from funext fun k => by
          rw [HSN.out k]
          by_cases e : k = x.val
          · subst e; rw [if_pos rfl, if_pos rfl, HY.out]
          · rw [if_neg e, if_neg (fun h => e h.symm)]; rfl] at this
        exact this)
      clear HSN HG HY
      generalize x.val = q at *
      have q1 : (q : Int) < 64 := by omega
      gi_wp2
      exact ⟨KeepsOthers.setCell _ _ _, KX.set (by omega), ⟨FIN.out, hB.setCell (p := ⟨w.heap.size, q, none⟩) (Nat.le_refl _) _⟩⟩
    case done =>
      rintro D ys W hD rfl ⟨hg, hB⟩ hK
      have hRD : RdK .i64 W (some ⟨w.heap.size, 0, none⟩) (cntL T xs) := fun k hk => ⟨w.heap.size, 0, rfl, by
        have hk : k < T := by simpa [cntL] using hk
        rw [Nat.zero_add, hg.cell (by omega)]
        simp [cntL, List.getD_eq_getElem?_getD, hk]⟩
      have CC := Lib.hid (hwide (n := n - 1) (cloneI (some ⟨w.heap.size, 0, none⟩) T 64 (cntL T xs) W (by simp [cntL]) (by omega) hRD))
      have hDW : D < W.heap.size := (Array.getElem?_eq_some_iff.1 hK).1
      clear hRD hg
      gi_wp2_with (gi_at_call 37; refine CC.out.mono ?_; rintro e w1 ⟨v, rfl, ow, b1⟩)
      have hK1 := (b1.block D hDW).trans hK
      refine ⟨by simp, .inl ⟨_, _, rfl, run_takeDeferred hK1, ?_⟩⟩
      refine ⟨_, results_tmp2 rfl _ _ _, (HP.out _ _).2 ⟨⟨v, rfl, ?_⟩, (hB.trans (b1.mono hB.size)).trans (belowK_b (w := w) (Nat.le_refl _) w1 D _ _ (by omega) hK1 rfl rfl)⟩⟩
      rw [show ((T : Int)).toNat = T by omega]
      exact ownsRow_putObj (own_base ow hB.size) _ hK1 rfl
    case stop =>
      rintro D c pre W _ _ h _
      exact h.elim
  · have HP := Lib.hid (show ∀ e w', CntPost t xs w e w' ↔ e = .returned (.tuple #[.slice none 0 0, .int .i64 (fitE t xs.length)]) ∧ Below w.heap.size w w' from fun e w' => by unfold CntPost; rw [if_neg h0])
    have CF := fun (n : Nat) (W : World) => Lib.hid (hwide (n := n) (fits_any t m W))
    have HL := Lib.hid hl
    rw [hl] at h0
    obtain ⟨r, hr⟩ : ∃ r, fitE t m = r := ⟨_, rfl⟩
    rw [hr] at CF h0
    have HRR := Lib.hid hr
    have z0 : (r == 0) = false := by simp; exact h0
    have z1 : (r != 0) = true := by simp; exact h0
    clear hr h0 hl hrd
    refine callsIn_of_wp Try.func14 rfl (hF _) ?_ hro
    simp only [Try.ntmps14, List.size_toArray, List.length_cons, List.length_nil, Nat.reduceAdd, Nat.reduceSub, Array.replicate_succ, Array.replicate_zero, List.push_toArray, List.append_toArray, List.nil_append, List.cons_append]
    gi_wp2_with (gi_at_call 32; refine (CF _ _).out.mono ?_; rintro e w' ⟨rfl, rfl⟩)
    go_ret2
    rw [HP.out, HL.out, HRR.out]
    exact ⟨rfl, Below.refl _ _⟩
theorem counts_any (t : Int) (A : Option Addr) (m c : Nat) (xs : List Int) (hl : xs.length = m) (hx : m ≤ maxLen) (w : World) (hrd : RdK .i64 w A xs) :
    Calls Try.prog 14 #[.int .i64 t, .slice A m c] w (CntPost t xs w) :=
  callsIn_wide.1 (counts_in Fence.wide (fun _ => trivial) rfl (fun h => callsIn_wide.2 h) 5 (Nat.le_refl _) t A m c xs hl hx w hrd)
end Pk
end Go.Proofs.Ytnoggggbghkgkaa
