/- The library's slices.Clone and slices.SortFunc at pairs, cmp.Compare, span.Check and Shift, and find and within of package omap (with the library's sort.Search): contracts of the translated code. Conditions: at most 1000 pairs with increasing keys; the bounds of each number's kind. -/
import Derived.Test.YtbdllakbkienoaaOmE
import Derived.Test.YtbdllakbkienoaaLayO
import Derived.RegionTactic
namespace Go.Proofs.Ytbdllakbkienoaa
open Go.RowKit Go.Sort Go.Lib
set_option linter.unusedVariables false
set_option linter.unusedSimpArgs false
namespace Om
theorem replace_any (B n c i j vb m vc : Nat) (A : Option Addr) (l ps : List Pr) (w : World) (hr : w.ownsRow B 43 2 (.slice A n c) n (flat l)) (hv : w.ownsRow 0 43 2 (.slice (some ⟨vb, 0, none⟩) m vc) m (flat ps)) (hne : (Value.slice A n c).ownBlock ≠ some vb) (hij : i ≤ j) (hj : j ≤ n) (hm : j - i ≤ m) (hroom : i + m + (n - j) ≤ c) (hs : (n + m) * 16 ≤ 140737488355328) (hw : B ≤ w.heap.size) :
    Calls Try.prog 63 #[.slice A n c, .int .i64 i, .int .i64 j, .slice (some ⟨vb, 0, none⟩) m vc] w (InsPost w B (.slice A n c) (l.take i ++ (ps ++ l.drop j))) := by
  have hn : l.length = n := by have := hr.1; rw [flat_len] at this; omega
  by_cases h0 : i = j
  · subst h0
    exact replace_same B n c i vb m vc A l ps w hr hv hne hj hs hw
  · rcases hr.2 with ⟨e, h⟩ | ⟨g, cap, cur, e, _, _, hnc, hcm, _⟩
    · omega
    · injection e with e1 e2 e3
      subst e1 e3
      have hne' : vb ≠ g := fun e => hne (by rw [e]; rfl)
      by_cases h1 : j = n
      · subst h1
        rw [List.drop_eq_nil_of_le (by omega), List.append_nil]
        exact (replace_tail B g j c i vb m vc l ps w hr hv (by omega) (by omega) (by omega)).mono fun e w' h => h.post
      · by_cases h2 : i + m = j
        · subst h2
          exact (replace_fit B g n c i vb m vc l ps w hr hv hne' (by omega) (by omega)).mono fun e w' h => h.post
        · exact (replace_over B g n c i j vb m vc l ps w hr hv hne' (by omega) (by omega) (by omega) hroom).mono fun e w' h => h.post
theorem clone_any (A : Option Addr) (n c : Nat) (l : List Pr) (w : World) (hn : l.length = n) (hs : n * 16 ≤ 140737488355328) (hr : Rd w A l) :
    Calls Try.prog 57 #[.slice A n c] w (RwPost w l) := by
  obtain ⟨i0, hi, hz0, hz1, hz2⟩ := info_parts info
  have q : ∀ (w : World) (a : Option Addr) (n c n' c' : Nat), (binOp .eql 22 (.slice a n c) (.slice none n' c')).run Try.prog w = .ok (.bool a.isNone) w := fun w a n c n' c' => Lib.run_eql_slice_nil w _ _ a n c n' c' Try.underlying22
  cases A with
  | none =>
    have hl : l = [] := by
      cases l with
      | nil => rfl
      | cons x l => obtain ⟨b, o, e, _⟩ := hr 0 x rfl; cases e
    subst hl
    obtain rfl : n = 0 := by simpa using hn.symm
    clear hr hn
    go_enter Try.func57, Try.ntmps57
    go_wp2
    go_ret
    exact ⟨_, rfl, World.ownsRow_nil _ _ _ _, Below.refl _ _⟩
  | some a =>
    have HF := Lib.hid hr.flat_cells; clear hr
    have HN := Lib.hid hn; clear hn
    go_enter Try.func57, Try.ntmps57
    go_wp2_with (at_builtin; refine wpList_append_own _ rfl _ _ 22 rfl w.heap.size 43 i0 _ 2 16 Try.underlying22 hi hz0 hz1 hz2 rfl (by omega) _ _ _ rfl (World.ownsRow_made w #[] 0 (Nat.le_refl _) (Nat.zero_le _) (by simp)) a n c (flat l) rfl ?qc1 ?qc2 ?qc3 ?qc4 ?qc5 ?qc6 ?_)
    case qc1 => rw [flat_len, HN.out]
    case qc2 =>
      intro j u hj
      have h := HF.out j u hj
      rw [World.cell?_alloc_lt w _ _ (World.block_lt_of_cell? w _ h)]
      exact h
    case qc3 => exact flat_one_cell l
    case qc4 => rw [Nat.zero_add]; unfold maxLen; omega
    case qc5 => rw [Nat.zero_add]; omega
    case qc6 => simp
    intro v' w1 hown hgrow hnil
    have HW := Lib.hid hown; clear hown hnil
    go_wp2
    go_ret
    refine ⟨v', rfl, by rw [HN.out]; simpa using HW.out, ?_⟩
    exact ((Below.refl _ w).alloc (Nat.le_refl _) _).grown hgrow (by simp) (by intro k hk; simp [Value.ownBlock] at hk; omega)
/-! ### what the sort compares -/
def cmpI (a b : Int) : Int := if a < b then -1 else if b < a then 1 else 0
theorem ltKey (x y : Pr) : ltOf (fun x y : Pr => cmpI x.1 y.1) x y = decide (x.1 < y.1) := by
  unfold ltOf cmpI
  by_cases h1 : x.1 < y.1
  · simp [h1]
  · by_cases h2 : y.1 < x.1 <;> simp [h1, h2]
theorem swoKey : SWO (ltOf fun x y : Pr => cmpI x.1 y.1) where
  irrefl x := by rw [ltKey]; simp
  trans x y z h1 h2 := by rw [ltKey] at *; simp at *; omega
  ntrans x y z h1 h2 := by rw [ltKey] at *; simp at *; omega
theorem isNaN_any (a : Int) (w : World) : Calls Try.prog 72 #[.int .u64 a] w fun e w' => e = .returned (.bool false) ∧ w = w' := by
  go_enter Try.func72, Try.ntmps72
  go_wp2
  go_ret
  exact ⟨ret_eq (by simp), rfl⟩
theorem compare_any (a b : Int) (w : World) : Calls Try.prog 60 #[.int .u64 a, .int .u64 b] w fun e w' => e = .returned (.int .i64 (cmpI a b)) ∧ w = w' := by
  rcases Int.lt_trichotomy a b with h | h | h
  · have H := Lib.hid (show cmpI a b = -1 by rw [cmpI, if_pos h])
    go_enter Try.func60, Try.ntmps60
    go_wp2_with (go_at_call 72; refine (isNaN_any _ _).mono ?_; rintro r w1 ⟨rfl, rfl⟩)
    go_ret
    exact ⟨ret_eq (by rw [H.out]; rfl), rfl⟩
  · subst h
    have H := Lib.hid (show cmpI a a = 0 by rw [cmpI, if_neg (by omega), if_neg (by omega)])
    go_enter Try.func60, Try.ntmps60
    go_wp2_with (go_at_call 72; refine (isNaN_any _ _).mono ?_; rintro r w1 ⟨rfl, rfl⟩)
    go_ret
    exact ⟨ret_eq (by rw [H.out]; rfl), rfl⟩
  · have h' : ¬ a < b := by omega
    have H := Lib.hid (show cmpI a b = 1 by rw [cmpI, if_neg h', if_pos h])
    go_enter Try.func60, Try.ntmps60
    go_wp2_with (go_at_call 72; refine (isNaN_any _ _).mono ?_; rintro r w1 ⟨rfl, rfl⟩)
    go_ret
    exact ⟨ret_eq (by rw [H.out]; rfl), rfl⟩
theorem closure_any (x y : Pr) (W : World) : Calls Try.prog 59 #[.agg #[.int .u64 x.1, .int .u64 x.2], .agg #[.int .u64 y.1, .int .u64 y.2]] W fun e w' => e = .returned (.int .i64 (cmpI x.1 y.1)) ∧ ∃ q os', w' = grow (W.drewN q) os' := by
  generalize hr : cmpI x.1 y.1 = r
  have HR := Lib.hid hr; clear hr
  go_enter Try.func59, Try.ntmps59
  go_wp2_with (go_at_call 60; refine (compare_any _ _ _).mono ?_; rw [HR.out]; rintro e w' ⟨rfl, rfl⟩)
  go_ret
  exact ⟨rfl, 0, _, by rw [alloc_eq_grow, alloc_eq_grow, grow_grow]; rfl⟩
theorem own_holds {w : World} {g : Nat} {l : List Pr} (h : Own w g 0 l) : HoldsK encV 2 w g 0 l.toArray := by
  intro j hj
  rw [size_flatK] at hj
  simp only [List.size_toArray] at hj
  have hk : j / 2 < l.length := by omega
  obtain ⟨c0, c1, f0, f1⟩ := h (j / 2) _ (List.getElem?_eq_getElem hk)
  rw [get_flatK _ _ _ _ (by simpa using hj)]
  have e : l.toArray[j / 2]! = l[j / 2] := by rw [getElem!_pos l.toArray (j / 2) (by simpa using hk)]; simp
  rw [e]
  simp only [Nat.zero_add] at c0 c1 f0 f1 ⊢
  rcases Nat.mod_two_eq_zero_or_one j with h0 | h0
  · have ej : j / 2 * 2 = j := by omega
    rw [ej] at c0 f0
    rw [h0]
    exact ⟨c0, f0⟩
  · have ej : j / 2 * 2 + 1 = j := by omega
    rw [ej] at c1 f1
    rw [h0]
    exact ⟨c1, f1⟩
theorem holds_own {w : World} {g : Nat} {d : Array Pr} (h : HoldsK encV 2 w g 0 d) : Own w g 0 d.toList := by
  intro k x hk
  have hkl : k < d.size := by have := (List.getElem?_eq_some_iff.1 hk).1; simpa using this
  have e : d[k]! = x := by
    rw [getElem!_pos d k hkl]
    have := (List.getElem?_eq_some_iff.1 hk).2
    simpa using this
  have a := h.cell (i := k) (c := 0) hkl (by omega)
  have b := h.cell (i := k) (c := 1) hkl (by omega)
  rw [e] at a b
  exact ⟨a.1, b.1, a.2, b.2⟩
theorem heap_sort {w : World} {g n : Nat} {d : Array Pr} {os : Array Obj} {cur : Array Value} {t : TypeId} {fr : Nat × Nat} (h : w.heap[g]? = some (.cells cur t fr)) : ∃ cur', (sortWorldK encV 2 w g 0 n d os).heap[g]? = some (.cells cur' t fr) ∧ cur'.size = cur.size := by
  have hlt : g < w.heap.size := (Array.getElem?_eq_some_iff.1 h).1
  have hv : w.heap[g] = .cells cur t fr := (Array.getElem?_eq_some_iff.1 h).2
  refine ⟨putCells id 0 (flatK encV 2 d) cur, ?_, by simp [putCells]⟩
  simp [sortWorldK, grow, putRowK, putRow, mapBlock, ahead, Array.getElem?_append, Array.getElem?_modify, hlt]
  rw [Array.getElem_modify_self, hv]
  rfl
theorem sortWorld_grown {w : World} {g n : Nat} {d : Array Pr} {os : Array Obj} : w.grownBy (sortWorldK encV 2 w g 0 n d os) (some g) := by
  refine ⟨rfl, rfl, rfl, ?_, fun i hi hn => ?_⟩
  · exact size_sortWorldK_c encV 2 w g 0 n d os
  · have hne : g ≠ i := fun e => hn (by rw [e])
    simp [sortWorldK, grow, putRowK, putRow, mapBlock, ahead, Array.getElem?_append, Array.getElem?_modify, hne, hi]
    rw [Array.getElem_modify, if_neg hne]
/-- a row of the same length in the same block -/
theorem row_again {w w' : World} {B g n c : Nat} {l m : List Pr} (hr : w.ownsRow B 43 2 (.slice (some ⟨g, 0, none⟩) n c) n (flat l)) (hb : ∀ cur : Array Value, w.heap[g]? = some (.cells cur 43 (0, 0)) → ∃ cur' : Array Value, w'.heap[g]? = some (.cells cur' 43 (0, 0)) ∧ cur'.size = cur.size) (ho : Own w' g 0 m) (hm : m.length = n) : w'.ownsRow B 43 2 (.slice (some ⟨g, 0, none⟩) n c) n (flat m) := by
  obtain ⟨R, hk, hn, hnc, hcm, hB⟩ := row_blk hr
  obtain ⟨cur', h1, h2⟩ := hb _ hk.1
  have hs : cur'.size = c * 2 := by rw [h2]; simpa using hk.2
  have ht : cur'.toList.take (n * 2) = flat m := by
    refine List.ext_getElem? fun j => ?_
    by_cases hj : j < n * 2
    · rw [List.getElem?_take, if_pos hj]
      have hjm : j / 2 < m.length := by omega
      obtain ⟨c0, c1, _, _⟩ := ho (j / 2) _ (List.getElem?_eq_getElem hjm)
      obtain ⟨e0, e1⟩ := flat_get m (j / 2) _ (List.getElem?_eq_getElem hjm)
      rw [cell_of_row w' g _ cur' _ _ h1, Nat.zero_add] at c0 c1
      have ec : ∀ q, cur'.toList[q]? = cur'[q]? := fun q => Array.getElem?_toList
      rw [ec]
      rcases Nat.mod_two_eq_zero_or_one j with h0 | h0
      · have ej : j / 2 * 2 = j := by omega
        rw [ej] at c0 e0
        rw [c0, e0]
      · have ej : j / 2 * 2 + 1 = j := by omega
        rw [ej] at c1 e1
        rw [c1, e1]
    · rw [List.getElem?_eq_none (by rw [List.length_take]; omega), List.getElem?_eq_none (by rw [flat_len]; omega)]
  exact ⟨by rw [flat_len, hm], .inr ⟨g, c, cur', rfl, hB, h1, hnc, hcm, hs, ht⟩⟩
/-- the sort of a row of the program's own: a permutation, ascending by key -/
theorem sort_any (B g n c : Nat) (l : List Pr) (w : World) (hr : w.ownsRow B 43 2 (.slice (some ⟨g, 0, none⟩) n c) n (flat l)) (hs : n < 4611686018427387904) :
    Calls Try.prog 58 #[.slice (some ⟨g, 0, none⟩) n c, .func (.func 59) #[] #[]] w fun e w' => e = .returned (.tuple #[]) ∧ ∃ m : List Pr, m.Perm l ∧ m.Pairwise (fun a b => a.1 ≤ b.1) ∧ w'.ownsRow B 43 2 (.slice (some ⟨g, 0, none⟩) n c) n (flat m) ∧ w.grownBy w' (some g) := by
  have eg : ∀ args w, (callFunc 59 args).run Try.prog w = .ok (.enter 59 args) w := enters_of Try.func59 (by kernel_rfl) rfl
  have ho := own_of_row hr
  have hg := (hr.lt g rfl).2
  have hn : l.length = n := by have := hr.1; rw [flat_len] at this; omega
  have hH := own_holds ho
  have hcon := AnyQ.slices_SortFunc Try.sortPr 2 Try.isAgg43 Try.sizeOf43 encV (fun _ => rfl) (fun x v hv => by simp [encV] at hv; rcases hv with rfl | rfl <;> rfl) (fun x y : Pr => cmpI x.1 y.1) swoKey 59 #[] g 0 c l.toArray w eg (fun _ _ _ _ x y => closure_any x y _) hH hg (by simpa using by omega)
  have e : l.toArray.size = n := by simpa using hn
  rw [e] at hcon
  refine Calls.mono (P := Try.prog) hcon ?_
  rintro r w' ⟨rfl, d', k, os, hp, hso, rfl⟩
  have hsz : d'.size = l.toArray.size := hp.1
  have hperm : d'.toList.Perm l := by
    have h2 := hp.2.2
    rw [show d'.extract 0 n = d' by rw [show n = d'.size by rw [hsz, e]]; exact Array.extract_size, show l.toArray.extract 0 n = l.toArray by rw [show n = l.toArray.size by rw [e]]; exact Array.extract_size] at h2
    simpa using h2
  refine ⟨rfl, d'.toList, hperm, ?_, row_again hr (fun cur h => heap_sort h) (holds_own (holdsK_sortWorldK encV 2 w g 0 k l.toArray d' os hg hH hsz)) (by rw [hperm.length_eq, hn]), sortWorld_grown⟩
  rw [List.pairwise_iff_getElem]
  intro i j hi hj hij
  have hi' : i < d'.size := by simpa using hi
  have hj' : j < d'.size := by simpa using hj
  have := hso i j (Nat.zero_le _) hij (by rw [← e, ← hsz]; exact hj')
  rw [ltKey, getElem!_pos d' i hi', getElem!_pos d' j hj', decide_eq_false_iff_not] at this
  simp only [Array.getElem_toList]
  omega
theorem sort_none (A : Option Addr) (c : Nat) (fv : Value) (w : World) : Calls Try.prog 58 #[.slice A 0 c, fv] w fun e w' => e = .returned (.tuple #[]) ∧ w = w' := by
  have h := AnyF.slices_SortFunc_none Try.sortPr A c fv w
  exact Calls.mono (P := Try.prog) h fun _ _ ⟨he, hw⟩ => ⟨he, hw.symm⟩
/-! ### the closures that are searched with -/
theorem findCl (bx bs bm : Nat) (key : Int) (A : Option Addr) (n c i : Nat) (l : List Pr) (W : World) (hn : l.length = n) (hs : n ≤ 1000) (hin : i < n)
    (h1 : W.cell? ⟨bx, 0, none⟩ = some (.pointer (some ⟨bm, 0, none⟩))) (h2 : W.cell? ⟨bs, 0, none⟩ = some (.int .u64 key)) (h3 : W.cell? ⟨bm, 0, none⟩ = some (.slice A n c)) (hr : Rd W A l) :
    Calls Try.prog 81 (#[.int .i64 i] ++ #[.pointer (some ⟨bx, 0, none⟩), .pointer (some ⟨bs, 0, none⟩)]) W fun e w' => e = .returned (.bool (decide (key ≤ (l.getD i (0, 0)).1))) ∧ ∃ q, w' = W.drewN q := by
  have hx : l[i]? = some (l[i]'(by omega)) := List.getElem?_eq_getElem (by omega)
  obtain ⟨b, o, rfl, g0, g1⟩ := hr i _ hx
  rw [getD_some hx]
  generalize (l[i]'(by omega)) = x at *
  clear hr hn hx
  have hiz : (i : Int) < (n : Int) := by omega
  have hni : (n : Int) ≤ 1000 := by omega
  by_cases h : key ≤ x.1
  · have t0 : decide (key ≤ x.1) = true := decide_eq_true h
    rw [t0]
    clear t0
    go_enter Try.func81, Try.ntmps81
    go_wp2
    go_quiet (fail)
    go_wp2
    go_ret
    exact ⟨rfl, _, rfl⟩
  · have t0 : decide (key ≤ x.1) = false := decide_eq_false h
    rw [t0]
    go_enter Try.func81, Try.ntmps81
    go_wp2
    go_quiet (fail)
    go_wp2
    go_ret
    exact ⟨rfl, _, rfl⟩
theorem withinCl1 (bx bs bm : Nat) (lo : Int) (A : Option Addr) (n c i : Nat) (l : List Pr) (W : World) (hn : l.length = n) (hs : n ≤ 1000) (hin : i < n)
    (h1 : W.cell? ⟨bx, 0, none⟩ = some (.pointer (some ⟨bm, 0, none⟩))) (h2 : W.cell? ⟨bs, 0, none⟩ = some (.int .u64 lo)) (h3 : W.cell? ⟨bm, 0, none⟩ = some (.slice A n c)) (hr : Rd W A l) :
    Calls Try.prog 75 (#[.int .i64 i] ++ #[.pointer (some ⟨bx, 0, none⟩), .pointer (some ⟨bs, 0, none⟩)]) W fun e w' => e = .returned (.bool (decide (lo ≤ (l.getD i (0, 0)).1))) ∧ ∃ q, w' = W.drewN q := by
  have hx : l[i]? = some (l[i]'(by omega)) := List.getElem?_eq_getElem (by omega)
  obtain ⟨b, o, rfl, g0, g1⟩ := hr i _ hx
  rw [getD_some hx]
  generalize (l[i]'(by omega)) = x at *
  clear hr hn hx
  have hiz : (i : Int) < (n : Int) := by omega
  have hni : (n : Int) ≤ 1000 := by omega
  by_cases h : lo ≤ x.1
  · have t0 : decide (lo ≤ x.1) = true := decide_eq_true h
    rw [t0]
    clear t0
    go_enter Try.func75, Try.ntmps75
    go_wp2
    go_quiet (fail)
    go_wp2
    go_ret
    exact ⟨rfl, _, rfl⟩
  · have t0 : decide (lo ≤ x.1) = false := decide_eq_false h
    rw [t0]
    go_enter Try.func75, Try.ntmps75
    go_wp2
    go_quiet (fail)
    go_wp2
    go_ret
    exact ⟨rfl, _, rfl⟩
theorem withinCl2 (bx bs bm : Nat) (hi : Int) (A : Option Addr) (n c i : Nat) (l : List Pr) (W : World) (hn : l.length = n) (hs : n ≤ 1000) (hin : i < n)
    (h1 : W.cell? ⟨bx, 0, none⟩ = some (.pointer (some ⟨bm, 0, none⟩))) (h2 : W.cell? ⟨bs, 1, none⟩ = some (.int .u64 hi)) (h3 : W.cell? ⟨bm, 0, none⟩ = some (.slice A n c)) (hr : Rd W A l) :
    Calls Try.prog 76 (#[.int .i64 i] ++ #[.pointer (some ⟨bx, 0, none⟩), .pointer (some ⟨bs, 0, none⟩)]) W fun e w' => e = .returned (.bool (decide (hi < (l.getD i (0, 0)).1))) ∧ ∃ q, w' = W.drewN q := by
  have hx : l[i]? = some (l[i]'(by omega)) := List.getElem?_eq_getElem (by omega)
  obtain ⟨b, o, rfl, g0, g1⟩ := hr i _ hx
  rw [getD_some hx]
  generalize (l[i]'(by omega)) = x at *
  clear hr hn hx
  have hiz : (i : Int) < (n : Int) := by omega
  have hni : (n : Int) ≤ 1000 := by omega
  by_cases h : hi < x.1
  · have t0 : decide (hi < x.1) = true := decide_eq_true h
    rw [t0]
    clear t0
    go_enter Try.func76, Try.ntmps76
    go_wp2
    go_quiet (fail)
    go_wp2
    go_ret
    exact ⟨rfl, _, rfl⟩
  · have t0 : decide (hi < x.1) = false := decide_eq_false h
    rw [t0]
    go_enter Try.func76, Try.ntmps76
    go_wp2
    go_quiet (fail)
    go_wp2
    go_ret
    exact ⟨rfl, _, rfl⟩
theorem search_any (f : Nat) (bx bs n : Nat) (p : Nat → Bool) (w : World) (eg : ∀ args w, (callFunc f args).run Try.prog w = .ok (.enter f args) w) (hs : n ≤ 1000)
    (hf : ∀ W, Below w.heap.size w W → ∀ i, i < n → Calls Try.prog f (#[.int .i64 i] ++ #[.pointer (some ⟨bx, 0, none⟩), .pointer (some ⟨bs, 0, none⟩)]) W fun e w' => e = .returned (.bool (p i)) ∧ ∃ q, w' = W.drewN q)
    (hm : ∀ a b, a ≤ b → b < n → p a = true → p b = true) :
    Calls Try.prog 74 #[.int .i64 n, .func (.func f) #[] #[.pointer (some ⟨bx, 0, none⟩), .pointer (some ⟨bs, 0, none⟩)]] w fun e w' => e = .returned (.int .i64 ((List.range n).countP (fun i => !p i) : Nat)) ∧ Below w.heap.size w w' := by
  have hS := Any.sort_Search Try.search f #[.pointer (some ⟨bx, 0, none⟩), .pointer (some ⟨bs, 0, none⟩)] n p w eg (by omega)
    (fun q os i hi => (hf _ (below_grown_sl w.heap.size w q os (Nat.le_refl _)) i hi).mono fun _ _ ⟨he, q', hq⟩ => ⟨he, q', #[], by rw [hq, grow_empty]⟩) hm
  change Calls Try.prog 74 _ _ _ at hS
  refine hS.mono ?_
  rintro r w2 ⟨rfl, nq, os, rfl⟩
  exact ⟨rfl, below_grown_sl w.heap.size w nq os (Nat.le_refl _)⟩
theorem asc_le {l : List Pr} (ha : Asc l) {a b : Nat} (hab : a ≤ b) (hb : b < l.length) : (l.getD a (0, 0)).1 ≤ (l.getD b (0, 0)).1 := by
  rw [getD_some (List.getElem?_eq_getElem (show a < l.length by omega)), getD_some (List.getElem?_eq_getElem hb)]
  by_cases e : a = b
  · subst e; exact Int.le_refl _
  · have := List.pairwise_iff_getElem.1 ha a b (by omega) hb (by omega)
    omega
end Om
end Go.Proofs.Ytbdllakbkienoaa
