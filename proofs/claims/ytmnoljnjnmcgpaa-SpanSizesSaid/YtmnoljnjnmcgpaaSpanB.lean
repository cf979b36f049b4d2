/- Lists of ranges in memory that the call itself made, and the sort by Lo of such a list. Conditions: none beside those of each lemma. -/
import Derived.Test.YtmnoljnjnmcgpaaSpanH
import Derived.Test.YtmnoljnjnmcgpaaLay
import Derived.OwnWalk
namespace Go.Proofs.Ytmnoljnjnmcgpaa
open Go.RowKit Go.Sort
set_option linter.unusedVariables false
set_option linter.unusedSimpArgs false
namespace Sp
def encV (x : Sp) : List Value := [.int .u64 x.1, .int .u64 x.2]
def flat (l : List Sp) : List Value := l.flatMap encV
theorem flat_len : ∀ l : List Sp, (flat l).length = l.length * 2
  | [] => rfl
  | x :: l => by
    have := flat_len l
    simp only [flat, List.flatMap_cons, List.length_append, encV, List.length_cons, List.length_nil] at this ⊢
    omega
theorem flat_append (l m : List Sp) : flat (l ++ m) = flat l ++ flat m := by simp [flat]
theorem flat_one (x : Sp) : flat [x] = [.int .u64 x.1, .int .u64 x.2] := by simp [flat, encV]
theorem flat_get : ∀ (l : List Sp) (k : Nat) (x : Sp), l[k]? = some x → (flat l)[k * 2]? = some (.int .u64 x.1) ∧ (flat l)[k * 2 + 1]? = some (.int .u64 x.2)
  | [], k, x, h => by simp at h
  | y :: l, 0, x, h => by simp at h; subst h; exact ⟨rfl, rfl⟩
  | y :: l, k + 1, x, h => by
    have h' : l[k]? = some x := by simpa using h
    have r := flat_get l k x h'
    have e : flat (y :: l) = .int .u64 y.1 :: .int .u64 y.2 :: flat l := rfl
    rw [e, show (k + 1) * 2 = k * 2 + 1 + 1 by omega]
    simpa using r
theorem flat_one_cell (l : List Sp) : ∀ u ∈ flat l, u.oneCell' = true := by
  intro u hu
  simp only [flat, List.mem_flatMap, encV] at hu
  obtain ⟨x, _, hx⟩ := hu
  simp only [List.mem_cons, List.not_mem_nil, or_false] at hx
  rcases hx with rfl | rfl <;> rfl

/-- at block b from cell o on lie the ranges l, and may be written to -/
def Own (w : World) (b o : Nat) (l : List Sp) : Prop :=
  ∀ (k : Nat) (x : Sp), l[k]? = some x → w.cell? ⟨b, o + k * 2, none⟩ = some (.int .u64 x.1) ∧ w.cell? ⟨b, o + k * 2 + 1, none⟩ = some (.int .u64 x.2) ∧ w.frozen? ⟨b, o + k * 2, none⟩ = false ∧ w.frozen? ⟨b, o + k * 2 + 1, none⟩ = false
theorem Own.rd {w : World} {b o : Nat} {l : List Sp} (h : Own w b o l) : Rd w (some ⟨b, o, none⟩) l := fun k x hk => ⟨b, o, rfl, (h k x hk).1, (h k x hk).2.1⟩
theorem Own.take {w : World} {b o : Nat} {l : List Sp} (h : Own w b o l) (n : Nat) : Own w b o (l.take n) := fun k x hk => h k x (by
  rw [List.getElem?_take] at hk
  split at hk
  · exact hk
  · cases hk)
theorem Own.keep {w w' : World} {b o : Nat} {l : List Sp} (h : Own w b o l) (hb : w'.heap[b]? = w.heap[b]?) : Own w' b o l := fun k x hk => by
  obtain ⟨c0, c1, f0, f1⟩ := h k x hk
  exact ⟨(World.cell?_of_block (a := ⟨b, _, none⟩) hb).trans c0, (World.cell?_of_block (a := ⟨b, _, none⟩) hb).trans c1, (World.frozen?_of_block (a := ⟨b, _, none⟩) hb).trans f0, (World.frozen?_of_block (a := ⟨b, _, none⟩) hb).trans f1⟩
theorem own_of_row {w : World} {base g n cap : Nat} {t : TypeId} {l : List Sp} (h : w.ownsRow base t 2 (.slice (some ⟨g, 0, none⟩) n cap) n (flat l)) : Own w g 0 l := fun k x hk => by
  have hl : l.length = n := by have := h.1; rw [flat_len] at this; omega
  have hkn : k < n := by have := (List.getElem?_eq_some_iff.1 hk).1; omega
  obtain ⟨e0, e1⟩ := flat_get l k x hk
  refine ⟨?_, ?_, h.frozenAt _, h.frozenAt _⟩
  · rw [Nat.zero_add, h.cellAt _ (by omega)]; exact e0
  · rw [Nat.zero_add, h.cellAt _ (by omega)]; exact e1
/-- what a row of the call's own reads as -/
theorem row_form {w : World} {base n : Nat} {t : TypeId} {v : Value} {l : List Sp} (h : w.ownsRow base t 2 v n (flat l)) : l.length = n ∧ ∃ A c, v = .slice A n c ∧ n ≤ c ∧ Rd w A l ∧ (∀ a, A = some a → base ≤ a.block ∧ a.block < w.heap.size ∧ ∃ g, a = ⟨g, 0, none⟩ ∧ Own w g 0 l) := by
  have hl : l.length = n := by have := h.1; rw [flat_len] at this; omega
  refine ⟨hl, ?_⟩
  rcases h.2 with ⟨rfl, rfl⟩ | ⟨g, cap, cur, rfl, hbase, hh, hnc, _⟩
  · obtain rfl : l = [] := List.eq_nil_of_length_eq_zero hl
    exact ⟨none, 0, rfl, Nat.le_refl _, fun k x hk => by simp at hk, fun a ha => by cases ha⟩
  · have o := own_of_row h
    have hlt := (h.lt g rfl).2
    exact ⟨_, cap, rfl, hnc, o.rd, fun a ha => by cases ha; exact ⟨hbase, hlt, g, rfl, o⟩⟩

/-! ### what the sort compares -/
theorem ltLo (x y : Sp) : ltOf (fun x y : Sp => cmpI x.1 y.1) x y = decide (x.1 < y.1) := by
  unfold ltOf cmpI
  by_cases h1 : x.1 < y.1
  · simp [h1]
  · by_cases h2 : y.1 < x.1 <;> simp [h1, h2]
theorem swoLo : SWO (ltOf fun x y : Sp => cmpI x.1 y.1) where
  irrefl x := by rw [ltLo]; simp
  trans x y z h1 h2 := by rw [ltLo] at *; simp at *; omega
  ntrans x y z h1 h2 := by rw [ltLo] at *; simp at *; omega
theorem isNaN_any (a : Int) (w : World) : Calls Try.prog 46 #[.int .u64 a] w fun e w' => e = .returned (.bool false) ∧ w = w' := by
  go_enter Try.func46, Try.ntmps46
  go_wp2
  go_ret
  exact ⟨ret_eq (by simp), rfl⟩
theorem compare_any (a b : Int) (w : World) : Calls Try.prog 39 #[.int .u64 a, .int .u64 b] w fun e w' => e = .returned (.int .i64 (cmpI a b)) ∧ w = w' := by
  rcases Int.lt_trichotomy a b with h | h | h
  · have H := Lib.hid (show cmpI a b = -1 by rw [cmpI, if_pos h])
    go_enter Try.func39, Try.ntmps39
    go_wp2_with (go_at_call 46; refine (isNaN_any _ _).mono ?_; rintro r w1 ⟨rfl, rfl⟩)
    go_ret
    exact ⟨ret_eq (by rw [H.out]; rfl), rfl⟩
  · subst h
    have H := Lib.hid (show cmpI a a = 0 by rw [cmpI, if_neg (by omega), if_neg (by omega)])
    go_enter Try.func39, Try.ntmps39
    go_wp2_with (go_at_call 46; refine (isNaN_any _ _).mono ?_; rintro r w1 ⟨rfl, rfl⟩)
    go_ret
    exact ⟨ret_eq (by rw [H.out]; rfl), rfl⟩
  · have h' : ¬ a < b := by omega
    have H := Lib.hid (show cmpI a b = 1 by rw [cmpI, if_neg h', if_pos h])
    go_enter Try.func39, Try.ntmps39
    go_wp2_with (go_at_call 46; refine (isNaN_any _ _).mono ?_; rintro r w1 ⟨rfl, rfl⟩)
    go_ret
    exact ⟨ret_eq (by rw [H.out]; rfl), rfl⟩
theorem closure_any (x y : Sp) (W : World) : Calls Try.prog 38 #[.agg #[.int .u64 x.1, .int .u64 x.2], .agg #[.int .u64 y.1, .int .u64 y.2]] W fun e w' => e = .returned (.int .i64 (cmpI x.1 y.1)) ∧ ∃ q os', w' = grow (W.drewN q) os' := by
  generalize hr : cmpI x.1 y.1 = r
  have HR := Lib.hid hr; clear hr
  go_enter Try.func38, Try.ntmps38
  go_wp2_with (go_at_call 39; refine (compare_any _ _ _).mono ?_; rw [HR.out]; rintro e w' ⟨rfl, rfl⟩)
  go_ret
  exact ⟨rfl, 0, _, by rw [alloc_eq_grow, alloc_eq_grow, grow_grow]; rfl⟩
theorem own_holds {w : World} {g : Nat} {l : List Sp} (h : Own w g 0 l) : HoldsK encV 2 w g 0 l.toArray := by
  intro j hj
  rw [size_flatK] at hj
  simp only [List.size_toArray] at hj
  have hk : j / 2 < l.length := by omega
  obtain ⟨c0, c1, f0, f1⟩ := h (j / 2) _ (List.getElem?_eq_getElem hk)
  rw [get_flatK _ _ _ _ (by simpa using hj)]
  have e : l.toArray[j / 2]! = l[j / 2] := by rw [getElem!_pos l.toArray (j / 2) (by simpa using hk)]; simp
  rw [e]
  simp only [Nat.zero_add] at c0 c1 f0 f1 ⊢
  rcases Nat.mod_two_eq_zero_or_one j with h0 | h0
  · have ej : j / 2 * 2 = j := by omega
    rw [ej] at c0 f0
    rw [h0]
    exact ⟨c0, f0⟩
  · have ej : j / 2 * 2 + 1 = j := by omega
    rw [ej] at c1 f1
    rw [h0]
    exact ⟨c1, f1⟩
theorem holds_own {w : World} {g : Nat} {d : Array Sp} (h : HoldsK encV 2 w g 0 d) : Own w g 0 d.toList := by
  intro k x hk
  have hkl : k < d.size := by have := (List.getElem?_eq_some_iff.1 hk).1; simpa using this
  have e : d[k]! = x := by
    rw [getElem!_pos d k hkl]
    have := (List.getElem?_eq_some_iff.1 hk).2
    simpa using this
  have a := h.cell (i := k) (c := 0) hkl (by omega)
  have b := h.cell (i := k) (c := 1) hkl (by omega)
  rw [e] at a b
  exact ⟨a.1, b.1, a.2, b.2⟩
theorem sortWorld_below {w : World} {g n B : Nat} {d : Array Sp} {os : Array Obj} (hB : B ≤ g) (hw : B ≤ w.heap.size) : Below B w (sortWorldK encV 2 w g 0 n d os) := by
  refine ⟨rfl, rfl, rfl, ?_, fun i hi => ?_⟩
  · exact size_sortWorldK_c encV 2 w g 0 n d os
  · have hne : g ≠ i := by omega
    have hlt : i < w.heap.size := by omega
    simp [sortWorldK, grow, putRowK, putRow, mapBlock, ahead, Array.getElem?_append, Array.getElem?_modify, hne, hlt]
    rw [Array.getElem_modify, if_neg hne]
/-- the sort of a row of the call's own: a permutation, ascending by Lo -/
theorem sort_any (g n cap B : Nat) (l : List Sp) (w : World) (hn : l.length = n) (hg : g < w.heap.size) (hB : B ≤ g) (hs : n < 4611686018427387904) (ho : Own w g 0 l) :
    Calls Try.prog 37 #[.slice (some ⟨g, 0, none⟩) n cap, .func (.func 38) #[] #[]] w fun e w' => e = .returned (.tuple #[]) ∧ ∃ m : List Sp, m.Perm l ∧ m.Pairwise (fun a b => a.1 ≤ b.1) ∧ Own w' g 0 m ∧ Below B w w' := by
  have eg : ∀ args w, (callFunc 38 args).run Try.prog w = .ok (.enter 38 args) w := enters_of Try.func38 (by kernel_rfl) rfl
  have hH := own_holds ho
  have hcon := AnyQ.slices_SortFunc Try.sortSp 2 Try.isAgg24 Try.sizeOf24 encV (fun _ => rfl) (fun x v hv => by simp [encV] at hv; rcases hv with rfl | rfl <;> rfl) (fun x y : Sp => cmpI x.1 y.1) swoLo 38 #[] g 0 cap l.toArray w eg (fun _ _ _ _ x y => closure_any x y _) hH hg (by simpa using by omega)
  have e : l.toArray.size = n := by simpa using hn
  rw [e] at hcon
  refine Calls.mono (P := Try.prog) hcon ?_
  rintro r w' ⟨rfl, d', k, os, hp, hso, rfl⟩
  have hsz : d'.size = l.toArray.size := hp.1
  have hperm : d'.toList.Perm l := by
    have h2 := hp.2.2
    rw [show d'.extract 0 n = d' by rw [show n = d'.size by rw [hsz, e]]; exact Array.extract_size, show l.toArray.extract 0 n = l.toArray by rw [show n = l.toArray.size by rw [e]]; exact Array.extract_size] at h2
    simpa using h2
  refine ⟨rfl, d'.toList, hperm, ?_, holds_own (holdsK_sortWorldK encV 2 w g 0 k l.toArray d' os hg hH hsz), sortWorld_below hB (by omega)⟩
  rw [List.pairwise_iff_getElem]
  intro i j hi hj hij
  have hi' : i < d'.size := by simpa using hi
  have hj' : j < d'.size := by simpa using hj
  have := hso i j (Nat.zero_le _) hij (by rw [← e, ← hsz]; exact hj')
  rw [ltLo, getElem!_pos d' i hi', getElem!_pos d' j hj', decide_eq_false_iff_not] at this
  simp only [Array.getElem_toList]
  omega
end Sp
end Go.Proofs.Ytmnoljnjnmcgpaa
