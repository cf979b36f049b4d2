/- Package history: members: contract of the translated code. Conditions: those of each lemma. -/
import Derived.Test.YtgfhfcjjodcgdaaHiB
import Derived.Deep.RegionHeld3
import Derived.IntWalk
namespace Go.Proofs.Ytgfhfcjjodcgdaa
open Go.RowKit Go.Shelf Go.Sort
set_option linter.unusedVariables false
set_option linter.unusedSimpArgs false
attribute [local go_sem] Oper.semAt_some
namespace Hi
theorem ordE_no {n : Nat} {o : List Int} (h : ∀ k, k < o.length → ordAt n o k = 0) : ordE n o = 0 := by
  unfold ordE
  rw [List.find?_eq_none.2]
  intro k hk
  rw [List.mem_range] at hk
  simp [h k hk]
theorem ordE_at {n : Nat} {o : List Int} {k : Nat} (hk : k < o.length) (h : ∀ j, j < k → ordAt n o j = 0) (h1 : ordAt n o k ≠ 0) : ordE n o = ordAt n o k := by
  unfold ordE
  rw [show o.length = k + (o.length - k - 1 + 1) by omega, List.range_add, List.find?_append, List.find?_eq_none.2, Option.none_or, List.range_succ_eq_map]
  · simp [h1]
  · intro j hj
    rw [List.mem_range] at hj
    simp [h j hj]
theorem ordE_bound (n : Nat) (o : List Int) : ordE n o = 0 ∨ ordE n o = 3 ∨ ordE n o = 9 := by
  unfold ordE
  split
  · unfold ordAt; split
    · exact .inr (.inl rfl)
    · split
      · exact .inr (.inr rfl)
      · exact .inl rfl
  · exact .inl rfl
theorem ordE_get {n : Nat} {o : List Int} (h : ordE n o = 0) : ∀ k, k < o.length → ordAt n o k = 0 := by
  intro k
  induction k using Nat.strongRecOn with
  | _ k ih =>
    intro hk
    cases Decidable.em (ordAt n o k = 0) with
    | inl h1 => exact h1
    | inr h1 => exact absurd ((ordE_at hk (fun j hj => ih j hj (by omega)) h1).symm.trans h) h1
/-- an order without a fault has indices of calls only -/
theorem ord_in {n : Nat} {o : List Int} (h : ordE n o = 0) {k : Nat} (hk : k < o.length) : 0 ≤ o.getD k 0 ∧ o.getD k 0 < n ∧ ¬ o.getD k 0 ∈ o.take k := by
  have := ordE_get h k hk
  unfold ordAt at this
  split at this
  · omega
  · rename_i h1
    split at this
    · omega
    · rename_i h2
      exact ⟨by omega, by omega, h2⟩
/-- the first N of a function, as bools -/
def rowB (P : Nat → Bool) (N : Nat) : List Value := (List.range N).map fun a => .bool (P a)
def updB (P : Nat → Bool) (i : Nat) (v : Bool) : Nat → Bool := fun j => if j = i then v else P j
theorem rowB_set {P : Nat → Bool} {N i : Nat} (v : Bool) : (rowB P N).set i (.bool v) = rowB (updB P i v) N := by
  refine List.ext_getElem (by simp [rowB]) fun t h1 h2 => ?_
  rw [List.getElem_set]
  by_cases e : i = t
  · subst e; simp [rowB, updB]
  · simp [rowB, updB, e, Ne.symm e]
theorem madeB_flat (n : Nat) : (madeCells (Value.bool false).cells (n * 1)).toList = rowB (fun _ => false) n := by
  refine List.ext_getElem (by simp [madeCells, rowB]) fun t h1 h2 => ?_
  simp [madeCells, rowB, Value.cells, Nat.mod_one]
theorem info_b : ∃ i0, Try.prog.info? 4 = some i0 ∧ i0.zero = some (Value.bool false) ∧ i0.size = 1 ∧ i0.bytes = 1 := by
  have h : (Try.prog.info? 4).map (fun i => (i.zero, i.size, i.bytes)) = some (some (Value.bool false), 1, 1) := by kernel_rfl
  cases e : Try.prog.info? 4 with
  | none => rw [e] at h; cases h
  | some i => rw [e] at h; simp at h; exact ⟨i, rfl, h.1, h.2.1, h.2.2⟩
/-- a row of bools of one's own -/
def Rb (W : World) (B N : Nat) (P : Nat → Bool) : Prop := W.ownsRow B 4 1 (.slice (some ⟨B, 0, none⟩) N N) N (rowB P N)
theorem Rb.below {W W' : World} {B N : Nat} {P : Nat → Bool} (h : Rb W B N P) (hb : Below W.heap.size W W') : Rb W' B N P := KB.own_keep h fun g hg => hb.block g (World.ownsRow.lt h g hg).2
theorem Rb.lt {W : World} {B N : Nat} {P : Nat → Bool} (h : Rb W B N P) : B < W.heap.size := (World.ownsRow.lt h B rfl).2
theorem Rb.cell {W : World} {B N : Nat} {P : Nat → Bool} (h : Rb W B N P) {i : Nat} (hi : i < N) : W.cell? ⟨B, i, none⟩ = some (.bool (P i)) ∧ W.frozen? ⟨B, i, none⟩ = false := by
  refine ⟨?_, World.ownsRow.frozenAt h i⟩
  rw [World.ownsRow.cellAt h _ (by omega)]
  simp [rowB, hi]
theorem Rb.set {W : World} {B N : Nat} {P : Nat → Bool} (h : Rb W B N P) (i : Nat) (v : Bool) : Rb (W.setCell ⟨B, i, none⟩ (.bool v)) B N (updB P i v) := by
  unfold Rb
  rw [← rowB_set]
  exact (World.ownsRow.stored h i _).1
/-- the indices that the first ones of an order name -/
def inO (o : List Int) (k : Nat) (a : Nat) : Bool := decide ((a : Int) ∈ o.take k)
theorem inO_nil (o : List Int) : inO o 0 = fun _ => false := by funext a; simp [inO]
theorem inO_next {o : List Int} {k : Nat} (hk : k < o.length) (x : Nat) (hx : o.getD k 0 = x) : updB (inO o k) x true = inO o (k + 1) := by
  funext a
  unfold updB inO
  rw [List.take_succ_eq_append_getElem hk]
  rw [List.getD_eq_getElem?_getD, List.getElem?_eq_getElem hk] at hx
  simp only [Option.getD_some] at hx
  rw [hx]
  by_cases e : a = x
  · subst e; simp
  · have : ¬ (a : Int) = x := by omega
    simp [e, this]
theorem inO_all {o : List Int} {m : Nat} (h : o.length = m) : inO o m = fun (a : Nat) => decide ((a : Int) ∈ o) := by
  subst h; funext a; unfold inO; rw [List.take_length]
def MPost (o : List Int) (n : Nat) (w : World) (e : Ending) (w' : World) : Prop :=
  Below w.heap.size w w' ∧ ((ordE n o = 0 ∧ e = .returned (.tuple #[.slice (some ⟨w.heap.size, 0, none⟩) n n, .int .i64 0]) ∧ Rb w' w.heap.size n (inO o o.length)) ∨ (ordE n o ≠ 0 ∧ e = .returned (.tuple #[.slice none 0 0, .int .i64 (ordE n o)])))
set_option maxRecDepth 100000 in
set_option maxHeartbeats 4000000 in
theorem members_any (A : Option Addr) (m c : Nat) (o : List Int) (hl : o.length = m) (hm : m ≤ 1000) (n : Nat) (hn : n ≤ 1000) (w : World) (hrd : KI.Rd w A o) :
    Calls Try.prog 46 #[.slice A m c, .int .i64 (n : Nat)] w fun e w' => MPost o n w e w' := by
  have HR := Lib.hid hrd; clear hrd
  have HL := Lib.hid hl
  have m1 : (m : Int) ≤ 1000 := by omega
  have n1 : (n : Int) ≤ 1000 := by omega
  clear hl
  obtain ⟨i0, hi, hz0, hz1, hz2⟩ := info_b
  go_enter Try.func46, Try.ntmps46
  go_upto_region 2 with (at_make; refine wpList_make_full _ rfl _ _ 57 rfl w.heap.size 4 i0 (.bool false) 1 Try.underlying57 hi hz0 hz1 .i64 .i64 _ _ n rfl rfl rfl rfl (by rw [hz2]; omega) (by unfold maxLen; omega) (Nat.le_refl _) ?_; intro w1 hown hgrow)
  rw [madeB_flat] at hown
  have bw1 : Below w.heap.size w w1 := (Below.refl _ w).grown hgrow (Nat.le_refl _) fun g h => by cases h
  have OW1 := Lib.hid (show Rb w1 w.heap.size n (fun _ => false) from hown)
  have BW1 := Lib.hid bw1
  clear hown hgrow bw1 hi hz0 hz1 hz2
  go_wp2_with fail
  go_loopw [13] (fun i wr => ∃ K : Nat, K ≤ m ∧ i = .int .i64 K ∧ (∀ j, j < K → ordAt n o j = 0) ∧ Rb wr w.heap.size n (inO o K) ∧ Below w.heap.size w wr) (fun i _ => (m - intOf i).toNat)
  case atStart => exact ⟨0, Nat.zero_le _, rfl, fun j hj => by omega, by rw [inO_nil]; exact OW1.out, BW1.out⟩
  case round =>
    clear OW1 BW1
    obtain ⟨K, hK, rfl, hno, ow, bel⟩ := hrel
    have NO := Lib.hid hno
    have OW := Lib.hid ow
    have BEL := Lib.hid bel
    clear hno ow bel
    by_cases h6 : K < m
    · have hKl : K < o.length := by rw [HL.out]; exact h6
      have hin : ordAt n o K = if (o.getD K 0 < 0 ∨ (n : Int) ≤ o.getD K 0) then 3 else if o.getD K 0 ∈ o.take K then 9 else 0 := rfl
      have hnx := inO_next hKl
      obtain ⟨b, oo, rfl, c0⟩ := KI.at_ (HR.out.below BEL.out) hKl
      obtain ⟨x, hx⟩ : ∃ x, o.getD K 0 = x := ⟨_, rfl⟩
      rw [hx] at hin hnx c0
      have INX := Lib.hid hin
      have NX := Lib.hid hnx
      clear hx hin hnx
      have d0 : decide ((K : Int) < m) = true := decide_eq_true (by omega)
      have j1 : (K : Int) < m := by omega
      by_cases hx0 : x < 0
      · have e0 : decide (x < 0) = true := decide_eq_true hx0
        have HE := Lib.hid (show ordE n o = 3 ∧ ordE n o ≠ 0 by
          have h1 : ordAt n o K = 3 := by rw [INX.out, if_pos (.inl hx0)]
          have := ordE_at hKl NO.out (by omega)
          omega)
        go_wp2_with fail
        go_ret2
        exact ⟨BEL.out, .inr ⟨HE.out.2, by rw [HE.out.1]; rfl⟩⟩
      · by_cases hxn : (n : Int) ≤ x
        · have e0 : decide (x < 0) = false := decide_eq_false hx0
          have e1 : decide (x ≥ (n : Int)) = true := decide_eq_true hxn
          have HE := Lib.hid (show ordE n o = 3 ∧ ordE n o ≠ 0 by
            have h1 : ordAt n o K = 3 := by rw [INX.out, if_pos (.inr hxn)]
            have := ordE_at hKl NO.out (by omega)
            omega)
          go_wp2_with fail
          go_ret2
          exact ⟨BEL.out, .inr ⟨HE.out.2, by rw [HE.out.1]; rfl⟩⟩
        · obtain ⟨y, rfl⟩ : ∃ y : Nat, x = y := ⟨x.toNat, by omega⟩
          have hyn : y < n := by omega
          have e0 : decide ((y : Int) < 0) = false := decide_eq_false hx0
          have e1 : decide ((y : Int) ≥ (n : Int)) = false := decide_eq_false (by omega)
          have y1 : (y : Int) < n := by omega
          obtain ⟨k0, f0⟩ := OW.out.cell hyn
          have INY := Lib.hid (show ordAt n o K = if inO o K y = true then 9 else 0 by
            rw [INX.out, if_neg (by omega)]
            unfold inO
            by_cases h : (y : Int) ∈ o.take K <;> simp [h])
          have hbw := OW.out.lt
          clear INX hxn hx0
          cases hi : inO o K y with
          | true =>
            rw [hi] at k0
            have HE := Lib.hid (show ordE n o = 9 ∧ ordE n o ≠ 0 by
              have h1 : ordAt n o K = 9 := by rw [INY.out, if_pos hi]
              have := ordE_at hKl NO.out (by omega)
              omega)
            clear hi
            go_wp2_with fail
            go_ret2
            exact ⟨BEL.out, .inr ⟨HE.out.2, by rw [HE.out.1]; rfl⟩⟩
          | false =>
            rw [hi] at k0
            have HE := Lib.hid (show ordAt n o K = 0 by rw [INY.out, hi]; rfl)
            have OW2 := Lib.hid (OW.out.set y true)
            rw [NX.out y rfl] at OW2
            clear hi INY NX
            go_wp2_with fail
            go_roundw
            case rel =>
              refine ⟨K + 1, by omega, by go_num, fun j hj => ?_, OW2.out, BEL.out.setCell (p := ⟨w.heap.size, y, none⟩) (Nat.le_refl _) _⟩
              by_cases h : j < K
              · exact NO.out j h
              · rw [show j = K by omega]; exact HE.out
            case measure => simp [intOf]; omega
    · obtain rfl : K = m := by omega
      have d0 : decide ((K : Int) < K) = false := decide_eq_false (by omega)
      go_wp2_with fail
      go_ret2
      exact ⟨BEL.out, .inl ⟨ordE_no (by rw [HL.out]; exact NO.out), rfl, by rw [HL.out]; exact OW.out⟩⟩
end Hi
end Go.Proofs.Ytgfhfcjjodcgdaa
