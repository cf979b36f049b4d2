/- Words and New of package words: contracts of the translated code. Conditions: those of XWdC. -/
import Derived.Test.YtcipjjchclpgnaaWdD
namespace Go.Proofs.Ytcipjjchclpgnaa
open Go.RowKit Go.Sort
set_option linter.unusedVariables false
set_option linter.unusedSimpArgs false
set_option maxRecDepth 100000
namespace Wd
open Dm (addr_lit info_parts spot_none RdK flatU infoU bel_alloc bel_trans own_keep below_drewN)
theorem made_flat (n : Nat) : (madeCells (Value.int .u64 0).cells (n * 1)).toList = flatU (List.replicate n 0) := by
  refine List.ext_getElem (by simp [madeCells, flatU]) fun t h1 h2 => ?_
  simp [madeCells, flatU, Value.cells, Nat.mod_one]
theorem made_flatA (n : Nat) : (madeCells (Value.agg #[.int .u64 0]).cells (n * 1)).toList = flatU (List.replicate n 0) := by
  refine List.ext_getElem (by simp [madeCells, flatU]) fun t h1 h2 => ?_
  simp [madeCells, flatU, Value.cells, Nat.mod_one]
theorem flat_set (l : List Int) (j : Nat) (x : Int) : (flatU l).set j (.int .u64 x) = flatU (l.set j x) := by simp [flatU, List.map_set]
theorem own_cell {w : World} {base g n c : Nat} {e : TypeId} {l : List Int} (h : w.ownsRow base e 1 (.slice (some ⟨g, 0, none⟩) n c) n (flatU l)) {j : Nat} (hl : l.length = n) (hj : j < n) : w.cell? ⟨g, j, none⟩ = some (.int .u64 (l.getD j 0)) := by
  rw [h.cellAt j (by omega)]
  simp only [flatU, List.getElem?_map, List.getElem?_eq_getElem (show j < l.length by omega), List.getD_eq_getElem?_getD]
  rfl
theorem ext_getD {l m : List Int} {n : Nat} (hl : l.length = n) (hm : m.length = n) (h : ∀ t, t < n → l.getD t 0 = m.getD t 0) : l = m := by
  apply List.ext_getElem (by omega)
  intro i h1 h2
  have := h i (by omega)
  simpa [List.getD_eq_getElem?_getD, List.getElem?_eq_getElem h1, List.getElem?_eq_getElem h2] using this
theorem getD_set_self {l : List Int} {j : Nat} (x : Int) (h : j < l.length) : (l.set j x).getD j 0 = x := by simp [List.getD_eq_getElem?_getD, List.getElem?_set, h]
theorem getD_set_other {l : List Int} {j t : Nat} (x : Int) (h : j ≠ t) : (l.set j x).getD t 0 = l.getD t 0 := by simp [List.getD_eq_getElem?_getD, List.getElem?_set, h]
theorem get_D (M : Wm) (j : Nat) : M.get (j : Nat) = M.W.getD j 0 := by rw [Wm.get, Int.toNat_natCast]
/-- what New leaves -/
def NwP (ty : TypeId) (l : List Int) (w : World) (e : Ending) (w' : World) : Prop :=
  (newE l.length ≠ 0 ∧ e = .returned (.tuple #[.pointer none, .int .i64 (newE l.length)]) ∧ w' = w) ∨
  (newE l.length = 0 ∧ ∃ b p, e = .returned (.tuple #[.pointer (some ⟨b, 0, none⟩), .int .i64 0]) ∧ At ty w' b p none ⟨l, []⟩ ∧ w.heap.size ≤ b ∧ w.heap.size ≤ p ∧ Below w.heap.size w w')
theorem newE_zero {n : Nat} (h : newE n = 0) : 0 < n ∧ n ≤ 65536 := by
  unfold newE at h
  split at h
  · cases h
  · split at h
    · cases h
    · omega
theorem bdU_bdW {l : List Int} (h : Dm.BdU l) : BdW l := fun x hx => by
  obtain ⟨i, hi, e⟩ := List.mem_iff_getElem.1 hx
  have := h i hi
  rw [List.getD_eq_getElem?_getD, List.getElem?_eq_getElem hi] at this
  simpa [e] using this
theorem bdW_bdU {l : List Int} (h : BdW l) : Dm.BdU l := fun k hk => by
  rw [List.getD_eq_getElem?_getD, List.getElem?_eq_getElem hk]
  exact h _ (List.getElem_mem hk)
set_option maxRecDepth 100000 in
set_option maxHeartbeats 1000000 in
theorem new_any (A : Option Addr) (n c : Nat) (l : List Int) (w : World) (hl : l.length = n) (hn : n ≤ maxLen) (hr : RdK .u64 w A l) (hd : BdW l) : Calls Try.prog 9 #[.slice A n c] w (NwP 97 l w) := by
  have CF := Lib.hid (fits_any A n c w hn)
  subst hl
  by_cases he : newE l.length = 0
  · obtain ⟨h0, h1⟩ := newE_zero he
    have HP := Lib.hid (show ∀ e w', (∃ b p, e = .returned (.tuple #[.pointer (some ⟨b, 0, none⟩), .int .i64 0]) ∧ At 97 w' b p none ⟨l, []⟩ ∧ w.heap.size ≤ b ∧ w.heap.size ≤ p ∧ Below w.heap.size w w') → NwP 97 l w e w' from fun e w' h => .inr ⟨he, h⟩)
    rw [he] at CF
    have HR := Lib.hid hr
    have HD := Lib.hid hd
    clear hr hd he
    obtain ⟨i0, hi, hz0, hz1, hz2⟩ := info_parts (show (Try.prog.info? 97).map (fun i => (i.zero, i.size, i.bytes)) = some (some (.agg #[.int .u64 0]), 1, 8) by kernel_rfl)
    go_enter Try.func9, Try.ntmps9
    go_wp2_with fail
    refine CF.out.mono ?_
    rintro r w1 ⟨rfl, rfl⟩
    go_wp2_with (at_make; refine wpList_make_full _ rfl _ _ 89 rfl w1.heap.size 97 i0 (.agg #[.int .u64 0]) 1 Try.underlying89 hi hz0 hz1 .i64 .i64 _ _ l.length rfl rfl rfl rfl (by rw [hz2]; omega) (by unfold maxLen; omega) (Nat.le_refl _) ?_; intro w2 hown hgrow)
    rw [made_flatA] at hown
    have b2 : Below w1.heap.size w1 w2 := (Below.refl _ w1).grown hgrow (Nat.le_refl _) fun g h => by cases h
    clear hgrow hi hz0 hz1 hz2
    have hp : w1.heap.size < w2.heap.size := (hown.lt w1.heap.size rfl).2
    have hat : At0 97 (w2.alloc (.cells #[.slice (some ⟨w1.heap.size, 0, none⟩) l.length l.length, .slice none 0 0] 92)) w2.heap.size w1.heap.size l.length (.slice none 0 0) ⟨List.replicate l.length 0, []⟩ :=
      ⟨by simp, by simp, by simp, by simpa using (Joins.ownsRow_le hown (Nat.zero_le _)).alloc _, World.ownsRow_nil _ _ _ _, by omega, (fun e => by cases e), (fun e => by cases e), (fun x hx => by have := (List.mem_replicate.1 hx).2; omega), by simpa using h0, by simpa using h1⟩
    have b3 : Below w1.heap.size w1 (w2.alloc (.cells #[.slice (some ⟨w1.heap.size, 0, none⟩) l.length l.length, .slice none 0 0] 92)) := bel_alloc b2 _
    generalize w2.alloc (.cells #[.slice (some ⟨w1.heap.size, 0, none⟩) l.length l.length, .slice none 0 0] 92) = w3 at *
    obtain ⟨b, hb⟩ : ∃ b, b = w2.heap.size := ⟨_, rfl⟩
    rw [← hb] at hat hp ⊢
    clear hown b2 hb
    go_loopw [20] (fun i wr => ∃ (j : Nat) (l' : List Int), j ≤ l.length ∧ i = .int .i64 j ∧ At0 97 wr b w1.heap.size l.length (.slice none 0 0) ⟨l', []⟩ ∧ l'.length = l.length ∧ (∀ t, t < j → l'.getD t 0 = l.getD t 0) ∧ Below w1.heap.size w1 wr) (fun i _ => (l.length - intOf i).toNat)
    case atStart => exact ⟨0, _, Nat.zero_le _, rfl, hat, List.length_replicate, fun t h => absurd h (Nat.not_lt_zero _), b3⟩
    case round =>
      clear hat b3
      obtain ⟨j, l', hj, rfl, hat, hl, hE, bel⟩ := hrel
      have c0 := hat.c0
      simp only [hl] at c0
      by_cases hlt : j < l.length
      · obtain ⟨ab, ao, ea, ca⟩ := HR.out j hlt
        subst ea
        have ca := (bel.cell (p := ⟨ab, ao + j, none⟩) (Dm.cell_lt ca)).trans ca
        obtain ⟨x0, x1⟩ := bdW_bdU HD.out j hlt
        obtain ⟨x, hx⟩ : ∃ x, l.getD j 0 = x := ⟨_, rfl⟩
        rw [hx] at ca x0 x1
        have HX := Lib.hid hx; clear hx
        obtain ⟨hW, hF⟩ := hat.word (show j < (Wm.mk l' []).W.length by show j < l'.length; omega)
        have CS := Lib.hid (astore w1.heap.size j _ x wr hW hF)
        have HS := Lib.hid (hat.setW (i := j) (x := x) (by show j < l'.length; omega) x0 x1)
        have HE := Lib.hid hE; clear hE
        have HL := Lib.hid hl; clear hl hat
        have t0 : decide ((j : Int) < l.length) = true := decide_eq_true (by omega)
        go_wp2_with fail
        refine CS.out.mono ?_
        rintro r w4 ⟨rfl, rfl⟩
        go_wp2
        go_roundw
        case rel =>
          refine ⟨j + 1, l'.set j x, by omega, by go_num, HS.out, by rw [List.length_set, HL.out], fun t ht => ?_, bel.setCell (p := ⟨w1.heap.size, j, none⟩) (Nat.le_refl _) _⟩
          by_cases e : t = j
          · subst e
            rw [getD_set_self _ (by have := HL.out; omega), HX.out]
          · rw [getD_set_other _ (fun h => e h.symm)]
            exact HE.out t (by omega)
        case measure => simp [intOf]; omega
      · obtain rfl : l' = l := ext_getD hl rfl fun t ht => hE t (by omega)
        have HA := Lib.hid hat
        clear hE hl hat c0
        have t0 : decide ((j : Int) < l'.length) = false := decide_eq_false (by omega)
        go_wp2
        go_ret2
        exact HP.out _ _ ⟨b, w1.heap.size, rfl, ⟨_, _, rfl, HA.out⟩, by omega, Nat.le_refl _, bel⟩
  · have HP := Lib.hid (show NwP 97 l w (.returned (.tuple #[.pointer none, .int .i64 (newE l.length)])) w from .inl ⟨he, rfl, rfl⟩)
    have t0 : decide (newE l.length = 0) = false := decide_eq_false he
    have t1 : (newE l.length == 0) = false := beq_eq_false_iff_ne.2 he
    have t2 : (newE l.length != 0) = true := by simp [bne, t1]
    clear hr hd he
    generalize newE l.length = y at *
    go_enter Try.func9, Try.ntmps9
    go_wp2_with fail
    refine CF.out.mono ?_
    rintro r w1 ⟨rfl, rfl⟩
    go_wp2
    go_ret2
    exact HP.out
end Wd
end Go.Proofs.Ytcipjjchclpgnaa
