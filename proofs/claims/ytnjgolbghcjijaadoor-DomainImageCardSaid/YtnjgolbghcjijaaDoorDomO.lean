/- Lists of numbers that the call itself made, the append of one number to such a list, and Members of leapfrogref03. Conditions: none beside those of each lemma. -/
import Derived.Test.YtnjgolbghcjijaaDoorDomS
import Derived.OwnWalk
import Derived.WalkSpells
import Derived.Laws.AppendOwnNone
namespace Go.Proofs.YtnjgolbghcjijaaDoor
open Go.RowKit Go.Sort
set_option linter.unusedVariables false
set_option linter.unusedSimpArgs false
namespace Dm
def flatI (l : List Int) : List Value := l.map (Value.int .i64)
theorem addr_lit (b o k : Nat) : (⟨b, o, none⟩ : Addr).add k = ⟨b, o + k, none⟩ := by simp [Addr.add]
theorem info : (Tryd.prog.info? 3).map (fun i => (i.zero, i.size, i.bytes)) = some (some (.int .i64 0), 1, 8) := by kernel_rfl
theorem info_parts {i? : Option TypeInfo} {z : Option Value} {s b : Nat} (h : i?.map (fun i => (i.zero, i.size, i.bytes)) = some (z, s, b)) : ∃ i0, i? = some i0 ∧ i0.zero = z ∧ i0.size = s ∧ i0.bytes = b := by
  cases i? with
  | none => cases h
  | some i => simp at h; exact ⟨i, rfl, h.1, h.2.1, h.2.2⟩
theorem app1 {ops : Array Oper} {rest : List Oper} {o : Oper} {a : Act} {Q : Exit → Act → World → Prop} (hgd : o.guard = none) (s x : Operand)
    (ho : o.op = .call { callee := .builtin .append, args := #[s, x], argTypes := #[43, 43] }) (w : World) (base n : Nat) (v : Value) (ys : List Int) (y : Int)
    (hs : a.eval s = v) (hx : a.eval x = .slice (some ⟨w.heap.size, 0, none⟩) 1 1) (hown : w.ownsRow base 3 1 v n (flatI ys)) (hn : n ≤ 2000) (hb : base ≤ w.heap.size)
    (h : ∀ v' w', w'.ownsRow base 3 1 v' (n + 1) (flatI (ys ++ [y])) → Below base w w' → wpList Tryd.prog ops Q rest (a.put o.dst v') w') :
    wpList Tryd.prog ops Q (o :: rest) a (w.alloc (.cells #[.int .i64 y] 3)) := by
  obtain ⟨i0, hi, hz0, hz1, hz2⟩ := info_parts info
  refine wpList_append_own _ hgd s x 43 ho base 3 i0 _ 1 8 Tryd.underlying43 hi hz0 hz1 hz2 rfl (by omega) v n (flatI ys) hs (hown.alloc _) ⟨w.heap.size, 0, none⟩ 1 1 [.int .i64 y] hx rfl ?_ ?_ (by unfold maxLen; omega) (by omega) (by simp; omega) ?_
  · intro j u hj
    rw [addr_lit, Nat.zero_add, World.cell?_alloc_new]
    simpa using hj
  · intro u hu
    simp at hu
    rcases hu with rfl
    rfl
  · intro v' w' h1 h2 _
    rw [show flatI ys ++ [.int .i64 y] = flatI (ys ++ [y]) by simp [flatI]] at h1
    refine h v' w' h1 (((Below.refl _ _).alloc hb _).grown h2 (by simp; omega) fun k hk => ?_)
    exact (hown.lt k hk).1
def memL (S : Nat) : Nat → List Int
  | 0 => []
  | n + 1 => if S.testBit n = true then memL S n ++ [(n : Int)] else memL S n
theorem memL_len (S : Nat) : ∀ n, (memL S n).length ≤ n
  | 0 => Nat.le_refl _
  | n + 1 => by
    have := memL_len S n
    unfold memL; split <;> simp <;> omega
/-- what a row of the call's own reads as -/
theorem row_rd {w : World} {base n : Nat} {v : Value} {l : List Int} (h : w.ownsRow base 3 1 v n (flatI l)) : l.length = n ∧ ∃ A c, v = .slice A n c ∧ RdK .i64 w A l := by
  have hl : l.length = n := by have := h.1; simp [flatI] at this; omega
  refine ⟨hl, ?_⟩
  rcases h.2 with ⟨rfl, rfl⟩ | ⟨g, cap, cur, rfl, hbase, hh, hnc, _⟩
  · obtain rfl : l = [] := List.eq_nil_of_length_eq_zero hl
    exact ⟨none, 0, rfl, fun k hk => by simp at hk⟩
  · refine ⟨_, cap, rfl, fun k hk => ⟨g, 0, rfl, ?_⟩⟩
    rw [Nat.zero_add, h.cellAt _ (by omega)]
    simp only [flatI, List.getElem?_map, List.getElem?_eq_getElem hk, List.getD_eq_getElem?_getD]
    rfl
theorem membersR_any (S : Nat) (hS : S < 18446744073709551616) (w : World) :
    Calls Tryd.prog 34 #[.int .u64 S] w fun e w' => (∃ v, e = .returned v ∧ w'.ownsRow w.heap.size 3 1 v (memL S 64).length (flatI (memL S 64))) ∧ Below w.heap.size w w' := by
  go_enter Tryd.func34, Tryd.ntmps34
  go_wp2
  go_loopw [3, 4] (fun q i wr => ∃ j : Nat, j ≤ 64 ∧ i = .int .i64 j ∧ wr.ownsRow w.heap.size 3 1 q (memL S j).length (flatI (memL S j)) ∧ Below w.heap.size w wr) (fun q i _ => (64 - intOf i).toNat)
  case atStart => exact ⟨0, Nat.zero_le _, rfl, World.ownsRow_nil _ _ _ _, Below.refl _ _⟩
  case round =>
    obtain ⟨j, hj, rfl, ow, bel⟩ := hrel
    have OW := Lib.hid ow; clear ow
    by_cases hlt : j < 64
    · have t0 : decide ((j : Int) < 64) = true := by simp; omega
      have hlen := memL_len S j
      have hsz := bel.size
      cases hb : S.testBit j with
      | true =>
        have HM := Lib.hid (show memL S (j + 1) = memL S j ++ [(j : Int)] by rw [memL, if_pos hb])
        have HI := Lib.hid (show Calls Tryd.prog 46 #[.int .u64 S, .int .i64 j] wr fun e w' => e = .returned (.bool true) ∧ wr = w' by rw [← hb]; exact in_any S j hS hlt wr)
        clear hb
        go_wp2_with fail
        refine HI.out.mono ?_
        rintro r w1 ⟨rfl, rfl⟩
        go_wp2_with (at_builtin; refine app1 rfl (.tmp 12) (.tmp 14) rfl wr w.heap.size (memL S j).length _ (memL S j) (j : Int) rfl rfl OW.out (by omega) hsz ?_; intro v1 w1 h1 b1)
        go_roundw
        case rel => exact ⟨j + 1, by omega, by go_num, by rw [HM.out, List.length_append]; exact h1, bel.trans (b1.mono (Nat.le_refl _))⟩
        case measure => simp [intOf]; omega
      | false =>
        have HM := Lib.hid (show memL S (j + 1) = memL S j by rw [memL, hb]; rfl)
        have HI := Lib.hid (show Calls Tryd.prog 46 #[.int .u64 S, .int .i64 j] wr fun e w' => e = .returned (.bool false) ∧ wr = w' by rw [← hb]; exact in_any S j hS hlt wr)
        clear hb
        go_wp2_with fail
        refine HI.out.mono ?_
        rintro r w1 ⟨rfl, rfl⟩
        go_wp2
        go_roundw
        case rel => exact ⟨j + 1, by omega, by go_num, by rw [HM.out]; exact OW.out, bel⟩
        case measure => simp [intOf]; omega
    · obtain rfl : j = 64 := by omega
      go_wp2
      go_ret
      exact ⟨⟨_, rfl, OW.out⟩, bel⟩
end Dm
end Go.Proofs.YtnjgolbghcjijaaDoor
