/- Without of package picks: contract of the translated code. Conditions: those of each lemma. -/
import Derived.Test.YtnoggggbghkgkaaPkT
namespace Go.Proofs.Ytnoggggbghkgkaa
open Go.RowKit Go.Shelf Go.Sort
set_option linter.unusedVariables false
set_option linter.unusedSimpArgs false
namespace Pk
open Dm (RdK BdI bel_alloc bel_trans cell_lt flatI info info_parts row_rd app1)
/-- the picks that do not choose a thread -/
def woL (t h : Int) (l : List Int) : List Int := l.filter fun p => !(p % t == h)
theorem woL_snoc (t h : Int) (l : List Int) (p : Int) : woL t h (l ++ [p]) = if p % t = h then woL t h l else woL t h l ++ [p] := by
  unfold woL
  rw [List.filter_append]
  by_cases e : p % t = h <;> simp [List.filter_cons, e]
theorem woL_len (t h : Int) (l : List Int) : (woL t h l).length ≤ l.length := List.length_filter_le _ _
theorem take_get {l : List Int} {k : Nat} (h : k < l.length) : l.take (k + 1) = l.take k ++ [l.getD k 0] := by
  rw [List.take_succ_eq_append_getElem h, List.getD_eq_getElem?_getD, List.getElem?_eq_getElem h]; rfl
/-- what Without returns -/
def WoPost (t h : Int) (l : List Int) (w : World) (e : Ending) (w' : World) : Prop :=
  (if fitT t h l.length = 0 then ∃ v, e = .returned (.tuple #[v, .int .i64 0]) ∧ w'.ownsRow w.heap.size 3 1 v (woL t h l).length (flatI (woL t h l)) else e = .returned (.tuple #[.slice none 0 0, .int .i64 (fitT t h l.length)])) ∧ Below w.heap.size w w'
set_option maxRecDepth 100000 in
set_option maxHeartbeats 1000000 in
theorem without_any (t h : Int) (A : Option Addr) (m c : Nat) (xs : List Int) (hl : xs.length = m) (hx : m ≤ maxLen) (w : World) (hrd : RdK .i64 w A xs) :
    Calls Try.prog 16 #[.int .i64 t, .int .i64 h, .slice A m c] w (WoPost t h xs w) := by
  unfold maxLen at hx
  by_cases h0 : fitT t h xs.length = 0
  · obtain ⟨a1, a2, a3, a4, a5, a6⟩ := fitT_ok h0
    have HP := Lib.hid (show ∀ e w', WoPost t h xs w e w' ↔ (∃ v, e = .returned (.tuple #[v, .int .i64 0]) ∧ w'.ownsRow w.heap.size 3 1 v (woL t h xs).length (flatI (woL t h xs))) ∧ Below w.heap.size w w' from fun e w' => by unfold WoPost; rw [if_pos h0])
    have CF := fun (W : World) => Lib.hid (fitsThread_any t h m W)
    rw [hl] at h0 a4
    rw [h0] at CF
    obtain ⟨T, rfl⟩ := Int.eq_ofNat_of_zero_le (show 0 ≤ t by omega)
    have CC := fun p (W : World) => Lib.hid (choice_any T p (by omega) (by omega) W)
    have HL := Lib.hid hl
    have HR := Lib.hid hrd
    clear h0 hl hrd
    go_enter Try.func16, Try.ntmps16
    go_wp2_with fail
    refine (CF _).out.mono ?_
    rintro r w2 ⟨rfl, rfl⟩
    go_wp2
    go_loopw [9, 22] (fun q i wr => ∃ (j : Nat), j ≤ m ∧ i = .int .i64 j ∧ wr.ownsRow w.heap.size 3 1 q (woL T h (xs.take j)).length (flatI (woL T h (xs.take j))) ∧ Below w.heap.size w wr) (fun q i _ => (m - intOf i).toNat)
    case atStart => exact ⟨0, Nat.zero_le _, rfl, World.ownsRow_nil _ _ _ _, Below.refl _ _⟩
    case round =>
      obtain ⟨j, hj, rfl, ow, bel⟩ := hrel
      by_cases hlt : j < m
      · have OW := Lib.hid ow; clear ow
        have hsz := bel.size
        have hkl : j < xs.length := by have := HL.out; omega
        obtain ⟨b, o, rfl, g0⟩ := (HR.out.below bel) j hkl
        have hlen : (woL T h (xs.take j)).length ≤ 100000 := by have := woL_len T h (xs.take j); have := List.length_take_le j xs; omega
        have HS := Lib.hid (woL_snoc T h (xs.take j) (xs.getD j 0))
        have HT := Lib.hid (take_get hkl)
        obtain ⟨p, hp⟩ : ∃ p, xs.getD j 0 = p := ⟨_, rfl⟩
        rw [hp] at g0 HS HT
        have CCj := CC p
        have t0 : decide ((j : Int) < m) = true := decide_eq_true (by omega)
        clear hp hkl
        by_cases hpt : p % (T : Int) = h
        · have HN := Lib.hid (show woL T h (xs.take (j + 1)) = woL T h (xs.take j) by rw [HT.out, HS.out, if_pos hpt])
          rw [hpt] at CCj
          have z0 : (h != h) = false := by simp
          clear hpt HS HT CC
          go_wp2_with fail
          refine (CCj _).out.mono ?_
          rintro r w2 ⟨rfl, rfl⟩
          go_wp2
          go_roundw
          case rel => exact ⟨j + 1, by omega, by go_num, by rw [HN.out]; exact OW.out, bel⟩
          case measure => simp [intOf]; omega
        · have HN := Lib.hid (show woL T h (xs.take (j + 1)) = woL T h (xs.take j) ++ [p] by rw [HT.out, HS.out, if_neg hpt])
          generalize p % (T : Int) = y at *
          have z0 : (y != h) = true := by simp [hpt]
          clear hpt HS HT CC
          generalize woL T h (xs.take j) = L at *
          go_wp2_with fail
          refine (CCj _).out.mono ?_
          rintro r w2 ⟨rfl, rfl⟩
          go_wp2_with (at_builtin; refine app1 rfl (.tmp 31) (.tmp 33) rfl wr w.heap.size L.length _ L p rfl rfl OW.out (by omega) hsz ?_; intro v1 w1 h1 b1)
          go_roundw
          case rel => exact ⟨j + 1, by omega, by go_num, by rw [HN.out, List.length_append]; exact h1, bel.trans b1⟩
          case measure => simp [intOf]; omega
      · obtain rfl : j = m := by omega
        have HN := Lib.hid (show xs.take j = xs from List.take_of_length_le (by have := HL.out; omega))
        have OW := Lib.hid ow
        clear ow CC
        have t0 : decide ((j : Int) < j) = false := decide_eq_false (by omega)
        go_wp2
        go_ret2
        refine (HP.out _ _).2 ⟨⟨_, rfl, ?_⟩, bel⟩
        have := OW.out
        rw [HN.out] at this
        exact this
  · have HP := Lib.hid (show ∀ e w', WoPost t h xs w e w' ↔ e = .returned (.tuple #[.slice none 0 0, .int .i64 (fitT t h xs.length)]) ∧ Below w.heap.size w w' from fun e w' => by unfold WoPost; rw [if_neg h0])
    have CF := fun (W : World) => Lib.hid (fitsThread_any t h m W)
    have HL := Lib.hid hl
    rw [hl] at h0
    obtain ⟨r, hr⟩ : ∃ r, fitT t h m = r := ⟨_, rfl⟩
    rw [hr] at CF h0
    have HRR := Lib.hid hr
    have z0 : (r == 0) = false := by simp; exact h0
    have z1 : (r != 0) = true := by simp; exact h0
    clear hr h0 hl hrd
    go_enter Try.func16, Try.ntmps16
    go_wp2_with fail
    refine (CF _).out.mono ?_
    rintro r' w2 ⟨rfl, rfl⟩
    go_wp2
    go_ret2
    rw [HP.out, HL.out, HRR.out]
    exact ⟨rfl, Below.refl _ _⟩
end Pk
end Go.Proofs.Ytnoggggbghkgkaa
