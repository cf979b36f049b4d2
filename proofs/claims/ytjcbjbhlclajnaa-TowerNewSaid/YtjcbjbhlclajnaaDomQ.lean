/- Maps from keys to domain values, their least keys, images and sets: plain mathematics. No program. · The functions of leapfrogref03 on one map (Check, Values, Of): contracts of the translated code. 'RdK κ w A l': at the address A lie the numbers l of the kind κ. Conditions: the list is no longer than the model lets a slice be; the bounds of each argument's kind. · Arguments that are a list of numbers, or a map from keys to domain values: what lies in memory when they are read as data. No conditions. · Values and Of of leapfrogref03: contracts of the translated code. Conditions: those of XDom. · The functions of package domain on one map (areCuts, isMap, Check, Values, part): contracts of the translated code. Conditions: those of XDom. -/
import Derived.WalkKit
import Derived.ProofKit
import Derived.Test.YtjcbjbhlclajnaaRows
import Derived.OpenShut
import Derived.Outline
import Derived.WalkLawsBesides
import Derived.Deep.QuietTactic
import Derived.BigQuiet
import Derived.Lib.QuietBelow
import Derived.Lib.Hide
import Derived.Deep.Slices
import Derived.Deep.Fields
import Derived.ChangeSame
import Derived.Lib.SmallJoins
namespace Go.Proofs.Ytjcbjbhlclajnaa
set_option linter.unusedVariables false
set_option linter.unusedSimpArgs false
set_option maxRecDepth 100000
namespace Dm
/-! ### cuts -/
def upTo (l : List Int) (i : Nat) : Prop := ∀ j, j < i → 0 < j → l.getD (j - 1) 0 < l.getD j 0
instance (l : List Int) (i : Nat) : Decidable (upTo l i) := inferInstanceAs (Decidable (∀ j, j < i → 0 < j → l.getD (j - 1) 0 < l.getD j 0))
theorem upTo_one (l : List Int) : upTo l 1 := fun j h1 h2 => by omega
theorem upTo_succ {l : List Int} {i : Nat} (h : upTo l i) (hi : l.getD (i - 1) 0 < l.getD i 0) : upTo l (i + 1) := fun j h1 h2 => by
  by_cases hj : j < i
  · exact h j hj h2
  · obtain rfl : j = i := by omega
    exact hi
theorem upTo_not {l : List Int} {i n : Nat} (hn : i < n) (h0 : 0 < i) (hi : ¬ l.getD (i - 1) 0 < l.getD i 0) : ¬ upTo l n := fun h => hi (h i hn h0)
theorem upTo_lt {l : List Int} {n : Nat} (h : upTo l n) : ∀ (i j : Nat), i < j → j < n → l.getD i 0 < l.getD j 0
  | i, 0, h1, h2 => by omega
  | i, j + 1, h1, h2 => by
    have h3 := h (j + 1) h2 (by omega)
    rw [Nat.add_sub_cancel] at h3
    by_cases hij : i = j
    · subst hij; exact h3
    · have := upTo_lt h i j (by omega) (by omega)
      omega
def okC (l : List Int) : Bool := decide (1 ≤ l.length ∧ l.length ≤ 63 ∧ l.getD 0 0 ≠ 0 ∧ upTo l l.length)
theorem okC_iff {l : List Int} : okC l = true ↔ 1 ≤ l.length ∧ l.length ≤ 63 ∧ l.getD 0 0 ≠ 0 ∧ upTo l l.length := decide_eq_true_iff
theorem okC_not {l : List Int} (h : ¬ (1 ≤ l.length ∧ l.length ≤ 63 ∧ l.getD 0 0 ≠ 0 ∧ upTo l l.length)) : okC l = false := decide_eq_false h

/-! ### maps -/
def dmB (k n : Int) (l : List Int) : Bool :=
  if k = 1 then decide (n = 0 ∧ l.length = 0) else if k = 2 then decide (1 ≤ n ∧ n ≤ 64 ∧ l.length = 0) else if k = 3 then decide (n = 0) && okC l else false
def dmE (k n : Int) (l : List Int) : Int := if dmB k n l = true then 0 else 2
def dmN (k n : Int) (l : List Int) : Int := if dmB k n l = true then if k = 2 then n else if k = 3 then (l.length : Int) + 1 else 1 else 0
/-- how many of the first i cuts are at most the key -/
def cnt (l : List Int) (key : Int) : Nat → Nat
  | 0 => 0
  | i + 1 => cnt l key i + if l.getD i 0 ≤ key then 1 else 0
def dmV (k n : Int) (l : List Int) (key : Int) : Int := if dmB k n l = true then if k = 2 then key % n else if k = 3 then (cnt l key l.length : Int) else 0 else 0
theorem cnt_le (l : List Int) (key : Int) : ∀ i, cnt l key i ≤ i
  | 0 => Nat.le_refl _
  | i + 1 => by have := cnt_le l key i; unfold cnt; split <;> omega
/-- the count in a rising list: the cuts at most the key are the first ones -/
theorem cnt_up {l : List Int} {key : Int} : ∀ {n : Nat}, upTo l n → (∀ j, j < n → (l.getD j 0 ≤ key ↔ j < cnt l key n))
  | 0, _, j, h => by omega
  | n + 1, hu, j, hj => by
    have hu' : upTo l n := fun i h1 h2 => hu i (by omega) h2
    have ih := cnt_up (key := key) hu'
    have hle := cnt_le l key n
    show _ ↔ j < cnt l key n + _
    by_cases hn : l.getD n 0 ≤ key
    · have hall : cnt l key n = n := by
        by_cases h0 : n = 0
        · subst h0; rfl
        · have h1 := (ih (n - 1) (by omega)).1 (by have := upTo_lt hu (n - 1) n (by omega) (by omega); omega)
          omega
      rw [if_pos hn, hall]
      constructor
      · intro _; omega
      · intro _
        by_cases hjn : j = n
        · subst hjn; exact hn
        · exact (ih j (by omega)).2 (by omega)
    · rw [if_neg hn]
      by_cases hjn : j = n
      · subst hjn
        constructor
        · intro h; exact absurd h hn
        · intro h; omega
      · exact ih j (by omega)

/-! ### least keys -/
def most : Int := 18446744073709551615
def lsM (n v from' : Int) : Option Int := if from' + (v - from') % n ≤ 18446744073709551615 then some (from' + (v - from') % n) else none
def lsC (l : List Int) (v from' : Int) : Option Int :=
  let x := if 0 < v then max from' (l.getD (v.toNat - 1) 0) else from'
  if v < l.length ∧ l.getD v.toNat 0 ≤ x then none else some x
def lsB (k n : Int) (l : List Int) (v : Int) : Bool := decide (0 ≤ v ∧ v < dmN k n l)
def lsE (k n : Int) (l : List Int) (v : Int) : Int := if dmB k n l = true then if lsB k n l v = true then 0 else 3 else 2
def dmL (k n : Int) (l : List Int) (v from' : Int) : Option Int :=
  if dmB k n l = true then if lsB k n l v = true then if k = 3 then lsC l v from' else lsM (dmN k n l) v from' else none else none
/-- the key after t steps has the value exactly if t is congruent to v - from -/
theorem mod_at {n v f t : Int} (hn : 0 < n) (h0 : 0 ≤ v) (h1 : v < n) (ht : 0 ≤ t) (ht1 : t < n) : (f + t) % n = v ↔ t = (v - f) % n := by
  constructor
  · intro h
    rw [← h]
    have e : ((f + t) % n - f) % n = t % n := by
      rw [Int.sub_emod, Int.emod_emod_of_dvd _ (Int.dvd_refl n), ← Int.sub_emod]
      congr 1; omega
    rw [e, Int.emod_eq_of_lt ht ht1]
  · intro h
    rw [h]
    have e : (f + (v - f) % n) % n = v % n := by
      rw [Int.add_emod, Int.emod_emod_of_dvd _ (Int.dvd_refl n), ← Int.add_emod]
      congr 1; omega
    rw [e, Int.emod_eq_of_lt h0 h1]

/-! ### sets of values -/
def img (p : Nat → Bool) : Nat → Nat
  | 0 => 0
  | n + 1 => if p n = true then img p n ||| 2 ^ n else img p n
theorem img_bit (p : Nat → Bool) : ∀ (n i : Nat), (img p n).testBit i = (decide (i < n) && p i)
  | 0, i => by simp [img]
  | n + 1, i => by
    have ih := img_bit p n i
    unfold img
    by_cases hp : p n = true
    · rw [if_pos hp, Nat.testBit_or, ih, Nat.testBit_two_pow]
      by_cases hi : n = i
      · subst hi; simp [hp]
      · have e : decide (i < n + 1) = decide (i < n) := by congr 1; apply propext; omega
        rw [decide_eq_false hi, e]; simp
    · rw [if_neg hp, ih]
      by_cases hi : n = i
      · subst hi; simp [hp]
      · have e : decide (i < n + 1) = decide (i < n) := by congr 1; apply propext; omega
        rw [e]
theorem img_lt (p : Nat → Bool) (n : Nat) : img p n < 2 ^ n := Nat.lt_pow_two_of_testBit _ fun i hi => by
  rw [img_bit, decide_eq_false (by omega)]; rfl
theorem img_congr {p q : Nat → Bool} {n : Nat} (h : ∀ i, i < n → p i = q i) : img p n = img q n := Nat.eq_of_testBit_eq fun i => by
  rw [img_bit, img_bit]
  by_cases hi : i < n
  · rw [h i hi]
  · simp [hi]
theorem img_all {n : Nat} : img (fun _ => true) n = 2 ^ n - 1 := Nat.eq_of_testBit_eq fun i => by
  rw [img_bit, Nat.testBit_two_pow_sub_one]; simp
/-- a set is the image of its bits -/
theorem img_of (S n : Nat) (h : S < 2 ^ n) : img (fun i => S.testBit i) n = S := Nat.eq_of_testBit_eq fun i => by
  rw [img_bit]
  by_cases hi : i < n
  · simp [hi]
  · rw [decide_eq_false hi, Bool.false_and]
    exact (Nat.testBit_lt_two_pow (Nat.lt_of_lt_of_le h (Nat.pow_le_pow_right (by omega) (by omega)))).symm
theorem one_bit (S n : Nat) : S &&& 2 ^ n = if S.testBit n = true then 2 ^ n else 0 := Nat.eq_of_testBit_eq fun i => by
  rw [Nat.testBit_and, Nat.testBit_two_pow]
  by_cases hi : n = i
  · subst hi
    cases h : S.testBit n <;> simp [h, Nat.testBit_two_pow]
  · rw [decide_eq_false hi, Bool.and_false]
    split
    · rw [Nat.testBit_two_pow, decide_eq_false hi]
    · simp
theorem p64 {n : Nat} (h : n < 64) : 2 ^ n < 18446744073709551616 := (Nat.pow_lt_pow_right (a := 2) (by omega) h : 2 ^ n < 2 ^ 64)
theorem img64 (p : Nat → Bool) {n : Nat} (h : n ≤ 64) : img p n < 18446744073709551616 := Nat.lt_of_lt_of_le (img_lt p n) ((Nat.pow_le_pow_right (n := 2) (by omega) h : 2 ^ n ≤ 2 ^ 64))

/-! ### the image of a range -/
def lsAt (k n : Int) (l : List Int) (lo hi : Int) (i : Nat) : Bool := match dmL k n l i lo with | some x => decide (x ≤ hi) | none => false
def imB (k n : Int) (l : List Int) (lo hi : Int) : Bool := dmB k n l && decide (lo ≤ hi)
def imV (k n : Int) (l : List Int) (lo hi : Int) : Nat := if imB k n l lo hi = true then img (lsAt k n l lo hi) (dmN k n l).toNat else 0
def imE (k n : Int) (l : List Int) (lo hi : Int) : Int := if dmB k n l = true then if lo ≤ hi then 0 else 13 else 2
def alV (k n : Int) (l : List Int) : Nat := if dmB k n l = true then img (fun _ => true) (dmN k n l).toNat else 0
theorem dmN_64 {k n : Int} {l : List Int} : 0 ≤ dmN k n l ∧ dmN k n l ≤ 64 := by
  unfold dmN
  split
  · rename_i h
    unfold dmB at h
    repeat' split
    all_goals simp_all [okC_iff] <;> omega
  · omega
theorem dmN_pos {k n : Int} {l : List Int} (h : dmB k n l = true) : 1 ≤ dmN k n l := by
  unfold dmN
  rw [if_pos h]
  unfold dmB at h
  repeat' split
  all_goals simp_all <;> omega
end Dm
end Go.Proofs.Ytjcbjbhlclajnaa
namespace Go.Proofs.Ytjcbjbhlclajnaa
open Go.RowKit Go.Sort
set_option linter.unusedVariables false
set_option linter.unusedSimpArgs false
set_option maxRecDepth 100000
namespace Dm
theorem ret_eq {a b : Value} (h : a = b) : Ending.returned a = Ending.returned b := by rw [h]
theorem bcell {W w1 : World} (hb : Below W.heap.size W w1) : (∀ b o, b < W.heap.size → w1.cell? ⟨b, o, none⟩ = W.cell? ⟨b, o, none⟩) ∧ (∀ b o, b < W.heap.size → w1.frozen? ⟨b, o, none⟩ = W.frozen? ⟨b, o, none⟩) :=
  ⟨fun b o h => hb.cell (p := ⟨b, o, none⟩) h, fun b o h => hb.frozen (p := ⟨b, o, none⟩) h⟩
theorem bel_alloc {W w : World} (h : Below W.heap.size W w) (o : Obj) : Below W.heap.size W (w.alloc o) := h.alloc h.size o
theorem bel_trans {W w w1 : World} (h : Below W.heap.size W w) (h1 : Below w.heap.size w w1) : Below W.heap.size W w1 := h.trans (h1.mono h.size)
def RdK (κ : IntKind) (w : World) (A : Option Addr) (l : List Int) : Prop :=
  ∀ (k : Nat), k < l.length → ∃ b o, A = some ⟨b, o, none⟩ ∧ w.cell? ⟨b, o + k, none⟩ = some (.int κ (l.getD k 0))
theorem cell_lt {w : World} {b o : Nat} {v : Value} (h : w.cell? ⟨b, o, none⟩ = some v) : b < w.heap.size := by
  have hb : w.heap[b]? ≠ none := by
    intro h0
    unfold World.cell? at h
    rw [h0] at h
    cases h
  by_cases hlt : b < w.heap.size
  · exact hlt
  · exact absurd (Array.getElem?_eq_none_iff.2 (by omega)) hb
theorem RdK.below {κ : IntKind} {w w' : World} {A : Option Addr} {l : List Int} (h : RdK κ w A l) (hb : Below w.heap.size w w') : RdK κ w' A l := by
  intro k hk
  obtain ⟨b, o, e, c⟩ := h k hk
  exact ⟨b, o, e, (hb.cell (p := ⟨b, o + k, none⟩) (cell_lt c)).trans c⟩
theorem RdK.drewN {κ : IntKind} {w : World} {A : Option Addr} {l : List Int} (h : RdK κ w A l) (n : Nat) : RdK κ (w.drewN n) A l := h
def BdU (l : List Int) : Prop := ∀ k, k < l.length → 0 ≤ l.getD k 0 ∧ l.getD k 0 ≤ 18446744073709551615

theorem checkR_any (k n : Int) (A : Option Addr) (m c : Nat) (l : List Int) (w : World) (kl : 0 ≤ k) (kh : k ≤ 255) (nl : -9223372036854775808 ≤ n) (nh : n ≤ 9223372036854775807) (hm : l.length = m) (hx : m ≤ maxLen) (hr : RdK .u64 w A l) (hd : BdU l) :
    Calls Try.prog 103 #[.agg #[.int .u8 k, .int .i64 n, .slice A m c]] w fun e w' => e = .returned (.int .i64 (dmE k n l)) ∧ Below w.heap.size w w' := by
  have HR := Lib.hid hr; clear hr
  have HD := Lib.hid hd; clear hd
  have HM := Lib.hid hm; clear hm
  by_cases h1 : k = 1
  · subst h1
    by_cases hb : n = 0 ∧ m = 0
    · obtain ⟨rfl, rfl⟩ := hb
      have HB := Lib.hid (show dmE 1 0 l = 0 by simp [dmE, dmB, HM.out])
      go_enter Try.func103, Try.ntmps103
      go_wp2
      all_goals (go_ret; exact ⟨by rw [HB.out]; rfl, bel_alloc (Below.refl _ _) _⟩)
    · have HB := Lib.hid (show dmE 1 n l = 2 by simp [dmE, dmB, HM.out]; omega)
      go_enter Try.func103, Try.ntmps103
      go_wp2
      all_goals (go_ret; exact ⟨by rw [HB.out]; rfl, bel_alloc (Below.refl _ _) _⟩)
  by_cases h2 : k = 2
  · subst h2
    clear h1
    by_cases hb : 1 ≤ n ∧ n ≤ 64 ∧ m = 0
    · obtain ⟨n1, n2, rfl⟩ := hb
      have HB := Lib.hid (show dmE 2 n l = 0 by simp [dmE, dmB, HM.out]; omega)
      go_enter Try.func103, Try.ntmps103
      go_wp2
      all_goals (go_ret; exact ⟨by rw [HB.out]; rfl, bel_alloc (Below.refl _ _) _⟩)
    · have HB := Lib.hid (show dmE 2 n l = 2 by simp [dmE, dmB, HM.out]; omega)
      go_enter Try.func103, Try.ntmps103
      go_wp2
      all_goals (go_ret; exact ⟨by rw [HB.out]; rfl, bel_alloc (Below.refl _ _) _⟩)
  by_cases h3 : k = 3
  · subst h3
    clear h1 h2
    by_cases hb : n = 0 ∧ 1 ≤ m ∧ m ≤ 63
    · obtain ⟨rfl, m1, m2⟩ := hb
      obtain ⟨b, o, rfl, c0⟩ := HR.out 0 (by have := HM.out; omega)
      obtain ⟨d0, d1⟩ := HD.out 0 (by have := HM.out; omega)
      have hbl := cell_lt c0
      rw [Nat.add_zero] at c0
      by_cases hz : l.getD 0 0 = 0
      · have HB := Lib.hid (show dmE 3 0 l = 2 by simp only [dmE, dmB]; rw [okC_not (by omega)]; rfl)
        rw [hz] at c0
        go_enter Try.func103, Try.ntmps103
        go_wp2
        all_goals (go_ret; exact ⟨by rw [HB.out]; rfl, bel_alloc (Below.refl _ _) _⟩)
      · have hM0 : (m : Int) ≤ 63 := by omega
        generalize hq : l.getD 0 0 = q at c0 d0 d1 hz
        have HQ := Lib.hid hq; clear hq
        go_enter Try.func103, Try.ntmps103
        have t1 : decide ((m : Int) < 1) = false := by simp; omega
        have t2 : decide (63 < (m : Int)) = false := by simp; omega
        have t3 : (q == 0) = false := by simp [hz]
        go_wp2
        have bw : Below w.heap.size w (w.alloc (Obj.cells #[Value.int IntKind.u8 3, Value.int IntKind.i64 0, Value.slice (some { block := b, off := o }) m c] 84)) := bel_alloc (Below.refl _ _) _
        obtain ⟨w1, hw1⟩ : ∃ w1 : World, w1 = w.alloc (Obj.cells #[Value.int IntKind.u8 3, Value.int IntKind.i64 0, Value.slice (some { block := b, off := o }) m c] 84) := ⟨_, rfl⟩
        have e2 : w1.cell? ⟨w.heap.size, 2, none⟩ = some (.slice (some ⟨b, o, none⟩) m c) := by rw [hw1]; simp
        have hws : w1.heap.size = w.heap.size + 1 := by rw [hw1]; simp
        rw [← hw1] at bw ⊢
        clear hw1
        go_loopw [3] (fun i wr => ∃ j : Nat, j + 1 ≤ m ∧ i = .int .i64 ((j + 1 : Nat) : Int) ∧ upTo l (j + 1) ∧ Below w1.heap.size w1 wr) (fun i _ => m - (intOf i).toNat)
        case atStart => exact ⟨0, by omega, rfl, upTo_one l, Below.refl _ _⟩
        case round =>
          obtain ⟨j, hj, rfl, hu, bel⟩ := hrel
          have HU := Lib.hid hu; clear hu
          have e3 : wr.cell? ⟨w.heap.size, 2, none⟩ = some (.slice (some ⟨b, o, none⟩) m c) := by rw [bel.cell (p := ⟨w.heap.size, 2, none⟩) (by simp; omega)]; exact e2
          have bt := bw.trans (bel.mono bw.size)
          by_cases hlt : j + 1 < m
          · obtain ⟨x0, x1⟩ := HD.out j (by have := HM.out; omega)
            obtain ⟨y0, y1⟩ := HD.out (j + 1) (by have := HM.out; omega)
            obtain ⟨b', o', e', g0⟩ := (HR.out.below bt) j (by have := HM.out; omega)
            cases e'
            obtain ⟨b', o', e', g1⟩ := (HR.out.below bt) (j + 1) (by have := HM.out; omega)
            cases e'
            by_cases hle : l.getD j 0 < l.getD (j + 1) 0
            · have HL := Lib.hid (upTo_succ HU.out (show l.getD (j + 1 - 1) 0 < l.getD (j + 1) 0 from hle))
              generalize l.getD j 0 = u at x0 x1 g0 hle
              generalize l.getD (j + 1) 0 = v at y0 y1 g1 hle
              have t4 : decide (v ≤ u) = false := by simp; omega
              go_wp2
              go_quiet (fail)
              go_wp2
              go_roundw
              case rel => exact ⟨j + 1, by omega, by go_num, HL.out, below_drewN bel _⟩
              case measure => simp [intOf]; omega
            · have HL := Lib.hid (upTo_not (n := l.length) (i := j + 1) (by have := HM.out; omega) (by omega) (show ¬ l.getD (j + 1 - 1) 0 < l.getD (j + 1) 0 from hle))
              generalize l.getD j 0 = u at x0 x1 g0 hle
              generalize l.getD (j + 1) 0 = v at y0 y1 g1 hle
              have t4 : decide (v ≤ u) = true := by simp; omega
              have HB := Lib.hid (show dmE 3 0 l = 2 by simp only [dmE, dmB]; rw [okC_not (fun h => HL.out h.2.2.2)]; rfl)
              go_wp2
              go_quiet (fail)
              go_wp2
              go_ret
              exact ⟨by rw [HB.out]; rfl, below_drewN bt _⟩
          · have HB := Lib.hid (show dmE 3 0 l = 0 by simp only [dmE, dmB]; rw [okC_iff.2 ⟨by have := HM.out; omega, by have := HM.out; omega, by rw [HQ.out]; exact hz, by rw [HM.out, show m = j + 1 by omega]; exact HU.out⟩]; rfl)
            go_wp2
            go_ret
            exact ⟨by rw [HB.out]; rfl, bt⟩
    · have HB := Lib.hid (show dmE 3 n l = 2 by
        simp only [dmE, dmB]
        by_cases h : n = 0
        · rw [okC_not (by have := HM.out; omega)]; simp
        · simp [h])
      by_cases hn0 : n = 0
      · subst hn0
        by_cases hm1 : m = 0
        · subst hm1
          go_enter Try.func103, Try.ntmps103
          go_wp2
          go_ret
          exact ⟨by rw [HB.out]; rfl, bel_alloc (Below.refl _ _) _⟩
        · have t1 : decide ((m : Int) < 1) = false := by simp; omega
          have t2 : decide (63 < (m : Int)) = true := by simp; omega
          go_enter Try.func103, Try.ntmps103
          go_wp2
          all_goals (go_ret; exact ⟨by rw [HB.out]; rfl, bel_alloc (Below.refl _ _) _⟩)
      · have t1 : (n == 0) = false := by simp [hn0]
        go_enter Try.func103, Try.ntmps103
        go_wp2
        all_goals (go_ret; exact ⟨by rw [HB.out]; rfl, bel_alloc (Below.refl _ _) _⟩)
  · have HB := Lib.hid (show dmE k n l = 2 by simp [dmE, dmB, h1, h2, h3])
    go_enter Try.func103, Try.ntmps103
    go_wp2
    all_goals (go_ret; exact ⟨by rw [HB.out]; rfl, bel_alloc (Below.refl _ _) _⟩)
end Dm
end Go.Proofs.Ytjcbjbhlclajnaa
namespace Go.Proofs.Ytjcbjbhlclajnaa
open Go.RowKit Go.Sort Go.ChangeShapes Go.WideShapes Go.Deep Go.Joins
set_option linter.unusedVariables false
set_option linter.unusedSimpArgs false
set_option maxRecDepth 100000
namespace Dm
def rdK (w : World) (a : Addr) : Int := match w.cell? a with | some (.int _ n) => n | _ => 0
theorem rdK_of {w : World} {a : Addr} {k : IntKind} {n : Int} (h : w.cell? a = some (.int k n)) : rdK w a = n := by simp [rdK, h]
theorem spot_none {w : World} {a : Addr} {v : Value} (h : w.cell? a = some v) : a.spot = none := by
  unfold World.cell? at h
  split at h
  · split at h
    · cases h
    · rename_i hs; simpa using hs
  · cases h
section
variable {H : Type} {enc : TypeId × Value → H} {w : World} {base fuel : Nat} {spare : Nat → Bool} {held : Bool}
set_option maxRecDepth 100000 in
theorem open_nums {κ : IntKind} {t e : TypeId} {v : Value} {y : DataW H × List MemPlace} (ht : Try.prog.underlying t = some (.slice e)) (he : Try.prog.underlying e = some (.int κ)) (hc : Try.prog.cellsOf e = 1)
    (h : DataW.trod enc Try.prog w base spare held fuel t [v] = some y) :
    ∃ (A : Option Addr) (n c : Nat) (l : List Int), v = .slice A n c ∧ l.length = n ∧ n ≤ maxLen ∧ RdK κ w A l ∧ (∀ k, k < l.length → (Lit.int κ (l.getD k 0)).wf = true) ∧ (A = none → c = 0) := by
  rcases open_slice1 ht hc h with ⟨h0, _⟩ | ⟨a, n, c, m, q, V, D, Pl, h0, hb, hl, hm, hmm, _, hi⟩
  · simp at h0
    subst h0
    exact ⟨none, 0, 0, [], rfl, rfl, Nat.zero_le _, fun k hk => (by simp at hk), fun k hk => (by simp at hk), fun _ => rfl⟩
  · simp at h0
    subst h0
    have hnm : n ≤ m := by rw [hmm]; split <;> omega
    have each : ∀ i, i < n → ∃ x : Int, w.cell? (a.add i) = some (.int κ x) ∧ (Lit.int κ x).wf = true := by
      intro i hin
      obtain ⟨g, t0⟩ := hi i (by omega)
      obtain ⟨x, e0, _, w0⟩ := DataW.trod_int he t0
      simp at e0
      rw [e0] at g
      exact ⟨x, g, w0⟩
    have hget : ∀ k, k < n → ((List.range n).map fun i => rdK w (a.add i)).getD k 0 = rdK w (a.add k) := by
      intro k hk
      rw [List.getD_eq_getElem?_getD, List.getElem?_map, List.getElem?_range hk]
      rfl
    refine ⟨some a, n, c, (List.range n).map fun i => rdK w (a.add i), rfl, by simp, by omega, ?_, ?_, fun h => (by cases h)⟩
    · intro k hk
      have hkn : k < n := by simpa using hk
      rw [hget k hkn]
      obtain ⟨b, o, s⟩ := a
      obtain ⟨_, z0, _⟩ := each 0 (by omega)
      have hs : s = none := spot_none (a := ⟨b, o, s⟩) (by simpa [Addr.add] using z0)
      subst hs
      obtain ⟨x, c0, _⟩ := each k hkn
      refine ⟨b, o, rfl, ?_⟩
      have e : (⟨b, o, none⟩ : Addr).add k = ⟨b, o + k, none⟩ := by simp [Addr.add]
      rw [rdK_of c0]
      rw [e] at c0
      exact c0
    · intro k hk
      have hkn : k < n := by simpa using hk
      rw [hget k hkn]
      obtain ⟨x, c0, w0⟩ := each k hkn
      rw [rdK_of c0]
      exact w0
set_option maxRecDepth 100000 in
/-- an argument that is a list of numbers -/
theorem open_u64s {b0 : Nat} {r : Reach} {v : Value} {d : DataW H} {p : List MemPlace} (hv : Value.okWide Try.prog w r b0 43 v) (h : DataW.Trod enc Try.prog w base spare held 43 v d p) :
    ∃ (A : Option Addr) (n c : Nat) (l : List Int), v = .slice A n c ∧ l.length = n ∧ n ≤ maxLen ∧ RdK .u64 w A l ∧ BdU l ∧ (A = none → c = 0) := by
  obtain ⟨A, n, c, rfl⟩ := okWide_slice Try.underlying43 hv
  obtain ⟨fuel, hf⟩ := h
  obtain ⟨A', n', c', l, e, h1, h2, h3, h4, h5⟩ := open_nums Try.underlying43 Try.underlying27 (by kernel_rfl) (by simpa [Value.cells] using hf)
  exact ⟨A', n', c', l, e, h1, h2, h3, fun k hk => bounds_u64 (h4 k hk), h5⟩
def BdI (l : List Int) : Prop := ∀ k, k < l.length → -9223372036854775808 ≤ l.getD k 0 ∧ l.getD k 0 ≤ 9223372036854775807
set_option maxRecDepth 100000 in
theorem open_ints {b0 : Nat} {r : Reach} {v : Value} {d : DataW H} {p : List MemPlace} (hv : Value.okWide Try.prog w r b0 25 v) (h : DataW.Trod enc Try.prog w base spare held 25 v d p) :
    ∃ (A : Option Addr) (n c : Nat) (l : List Int), v = .slice A n c ∧ l.length = n ∧ n ≤ maxLen ∧ RdK .i64 w A l ∧ BdI l ∧ (A = none → c = 0) := by
  obtain ⟨A, n, c, rfl⟩ := okWide_slice Try.underlying25 hv
  obtain ⟨fuel, hf⟩ := h
  obtain ⟨A', n', c', l, e, h1, h2, h3, h4, h5⟩ := open_nums Try.underlying25 Try.underlying3 (by kernel_rfl) (by simpa [Value.cells] using hf)
  exact ⟨A', n', c', l, e, h1, h2, h3, fun k hk => bounds_i64 (h4 k hk), h5⟩
theorem cellsOf_dom : Try.prog.cellsOf 84 = 3 := by kernel_rfl
set_option maxRecDepth 100000 in
/-- an argument that is a map -/
theorem open_dom {b0 : Nat} {r : Reach} {v : Value} {d : DataW H} {p : List MemPlace} (hv : Value.okWide Try.prog w r b0 84 v) (h : DataW.Trod enc Try.prog w base spare held 84 v d p) :
    ∃ (k n : Int) (A : Option Addr) (m c : Nat) (l : List Int), v = .agg #[.int .u8 k, .int .i64 n, .slice A m c] ∧ 0 ≤ k ∧ k ≤ 255 ∧ -9223372036854775808 ≤ n ∧ n ≤ 9223372036854775807 ∧
      l.length = m ∧ m ≤ maxLen ∧ RdK .u64 w A l ∧ BdU l ∧ (A = none → c = 0) := by
  obtain ⟨v0, v1, v2, y0, y1, y2, q, rfl, _, _, t0, t1, t2⟩ := open_agg3 Try.underlying84 (by kernel_rfl) cellsOf_dom hv h
  obtain ⟨k, e0, _, w0⟩ := DataW.trod_int Try.underlying5 t0
  obtain ⟨n, e1, _, w1⟩ := DataW.trod_int Try.underlying3 t1
  simp at e0 e1
  subst e0 e1
  obtain ⟨A, m, c, l, e, h1, h2, h3, h4, h5⟩ := open_nums (κ := .u64) Try.underlying43 Try.underlying27 (by kernel_rfl) t2
  subst e
  exact ⟨k, n, A, m, c, l, rfl, (bounds_u8 w0).1, (bounds_u8 w0).2, (bounds_i64 w1).1, (bounds_i64 w1).2, h1, h2, h3, fun j hj => bounds_u64 (h4 j hj), h5⟩
end
end Dm
end Go.Proofs.Ytjcbjbhlclajnaa
namespace Go.Proofs.Ytjcbjbhlclajnaa
open Go.RowKit Go.Sort
set_option linter.unusedVariables false
set_option linter.unusedSimpArgs false
set_option maxRecDepth 100000
namespace Dm
theorem dmE_yes {k n : Int} {l : List Int} (h : dmB k n l = true) : dmE k n l = 0 := by rw [dmE, if_pos h]
theorem dmE_no {k n : Int} {l : List Int} (h : dmB k n l = false) : dmE k n l = 2 := by rw [dmE, h]; rfl
theorem dmN_no {k n : Int} {l : List Int} (h : dmB k n l = false) : dmN k n l = 0 := by rw [dmN, h]; rfl
theorem dmV_no {k n : Int} {l : List Int} (h : dmB k n l = false) (key : Int) : dmV k n l key = 0 := by rw [dmV, h]; rfl
/-- the three forms of a valid map -/
theorem dm_forms {k n : Int} {l : List Int} (h : dmB k n l = true) :
    (k = 1 ∧ n = 0 ∧ l = [] ∧ dmN k n l = 1 ∧ ∀ key, dmV k n l key = 0) ∨
    (k = 2 ∧ 1 ≤ n ∧ n ≤ 64 ∧ l = [] ∧ dmN k n l = n ∧ ∀ key, dmV k n l key = key % n) ∨
    (k = 3 ∧ n = 0 ∧ 1 ≤ l.length ∧ l.length ≤ 63 ∧ upTo l l.length ∧ dmN k n l = l.length + 1 ∧ ∀ key, dmV k n l key = cnt l key l.length) := by
  have h' := h
  unfold dmB at h'
  by_cases h1 : k = 1
  · subst h1
    rw [if_pos rfl, decide_eq_true_eq] at h'
    refine .inl ⟨rfl, h'.1, List.eq_nil_of_length_eq_zero h'.2, ?_, fun key => ?_⟩
    · rw [dmN, if_pos h]; simp
    · rw [dmV, if_pos h]; simp
  rw [if_neg h1] at h'
  by_cases h2 : k = 2
  · subst h2
    rw [if_pos rfl, decide_eq_true_eq] at h'
    refine .inr (.inl ⟨rfl, h'.1, h'.2.1, List.eq_nil_of_length_eq_zero h'.2.2, ?_, fun key => ?_⟩)
    · rw [dmN, if_pos h]; simp
    · rw [dmV, if_pos h]; simp
  rw [if_neg h2] at h'
  by_cases h3 : k = 3
  · subst h3
    rw [if_pos rfl, Bool.and_eq_true, decide_eq_true_eq, okC_iff] at h'
    refine .inr (.inr ⟨rfl, h'.1, h'.2.1, h'.2.2.1, h'.2.2.2.2, ?_, fun key => ?_⟩)
    · rw [dmN, if_pos h]; simp
    · rw [dmV, if_pos h]; simp
  · rw [if_neg h3] at h'; cases h'

theorem valuesR_any (k n : Int) (A : Option Addr) (m c : Nat) (l : List Int) (w : World) (kl : 0 ≤ k) (kh : k ≤ 255) (nl : -9223372036854775808 ≤ n) (nh : n ≤ 9223372036854775807) (hm : l.length = m) (hx : m ≤ maxLen) (hr : RdK .u64 w A l) (hd : BdU l) :
    Calls Try.prog 88 #[.agg #[.int .u8 k, .int .i64 n, .slice A m c]] w fun e w' => e = .returned (.tuple #[.int .i64 (dmN k n l), .int .i64 (dmE k n l)]) ∧ Below w.heap.size w w' := by
  have HR := Lib.hid hr; clear hr
  have HD := Lib.hid hd; clear hd
  have HM := Lib.hid hm; clear hm
  have b0 : Below w.heap.size w (w.alloc (Obj.cells #[.int .u8 k, .int .i64 n, .slice A m c] 84)) := bel_alloc (Below.refl _ _) _
  have C := fun W h => Lib.hid (checkR_any k n A m c l W kl kh nl nh HM.out hx h HD.out)
  cases hb : dmB k n l with
  | false =>
    have HE := Lib.hid (dmE_no hb)
    have HN := Lib.hid (dmN_no hb)
    go_enter Try.func88, Try.ntmps88
    go_wp2_with fail
    refine (C _ (HR.out.below b0)).out.mono ?_
    rw [HE.out]
    rintro r w1 ⟨rfl, b1⟩
    go_wp2
    go_ret2
    exact ⟨by rw [HN.out, HE.out]; rfl, bel_trans b0 b1⟩
  | true =>
    have HE := Lib.hid (dmE_yes hb)
    rcases dm_forms hb with ⟨rfl, rfl, rfl, hN, hV⟩ | ⟨rfl, n1, n2, rfl, hN, hV⟩ | ⟨rfl, rfl, l1, l2, hu, hN, hV⟩
    · have HN := Lib.hid hN
      clear hV hN hb
      go_enter Try.func88, Try.ntmps88
      go_wp2_with fail
      refine (C _ (HR.out.below b0)).out.mono ?_
      rw [HE.out]
      rintro r w1 ⟨rfl, b1⟩
      obtain ⟨kc, kf⟩ := bcell b1
      have e0 : w1.cell? ⟨w.heap.size, 0, none⟩ = some (.int .u8 1) := by rw [kc _ _ (by simp)]; simp
      clear kc kf
      go_wp2
      go_ret2
      exact ⟨by rw [HN.out, HE.out]; rfl, bel_trans b0 b1⟩
    · have HN := Lib.hid hN
      clear hV hN hb
      go_enter Try.func88, Try.ntmps88
      go_wp2_with fail
      refine (C _ (HR.out.below b0)).out.mono ?_
      rw [HE.out]
      rintro r w1 ⟨rfl, b1⟩
      obtain ⟨kc, kf⟩ := bcell b1
      have e0 : w1.cell? ⟨w.heap.size, 0, none⟩ = some (.int .u8 2) := by rw [kc _ _ (by simp)]; simp
      have e1 : w1.cell? ⟨w.heap.size, 1, none⟩ = some (.int .i64 n) := by rw [kc _ _ (by simp)]; simp
      clear kc kf
      go_wp2
      go_ret2
      exact ⟨by rw [HN.out, HE.out]; rfl, bel_trans b0 b1⟩
    · have HN := Lib.hid hN
      clear hV hN hb
      have hl1 : (m : Int) ≤ 63 := by have := HM.out; omega
      go_enter Try.func88, Try.ntmps88
      go_wp2_with fail
      refine (C _ (HR.out.below b0)).out.mono ?_
      rw [HE.out]
      rintro r w1 ⟨rfl, b1⟩
      obtain ⟨kc, kf⟩ := bcell b1
      have e0 : w1.cell? ⟨w.heap.size, 0, none⟩ = some (.int .u8 3) := by rw [kc _ _ (by simp)]; simp
      have e2 : w1.cell? ⟨w.heap.size, 2, none⟩ = some (.slice A m c) := by rw [kc _ _ (by simp)]; simp
      clear kc kf
      go_wp2
      go_ret2
      exact ⟨by rw [HN.out, HM.out, HE.out]; rfl, bel_trans b0 b1⟩

end Dm
end Go.Proofs.Ytjcbjbhlclajnaa
namespace Go.Proofs.Ytjcbjbhlclajnaa
open Go.RowKit Go.Sort
set_option linter.unusedVariables false
set_option linter.unusedSimpArgs false
set_option maxRecDepth 100000
namespace Dm
/-- the cut before the cut number j; 0 before the first -/
def bef (l : List Int) : Nat → Int
  | 0 => 0
  | j + 1 => l.getD j 0
def asc (l : List Int) (j : Nat) : Prop := (0 < j → l.getD 0 0 ≠ 0) ∧ upTo l j
theorem asc_zero (l : List Int) : asc l 0 := ⟨fun h => by omega, fun j h1 h2 => by omega⟩
theorem asc_succ {l : List Int} (h0 : 0 ≤ l.getD 0 0) {j : Nat} (h : asc l j) (hlt : bef l j < l.getD j 0) : asc l (j + 1) := by
  cases j with
  | zero => exact ⟨fun _ => by have : (0 : Int) < l.getD 0 0 := hlt; omega, upTo_one l⟩
  | succ j => exact ⟨fun _ => h.1 (by omega), upTo_succ h.2 hlt⟩
theorem asc_not {l : List Int} (h0 : 0 ≤ l.getD 0 0) {j n : Nat} (hn : j < n) (hlt : ¬ bef l j < l.getD j 0) : ¬ asc l n := fun h => by
  cases j with
  | zero =>
    have h1 := h.1 (by omega)
    have h2 : ¬ (0 : Int) < l.getD 0 0 := hlt
    omega
  | succ j => exact hlt (h.2 (j + 1) hn (by omega))
theorem okC_asc {l : List Int} (h1 : 1 ≤ l.length) (h2 : l.length ≤ 63) (h : asc l l.length) : okC l = true := okC_iff.2 ⟨h1, h2, h.1 (by omega), h.2⟩
theorem okC_nasc {l : List Int} (h : ¬ asc l l.length) : okC l = false := okC_not fun h' => h ⟨fun _ => h'.2.2.1, h'.2.2.2⟩
theorem areCuts_any (A : Option Addr) (m c : Nat) (l : List Int) (w : World) (hm : l.length = m) (hx : m ≤ maxLen) (hr : RdK .u64 w A l) (hd : BdU l) :
    Calls Try.prog 110 #[.slice A m c] w fun e w' => e = .returned (.bool (okC l)) ∧ w = w' := by
  have HR := Lib.hid hr; clear hr
  have HD := Lib.hid hd; clear hd
  have HM := Lib.hid hm; clear hm
  by_cases hb : 1 ≤ m ∧ m ≤ 63
  · obtain ⟨m1, m2⟩ := hb
    have t1 : decide ((m : Int) < 1) = false := by simp; omega
    have t2 : decide (63 < (m : Int)) = false := by simp; omega
    have H0 := Lib.hid (show 0 ≤ l.getD 0 0 from (HD.out 0 (by have := HM.out; omega)).1)
    go_enter Try.func110, Try.ntmps110
    go_wp2
    go_loop [3, 5, 16] (fun b u i => ∃ j : Nat, j ≤ m ∧ i = .int .i64 j ∧ b = .int .u64 (bef l j) ∧ asc l j) (fun b u i => m - (intOf i).toNat)
    case atStart => exact ⟨0, by omega, rfl, rfl, asc_zero l⟩
    case round =>
      obtain ⟨j, hj, rfl, rfl, ha⟩ := hrel
      have HA := Lib.hid ha; clear ha
      by_cases hlt : j < m
      · obtain ⟨x0, x1⟩ := HD.out j (by have := HM.out; omega)
        obtain ⟨b, o, rfl, g0⟩ := HR.out j (by have := HM.out; omega)
        by_cases hle : bef l j < l.getD j 0
        · have HL := Lib.hid (asc_succ H0.out HA.out hle)
          have HB := Lib.hid (show bef l (j + 1) = l.getD j 0 from rfl)
          generalize l.getD j 0 = u at x0 x1 g0 hle HB
          generalize bef l j = v at hle
          have t4 : decide (u ≤ v) = false := by simp; omega
          go_wp2
          go_round
          case rel => exact ⟨j + 1, by omega, by go_num, by rw [HB.out], HL.out⟩
          case measure => simp [intOf]; omega
        · have HL := Lib.hid (okC_nasc (asc_not (n := l.length) H0.out (by have := HM.out; omega) hle))
          generalize l.getD j 0 = u at x0 x1 g0 hle
          generalize bef l j = v at hle
          have t4 : decide (u ≤ v) = true := by simp; omega
          go_wp2
          go_ret
          exact ⟨by rw [HL.out] <;> rfl, rfl⟩
      · obtain rfl : j = m := by omega
        have HL := Lib.hid (okC_asc (l := l) (by have := HM.out; omega) (by have := HM.out; omega) (by rw [HM.out]; exact HA.out))
        go_wp2
        go_ret
        exact ⟨by rw [HL.out] <;> rfl, rfl⟩
  · have HO := Lib.hid (show okC l = false from okC_not (by have := HM.out; omega))
    by_cases h1 : m = 0
    · subst h1
      go_enter Try.func110, Try.ntmps110
      go_wp2
      go_ret
      exact ⟨by rw [HO.out] <;> rfl, rfl⟩
    · have t1 : decide ((m : Int) < 1) = false := by simp; omega
      have t2 : decide (63 < (m : Int)) = true := by simp; omega
      go_enter Try.func110, Try.ntmps110
      go_wp2
      go_ret
      exact ⟨by rw [HO.out] <;> rfl, rfl⟩
theorem isMap_any (k n : Int) (A : Option Addr) (m c : Nat) (l : List Int) (w : World) (kl : 0 ≤ k) (kh : k ≤ 255) (nl : -9223372036854775808 ≤ n) (nh : n ≤ 9223372036854775807) (hm : l.length = m) (hx : m ≤ maxLen) (hr : RdK .u64 w A l) (hd : BdU l) :
    Calls Try.prog 107 #[.agg #[.int .u8 k, .int .i64 n, .slice A m c]] w fun e w' => e = .returned (.bool (dmB k n l)) ∧ Below w.heap.size w w' := by
  have HR := Lib.hid hr; clear hr
  have HD := Lib.hid hd; clear hd
  have HM := Lib.hid hm; clear hm
  have b0 : Below w.heap.size w (w.alloc (Obj.cells #[.int .u8 k, .int .i64 n, .slice A m c] 84)) := bel_alloc (Below.refl _ _) _
  by_cases h1 : k = 1
  · subst h1
    by_cases hb : n = 0
    · subst hb
      by_cases hb2 : m = 0
      · subst hb2
        have HB := Lib.hid (show dmB 1 0 l = true by simp [dmB, HM.out])
        go_enter Try.func107, Try.ntmps107
        go_wp2
        go_ret
        exact ⟨by rw [HB.out] <;> rfl, b0⟩
      · have HB := Lib.hid (show dmB 1 0 l = false by simp [dmB, HM.out, hb2])
        have t1 : ((m : Int) == 0) = false := by simp [hb2]
        go_enter Try.func107, Try.ntmps107
        go_wp2
        go_ret
        exact ⟨by rw [HB.out] <;> rfl, b0⟩
    · have HB := Lib.hid (show dmB 1 n l = false by simp [dmB, hb])
      have t1 : (n == 0) = false := by simp [hb]
      go_enter Try.func107, Try.ntmps107
      go_wp2
      go_ret
      exact ⟨by rw [HB.out] <;> rfl, b0⟩
  by_cases h2 : k = 2
  · subst h2
    clear h1
    by_cases hb : 1 ≤ n ∧ n ≤ 64
    · obtain ⟨n1, n2⟩ := hb
      by_cases hb2 : m = 0
      · subst hb2
        have HB := Lib.hid (show dmB 2 n l = true by simp [dmB, HM.out]; omega)
        have t1 : decide (1 ≤ n) = true := by simp; omega
        have t2 : decide (n ≤ 64) = true := by simp; omega
        go_enter Try.func107, Try.ntmps107
        go_wp2
        go_ret
        exact ⟨by rw [HB.out] <;> rfl, b0⟩
      · have HB := Lib.hid (show dmB 2 n l = false by simp [dmB, HM.out, hb2])
        have t0 : ((m : Int) == 0) = false := by simp [hb2]
        have t1 : decide (1 ≤ n) = true := by simp; omega
        have t2 : decide (n ≤ 64) = true := by simp; omega
        go_enter Try.func107, Try.ntmps107
        go_wp2
        go_ret
        exact ⟨by rw [HB.out] <;> rfl, b0⟩
    · have HB := Lib.hid (show dmB 2 n l = false by simp [dmB]; omega)
      by_cases hb1 : 1 ≤ n
      · have t1 : decide (1 ≤ n) = true := by simp; omega
        have t2 : decide (n ≤ 64) = false := by simp; omega
        go_enter Try.func107, Try.ntmps107
        go_wp2
        go_ret
        exact ⟨by rw [HB.out] <;> rfl, b0⟩
      · have t1 : decide (1 ≤ n) = false := by simp; omega
        go_enter Try.func107, Try.ntmps107
        go_wp2
        go_ret
        exact ⟨by rw [HB.out] <;> rfl, b0⟩
  by_cases h3 : k = 3
  · subst h3
    clear h1 h2
    by_cases hb : n = 0
    · subst hb
      have HB := Lib.hid (show dmB 3 0 l = okC l by simp [dmB])
      have CA := fun W h => Lib.hid (areCuts_any A m c l W HM.out hx h HD.out)
      generalize okC l = q at HB CA
      go_enter Try.func107, Try.ntmps107
      go_wp2_with fail
      refine (CA _ (HR.out.below b0)).out.mono ?_
      rintro r w1 ⟨rfl, rfl⟩
      go_wp2
      go_ret
      exact ⟨by rw [HB.out] <;> rfl, b0⟩
    · have HB := Lib.hid (show dmB 3 n l = false by simp [dmB, hb])
      have t1 : (n == 0) = false := by simp [hb]
      go_enter Try.func107, Try.ntmps107
      go_wp2
      go_ret
      exact ⟨by rw [HB.out] <;> rfl, b0⟩
  · have HB := Lib.hid (show dmB k n l = false by simp [dmB, h1, h2, h3])
    go_enter Try.func107, Try.ntmps107
    go_wp2
    go_ret
    exact ⟨by rw [HB.out] <;> rfl, b0⟩
theorem check_any (k n : Int) (A : Option Addr) (m c : Nat) (l : List Int) (w : World) (kl : 0 ≤ k) (kh : k ≤ 255) (nl : -9223372036854775808 ≤ n) (nh : n ≤ 9223372036854775807) (hm : l.length = m) (hx : m ≤ maxLen) (hr : RdK .u64 w A l) (hd : BdU l) :
    Calls Try.prog 93 #[.agg #[.int .u8 k, .int .i64 n, .slice A m c]] w fun e w' => e = .returned (.int .i64 (dmE k n l)) ∧ Below w.heap.size w w' := by
  have HR := Lib.hid hr; clear hr
  have b0 : Below w.heap.size w (w.alloc (Obj.cells #[.int .u8 k, .int .i64 n, .slice A m c] 84)) := bel_alloc (Below.refl _ _) _
  have CM := fun W h => Lib.hid (isMap_any k n A m c l W kl kh nl nh hm hx h hd)
  have HE := Lib.hid (show dmE k n l = if dmB k n l = true then 0 else 2 from rfl)
  generalize dmB k n l = q at CM HE
  clear hm
  cases q with
  | true =>
    go_enter Try.func93, Try.ntmps93
    go_wp2_with fail
    refine (CM _ (by first | exact HR.out.below b0 | exact HR.out)).out.mono ?_
    rintro r w1 ⟨rfl, b1⟩
    go_wp2
    go_ret
    exact ⟨by rw [HE.out]; rfl, by first | exact bel_trans b0 b1 | exact b1⟩
  | false =>
    go_enter Try.func93, Try.ntmps93
    go_wp2_with fail
    refine (CM _ (by first | exact HR.out.below b0 | exact HR.out)).out.mono ?_
    rintro r w1 ⟨rfl, b1⟩
    go_wp2
    go_ret
    exact ⟨by rw [HE.out]; rfl, by first | exact bel_trans b0 b1 | exact b1⟩
theorem values_any (k n : Int) (A : Option Addr) (m c : Nat) (l : List Int) (w : World) (kl : 0 ≤ k) (kh : k ≤ 255) (nl : -9223372036854775808 ≤ n) (nh : n ≤ 9223372036854775807) (hm : l.length = m) (hx : m ≤ maxLen) (hr : RdK .u64 w A l) (hd : BdU l) :
    Calls Try.prog 65 #[.agg #[.int .u8 k, .int .i64 n, .slice A m c]] w fun e w' => e = .returned (.tuple #[.int .i64 (dmN k n l), .int .i64 (dmE k n l)]) ∧ Below w.heap.size w w' := by
  have HR := Lib.hid hr; clear hr
  have HD := Lib.hid hd; clear hd
  have HM := Lib.hid hm; clear hm
  have b0 : Below w.heap.size w (w.alloc (Obj.cells #[.int .u8 k, .int .i64 n, .slice A m c] 84)) := bel_alloc (Below.refl _ _) _
  have C := fun W h => Lib.hid (check_any k n A m c l W kl kh nl nh HM.out hx h HD.out)
  cases hb : dmB k n l with
  | false =>
    have HE := Lib.hid (dmE_no hb)
    have HN := Lib.hid (dmN_no hb)
    go_enter Try.func65, Try.ntmps65
    go_wp2_with fail
    refine (C _ (HR.out.below b0)).out.mono ?_
    rw [HE.out]
    rintro r w1 ⟨rfl, b1⟩
    go_wp2
    go_ret2
    exact ⟨by rw [HN.out, HE.out]; rfl, bel_trans b0 b1⟩
  | true =>
    have HE := Lib.hid (dmE_yes hb)
    rcases dm_forms hb with ⟨rfl, rfl, rfl, hN, hV⟩ | ⟨rfl, n1, n2, rfl, hN, hV⟩ | ⟨rfl, rfl, l1, l2, hu, hN, hV⟩
    · have HN := Lib.hid hN
      clear hV hN hb
      go_enter Try.func65, Try.ntmps65
      go_wp2_with fail
      refine (C _ (HR.out.below b0)).out.mono ?_
      rw [HE.out]
      rintro r w1 ⟨rfl, b1⟩
      obtain ⟨kc, kf⟩ := bcell b1
      have e0 : w1.cell? ⟨w.heap.size, 0, none⟩ = some (.int .u8 1) := by rw [kc _ _ (by simp)]; simp
      clear kc kf
      go_wp2
      go_ret2
      exact ⟨by rw [HN.out, HE.out]; rfl, bel_trans b0 b1⟩
    · have HN := Lib.hid hN
      clear hV hN hb
      go_enter Try.func65, Try.ntmps65
      go_wp2_with fail
      refine (C _ (HR.out.below b0)).out.mono ?_
      rw [HE.out]
      rintro r w1 ⟨rfl, b1⟩
      obtain ⟨kc, kf⟩ := bcell b1
      have e0 : w1.cell? ⟨w.heap.size, 0, none⟩ = some (.int .u8 2) := by rw [kc _ _ (by simp)]; simp
      have e1 : w1.cell? ⟨w.heap.size, 1, none⟩ = some (.int .i64 n) := by rw [kc _ _ (by simp)]; simp
      clear kc kf
      go_wp2
      go_ret2
      exact ⟨by rw [HN.out, HE.out]; rfl, bel_trans b0 b1⟩
    · have HN := Lib.hid hN
      clear hV hN hb
      have hl1 : (m : Int) ≤ 63 := by have := HM.out; omega
      go_enter Try.func65, Try.ntmps65
      go_wp2_with fail
      refine (C _ (HR.out.below b0)).out.mono ?_
      rw [HE.out]
      rintro r w1 ⟨rfl, b1⟩
      obtain ⟨kc, kf⟩ := bcell b1
      have e0 : w1.cell? ⟨w.heap.size, 0, none⟩ = some (.int .u8 3) := by rw [kc _ _ (by simp)]; simp
      have e2 : w1.cell? ⟨w.heap.size, 2, none⟩ = some (.slice A m c) := by rw [kc _ _ (by simp)]; simp
      clear kc kf
      go_wp2
      go_ret2
      exact ⟨by rw [HN.out, HM.out, HE.out]; rfl, bel_trans b0 b1⟩
/-- the ends of the keys of a value, in the map with these cuts -/
def ptL (l : List Int) : Nat → Int
  | 0 => 0
  | v + 1 => l.getD v 0
def ptH (l : List Int) (v : Nat) : Int := if v < l.length then l.getD v 0 - 1 else 18446744073709551615
end Dm
end Go.Proofs.Ytjcbjbhlclajnaa
