/- Sets of domain values and their members (layer 3: Set, Members of package domain; Bit, In of the reference): contracts of the translated code, joined into one text. 'Tz w': the library's table of math/bits lies as its initialiser lays it. Conditions: Tz; a set below 2^64; the bounds of each number's kind. -/
import Derived.Test.YtbndgbjenmknmaaDoorNum
import Derived.Test.YtbndgbjenmknmaaDoorDomM
import Derived.WalkKit
import Derived.ProofKit
import Derived.OpenShut
import Derived.Outline
import Derived.WalkLawsBesides
import Derived.Deep.QuietTactic
import Derived.BigQuiet
import Derived.Lib.QuietBelow
import Derived.Lib.Hide
import Derived.OwnWalk
import Derived.Laws.BitsAllLaws
import Derived.WalkSpells
import Derived.Laws.AppendOwnNone
import Derived.Test.YtbndgbjenmknmaaDoorDomT
import Derived.Test.YtbndgbjenmknmaaDoorLayT
import Derived.RangeFuncNested
import Derived.RangeFuncBound
import Derived.RangeFuncCalls
import Derived.RangeFuncLeaves
import Derived.RangeFuncBox
import Derived.Shelf.Abstract
import Derived.Shelf.RegionOpen
import Derived.OwnWalkIn
import Derived.TacticsInMore
import Derived.LoopNIn
import Derived.LoopIn
import Derived.Maps.AppendAt
namespace Go.Proofs.YtbndgbjenmknmaaDoor
open Go.RowKit Go.Shelf Go.Sort
set_option linter.unusedVariables false
set_option linter.unusedSimpArgs false
attribute [local go_sem] Oper.semAt_some
namespace Dm
def BdU (l : List Int) : Prop := ∀ k, k < l.length → 0 ≤ l.getD k 0 ∧ l.getD k 0 ≤ 18446744073709551615
theorem dmE_yes {k n : Int} {l : List Int} (h : dmB k n l = true) : dmE k n l = 0 := by rw [dmE, if_pos h]
theorem dmE_no {k n : Int} {l : List Int} (h : dmB k n l = false) : dmE k n l = 2 := by rw [dmE, h]; rfl
theorem dmN_no {k n : Int} {l : List Int} (h : dmB k n l = false) : dmN k n l = 0 := by rw [dmN, h]; rfl
theorem dmV_no {k n : Int} {l : List Int} (h : dmB k n l = false) (key : Int) : dmV k n l key = 0 := by rw [dmV, h]; rfl
/-- the three forms of a valid map -/
theorem dm_forms {k n : Int} {l : List Int} (h : dmB k n l = true) :
    (k = 1 ∧ n = 0 ∧ l = [] ∧ dmN k n l = 1 ∧ ∀ key, dmV k n l key = 0) ∨
    (k = 2 ∧ 1 ≤ n ∧ n ≤ 64 ∧ l = [] ∧ dmN k n l = n ∧ ∀ key, dmV k n l key = key % n) ∨
    (k = 3 ∧ n = 0 ∧ 1 ≤ l.length ∧ l.length ≤ 63 ∧ upTo l l.length ∧ dmN k n l = l.length + 1 ∧ ∀ key, dmV k n l key = cnt l key l.length) := by
  have h' := h
  unfold dmB at h'
  by_cases h1 : k = 1
  · subst h1
    rw [if_pos rfl, decide_eq_true_eq] at h'
    refine .inl ⟨rfl, h'.1, List.eq_nil_of_length_eq_zero h'.2, ?_, fun key => ?_⟩
    · rw [dmN, if_pos h]; simp
    · rw [dmV, if_pos h]; simp
  rw [if_neg h1] at h'
  by_cases h2 : k = 2
  · subst h2
    rw [if_pos rfl, decide_eq_true_eq] at h'
    refine .inr (.inl ⟨rfl, h'.1, h'.2.1, List.eq_nil_of_length_eq_zero h'.2.2, ?_, fun key => ?_⟩)
    · rw [dmN, if_pos h]; simp
    · rw [dmV, if_pos h]; simp
  rw [if_neg h2] at h'
  by_cases h3 : k = 3
  · subst h3
    rw [if_pos rfl, Bool.and_eq_true, decide_eq_true_eq, okC_iff] at h'
    refine .inr (.inr ⟨rfl, h'.1, h'.2.1, h'.2.2.1, h'.2.2.2.2, ?_, fun key => ?_⟩)
    · rw [dmN, if_pos h]; simp
    · rw [dmV, if_pos h]; simp
  · rw [if_neg h3] at h'; cases h'
theorem lsC_zero (l : List Int) (f : Int) : lsC l ((0 : Nat) : Int) f = if ((0 : Nat) : Int) < l.length ∧ l.getD 0 0 ≤ f then none else some f := by unfold lsC; rfl
theorem lsC_high {l : List Int} {f : Int} {p : Nat} (h : f < l.getD p 0) : lsC l ((p + 1 : Nat) : Int) f = if ((p + 1 : Nat) : Int) < l.length ∧ l.getD (p + 1) 0 ≤ l.getD p 0 then none else some (l.getD p 0) := by
  unfold lsC
  simp only [Int.toNat_natCast, Nat.add_sub_cancel]
  rw [if_pos (show 0 < ((p + 1 : Nat) : Int) by omega), show max f (l.getD p 0) = l.getD p 0 by omega]
theorem lsC_low {l : List Int} {f : Int} {p : Nat} (h : ¬ f < l.getD p 0) : lsC l ((p + 1 : Nat) : Int) f = if ((p + 1 : Nat) : Int) < l.length ∧ l.getD (p + 1) 0 ≤ f then none else some f := by
  unfold lsC
  simp only [Int.toNat_natCast, Nat.add_sub_cancel]
  rw [if_pos (show 0 < ((p + 1 : Nat) : Int) by omega), show max f (l.getD p 0) = f by omega]
def lsR (o : Option Int) : Value := .tuple #[.int .u64 (o.getD 0), .bool o.isSome, .int .i64 0]
def lsT (o : Option Int) (e : Int) : Value := .tuple #[.int .u64 (o.getD 0), .bool o.isSome, .int .i64 e]
theorem dm_mod {k n : Int} {l : List Int} (h : dmB k n l = true) (h3 : k ≠ 3) (key : Int) : dmV k n l key = key % dmN k n l := by
  rcases dm_forms h with ⟨rfl, rfl, rfl, hN, hV⟩ | ⟨rfl, n1, n2, rfl, hN, hV⟩ | ⟨rfl, _⟩
  · rw [hN, hV]; omega
  · rw [hN, hV]
  · exact absurd rfl h3
theorem dmL_bad {k n v f : Int} {l : List Int} (h : dmB k n l = false) : dmL k n l v f = none ∧ lsE k n l v = 2 := by
  constructor
  · rw [dmL, h]; rfl
  · rw [lsE, h]; rfl
theorem dmL_out {k n v f : Int} {l : List Int} (h : dmB k n l = true) (h2 : lsB k n l v = false) : dmL k n l v f = none ∧ lsE k n l v = 3 := by
  constructor
  · rw [dmL, h, h2]; rfl
  · rw [lsE, h, h2]; rfl
theorem dmL_ok {k n v f : Int} {l : List Int} (h : dmB k n l = true) (h2 : lsB k n l v = true) : dmL k n l v f = (if k = 3 then lsC l v f else lsM (dmN k n l) v f) ∧ lsE k n l v = 0 := by
  constructor
  · rw [dmL, if_pos h, if_pos h2]
  · rw [lsE, if_pos h, if_pos h2]
theorem wrap_pow {p : Nat} (hp : p < 64) : IntKind.u64.wrap ((2 : Int) ^ p) = ((2 ^ p : Nat) : Int) := by
  have h := p64 hp
  have e : ((2 : Int) ^ p) = ((2 ^ p : Nat) : Int) := by simp
  rw [e]
  generalize 2 ^ p = x at h
  simp [IntKind.wrap, IntKind.bits, IntKind.signed]
  omega
theorem bit_any (p : Nat) (hp : p < 64) (w : World) :
    Calls Tryd.prog 42 #[.int .i64 p] w fun e w' => e = .returned (.int .u64 ((2 ^ p : Nat) : Int)) ∧ w = w' := by
  have hi : (p : Int) < 64 := by omega
  have HW := Lib.hid (wrap_pow hp)
  go_enter Tryd.func42, Tryd.ntmps42
  go_wp2
  go_ret
  exact ⟨by rw [← HW.out]; rfl, rfl⟩
theorem or_nat {S T : Nat} (h1 : S < 18446744073709551616) (h2 : T < 18446744073709551616) : bits .or .u64 (S : Int) (T : Int) = ((S ||| T : Nat) : Int) := u64_or_nat S T (by omega) (by omega)
theorem and_nat {S T : Nat} (h1 : S < 18446744073709551616) (h2 : T < 18446744073709551616) : bits .and .u64 (S : Int) (T : Int) = ((S &&& T : Nat) : Int) := u64_and_nat S T (by omega) (by omega)
theorem in_val {S p : Nat} (hS : S < 18446744073709551616) (hp : p < 64) : (bits .and .u64 (S : Int) ((2 ^ p : Nat) : Int) != 0) = S.testBit p := by
  rw [and_nat hS (p64 hp), one_bit]
  cases S.testBit p with
  | false => rfl
  | true =>
    have : 2 ^ p ≠ 0 := Nat.ne_of_gt (Nat.pow_pos (by omega))
    rw [if_pos rfl]
    generalize 2 ^ p = x at this
    simp; omega
theorem in_any (S p : Nat) (hS : S < 18446744073709551616) (hp : p < 64) (w : World) :
    Calls Tryd.prog 25 #[.int .u64 S, .int .i64 p] w fun e w' => e = .returned (.bool (S.testBit p)) ∧ w = w' := by
  have HA := Lib.hid (in_val hS hp)
  go_enter Tryd.func25, Tryd.ntmps25
  go_wp2_with fail
  refine (bit_any p hp _).mono ?_
  rintro r w1 ⟨rfl, rfl⟩
  generalize 2 ^ p = x at *
  go_wp2
  go_ret
  exact ⟨by rw [← HA.out]; rfl, rfl⟩
theorem img_step {p : Nat → Bool} {n : Nat} (h : p n = true) : img p (n + 1) = img p n ||| 2 ^ n := by rw [img, if_pos h]
theorem img_skip {p : Nat → Bool} {n : Nat} (h : p n = false) : img p (n + 1) = img p n := by rw [img, h]; rfl
def bkE (v b : Int) : Int := if 1 ≤ b ∧ b ≤ 16 then if 0 ≤ v ∧ v < 64 then 0 else 3 else 2
def bkV (v b : Int) : Int := if 1 ≤ b ∧ b ≤ 16 then if 0 ≤ v ∧ v < 64 then v % b else 0 else 0
def bkT (v b : Int) : Value := .tuple #[.int .i64 (bkV v b), .int .i64 (bkE v b)]
def stN (l : List Int) : Nat → Nat
  | 0 => 0
  | i + 1 => stN l i ||| 2 ^ (l.getD i 0).toNat
def stB (l : List Int) : Nat → Bool
  | 0 => true
  | i + 1 => stB l i && decide (0 ≤ l.getD i 0 ∧ l.getD i 0 < 64)
def stT (l : List Int) : Value := if stB l l.length = true then .tuple #[.int .u64 (stN l l.length : Nat), .int .i64 0] else .tuple #[.int .u64 0, .int .i64 3]
theorem stB_mono {l : List Int} : ∀ {j i : Nat}, i ≤ j → stB l j = true → stB l i = true
  | 0, i, h, hb => by rw [show i = 0 by omega]; rfl
  | j + 1, i, h, hb => by
    by_cases hi : i = j + 1
    · rw [hi]; exact hb
    · rw [stB, Bool.and_eq_true] at hb
      exact stB_mono (by omega) hb.1
theorem stB_no {l : List Int} {i : Nat} (hi : i < l.length) (h : ¬ (0 ≤ l.getD i 0 ∧ l.getD i 0 < 64)) : stB l l.length = false := by
  cases hb : stB l l.length with
  | false => rfl
  | true =>
    have := stB_mono (i := i + 1) (by omega) hb
    rw [stB, Bool.and_eq_true, decide_eq_true_eq] at this
    exact absurd this.2 h
theorem stN_lt {l : List Int} : ∀ {i : Nat}, stB l i = true → stN l i < 18446744073709551616
  | 0, _ => by unfold stN; omega
  | i + 1, h => by
    rw [stB, Bool.and_eq_true, decide_eq_true_eq] at h
    have a := stN_lt h.1
    have b := p64 (n := (l.getD i 0).toNat) (by omega)
    rw [stN]
    exact Nat.or_lt_two_pow (n := 64) a b
theorem ext_getD {l r : List Int} {n : Nat} (hl : l.length = n) (hr : r.length = n) (h : ∀ t, t < n → l.getD t 0 = r.getD t 0) : l = r := by
  refine List.ext_getElem (hl.trans hr.symm) fun t a b => ?_
  have := h t (by omega)
  rw [List.getD_eq_getElem?_getD, List.getD_eq_getElem?_getD, List.getElem?_eq_getElem a, List.getElem?_eq_getElem b] at this
  exact this
theorem sameR_any (A B : Option Addr) (m c q d : Nat) (l r : List Int) (w : World) (hm : l.length = m) (hq : r.length = q) (hx : m ≤ maxLen) (hy : q ≤ maxLen) (hl : RdK .i64 w A l) (hr : RdK .i64 w B r) :
    Calls Tryd.prog 14 #[.slice A m c, .slice B q d] w fun e w' => e = .returned (.bool (decide (l = r))) ∧ Below w.heap.size w w' := by
  unfold maxLen at hx hy
  have HL := Lib.hid hl; clear hl
  have HR := Lib.hid hr; clear hr
  have HM := Lib.hid hm; clear hm
  have HQ := Lib.hid hq; clear hq
  by_cases hmq : m = q
  · subst hmq
    have t0 : ((m : Int) == m) = true := by simp
    go_enter Tryd.func14, Tryd.ntmps14
    go_wp2
    go_loopw [5] (fun i wr => ∃ j : Nat, j ≤ m ∧ i = .int .i64 j ∧ (∀ t, t < j → l.getD t 0 = r.getD t 0) ∧ Below w.heap.size w wr) (fun i _ => (m - intOf i).toNat)
    case atStart => exact ⟨0, Nat.zero_le _, rfl, fun t h => absurd h (Nat.not_lt_zero _), Below.refl _ _⟩
    case round =>
      obtain ⟨j, hj, rfl, hE, bel⟩ := hrel
      have HE := Lib.hid hE; clear hE
      by_cases hlt : j < m
      · obtain ⟨b, o, rfl, g0⟩ := (HL.out.below bel) j (by have := HM.out; omega)
        obtain ⟨b', o', rfl, g1⟩ := (HR.out.below bel) j (by have := HQ.out; omega)
        have t1 : decide ((j : Int) < m) = true := by simp; omega
        by_cases hxy : l.getD j 0 = r.getD j 0
        · have HN := Lib.hid (show ∀ t, t < j + 1 → l.getD t 0 = r.getD t 0 from fun t ht => by
            by_cases h : t < j
            · exact HE.out t h
            · obtain rfl : t = j := by omega
              exact hxy)
          rw [← hxy] at g1
          clear hxy
          generalize l.getD j 0 = u at g0 g1
          go_wp2
          (try go_quiet (fail))
          (try go_wp2)
          go_roundw
          case rel => exact ⟨j + 1, by omega, by go_num, HN.out, below_drewN bel _⟩
          case measure => simp [intOf]; omega
        · have HN := Lib.hid (show ¬ l = r from fun h => hxy (by rw [h]))
          generalize l.getD j 0 = u at g0 hxy
          generalize r.getD j 0 = v at g1 hxy
          have t2 : (u == v) = false := by simp [hxy]
          go_wp2
          (try go_quiet (fail))
          (try go_wp2)
          go_ret
          exact ⟨ret_eq (congrArg Value.bool (decide_eq_false HN.out).symm), below_drewN bel _⟩
      · obtain rfl : j = m := by omega
        have t1 : decide ((j : Int) < j) = false := by simp
        have HN := Lib.hid (show l = r from ext_getD HM.out HQ.out HE.out)
        go_wp2
        go_ret
        exact ⟨ret_eq (congrArg Value.bool (decide_eq_true HN.out).symm), bel⟩
  · have HN := Lib.hid (show ¬ l = r from fun h => hmq (by rw [← HM.out, ← HQ.out, h]))
    have t0 : ((m : Int) == q) = false := by simp; omega
    go_enter Tryd.func14, Tryd.ntmps14
    go_wp2
    go_ret
    exact ⟨ret_eq (congrArg Value.bool (decide_eq_false HN.out).symm), Below.refl _ _⟩
def memL (S : Nat) : Nat → List Int
  | 0 => []
  | n + 1 => if S.testBit n = true then memL S n ++ [(n : Int)] else memL S n
theorem memL_len (S : Nat) : ∀ n, (memL S n).length ≤ n
  | 0 => Nat.le_refl _
  | n + 1 => by
    have := memL_len S n
    unfold memL; split <;> simp <;> omega
/-- whether one of the values b, b + B, .. (t of them) is in the set -/
def bkH (S B b : Nat) : Nat → Bool
  | 0 => false
  | t + 1 => bkH S B b t || S.testBit (b + t * B)
def bkS (S B : Nat) : Nat → List Int
  | 0 => []
  | b + 1 => if bkH S B b 64 = true then bkS S B b ++ [(b : Int)] else bkS S B b
theorem bkS_len (S B : Nat) : ∀ n, (bkS S B n).length ≤ n
  | 0 => Nat.le_refl _
  | n + 1 => by
    have := bkS_len S B n
    unfold bkS; split <;> simp <;> omega
theorem bkH_stay {S B b t : Nat} (hS : S < 18446744073709551616) (h : 64 ≤ b + t * B) (k : Nat) : bkH S B b (t + k) = bkH S B b t := by
  induction k with
  | zero => rfl
  | succ k ih =>
    rw [← Nat.add_assoc, bkH, ih]
    have h1 : t * B ≤ (t + k) * B := Nat.mul_le_mul_right _ (by omega)
    have h2 : S.testBit (b + (t + k) * B) = false := Nat.testBit_lt_two_pow (Nat.lt_of_lt_of_le hS (Nat.pow_le_pow_right (n := 2) (by omega) (by omega) : 2 ^ 64 ≤ 2 ^ (b + (t + k) * B)))
    rw [h2, Bool.or_false]
theorem bkH_end {S B b t : Nat} (hS : S < 18446744073709551616) (h : 64 ≤ b + t * B) (ht : t ≤ 64) : bkH S B b 64 = bkH S B b t := by
  have := bkH_stay hS h (64 - t)
  rwa [show t + (64 - t) = 64 by omega] at this
/-- the cut before the cut number j; 0 before the first -/
def bef (l : List Int) : Nat → Int
  | 0 => 0
  | j + 1 => l.getD j 0
def asc (l : List Int) (j : Nat) : Prop := (0 < j → l.getD 0 0 ≠ 0) ∧ upTo l j
theorem asc_zero (l : List Int) : asc l 0 := ⟨fun h => by omega, fun j h1 h2 => by omega⟩
theorem asc_succ {l : List Int} (h0 : 0 ≤ l.getD 0 0) {j : Nat} (h : asc l j) (hlt : bef l j < l.getD j 0) : asc l (j + 1) := by
  cases j with
  | zero => exact ⟨fun _ => by have : (0 : Int) < l.getD 0 0 := hlt; omega, upTo_one l⟩
  | succ j => exact ⟨fun _ => h.1 (by omega), upTo_succ h.2 hlt⟩
theorem asc_not {l : List Int} (h0 : 0 ≤ l.getD 0 0) {j n : Nat} (hn : j < n) (hlt : ¬ bef l j < l.getD j 0) : ¬ asc l n := fun h => by
  cases j with
  | zero =>
    have h1 := h.1 (by omega)
    have h2 : ¬ (0 : Int) < l.getD 0 0 := hlt
    omega
  | succ j => exact hlt (h.2 (j + 1) hn (by omega))
theorem okC_asc {l : List Int} (h1 : 1 ≤ l.length) (h2 : l.length ≤ 63) (h : asc l l.length) : okC l = true := okC_iff.2 ⟨h1, h2, h.1 (by omega), h.2⟩
theorem okC_nasc {l : List Int} (h : ¬ asc l l.length) : okC l = false := okC_not fun h' => h ⟨fun _ => h'.2.2.1, h'.2.2.2⟩
/-- the ends of the keys of a value, in the map with these cuts -/
def ptL (l : List Int) : Nat → Int
  | 0 => 0
  | v + 1 => l.getD v 0
def ptH (l : List Int) (v : Nat) : Int := if v < l.length then l.getD v 0 - 1 else 18446744073709551615
theorem isValue_any (v : Int) (w : World) (vl : -9223372036854775808 ≤ v) (vh : v ≤ 9223372036854775807) :
    Calls Tryd.prog 75 #[.int .i64 v] w fun e w' => e = .returned (.bool (decide (0 ≤ v ∧ v < 64))) ∧ w = w' := by
  by_cases h0 : 0 ≤ v
  · by_cases h1 : v < 64
    · have HO := Lib.hid (show decide (0 ≤ v ∧ v < 64) = true from decide_eq_true ⟨h0, h1⟩)
      have t0 : decide (0 ≤ v) = true := decide_eq_true h0
      have t1 : decide (v < 64) = true := decide_eq_true h1
      go_enter Tryd.func75, Tryd.ntmps75
      go_wp2
      go_ret
      exact ⟨by first | rfl | (rw [HO.out] <;> rfl), rfl⟩
    · have HO := Lib.hid (show decide (0 ≤ v ∧ v < 64) = false from decide_eq_false fun h => h1 h.2)
      have t0 : decide (0 ≤ v) = true := decide_eq_true h0
      have t1 : decide (v < 64) = false := decide_eq_false h1
      go_enter Tryd.func75, Tryd.ntmps75
      go_wp2
      go_ret
      exact ⟨by first | rfl | (rw [HO.out] <;> rfl), rfl⟩
  · have HO := Lib.hid (show decide (0 ≤ v ∧ v < 64) = false from decide_eq_false fun h => h0 h.1)
    have t0 : decide (0 ≤ v) = false := decide_eq_false h0
    go_enter Tryd.func75, Tryd.ntmps75
    go_wp2
    go_ret
    exact ⟨by first | rfl | (rw [HO.out] <;> rfl), rfl⟩
theorem set_any (A : Option Addr) (m c : Nat) (l : List Int) (w : World) (hm : l.length = m) (hx : m ≤ maxLen) (hr : RdK .i64 w A l) (hd : ∀ k, k < l.length → -9223372036854775808 ≤ l.getD k 0 ∧ l.getD k 0 ≤ 9223372036854775807) :
    Calls Tryd.prog 50 #[.slice A m c] w fun e w' => e = .returned (stT l) ∧ w = w' := by
  unfold maxLen at hx
  have HR := Lib.hid hr; clear hr
  have HD := Lib.hid hd; clear hd
  have HM := Lib.hid hm; clear hm
  go_enter Tryd.func50, Tryd.ntmps50
  go_wp2
  go_loop [4, 6, 9] (fun q u i => ∃ j : Nat, j ≤ m ∧ q = .int .u64 (stN l j : Nat) ∧ i = .int .i64 j ∧ stB l j = true) (fun q u i => (m - intOf i).toNat)
  case atStart => exact ⟨0, Nat.zero_le _, rfl, rfl, rfl⟩
  case round =>
    obtain ⟨j, hj, rfl, rfl, hB⟩ := hrel
    have HB := Lib.hid hB; clear hB
    by_cases hlt : j < m
    · obtain ⟨x0, x1⟩ := HD.out j (by have := HM.out; omega)
      obtain ⟨b, o, rfl, g0⟩ := HR.out j (by have := HM.out; omega)
      have t0 : decide ((j : Int) < m) = true := by simp; omega
      have CV := Lib.hid (isValue_any (l.getD j 0) w x0 x1)
      by_cases hin : 0 ≤ l.getD j 0 ∧ l.getD j 0 < 64
      · have HB1 := Lib.hid (show stB l (j + 1) = true by rw [stB, HB.out, decide_eq_true hin]; rfl)
        rw [decide_eq_true hin] at CV
        obtain ⟨p, hp⟩ := Int.eq_ofNat_of_zero_le hin.1
        have hp64 : p < 64 := by omega
        have hS := stN_lt HB.out
        have HI := Lib.hid ((congrArg (bits .or .u64 (stN l j : Nat)) (wrap_pow hp64)).trans <| (or_nat hS (p64 hp64)).trans (congrArg Int.ofNat (show stN l j ||| 2 ^ p = stN l (j + 1) by rw [stN, hp]; rfl)))
        rw [hp] at g0 CV
        clear hin x0 x1 hp
        have hpi : (p : Int) < 64 := by omega
        go_wp2_with fail
        refine CV.out.mono ?_
        rintro r w1 ⟨rfl, rfl⟩
        go_wp2
        go_round
        case rel => exact ⟨j + 1, by omega, congrArg (Value.int .u64) HI.out, by go_num, HB1.out⟩
        case measure => simp [intOf]; omega
      · have HO := Lib.hid (show stT l = .tuple #[.int .u64 0, .int .i64 3] by rw [stT, stB_no (by have := HM.out; omega) hin]; rfl)
        rw [decide_eq_false hin] at CV
        generalize l.getD j 0 = u at x0 x1 g0 hin CV
        clear hin
        go_wp2_with fail
        refine CV.out.mono ?_
        rintro r w1 ⟨rfl, rfl⟩
        go_wp2
        go_ret2
        exact ⟨(congrArg Ending.returned HO.out).symm, rfl⟩
    · obtain rfl : j = m := by omega
      have t0 : decide ((j : Int) < j) = false := by simp
      have HO := Lib.hid (show stT l = .tuple #[.int .u64 (stN l j : Nat), .int .i64 0] by rw [stT, HM.out, if_pos HB.out])
      go_wp2
      go_ret2
      exact ⟨(congrArg Ending.returned HO.out).symm, rfl⟩
theorem all_bits {M : Nat} (h : M ≤ 64) (h1 : 1 ≤ M) : IntKind.u64.wrap (IntKind.u64.wrap ((2 : Int) ^ M) - 1) = ((img (fun _ => true) M : Nat) : Int) := by
  rw [img_all]
  by_cases hM : M = 64
  · subst hM; decide +kernel
  · have hp := p64 (n := M) (by omega)
    rw [wrap_pow (by omega)]
    have hpos : 0 < 2 ^ M := Nat.two_pow_pos M
    generalize 2 ^ M = x at hp hpos
    simp [IntKind.wrap, IntKind.bits, IntKind.signed]
    omega
/-- the table of math/bits.TrailingZeros64 -/
def Tz (w : World) : Prop := TabAt 0 Lib.deBruijn64tab w
theorem Tz.below {w w' : World} (h : Tz w) (hb : Below w.heap.size w w') : Tz w' := fun j hj => (hb.cell (p := ⟨0, j, none⟩) (cell_lt (h j hj))).trans (h j hj)
theorem tz_any (x : Nat) (hx : x < 18446744073709551616) (w : World) (hT : Tz w) : Calls Tryd.prog 54 #[.int .u64 x] w fun e w' => e = .returned (.int .i64 (Lib.ctz 64 x)) ∧ w' = w :=
  Any7.bits_TrailingZeros64 Tryd.tz64 x hx w fun _ => hT
def enc (x : Fin 64) : Array Value := #[.int .i64 (x.val : Int)]
theorem enc_def (x : Fin 64) : enc x = #[.int .i64 (x.val : Int)] := rfl
theorem below_le {n₀ : Nat} {w w' : World} (h : Below n₀ w w') (hw : n₀ ≤ w.heap.size) : n₀ ≤ w'.heap.size := Nat.le_trans hw h.size
theorem Tz.belowN {n₀ : Nat} {w w' : World} (h : Tz w) (h0 : 0 < n₀) (hb : Below n₀ w w') : Tz w' := fun j hj => (hb.cell (p := ⟨0, j, none⟩) h0).trans (h j hj)
set_option maxRecDepth 100000 in
set_option maxHeartbeats 2000000 in
theorem members1_in (F : Fence) (n : Nat) (h7 : F.fn 53) (h8 : F.fn 54) (hro : F.round = none) (hwide : ∀ {g : Nat} {args : Array Value} {w : World} {R : Ending → World → Prop}, Calls Tryd.prog g args w R → CallsIn F (n - 1) Tryd.prog g args w R) (hn : 1 ≤ n) (l Bs n₀ S : Nat) (hS : S < 18446744073709551616) (hn0 : 0 < n₀) (J Jx : List (Fin 64) → World → Prop)
    (hY : ∀ pre x W, J pre W → pre.length < (memF S).length → YieldAt F (n - 1) Tryd.prog l #[.int .i64 (x.val : Int)] W fun e W' =>
      (e = .returned (.bool true) ∧ J (pre ++ [x]) W' ∧ Below n₀ W W') ∨ (e = .returned (.bool false) ∧ Jx (pre ++ [x]) W'))
    (W : World) (hBs : W.cell? ⟨Bs, 0, none⟩ = some (.int .u64 S)) (hT : Tz W) (h0 : J [] W) :
    CallsIn F n Tryd.prog 53 #[.func (.yield l) #[] #[], .pointer (some ⟨Bs, 0, none⟩)] W fun e W' => (∃ v, e = .returned v) ∧
      ((∃ ys, ys = memF S ∧ J ys W') ∨ (∃ pre, pre <+: memF S ∧ Jx pre W')) := by
  refine callsIn_of_wp Tryd.func53 rfl h7 ?_ hro
  simp only [Tryd.ntmps53, List.size_toArray, List.length_cons, List.length_nil, Nat.reduceAdd, Nat.reduceSub, Array.replicate_succ, Array.replicate_zero, List.push_toArray, List.append_toArray, List.nil_append, List.cons_append]
  have HT := Lib.hid hT; clear hT
  gi_wp2
  gi_loopw [3] (fun r wr => ∃ (pre rest : List (Fin 64)) (R : Nat), r = .int .u64 R ∧ R < 18446744073709551616 ∧ memF S = pre ++ rest ∧ memF R = rest ∧ J pre wr ∧ Below n₀ W wr)
    (fun r _ => (intOf r).toNat)
  case atStart => exact ⟨[], memF S, S, rfl, hS, rfl, rfl, h0, Below.refl _ _⟩
  case round =>
    obtain ⟨pre, rest, R, rfl, hR, hx, hm, hJs, hbl⟩ := hrel
    by_cases hz : R = 0
    · subst hz
      have HX := Lib.hid (show memF S = pre by rw [hx, ← hm, memF_zero, List.append_nil])
      clear hx hm
      gi_wp2
      go_end0
      exact ⟨⟨_, rfl⟩, .inl ⟨pre, HX.out.symm, hJs⟩⟩
    · obtain ⟨hk, hst⟩ := memF_step hz hR
      rw [hst] at hm
      have HX := Lib.hid (show memF S = (pre ++ [⟨Lib.ctz 64 R, hk⟩]) ++ memF (R &&& (R - 1)) by rw [hx, ← hm]; simp)
      obtain ⟨fn, tmps, assign, body, hy, hRd⟩ := hY pre ⟨Lib.ctz 64 R, hk⟩ wr hJs (by rw [HX.out]; simp)
      dsimp only at hy
      have hTw := HT.out.belowN hn0 hbl
      have HC := Lib.hid (hwide (tz_any R hR wr hTw))
      have hlow := low_lt hz
      have HA := Lib.hid (show bits .and .u64 (R : Int) ((R : Int) - 1) = ((R &&& (R - 1) : Nat) : Int) by
        rw [show (R : Int) - 1 = ((R - 1 : Nat) : Int) by omega, and_nat hR (by omega)])
      clear hx hm hst hTw
      have t0 : ((R : Int) != 0) = true := by simp; omega
      have r1 : 1 ≤ (R : Int) := by omega
      have r2 : (R : Int) ≤ 18446744073709551615 := by omega
      generalize Lib.ctz 64 R = k at *
      gi_wp2_with (gi_at_call 54; refine HC.out.mono ?_; rintro e w' ⟨rfl, rfl⟩)
      refine hRd.mono ?_
      rintro e W3 (⟨rfl, hJ3, hk3⟩ | ⟨rfl, hJx3⟩)
      · gi_wp2
        go_roundw
        case rel => exact ⟨pre ++ [⟨k, hk⟩], memF (R &&& (R - 1)), R &&& (R - 1), congrArg (Value.int .u64) HA.out, by omega, HX.out, rfl, hJ3, hbl.trans hk3⟩
        case measure => rw [HA.out]; simp [intOf]; omega
      · gi_wp2
        refine bodyPost_ret (results_none rfl _ _ _) rfl ?_
        exact ⟨⟨_, rfl⟩, .inr ⟨pre ++ [⟨k, hk⟩], ⟨_, HX.out.symm⟩, hJx3⟩⟩
def lst (l : List (Fin 64)) : List Int := l.map fun x => (x.val : Int)
theorem lst_snoc (l : List (Fin 64)) (x : Fin 64) : lst (l ++ [x]) = lst l ++ [(x.val : Int)] := by simp [lst]
theorem memL_filter (S : Nat) : ∀ n, memL S n = ((List.range n).filter fun i => S.testBit i).map fun (i : Nat) => (i : Int)
  | 0 => rfl
  | n + 1 => by
    rw [memL, memL_filter S n, List.range_succ, List.filter_append, List.map_append]
    by_cases h : S.testBit n = true
    · rw [if_pos h]; simp [List.filter_cons, h]
    · rw [if_neg h]; simp [List.filter_cons, h]
theorem lst_mem (S : Nat) : lst (memF S) = memL S 64 := by
  rw [memL_filter, ← memF_val, List.map_map]; rfl
theorem members_in (F : Fence) (n : Nat) (h : F.fn 41) (hro : F.round = none) (S : Nat) (w : World) :
    CallsIn F n Tryd.prog 41 #[.int .u64 S] w fun e w' => e = .returned (.func (.func 53) #[] #[.pointer (some ⟨w.heap.size, 0, none⟩)]) ∧ w' = w.alloc (.cells #[.int .u64 S] 22) := by
  refine callsIn_of_wp Tryd.func41 rfl h ?_ hro
  simp only [Tryd.ntmps41, List.size_toArray, List.length_cons, List.length_nil, Nat.reduceAdd, Nat.reduceSub, Array.replicate_succ, Array.replicate_zero, List.push_toArray, List.append_toArray, List.nil_append, List.cons_append]
  gi_wp2
  go_ret
  exact ⟨rfl, rfl⟩
theorem members_stops (F : Fence) (hF : ∀ f, F.fn f) (hro : F.round = none) (hwide : ∀ {n g : Nat} {args : Array Value} {w : World} {R : Ending → World → Prop}, Calls Tryd.prog g args w R → CallsIn F n Tryd.prog g args w R) (n : Nat) (hn : 1 ≤ n) (Bs n₀ S : Nat) (hS : S < 18446744073709551616) (hn0 : 0 < n₀) (w : World) (hBs : Bs < w.heap.size) (hn₀ : n₀ ≤ w.heap.size) (hT : Tz w) (hc : w.cell? ⟨Bs, 0, none⟩ = some (.int .u64 S)) :
    SeqStopsK F n Tryd.prog 53 #[.pointer (some ⟨Bs, 0, none⟩)] (fun x : Fin 64 => #[Value.int .i64 (x.val : Int)]) (Below n₀) (fun ys => ys = memF S) (fun pre => pre <+: memF S) (memF S).length w := fun l J Jx W hW _ _ hY h0 =>
  members1_in F n (hF _) (hF _) hro (fun h => hwide h) hn l Bs n₀ S hS hn0 J Jx hY W ((hW.cell (p := ⟨Bs, 0, none⟩) hBs).trans hc) (hT.below hW) h0
set_option maxRecDepth 100000 in
set_option maxHeartbeats 2000000 in
theorem membersP_in (F : Fence) (hF : ∀ f, F.fn f) (hro : F.round = none) (hwide : ∀ {n g : Nat} {args : Array Value} {w : World} {R : Ending → World → Prop}, Calls Tryd.prog g args w R → CallsIn F n Tryd.prog g args w R) (n : Nat) (hn : 3 ≤ n) (S : Nat) (hS : S < 18446744073709551616) (w : World) (hT : Tz w) (hw : 0 < w.heap.size) :
    CallsIn F n Tryd.prog 24 #[.int .u64 S] w fun e W' => (∃ v, e = .returned v ∧ W'.ownsRow w.heap.size 3 1 v (lst (memF S)).length (flatI (lst (memF S)))) ∧ Below w.heap.size w W' := by
  have h1 : 1 ≤ n := by omega
  have hlen := memF_len S
  have hf1 := hF 41
  obtain ⟨i0, hi, hz0, hz1, hz2⟩ := info_parts info
  refine callsIn_of_wp_marks Tryd.func24 rfl (hF _) ?_ hro
  simp only [Tryd.ntmps24, List.size_toArray, List.length_cons, List.length_nil, Nat.reduceAdd, Nat.reduceSub, Array.replicate_succ, Array.replicate_zero, List.push_toArray, List.append_toArray, List.nil_append, List.cons_append]
  gi_wp2_with (gi_at_call 41; refine (members_in F (n - 1) hf1 hro S _).mono ?_; rintro e w' ⟨rfl, rfl⟩)
  have bO := Boxed.new w 32 (.slice none 0 0)
  have bN := Boxed.new (w.alloc (.cells #[.slice none 0 0] 32)) 22 (.int .u64 S)
  rw [World.size_alloc] at bN
  have hB0 : Below w.heap.size w ((w.alloc (.cells #[.slice none 0 0] 32)).alloc (.cells #[.int .u64 S] 22)) := ((Below.refl _ w).alloc (Nat.le_refl _) _).alloc (by simp) _
  refine wpIn_rangeFunc_ownG hro h1 (gf := 53) (lb := #[.pointer (some ⟨w.heap.size + 1, 0, none⟩)]) rfl (hF _) (enters_of Tryd.func53 (by kernel_rfl) rfl)
    (members_stops F hF hro (fun h => hwide h) (n - 1) (by omega) (w.heap.size + 1) w.heap.size S hS hw _ (by simp) (by simp; omega) (hT.below hB0) bN.cell) belowK_t (belowK_b (by simp; omega)) (Below.refl _ _) (fun _ => rfl)
    (fun pre W => (∃ v, Boxed W w.heap.size 32 v ∧ W.ownsRow w.heap.size 3 1 v (lst pre).length ((lst pre).map (Value.int .i64)) ∧ (v = .slice none 0 0 ↔ lst pre = [])) ∧ Below w.heap.size w W)
    (fun _ _ _ => False)
    (OwnFrom.and (Own.from (holdsRow_own w.heap.size w.heap.size 32 3 1 (fun pre => (lst pre).length) (fun pre => (lst pre).map (Value.int .i64)) (fun pre v => v = .slice none 0 0 ↔ lst pre = [])) _) (ownFrom_below (Nat.le_refl _) (by simp; omega)))
    (fun _ _ _ _ _ hs _ _ => hs)
    ⟨⟨_, bO.alloc _, World.ownsRow_nil _ _ _ _, by simp [lst]⟩, hB0⟩
    (fun x => { tmps := #[.int .u64 S, undef, .slice none 0 0, .pointer (some ⟨w.heap.size, 0, none⟩), .int .i64 (x.val : Int), .int .u64 S, .func (.func 53) #[] #[.pointer (some ⟨w.heap.size + 1, 0, none⟩)], .int .i64 (x.val : Int), undef, undef, undef, undef, undef], defers := [] }) ?assign ?body ?done ?stop
  case assign =>
    intro l x W K hK
    gi_wp2
    exact hK
  case body =>
    rintro l pre x W ⟨⟨v, hv, hrow, hnil⟩, hB⟩ hlt
    have hc := hv.cell
    have hpl : (lst pre).length ≤ 64 := by simp [lst]; omega
    gi_wp2_with (gi_at_builtin; refine wpListIn_append_own _ rfl _ _ 32 rfl w.heap.size 3 i0 (.int .i64 0) 1 8 Tryd.underlying32 hi hz0 hz1 hz2 rfl (by decide) _ _ _ rfl (hrow.alloc _) ⟨W.heap.size, 0, none⟩ 1 1 [.int .i64 (x.val : Int)] rfl rfl (cell_one_new _ _ _) (by simp [Value.oneCell']) (by unfold maxLen; omega) (by omega) (by have := hB.size; simp; omega) ?_; intro v' w1 hown' hgrow _; obtain ⟨g', cap', rfl⟩ := ownsRow_succ hown'; obtain ⟨hv1, hv2, hr2, hk2, hb2⟩ := hv.appended (by decide) hrow hB.size (Nat.le_refl _) hown' hgrow; have hc1 := hv1.cell; have hf1 := hv1.frozen)
    exact ⟨hk2.from _, hb2, ⟨_, hv2, by rw [lst_snoc]; simpa using hr2, by rw [lst_snoc]; simp⟩, hB.trans hb2⟩
  case done =>
    rintro D ys W hD rfl ⟨⟨v, hv, hrow, hnil⟩, hB⟩ hK
    have hc := hv.cell
    gi_wp2
    refine ⟨by simp, .inl ⟨_, _, rfl, run_takeDeferred hK, ?_⟩⟩
    exact ⟨_, results_tmp rfl _ _ _, ⟨v, rfl, ownsRow_putObj hrow _ hK rfl⟩, hB.trans (belowK_b (w := w) (Nat.le_refl _) W D _ _ (by simp at hD; omega) hK rfl rfl)⟩
  case stop =>
    rintro D c pre W _ _ h _
    exact h.elim
theorem membersP_any (S : Nat) (hS : S < 18446744073709551616) (w : World) (hT : Tz w) (hw : 0 < w.heap.size) :
    Calls Tryd.prog 24 #[.int .u64 S] w fun e w' => (∃ v, e = .returned v ∧ w'.ownsRow w.heap.size 3 1 v (memL S 64).length (flatI (memL S 64))) ∧ Below w.heap.size w w' := by
  rw [← lst_mem]
  exact callsIn_wide.1 (membersP_in Fence.wide (fun _ => trivial) rfl (fun h => callsIn_wide.2 h) 3 (Nat.le_refl _) S hS w hT hw)
end Dm
end Go.Proofs.YtbndgbjenmknmaaDoor
