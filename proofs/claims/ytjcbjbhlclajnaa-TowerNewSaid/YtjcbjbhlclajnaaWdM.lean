/- Lists of uint64 in memory: what is read, what is the call's own, append of a list, and arguments that are a list of uint64. For whatever program has the types uint64 and []uint64. No conditions beside those of each lemma. · The memory of layer 8 as mathematics: accesses, what a call makes of the words and the log, what a log leads to. No conditions. -/
import Derived.Test.YtjcbjbhlclajnaaRows
import Derived.Test.YtjcbjbhlclajnaaDomQ
import Derived.WalkKit
import Derived.ProofKit
import Derived.OpenShut
import Derived.Outline
import Derived.WalkLawsBesides
import Derived.Deep.QuietTactic
import Derived.BigQuiet
import Derived.Lib.QuietBelow
import Derived.Lib.Hide
import Derived.Deep.Slices
import Derived.Deep.Fields
import Derived.ChangeSame
import Derived.Lib.SmallJoins
import Derived.OwnWalk
import Derived.WalkSpells
import Derived.Laws.AppendOwnNone
namespace Go.Proofs.Ytjcbjbhlclajnaa
open Go.RowKit Go.Sort Go.ChangeShapes Go.WideShapes Go.Deep Go.Joins
set_option linter.unusedVariables false
set_option linter.unusedSimpArgs false
set_option maxRecDepth 100000
namespace Dm
section
variable {H : Type} {enc : TypeId × Value → H} {w : World} {base fuel : Nat} {spare : Nat → Bool} {held : Bool}
end
def flatU (l : List Int) : List Value := l.map (Value.int .u64)
theorem addr_lit (b o k : Nat) : (⟨b, o, none⟩ : Addr).add k = ⟨b, o + k, none⟩ := by simp [Addr.add]
theorem infoU : (Try.prog.info? 27).map (fun i => (i.zero, i.size, i.bytes)) = some (some (.int .u64 0), 1, 8) := by kernel_rfl
theorem info_parts {i? : Option TypeInfo} {z : Option Value} {s b : Nat} (h : i?.map (fun i => (i.zero, i.size, i.bytes)) = some (z, s, b)) : ∃ i0, i? = some i0 ∧ i0.zero = z ∧ i0.size = s ∧ i0.bytes = b := by
  cases i? with
  | none => cases h
  | some i => simp at h; exact ⟨i, rfl, h.1, h.2.1, h.2.2⟩
theorem app1 {ops : Array Oper} {rest : List Oper} {o : Oper} {a : Act} {Q : Exit → Act → World → Prop} (hgd : o.guard = none) (s x : Operand)
    (ho : o.op = .call { callee := .builtin .append, args := #[s, x], argTypes := #[43, 43] }) (w : World) (base n : Nat) (v : Value) (ys : List Int) (y : Int)
    (hs : a.eval s = v) (hx : a.eval x = .slice (some ⟨w.heap.size, 0, none⟩) 1 1) (hown : w.ownsRow base 27 1 v n (flatU ys)) (hn : n ≤ 2000) (hb : base ≤ w.heap.size)
    (h : ∀ v' w', w'.ownsRow base 27 1 v' (n + 1) (flatU (ys ++ [y])) → Below base w w' → wpList Try.prog ops Q rest (a.put o.dst v') w') :
    wpList Try.prog ops Q (o :: rest) a (w.alloc (.cells #[.int .u64 y] 27)) := by
  obtain ⟨i0, hi, hz0, hz1, hz2⟩ := info_parts infoU
  refine wpList_append_own _ hgd s x 43 ho base 27 i0 _ 1 8 Try.underlying43 hi hz0 hz1 hz2 rfl (by omega) v n (flatU ys) hs (hown.alloc _) ⟨w.heap.size, 0, none⟩ 1 1 [.int .u64 y] hx rfl ?_ ?_ (by unfold maxLen; omega) (by omega) (by simp; omega) ?_
  · intro j u hj
    rw [addr_lit, Nat.zero_add, World.cell?_alloc_new]
    simpa using hj
  · intro u hu
    simp at hu
    rcases hu with rfl
    rfl
  · intro v' w' h1 h2 _
    rw [show flatU ys ++ [.int .u64 y] = flatU (ys ++ [y]) by simp [flatU]] at h1
    refine h v' w' h1 (((Below.refl _ _).alloc hb _).grown h2 (by simp; omega) fun k hk => ?_)
    exact (hown.lt k hk).1
/-- what a row of the call's own reads as -/
theorem row_rd {w : World} {base n : Nat} {v : Value} {l : List Int} (h : w.ownsRow base 27 1 v n (flatU l)) : l.length = n ∧ ∃ A c, v = .slice A n c ∧ RdK .u64 w A l := by
  have hl : l.length = n := by have := h.1; simp [flatU] at this; omega
  refine ⟨hl, ?_⟩
  rcases h.2 with ⟨rfl, rfl⟩ | ⟨g, cap, cur, rfl, hbase, hh, hnc, _⟩
  · obtain rfl : l = [] := List.eq_nil_of_length_eq_zero hl
    exact ⟨none, 0, rfl, fun k hk => by simp at hk⟩
  · refine ⟨_, cap, rfl, fun k hk => ⟨g, 0, rfl, ?_⟩⟩
    rw [Nat.zero_add, h.cellAt _ (by omega)]
    simp only [flatU, List.getElem?_map, List.getElem?_eq_getElem hk, List.getD_eq_getElem?_getD]
    rfl
/-- 'append([]uint64{}, xs...)' or an append of a list to a row of the call's own -/
theorem appAll {ops : Array Oper} {rest : List Oper} {o : Oper} {a : Act} {Q : Exit → Act → World → Prop} (hgd : o.guard = none) (s x : Operand)
    (ho : o.op = .call { callee := .builtin .append, args := #[s, x], argTypes := #[43, 43] }) (w : World) (base m : Nat) (v : Value) (ys : List Int) (A : Option Addr) (n c : Nat) (l : List Int)
    (hs : a.eval s = v) (hx : a.eval x = .slice A n c) (hown : w.ownsRow base 27 1 v m (flatU ys)) (hl : l.length = n) (hm : m ≤ 100000) (hn : n ≤ 100000) (hb : base ≤ w.heap.size) (hr : RdK .u64 w A l) (hnil : A = none → c = 0)
    (h : ∀ v' w', w'.ownsRow base 27 1 v' (m + n) (flatU (ys ++ l)) → Below base w w' → wpList Try.prog ops Q rest (a.put o.dst v') w') :
    wpList Try.prog ops Q (o :: rest) a w := by
  obtain ⟨i0, hi, hz0, hz1, hz2⟩ := info_parts infoU
  cases A with
  | none =>
    have hl0 : l = [] := by
      cases l with
      | nil => rfl
      | cons x l => obtain ⟨b, o, e, _⟩ := hr 0 (by simp); cases e
    subst hl0
    obtain rfl : n = 0 := by simpa using hl.symm
    obtain rfl := hnil rfl
    exact wpList_append_own_none hgd s x 43 ho base 27 i0 1 Try.underlying43 hi v m (flatU ys) hs hown hx (h _ _ (by simpa using hown) (Below.refl _ _))
  | some ad =>
    refine wpList_append_own _ hgd s x 43 ho base 27 i0 _ 1 8 Try.underlying43 hi hz0 hz1 hz2 rfl (by omega) v m (flatU ys) hs hown ad n c (flatU l) hx (by simp [flatU, hl]) ?_ (fun u hu => by simp [flatU] at hu; obtain ⟨_, _, rfl⟩ := hu; rfl) (by unfold maxLen; omega) (by omega) hb ?_
    · intro j u hj
      have hjl : j < l.length := by
        have := (List.getElem?_eq_some_iff.1 hj).1
        simpa [flatU] using this
      obtain ⟨b, o', e, g⟩ := hr j hjl
      cases e
      have e2 : (⟨b, o', none⟩ : Addr).add j = ⟨b, o' + j, none⟩ := by simp [Addr.add]
      rw [e2, g]
      simp only [flatU, List.getElem?_map, List.getElem?_eq_getElem hjl, List.getD_eq_getElem?_getD] at hj ⊢
      simpa using hj
    · intro v' w' h1 h2 _
      rw [show flatU ys ++ flatU l = flatU (ys ++ l) by simp [flatU]] at h1
      exact h v' w' h1 ((Below.refl _ w).grown h2 hb fun k hk => (hown.lt k hk).1)
theorem own_keep {w w' : World} {base : Nat} {e : TypeId} {size : Nat} {v : Value} {n : Nat} {xs : List Value} (h : w.ownsRow base e size v n xs) (hb : ∀ g, v.ownBlock = some g → w'.heap[g]? = w.heap[g]?) : w'.ownsRow base e size v n xs := by
  rcases h.2 with ⟨rfl, rfl⟩ | ⟨g, cap, cur, rfl, h1, h2, h3, h4, h5, h6⟩
  · exact ⟨h.1, .inl ⟨rfl, rfl⟩⟩
  · exact ⟨h.1, .inr ⟨g, cap, cur, rfl, h1, (hb g rfl).trans h2, h3, h4, h5, h6⟩⟩
theorem below_drewN {B : Nat} {a w : World} (h : Below B a w) (n : Nat) : Below B a (w.drewN n) := ⟨h.os, h.tape, h.output, h.size, h.block⟩
end Dm
end Go.Proofs.Ytjcbjbhlclajnaa
namespace Go.Proofs.Ytjcbjbhlclajnaa
set_option linter.unusedVariables false
set_option linter.unusedSimpArgs false
set_option maxRecDepth 100000
namespace Wd
/-- an access -/
structure Ac where
  t : Int
  a : Int
  k : Int
  o : Int
  n : Int
  s : Bool
deriving DecidableEq
/-- a memory: words and log -/
structure Wm where
  W : List Int
  L : List Ac
/-- a deed -/
structure Dd where
  d : Int
  t : Int
  a : Int
  o : Int
  v : Int
def BdW (l : List Int) : Prop := ∀ x, x ∈ l → 0 ≤ x ∧ x ≤ 18446744073709551615
namespace Wm
def err (M : Wm) (t a : Int) : Int := if 0 ≤ t ∧ t < 64 then (if 0 ≤ a ∧ a < M.W.length then 0 else 3) else 2
def get (M : Wm) (a : Int) : Int := M.W.getD a.toNat 0
def put (M : Wm) (t a k n : Int) (s : Bool) : Wm := ⟨M.W.set a.toNat n, M.L ++ [⟨t, a, k, M.get a, n, s⟩]⟩
def load (M : Wm) (t a : Int) : Wm := M.put t a 1 (M.get a) false
def stor (M : Wm) (t a v : Int) : Wm := M.put t a 2 v false
def sum (M : Wm) (a d : Int) : Int := (M.get a + d) % 18446744073709551616
def addw (M : Wm) (t a d : Int) : Wm := M.put t a 3 (M.sum a d) false
def cas (M : Wm) (t a o v : Int) : Wm := if M.get a = o then M.put t a 4 v true else M.put t a 4 (M.get a) false
def after (M : Wm) (e : Int) (N : Wm) : Wm := if e = 0 then N else M
/-- what a deed makes of a memory -/
def deed (M : Wm) (x : Dd) : Wm :=
  if x.d % 5 = 0 then M.load x.t x.a else if x.d % 5 = 1 then M.stor x.t x.a x.v else if x.d % 5 = 2 then M.addw x.t x.a x.v else if x.d % 5 = 3 then M.cas x.t x.a x.o x.v else M
theorem after_zero (M N : Wm) : M.after 0 N = N := if_pos rfl
theorem after_ne {M N : Wm} {e : Int} (h : e ≠ 0) : M.after e N = M := if_neg h
theorem get_in {M : Wm} {i : Nat} (h : i < M.W.length) : M.W[i]? = some (M.get (i : Nat)) := by
  unfold get
  rw [Int.toNat_natCast, List.getD_eq_getElem?_getD, List.getElem?_eq_getElem h]; rfl
theorem set_get (M : Wm) (a : Int) : M.W.set a.toNat (M.get a) = M.W := by
  apply List.ext_getElem?
  intro i
  rw [List.getElem?_set]
  split
  · rename_i h
    subst h
    split
    · rename_i h
      rw [get, List.getD_eq_getElem?_getD, List.getElem?_eq_getElem h]; rfl
    · rename_i h
      rw [List.getElem?_eq_none (by omega)]
  · rfl
theorem get_bd {M : Wm} (h : BdW M.W) (a : Int) : 0 ≤ M.get a ∧ M.get a ≤ 18446744073709551615 := by
  unfold get
  rw [List.getD_eq_getElem?_getD]
  by_cases hi : a.toNat < M.W.length
  · rw [List.getElem?_eq_getElem hi]
    exact h _ (List.getElem_mem hi)
  · rw [List.getElem?_eq_none (by omega)]
    exact ⟨Int.le_refl _, by simp⟩
theorem bd_set {W : List Int} (h : BdW W) (i : Nat) {x : Int} (h0 : 0 ≤ x) (h1 : x ≤ 18446744073709551615) : BdW (W.set i x) := fun y hy => by
  rcases List.mem_or_eq_of_mem_set hy with h2 | h2
  · exact h y h2
  · subst h2; exact ⟨h0, h1⟩
theorem bd_put {M : Wm} (h : BdW M.W) (t a k : Int) {n : Int} (s : Bool) (h0 : 0 ≤ n) (h1 : n ≤ 18446744073709551615) : BdW (M.put t a k n s).W := bd_set h _ h0 h1
theorem len_put (M : Wm) (t a k n : Int) (s : Bool) : (M.put t a k n s).W.length = M.W.length := by simp [put]
theorem sum_bd (M : Wm) (a d : Int) : 0 ≤ M.sum a d ∧ M.sum a d ≤ 18446744073709551615 := by unfold sum; omega
theorem sum_back {M : Wm} (h : BdW M.W) (a : Int) {d : Int} (d0 : 0 ≤ d) (d1 : d ≤ 18446744073709551615) : (M.sum a d - d) % 18446744073709551616 = M.get a := by
  have := get_bd h a
  unfold sum
  omega
theorem err_zero {M : Wm} {t a : Int} (h : M.err t a = 0) : 0 ≤ t ∧ t < 64 ∧ 0 ≤ a ∧ a < M.W.length := by
  unfold err at h
  split at h
  · split at h
    · rename_i h1 h2; exact ⟨h1.1, h1.2, h2.1, h2.2⟩
    · cases h
  · cases h
theorem err_ok {M : Wm} {t a : Int} (h1 : 0 ≤ t) (h2 : t < 64) (h3 : 0 ≤ a) (h4 : a < M.W.length) : M.err t a = 0 := by
  unfold err; rw [if_pos ⟨h1, h2⟩, if_pos ⟨h3, h4⟩]
theorem err_cases (M : Wm) (t a : Int) : (¬ (0 ≤ t ∧ t < 64) ∧ M.err t a = 2) ∨ ((0 ≤ t ∧ t < 64) ∧ ¬ (0 ≤ a ∧ a < M.W.length) ∧ M.err t a = 3) ∨ (∃ i : Nat, (0 ≤ t ∧ t < 64) ∧ a = (i : Int) ∧ i < M.W.length ∧ M.err t a = 0) := by
  by_cases h1 : 0 ≤ t ∧ t < 64
  · by_cases h2 : 0 ≤ a ∧ a < M.W.length
    · right; right
      exact ⟨a.toNat, h1, by omega, by omega, by unfold err; rw [if_pos h1, if_pos h2]⟩
    · right; left; exact ⟨h1, h2, by unfold err; rw [if_pos h1, if_neg h2]⟩
  · left; exact ⟨h1, by unfold err; rw [if_neg h1]⟩
end Wm
/-- an access that is possible when the words are W -/
def ok (W : List Int) (x : Ac) : Prop :=
  (0 ≤ x.t ∧ x.t < 64) ∧ (0 ≤ x.a ∧ x.a < W.length) ∧ x.o = W.getD x.a.toNat 0 ∧
    ((x.k = 1 ∧ x.n = x.o ∧ x.s = false) ∨ ((x.k = 2 ∨ x.k = 3) ∧ x.s = false) ∨ (x.k = 4 ∧ (x.s = true ∨ x.n = x.o)))
instance (W : List Int) (x : Ac) : Decidable (ok W x) := by unfold ok; exact inferInstance
/-- what accesses make of the words -/
def lead (W : List Int) (l : List Ac) : List Int := l.foldl (fun W x => W.set x.a.toNat x.n) W
theorem lead_nil (W : List Int) : lead W [] = W := rfl
theorem lead_snoc (W : List Int) (l : List Ac) (x : Ac) : lead W (l ++ [x]) = (lead W l).set x.a.toNat x.n := by simp [lead]
theorem lead_len (W : List Int) : ∀ l : List Ac, (lead W l).length = W.length := fun l => by
  induction l generalizing W with
  | nil => rfl
  | cons x l ih => show (lead (W.set x.a.toNat x.n) l).length = _; rw [ih]; simp
/-- the result of a replay: its words, the number of accesses or the index of the first that is not possible, the error -/
def scan : List Int → List Ac → Nat → Option (List Int) × Nat
  | W, [], i => (some W, i)
  | W, x :: l, i => if ok W x then scan (W.set x.a.toNat x.n) l (i + 1) else (none, i)
theorem scan_ok {W : List Int} {x : Ac} {l : List Ac} {i : Nat} (h : ok W x) : scan W (x :: l) i = scan (W.set x.a.toNat x.n) l (i + 1) := by simp only [scan]; exact if_pos h
theorem scan_bad {W : List Int} {x : Ac} {l : List Ac} {i : Nat} (h : ¬ ok W x) : scan W (x :: l) i = (none, i) := by simp only [scan]; exact if_neg h
/-- a log that the words W lead to: every access possible where it is made -/
def Good (W : List Int) (l : List Ac) : Prop := ∀ i x, l[i]? = some x → ok (lead W (l.take i)) x
theorem Good.snoc {W : List Int} {l : List Ac} {x : Ac} (h : Good W l) (hx : ok (lead W l) x) : Good W (l ++ [x]) := fun i y hy => by
  by_cases hi : i < l.length
  · rw [List.getElem?_append_left hi] at hy
    rw [List.take_append_of_le_length (by omega)]
    exact h i y hy
  · have hlen := (List.getElem?_eq_some_iff.1 hy).1
    simp at hlen
    obtain rfl : i = l.length := by omega
    simp at hy
    subst hy
    rw [List.take_left]
    exact hx
theorem scan_good : ∀ (l : List Ac) (W : List Int) (i : Nat), Good W l → scan W l i = (some (lead W l), i + l.length)
  | [], W, i, h => rfl
  | x :: l, W, i, h => by
    rw [scan_ok (show ok W x from h 0 x rfl), scan_good l (W.set x.a.toNat x.n) (i + 1) (fun j y hy => h (j + 1) y hy)]
    simp [lead]; omega
/-- a log whose access k is not possible -/
theorem scan_spoilt : ∀ (l : List Ac) (W : List Int) (i k : Nat), (∀ j x, j < k → l[j]? = some x → ok (lead W (l.take j)) x) → (∀ x, l[k]? = some x → ¬ ok (lead W (l.take k)) x) → k < l.length → scan W l i = (none, i + k)
  | [], W, i, k, h, hk, hl => absurd hl (Nat.not_lt_zero _)
  | x :: l, W, i, 0, h, hk, hl => scan_bad (show ¬ ok W x from hk x rfl)
  | x :: l, W, i, k + 1, h, hk, hl => by
    rw [scan_ok (show ok W x from h 0 x (Nat.succ_pos _) rfl), scan_spoilt l (W.set x.a.toNat x.n) (i + 1) k (fun j y hj hy => h (j + 1) y (by omega) hy) (fun y hy => hk y hy) (by simpa using hl)]
    congr 1; omega
end Wd
end Go.Proofs.Ytjcbjbhlclajnaa
