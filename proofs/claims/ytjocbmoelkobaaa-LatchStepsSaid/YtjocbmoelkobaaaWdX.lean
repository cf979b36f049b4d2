/- Two memories side by side, of package words and of the reference; a deed on both. Conditions: the bounds of each number's kind; logs of at most 50,000 accesses. Written by tools/mk8call.py. -/
import Derived.Test.YtjocbmoelkobaaaWdK
import Derived.Deep.RegionHeld3
namespace Go.Proofs.Ytjocbmoelkobaaa
open Go.RowKit Go.Sort
set_option linter.unusedVariables false
set_option linter.unusedSimpArgs false
namespace Wd
open Dm (addr_lit info_parts spot_none RdK flatU infoU bel_alloc bel_trans own_keep below_drewN)
/-- the memory M of package words and the memory N of the reference, apart from each other, from B on -/
structure Dp (B : Nat) (w : World) (b br p : Nat) (q : Option Nat) (p' : Nat) (q' : Option Nat) (M N : Wm) : Prop where
  l : At 73 w b p q M
  r : At 55 w br p' q' N
  d : ∀ i, Of b p q i → ¬ Of br p' q' i
  bl : ∀ i, Of b p q i → B ≤ i
  bR : ∀ i, Of br p' q' i → B ≤ i
theorem Dp.below {B : Nat} {w w' : World} {b br p : Nat} {q : Option Nat} {p' : Nat} {q' : Option Nat} {M N : Wm} (h : Dp B w b br p q p' q' M N) (hb : Below w.heap.size w w') : Dp B w' b br p q p' q' M N := ⟨h.l.below hb, h.r.below hb, h.d, h.bl, h.bR⟩
theorem Dp.le {B : Nat} {w : World} {b br p : Nat} {q : Option Nat} {p' : Nat} {q' : Option Nat} {M N : Wm} (h : Dp B w b br p q p' q' M N) : B ≤ w.heap.size := by
  have h1 := h.bl b (.inl rfl)
  have h2 := h.l.lt b (.inl rfl)
  omega
theorem Dp.left {B : Nat} {w w' : World} {b br p : Nat} {q : Option Nat} {p' : Nat} {q' : Option Nat} {M M' N : Wm} (h : Dp B w b br p q p' q' M N) (ha : After 73 b p q M' w w') :
    ∃ q1, Dp B w' b br p q1 p' q' M' N ∧ Below B w w' ∧ (∀ i, i < w.heap.size → ¬ Of b p q i → w'.heap[i]? = w.heap[i]?) ∧ w.heap.size ≤ w'.heap.size := by
  obtain ⟨q1, h1, h2, h3⟩ := ha
  have hof : ∀ i, Of b p q1 i → Of b p q i ∨ w.heap.size ≤ i := fun i hi => by
    rcases hi with e | e | e
    · exact .inl (.inl e)
    · exact .inl (.inr (.inl e))
    · exact (h2 i e).imp (fun e => .inr (.inr e)) id
  have hle := h.le
  refine ⟨q1, ⟨h1, h.r.keep fun i hi ho => h3.block i hi fun e => h.d i e ho, fun i hi ho => ?_, fun i hi => ?_, h.bR⟩, h3.below hle fun i hi e => by have := h.bl i e; omega, h3.block, h3.size⟩
  · rcases hof i hi with e | e
    · exact h.d i e ho
    · have := h.r.lt i ho; omega
  · rcases hof i hi with e | e
    · exact h.bl i e
    · omega
theorem Dp.right {B : Nat} {w w' : World} {b br p : Nat} {q : Option Nat} {p' : Nat} {q' : Option Nat} {M N N' : Wm} (h : Dp B w b br p q p' q' M N) (ha : After 55 br p' q' N' w w') :
    ∃ q1, Dp B w' b br p q p' q1 M N' ∧ Below B w w' ∧ (∀ i, i < w.heap.size → ¬ Of br p' q' i → w'.heap[i]? = w.heap[i]?) ∧ w.heap.size ≤ w'.heap.size := by
  obtain ⟨q1, h1, h2, h3⟩ := ha
  have hof : ∀ i, Of br p' q1 i → Of br p' q' i ∨ w.heap.size ≤ i := fun i hi => by
    rcases hi with e | e | e
    · exact .inl (.inl e)
    · exact .inl (.inr (.inl e))
    · exact (h2 i e).imp (fun e => .inr (.inr e)) id
  have hle := h.le
  refine ⟨q1, ⟨h.l.keep fun i hi ho => h3.block i hi fun e => h.d i ho e, h1, fun i hi ho => ?_, h.bl, fun i hi => ?_⟩, h3.below hle fun i hi e => by have := h.bR i e; omega, h3.block, h3.size⟩
  · rcases hof i ho with e | e
    · exact h.d i hi e
    · have := h.l.lt i hi; omega
  · rcases hof i hi with e | e
    · exact h.bR i e
    · omega
/-- both memories are M -/
def Du (B : Nat) (w : World) (b br : Nat) (M : Wm) : Prop := ∃ p q p' q', Dp B w b br p q p' q' M M
theorem Du.below {B : Nat} {w w' : World} {b br : Nat} {M : Wm} (h : Du B w b br M) (hb : Below w.heap.size w w') : Du B w' b br M := by
  obtain ⟨p, q, p', q', h⟩ := h
  exact ⟨p, q, p', q', h.below hb⟩
/-- the numbers of a deed -/
structure BdD1 (x : Dd) : Prop where
  d0 : 0 ≤ x.d
  d1 : x.d ≤ 255
  t0 : -9223372036854775808 ≤ x.t
  t1 : x.t ≤ 9223372036854775807
  a0 : -9223372036854775808 ≤ x.a
  a1 : x.a ≤ 9223372036854775807
  o0 : 0 ≤ x.o
  o1 : x.o ≤ 18446744073709551615
  v0 : 0 ≤ x.v
  v1 : x.v ≤ 18446744073709551615
def BdD (l : List Dd) : Prop := ∀ x, x ∈ l → BdD1 x
/-- what a deed makes of the memory, where its thread and address may not exist -/
def Wm.does (M : Wm) (x : Dd) : Wm := if x.d % 5 = 4 then M else M.after (M.err x.t x.a) (M.deed x)
def ClP (B b br : Nat) (M : Wm) (w : World) (e : Ending) (w' : World) : Prop := e = .returned (.bool true) ∧ Du B w' b br M ∧ Below B w w'
theorem storeZ (b p : Nat) (q : Option Nat) (M : Wm) (t a : Int) (x : Int) (y : Int) (w : World) (h : At 73 w b p q M) (hL : M.L.length ≤ 50000) (x0 : 0 ≤ x) (x1 : x ≤ 18446744073709551615) (hy : y = M.err t a) :
    Calls Try.prog 30 #[.pointer (some ⟨b, 0, none⟩), .int .i64 t, .int .i64 a, .int .u64 x] w fun e w' => e = .returned (.int .i64 y) ∧ After 73 b p q (M.after y (M.stor t a x)) w w' := by
  subst hy
  exact store_any b p q M t a x w h hL x0 x1
theorem storeRZ (b p : Nat) (q : Option Nat) (M : Wm) (t a : Int) (x : Int) (y : Int) (w : World) (h : At 55 w b p q M) (hL : M.L.length ≤ 50000) (x0 : 0 ≤ x) (x1 : x ≤ 18446744073709551615) (hy : y = M.err t a) :
    Calls Try.prog 31 #[.pointer (some ⟨b, 0, none⟩), .int .i64 t, .int .i64 a, .int .u64 x] w fun e w' => e = .returned (.int .i64 y) ∧ After 55 b p q (M.after y (M.stor t a x)) w w' := by
  subst hy
  exact storeR_any b p q M t a x w h hL x0 x1
theorem casZ (b p : Nat) (q : Option Nat) (M : Wm) (t a : Int) (o x : Int) (z : Bool) (y : Int) (w : World) (h : At 73 w b p q M) (hL : M.L.length ≤ 50000) (x0 : 0 ≤ x) (x1 : x ≤ 18446744073709551615) (hy : y = M.err t a) (hz : z = decide (M.err t a = 0 ∧ M.get a = o)) :
    Calls Try.prog 38 #[.pointer (some ⟨b, 0, none⟩), .int .i64 t, .int .i64 a, .int .u64 o, .int .u64 x] w fun e w' => e = .returned (.tuple #[.bool z, .int .i64 y]) ∧ After 73 b p q (M.after y (M.cas t a o x)) w w' := by
  subst hy hz
  exact cas_any b p q M t a o x w h hL x0 x1
theorem casRZ (b p : Nat) (q : Option Nat) (M : Wm) (t a : Int) (o x : Int) (z : Bool) (y : Int) (w : World) (h : At 55 w b p q M) (hL : M.L.length ≤ 50000) (x0 : 0 ≤ x) (x1 : x ≤ 18446744073709551615) (hy : y = M.err t a) (hz : z = decide (M.err t a = 0 ∧ M.get a = o)) :
    Calls Try.prog 33 #[.pointer (some ⟨b, 0, none⟩), .int .i64 t, .int .i64 a, .int .u64 o, .int .u64 x] w fun e w' => e = .returned (.tuple #[.bool z, .int .i64 y]) ∧ After 55 b p q (M.after y (M.cas t a o x)) w w' := by
  subst hy hz
  exact casR_any b p q M t a o x w h hL x0 x1
end Wd
end Go.Proofs.Ytjocbmoelkobaaa
