/- Two memories side by side, of package words and of the reference; a deed on both. Conditions: the bounds of each number's kind; logs of at most 50,000 accesses. Written by tools/mk8call.py. -/
import Derived.Test.YtpakolaegbccdaaWdK
import Derived.Deep.RegionHeld3
namespace Go.Proofs.Ytpakolaegbccdaa
open Go.RowKit Go.Sort
set_option linter.unusedVariables false
set_option linter.unusedSimpArgs false
namespace Wd
open Dm (addr_lit info_parts spot_none RdK flatU infoU bel_alloc bel_trans own_keep below_drewN)
/-- the memory M of package words and the memory N of the reference, apart from each other, from B on -/
structure Dp (B : Nat) (w : World) (b br p : Nat) (q : Option Nat) (p' : Nat) (q' : Option Nat) (M N : Wm) : Prop where
  l : At 75 w b p q M
  r : At 31 w br p' q' N
  d : ∀ i, Of b p q i → ¬ Of br p' q' i
  bl : ∀ i, Of b p q i → B ≤ i
  bR : ∀ i, Of br p' q' i → B ≤ i
theorem Dp.below {B : Nat} {w w' : World} {b br p : Nat} {q : Option Nat} {p' : Nat} {q' : Option Nat} {M N : Wm} (h : Dp B w b br p q p' q' M N) (hb : Below w.heap.size w w') : Dp B w' b br p q p' q' M N := ⟨h.l.below hb, h.r.below hb, h.d, h.bl, h.bR⟩
theorem Dp.le {B : Nat} {w : World} {b br p : Nat} {q : Option Nat} {p' : Nat} {q' : Option Nat} {M N : Wm} (h : Dp B w b br p q p' q' M N) : B ≤ w.heap.size := by
  have h1 := h.bl b (.inl rfl)
  have h2 := h.l.lt b (.inl rfl)
  omega
theorem Dp.left {B : Nat} {w w' : World} {b br p : Nat} {q : Option Nat} {p' : Nat} {q' : Option Nat} {M M' N : Wm} (h : Dp B w b br p q p' q' M N) (ha : After 75 b p q M' w w') :
    ∃ q1, Dp B w' b br p q1 p' q' M' N ∧ Below B w w' ∧ (∀ i, i < w.heap.size → ¬ Of b p q i → w'.heap[i]? = w.heap[i]?) ∧ w.heap.size ≤ w'.heap.size := by
  obtain ⟨q1, h1, h2, h3⟩ := ha
  have hof : ∀ i, Of b p q1 i → Of b p q i ∨ w.heap.size ≤ i := fun i hi => by
    rcases hi with e | e | e
    · exact .inl (.inl e)
    · exact .inl (.inr (.inl e))
    · exact (h2 i e).imp (fun e => .inr (.inr e)) id
  have hle := h.le
  refine ⟨q1, ⟨h1, h.r.keep fun i hi ho => h3.block i hi fun e => h.d i e ho, fun i hi ho => ?_, fun i hi => ?_, h.bR⟩, h3.below hle fun i hi e => by have := h.bl i e; omega, h3.block, h3.size⟩
  · rcases hof i hi with e | e
    · exact h.d i e ho
    · have := h.r.lt i ho; omega
  · rcases hof i hi with e | e
    · exact h.bl i e
    · omega
theorem Dp.right {B : Nat} {w w' : World} {b br p : Nat} {q : Option Nat} {p' : Nat} {q' : Option Nat} {M N N' : Wm} (h : Dp B w b br p q p' q' M N) (ha : After 31 br p' q' N' w w') :
    ∃ q1, Dp B w' b br p q p' q1 M N' ∧ Below B w w' ∧ (∀ i, i < w.heap.size → ¬ Of br p' q' i → w'.heap[i]? = w.heap[i]?) ∧ w.heap.size ≤ w'.heap.size := by
  obtain ⟨q1, h1, h2, h3⟩ := ha
  have hof : ∀ i, Of br p' q1 i → Of br p' q' i ∨ w.heap.size ≤ i := fun i hi => by
    rcases hi with e | e | e
    · exact .inl (.inl e)
    · exact .inl (.inr (.inl e))
    · exact (h2 i e).imp (fun e => .inr (.inr e)) id
  have hle := h.le
  refine ⟨q1, ⟨h.l.keep fun i hi ho => h3.block i hi fun e => h.d i ho e, h1, fun i hi ho => ?_, h.bl, fun i hi => ?_⟩, h3.below hle fun i hi e => by have := h.bR i e; omega, h3.block, h3.size⟩
  · rcases hof i ho with e | e
    · exact h.d i hi e
    · have := h.l.lt i hi; omega
  · rcases hof i hi with e | e
    · exact h.bR i e
    · omega
/-- both memories are M -/
def Du (B : Nat) (w : World) (b br : Nat) (M : Wm) : Prop := ∃ p q p' q', Dp B w b br p q p' q' M M
theorem Du.below {B : Nat} {w w' : World} {b br : Nat} {M : Wm} (h : Du B w b br M) (hb : Below w.heap.size w w') : Du B w' b br M := by
  obtain ⟨p, q, p', q', h⟩ := h
  exact ⟨p, q, p', q', h.below hb⟩
/-- the numbers of a deed -/
structure BdD1 (x : Dd) : Prop where
  d0 : 0 ≤ x.d
  d1 : x.d ≤ 255
  t0 : -9223372036854775808 ≤ x.t
  t1 : x.t ≤ 9223372036854775807
  a0 : -9223372036854775808 ≤ x.a
  a1 : x.a ≤ 9223372036854775807
  o0 : 0 ≤ x.o
  o1 : x.o ≤ 18446744073709551615
  v0 : 0 ≤ x.v
  v1 : x.v ≤ 18446744073709551615
def BdD (l : List Dd) : Prop := ∀ x, x ∈ l → BdD1 x
/-- what a deed makes of the memory, where its thread and address may not exist -/
def Wm.does (M : Wm) (x : Dd) : Wm := if x.d % 5 = 4 then M else M.after (M.err x.t x.a) (M.deed x)
def ClP (B b br : Nat) (M : Wm) (w : World) (e : Ending) (w' : World) : Prop := e = .returned (.bool true) ∧ Du B w' b br M ∧ Below B w w'
theorem loadZ (b p : Nat) (q : Option Nat) (M : Wm) (t a : Int)  (z y : Int) (w : World) (h : At 75 w b p q M) (hL : M.L.length ≤ 50000) (hy : y = M.err t a) (hz : z = if M.err t a = 0 then M.get a else 0) :
    Calls Try.prog 24 #[.pointer (some ⟨b, 0, none⟩), .int .i64 t, .int .i64 a] w fun e w' => e = .returned (.tuple #[.int .u64 z, .int .i64 y]) ∧ After 75 b p q (M.after y (M.load t a)) w w' := by
  subst hy hz
  exact load_any b p q M t a  w h hL 
theorem loadRZ (b p : Nat) (q : Option Nat) (M : Wm) (t a : Int)  (z y : Int) (w : World) (h : At 31 w b p q M) (hL : M.L.length ≤ 50000) (hy : y = M.err t a) (hz : z = if M.err t a = 0 then M.get a else 0) :
    Calls Try.prog 32 #[.pointer (some ⟨b, 0, none⟩), .int .i64 t, .int .i64 a] w fun e w' => e = .returned (.tuple #[.int .u64 z, .int .i64 y]) ∧ After 31 b p q (M.after y (M.load t a)) w w' := by
  subst hy hz
  exact loadR_any b p q M t a  w h hL 
theorem storeZ (b p : Nat) (q : Option Nat) (M : Wm) (t a : Int) (x : Int) (y : Int) (w : World) (h : At 75 w b p q M) (hL : M.L.length ≤ 50000) (x0 : 0 ≤ x) (x1 : x ≤ 18446744073709551615) (hy : y = M.err t a) :
    Calls Try.prog 26 #[.pointer (some ⟨b, 0, none⟩), .int .i64 t, .int .i64 a, .int .u64 x] w fun e w' => e = .returned (.int .i64 y) ∧ After 75 b p q (M.after y (M.stor t a x)) w w' := by
  subst hy
  exact store_any b p q M t a x w h hL x0 x1
theorem storeRZ (b p : Nat) (q : Option Nat) (M : Wm) (t a : Int) (x : Int) (y : Int) (w : World) (h : At 31 w b p q M) (hL : M.L.length ≤ 50000) (x0 : 0 ≤ x) (x1 : x ≤ 18446744073709551615) (hy : y = M.err t a) :
    Calls Try.prog 33 #[.pointer (some ⟨b, 0, none⟩), .int .i64 t, .int .i64 a, .int .u64 x] w fun e w' => e = .returned (.int .i64 y) ∧ After 31 b p q (M.after y (M.stor t a x)) w w' := by
  subst hy
  exact storeR_any b p q M t a x w h hL x0 x1
theorem addZ (b p : Nat) (q : Option Nat) (M : Wm) (t a : Int) (x : Int) (z y : Int) (w : World) (h : At 75 w b p q M) (hL : M.L.length ≤ 50000) (x0 : 0 ≤ x) (x1 : x ≤ 18446744073709551615) (hy : y = M.err t a) (hz : z = if M.err t a = 0 then M.sum a x else 0) :
    Calls Try.prog 23 #[.pointer (some ⟨b, 0, none⟩), .int .i64 t, .int .i64 a, .int .u64 x] w fun e w' => e = .returned (.tuple #[.int .u64 z, .int .i64 y]) ∧ After 75 b p q (M.after y (M.addw t a x)) w w' := by
  subst hy hz
  exact add_any b p q M t a x w h hL x0 x1
theorem addRZ (b p : Nat) (q : Option Nat) (M : Wm) (t a : Int) (x : Int) (z y : Int) (w : World) (h : At 31 w b p q M) (hL : M.L.length ≤ 50000) (x0 : 0 ≤ x) (x1 : x ≤ 18446744073709551615) (hy : y = M.err t a) (hz : z = if M.err t a = 0 then M.sum a x else 0) :
    Calls Try.prog 34 #[.pointer (some ⟨b, 0, none⟩), .int .i64 t, .int .i64 a, .int .u64 x] w fun e w' => e = .returned (.tuple #[.int .u64 z, .int .i64 y]) ∧ After 31 b p q (M.after y (M.addw t a x)) w w' := by
  subst hy hz
  exact addR_any b p q M t a x w h hL x0 x1
theorem casZ (b p : Nat) (q : Option Nat) (M : Wm) (t a : Int) (o x : Int) (z : Bool) (y : Int) (w : World) (h : At 75 w b p q M) (hL : M.L.length ≤ 50000) (x0 : 0 ≤ x) (x1 : x ≤ 18446744073709551615) (hy : y = M.err t a) (hz : z = decide (M.err t a = 0 ∧ M.get a = o)) :
    Calls Try.prog 25 #[.pointer (some ⟨b, 0, none⟩), .int .i64 t, .int .i64 a, .int .u64 o, .int .u64 x] w fun e w' => e = .returned (.tuple #[.bool z, .int .i64 y]) ∧ After 75 b p q (M.after y (M.cas t a o x)) w w' := by
  subst hy hz
  exact cas_any b p q M t a o x w h hL x0 x1
theorem casRZ (b p : Nat) (q : Option Nat) (M : Wm) (t a : Int) (o x : Int) (z : Bool) (y : Int) (w : World) (h : At 31 w b p q M) (hL : M.L.length ≤ 50000) (x0 : 0 ≤ x) (x1 : x ≤ 18446744073709551615) (hy : y = M.err t a) (hz : z = decide (M.err t a = 0 ∧ M.get a = o)) :
    Calls Try.prog 35 #[.pointer (some ⟨b, 0, none⟩), .int .i64 t, .int .i64 a, .int .u64 o, .int .u64 x] w fun e w' => e = .returned (.tuple #[.bool z, .int .i64 y]) ∧ After 31 b p q (M.after y (M.cas t a o x)) w w' := by
  subst hy hz
  exact casR_any b p q M t a o x w h hL x0 x1
set_option maxRecDepth 100000 in
set_option maxHeartbeats 4000000 in
theorem call_0 (B b br : Nat) (M : Wm) (w : World) (x : Dd) (h : Du B w b br M) (bx : BdD1 x) (hL : M.L.length ≤ 40000) (c : x.d % 5 = 0) :
    Calls Try.prog 13 #[.agg #[.int .u8 x.d, .int .i64 x.t, .int .i64 x.a, .int .u64 x.o, .int .u64 x.v], .pointer (some ⟨b, 0, none⟩), .pointer (some ⟨br, 0, none⟩)] w (ClP B b br (M.does x) w) := by
  have u0 : (x.d % 5 == 0) = true := by simp [c]
  have hM : M.does x = M.after (M.err x.t x.a) (M.load x.t x.a) := by unfold Wm.does; rw [if_neg (by omega)]; unfold Wm.deed; simp [c]
  rw [hM]
  have d0 := bx.d0
  have d1 := bx.d1
  have v0 := bx.v0
  have v1 := bx.v1
  clear c hM
  obtain ⟨p, q, p', q', h⟩ := h
  obtain ⟨y, hy⟩ : ∃ y, y = M.err x.t x.a := ⟨_, rfl⟩
  have HY := Lib.hid hy
  obtain ⟨z, hz⟩ : ∃ z, z = (if M.err x.t x.a = 0 then M.get x.a else 0) := ⟨_, rfl⟩
  have HZ := Lib.hid hz
  clear hz
  rw [← hy]
  clear hy
  have bB : Below w.heap.size w (w.alloc (.cells #[.int .u8 x.d, .int .i64 x.t, .int .i64 x.a, .int .u64 x.o, .int .u64 x.v] 33)) := bel_alloc (Below.refl _ _) _
  have hle := h.le
  have hnb : ¬ Of b p q w.heap.size := fun e => by have := h.l.lt _ e; omega
  have hnr : ∀ i, i = w.heap.size → ¬ Of br p' q' i := fun i hi e => by have := h.r.lt _ e; omega
  have DP := Lib.hid (h.below bB)
  have BW := Lib.hid (bB.mono hle)
  have k1 : (w.alloc (.cells #[.int .u8 x.d, .int .i64 x.t, .int .i64 x.a, .int .u64 x.o, .int .u64 x.v] 33)).cell? ⟨w.heap.size, 1, none⟩ = some (.int .i64 x.t) := by simp
  have k2 : (w.alloc (.cells #[.int .u8 x.d, .int .i64 x.t, .int .i64 x.a, .int .u64 x.o, .int .u64 x.v] 33)).cell? ⟨w.heap.size, 2, none⟩ = some (.int .i64 x.a) := by simp
  have k3 : (w.alloc (.cells #[.int .u8 x.d, .int .i64 x.t, .int .i64 x.a, .int .u64 x.o, .int .u64 x.v] 33)).cell? ⟨w.heap.size, 3, none⟩ = some (.int .u64 x.o) := by simp
  have k4 : (w.alloc (.cells #[.int .u8 x.d, .int .i64 x.t, .int .i64 x.a, .int .u64 x.o, .int .u64 x.v] 33)).cell? ⟨w.heap.size, 4, none⟩ = some (.int .u64 x.v) := by simp
  have hsz : (w.alloc (.cells #[.int .u8 x.d, .int .i64 x.t, .int .i64 x.a, .int .u64 x.o, .int .u64 x.v] 33)).heap.size = w.heap.size + 1 := by simp
  clear h bB bx
  go_enter Try.func13, Try.ntmps13
  go_wp2_with fail
  generalize w.alloc (.cells #[.int .u8 x.d, .int .i64 x.t, .int .i64 x.a, .int .u64 x.o, .int .u64 x.v] 33) = W1 at *
  refine (loadZ b p q M x.t x.a z y W1 DP.out.l (by omega) HY.out HZ.out).mono ?_
  rintro r W2 ⟨rfl, ha⟩
  obtain ⟨q1, dp, b2, keep, hs2⟩ := DP.out.left ha
  have DP2 := Lib.hid dp
  have B2 := Lib.hid (BW.out.trans b2)
  have kk : W2.heap[w.heap.size]? = W1.heap[w.heap.size]? := keep _ (by omega) hnb
  have k1 := (World.cell?_of_block (a := ⟨w.heap.size, 1, none⟩) kk).trans k1
  have k2 := (World.cell?_of_block (a := ⟨w.heap.size, 2, none⟩) kk).trans k2
  have k3 := (World.cell?_of_block (a := ⟨w.heap.size, 3, none⟩) kk).trans k3
  have k4 := (World.cell?_of_block (a := ⟨w.heap.size, 4, none⟩) kk).trans k4
  clear ha dp b2 keep kk DP BW hs2
  go_wp2_with fail
  refine (loadRZ br p' q' M x.t x.a z y W2 DP2.out.r (by omega) HY.out HZ.out).mono ?_
  rintro r W3 ⟨rfl, ha⟩
  obtain ⟨q2, dp, b3, _, _⟩ := DP2.out.right ha
  have DP3 := Lib.hid dp
  have B3 := Lib.hid (B2.out.trans b3)
  clear ha dp b3 DP2 B2
  go_wp2
  go_ret
  exact ⟨rfl, ⟨p, q1, p', q2, DP3.out⟩, B3.out⟩

set_option maxRecDepth 100000 in
set_option maxHeartbeats 4000000 in
theorem call_1 (B b br : Nat) (M : Wm) (w : World) (x : Dd) (h : Du B w b br M) (bx : BdD1 x) (hL : M.L.length ≤ 40000) (c : x.d % 5 = 1) :
    Calls Try.prog 13 #[.agg #[.int .u8 x.d, .int .i64 x.t, .int .i64 x.a, .int .u64 x.o, .int .u64 x.v], .pointer (some ⟨b, 0, none⟩), .pointer (some ⟨br, 0, none⟩)] w (ClP B b br (M.does x) w) := by
  have u0 : (x.d % 5 == 0) = false := by simp [c]
  have u1 : (x.d % 5 == 1) = true := by simp [c]
  have hM : M.does x = M.after (M.err x.t x.a) (M.stor x.t x.a x.v) := by unfold Wm.does; rw [if_neg (by omega)]; unfold Wm.deed; simp [c]
  rw [hM]
  have d0 := bx.d0
  have d1 := bx.d1
  have v0 := bx.v0
  have v1 := bx.v1
  clear c hM
  obtain ⟨p, q, p', q', h⟩ := h
  obtain ⟨y, hy⟩ : ∃ y, y = M.err x.t x.a := ⟨_, rfl⟩
  have HY := Lib.hid hy
  rw [← hy]
  clear hy
  have bB : Below w.heap.size w (w.alloc (.cells #[.int .u8 x.d, .int .i64 x.t, .int .i64 x.a, .int .u64 x.o, .int .u64 x.v] 33)) := bel_alloc (Below.refl _ _) _
  have hle := h.le
  have hnb : ¬ Of b p q w.heap.size := fun e => by have := h.l.lt _ e; omega
  have hnr : ∀ i, i = w.heap.size → ¬ Of br p' q' i := fun i hi e => by have := h.r.lt _ e; omega
  have DP := Lib.hid (h.below bB)
  have BW := Lib.hid (bB.mono hle)
  have k1 : (w.alloc (.cells #[.int .u8 x.d, .int .i64 x.t, .int .i64 x.a, .int .u64 x.o, .int .u64 x.v] 33)).cell? ⟨w.heap.size, 1, none⟩ = some (.int .i64 x.t) := by simp
  have k2 : (w.alloc (.cells #[.int .u8 x.d, .int .i64 x.t, .int .i64 x.a, .int .u64 x.o, .int .u64 x.v] 33)).cell? ⟨w.heap.size, 2, none⟩ = some (.int .i64 x.a) := by simp
  have k3 : (w.alloc (.cells #[.int .u8 x.d, .int .i64 x.t, .int .i64 x.a, .int .u64 x.o, .int .u64 x.v] 33)).cell? ⟨w.heap.size, 3, none⟩ = some (.int .u64 x.o) := by simp
  have k4 : (w.alloc (.cells #[.int .u8 x.d, .int .i64 x.t, .int .i64 x.a, .int .u64 x.o, .int .u64 x.v] 33)).cell? ⟨w.heap.size, 4, none⟩ = some (.int .u64 x.v) := by simp
  have hsz : (w.alloc (.cells #[.int .u8 x.d, .int .i64 x.t, .int .i64 x.a, .int .u64 x.o, .int .u64 x.v] 33)).heap.size = w.heap.size + 1 := by simp
  clear h bB bx
  go_enter Try.func13, Try.ntmps13
  go_wp2_with fail
  generalize w.alloc (.cells #[.int .u8 x.d, .int .i64 x.t, .int .i64 x.a, .int .u64 x.o, .int .u64 x.v] 33) = W1 at *
  have DPd := Lib.hid (DP.out.below (below_drewN (Below.refl _ W1) 1))
  have BWd := Lib.hid (below_drewN BW.out 1)
  have l1 := Lib.hid (show W1.drew.cell? ⟨w.heap.size, 1, none⟩ = some (.int .i64 x.t) from k1)
  have l2 := Lib.hid (show W1.drew.cell? ⟨w.heap.size, 2, none⟩ = some (.int .i64 x.a) from k2)
  have l4 := Lib.hid (show W1.drew.cell? ⟨w.heap.size, 4, none⟩ = some (.int .u64 x.v) from k4)
  clear k3 DP BW
  go_region_held3 (fun w' => w'.cell? ⟨w.heap.size, 1, none⟩ = some (.int .i64 x.t) ∧ w'.cell? ⟨w.heap.size, 2, none⟩ = some (.int .i64 x.a) ∧ w'.cell? ⟨w.heap.size, 4, none⟩ = some (.int .u64 x.v)) (first | exact ⟨m1, m2, m4⟩ | exact ⟨n1, n2, n4⟩ | exact ⟨l1.out, l2.out, l4.out⟩ | go_keep) (first
    | (go_at_call 26; refine (storeZ b p q M x.t x.a x.v y _ DPd.out.l (by omega) v0 v1 HY.out).mono ?_; rintro r W2 ⟨rfl, ha⟩; obtain ⟨q1, dp, b2, keep, hs2⟩ := DPd.out.left ha; have DP2 := Lib.hid dp; have B2 := Lib.hid (BWd.out.trans b2); have kk := keep w.heap.size (by show w.heap.size < W1.heap.size; omega) hnb; have n1 := (World.cell?_of_block (a := ⟨w.heap.size, 1, none⟩) kk).trans l1.out; have n2 := (World.cell?_of_block (a := ⟨w.heap.size, 2, none⟩) kk).trans l2.out; have n4 := (World.cell?_of_block (a := ⟨w.heap.size, 4, none⟩) kk).trans l4.out; have hs3 := Nat.lt_of_lt_of_le (show w.heap.size < W1.drew.heap.size by show w.heap.size < W1.heap.size; omega) hs2; clear ha dp b2 keep kk hs2)
    | (go_at_call 33; refine (storeRZ br p' q' M x.t x.a x.v y _ DP2.out.r (by omega) v0 v1 HY.out).mono ?_; rintro r W3 ⟨rfl, ha⟩; obtain ⟨q2, dp, b3, keep, _⟩ := DP2.out.right ha; have DP3 := Lib.hid dp; have B3 := Lib.hid (B2.out.trans b3); have kk := keep w.heap.size hs3 (hnr _ rfl); have m1 := (World.cell?_of_block (a := ⟨w.heap.size, 1, none⟩) kk).trans n1; have m2 := (World.cell?_of_block (a := ⟨w.heap.size, 2, none⟩) kk).trans n2; have m4 := (World.cell?_of_block (a := ⟨w.heap.size, 4, none⟩) kk).trans n4; clear ha dp b3 keep kk))
  all_goals go_wp2
  all_goals go_ret
  all_goals exact ⟨rfl, ⟨p, q1, p', q2, DP3.out⟩, B3.out⟩

set_option maxRecDepth 100000 in
set_option maxHeartbeats 4000000 in
theorem call_2 (B b br : Nat) (M : Wm) (w : World) (x : Dd) (h : Du B w b br M) (bx : BdD1 x) (hL : M.L.length ≤ 40000) (c : x.d % 5 = 2) :
    Calls Try.prog 13 #[.agg #[.int .u8 x.d, .int .i64 x.t, .int .i64 x.a, .int .u64 x.o, .int .u64 x.v], .pointer (some ⟨b, 0, none⟩), .pointer (some ⟨br, 0, none⟩)] w (ClP B b br (M.does x) w) := by
  have u0 : (x.d % 5 == 0) = false := by simp [c]
  have u1 : (x.d % 5 == 1) = false := by simp [c]
  have u2 : (x.d % 5 == 2) = true := by simp [c]
  have hM : M.does x = M.after (M.err x.t x.a) (M.addw x.t x.a x.v) := by unfold Wm.does; rw [if_neg (by omega)]; unfold Wm.deed; simp [c]
  rw [hM]
  have d0 := bx.d0
  have d1 := bx.d1
  have v0 := bx.v0
  have v1 := bx.v1
  clear c hM
  obtain ⟨p, q, p', q', h⟩ := h
  obtain ⟨y, hy⟩ : ∃ y, y = M.err x.t x.a := ⟨_, rfl⟩
  have HY := Lib.hid hy
  obtain ⟨z, hz⟩ : ∃ z, z = (if M.err x.t x.a = 0 then M.sum x.a x.v else 0) := ⟨_, rfl⟩
  have HZ := Lib.hid hz
  clear hz
  rw [← hy]
  clear hy
  have bB : Below w.heap.size w (w.alloc (.cells #[.int .u8 x.d, .int .i64 x.t, .int .i64 x.a, .int .u64 x.o, .int .u64 x.v] 33)) := bel_alloc (Below.refl _ _) _
  have hle := h.le
  have hnb : ¬ Of b p q w.heap.size := fun e => by have := h.l.lt _ e; omega
  have hnr : ∀ i, i = w.heap.size → ¬ Of br p' q' i := fun i hi e => by have := h.r.lt _ e; omega
  have DP := Lib.hid (h.below bB)
  have BW := Lib.hid (bB.mono hle)
  have k1 : (w.alloc (.cells #[.int .u8 x.d, .int .i64 x.t, .int .i64 x.a, .int .u64 x.o, .int .u64 x.v] 33)).cell? ⟨w.heap.size, 1, none⟩ = some (.int .i64 x.t) := by simp
  have k2 : (w.alloc (.cells #[.int .u8 x.d, .int .i64 x.t, .int .i64 x.a, .int .u64 x.o, .int .u64 x.v] 33)).cell? ⟨w.heap.size, 2, none⟩ = some (.int .i64 x.a) := by simp
  have k3 : (w.alloc (.cells #[.int .u8 x.d, .int .i64 x.t, .int .i64 x.a, .int .u64 x.o, .int .u64 x.v] 33)).cell? ⟨w.heap.size, 3, none⟩ = some (.int .u64 x.o) := by simp
  have k4 : (w.alloc (.cells #[.int .u8 x.d, .int .i64 x.t, .int .i64 x.a, .int .u64 x.o, .int .u64 x.v] 33)).cell? ⟨w.heap.size, 4, none⟩ = some (.int .u64 x.v) := by simp
  have hsz : (w.alloc (.cells #[.int .u8 x.d, .int .i64 x.t, .int .i64 x.a, .int .u64 x.o, .int .u64 x.v] 33)).heap.size = w.heap.size + 1 := by simp
  clear h bB bx
  go_enter Try.func13, Try.ntmps13
  go_wp2_with fail
  generalize w.alloc (.cells #[.int .u8 x.d, .int .i64 x.t, .int .i64 x.a, .int .u64 x.o, .int .u64 x.v] 33) = W1 at *
  refine (addZ b p q M x.t x.a x.v z y W1 DP.out.l (by omega) v0 v1 HY.out HZ.out).mono ?_
  rintro r W2 ⟨rfl, ha⟩
  obtain ⟨q1, dp, b2, keep, hs2⟩ := DP.out.left ha
  have DP2 := Lib.hid dp
  have B2 := Lib.hid (BW.out.trans b2)
  have kk : W2.heap[w.heap.size]? = W1.heap[w.heap.size]? := keep _ (by omega) hnb
  have k1 := (World.cell?_of_block (a := ⟨w.heap.size, 1, none⟩) kk).trans k1
  have k2 := (World.cell?_of_block (a := ⟨w.heap.size, 2, none⟩) kk).trans k2
  have k3 := (World.cell?_of_block (a := ⟨w.heap.size, 3, none⟩) kk).trans k3
  have k4 := (World.cell?_of_block (a := ⟨w.heap.size, 4, none⟩) kk).trans k4
  clear ha dp b2 keep kk DP BW hs2
  go_wp2_with fail
  refine (addRZ br p' q' M x.t x.a x.v z y W2 DP2.out.r (by omega) v0 v1 HY.out HZ.out).mono ?_
  rintro r W3 ⟨rfl, ha⟩
  obtain ⟨q2, dp, b3, _, _⟩ := DP2.out.right ha
  have DP3 := Lib.hid dp
  have B3 := Lib.hid (B2.out.trans b3)
  clear ha dp b3 DP2 B2
  go_wp2
  go_ret
  exact ⟨rfl, ⟨p, q1, p', q2, DP3.out⟩, B3.out⟩

set_option maxRecDepth 100000 in
set_option maxHeartbeats 4000000 in
theorem call_3 (B b br : Nat) (M : Wm) (w : World) (x : Dd) (h : Du B w b br M) (bx : BdD1 x) (hL : M.L.length ≤ 40000) (c : x.d % 5 = 3) :
    Calls Try.prog 13 #[.agg #[.int .u8 x.d, .int .i64 x.t, .int .i64 x.a, .int .u64 x.o, .int .u64 x.v], .pointer (some ⟨b, 0, none⟩), .pointer (some ⟨br, 0, none⟩)] w (ClP B b br (M.does x) w) := by
  have u0 : (x.d % 5 == 0) = false := by simp [c]
  have u1 : (x.d % 5 == 1) = false := by simp [c]
  have u2 : (x.d % 5 == 2) = false := by simp [c]
  have u3 : (x.d % 5 == 3) = true := by simp [c]
  have hM : M.does x = M.after (M.err x.t x.a) (M.cas x.t x.a x.o x.v) := by unfold Wm.does; rw [if_neg (by omega)]; unfold Wm.deed; simp [c]
  rw [hM]
  have d0 := bx.d0
  have d1 := bx.d1
  have v0 := bx.v0
  have v1 := bx.v1
  clear c hM
  obtain ⟨p, q, p', q', h⟩ := h
  obtain ⟨y, hy⟩ : ∃ y, y = M.err x.t x.a := ⟨_, rfl⟩
  have HY := Lib.hid hy
  obtain ⟨z, hz⟩ : ∃ z, z = (decide (M.err x.t x.a = 0 ∧ M.get x.a = x.o)) := ⟨_, rfl⟩
  have HZ := Lib.hid hz
  clear hz
  rw [← hy]
  clear hy
  have bB : Below w.heap.size w (w.alloc (.cells #[.int .u8 x.d, .int .i64 x.t, .int .i64 x.a, .int .u64 x.o, .int .u64 x.v] 33)) := bel_alloc (Below.refl _ _) _
  have hle := h.le
  have hnb : ¬ Of b p q w.heap.size := fun e => by have := h.l.lt _ e; omega
  have hnr : ∀ i, i = w.heap.size → ¬ Of br p' q' i := fun i hi e => by have := h.r.lt _ e; omega
  have DP := Lib.hid (h.below bB)
  have BW := Lib.hid (bB.mono hle)
  have k1 : (w.alloc (.cells #[.int .u8 x.d, .int .i64 x.t, .int .i64 x.a, .int .u64 x.o, .int .u64 x.v] 33)).cell? ⟨w.heap.size, 1, none⟩ = some (.int .i64 x.t) := by simp
  have k2 : (w.alloc (.cells #[.int .u8 x.d, .int .i64 x.t, .int .i64 x.a, .int .u64 x.o, .int .u64 x.v] 33)).cell? ⟨w.heap.size, 2, none⟩ = some (.int .i64 x.a) := by simp
  have k3 : (w.alloc (.cells #[.int .u8 x.d, .int .i64 x.t, .int .i64 x.a, .int .u64 x.o, .int .u64 x.v] 33)).cell? ⟨w.heap.size, 3, none⟩ = some (.int .u64 x.o) := by simp
  have k4 : (w.alloc (.cells #[.int .u8 x.d, .int .i64 x.t, .int .i64 x.a, .int .u64 x.o, .int .u64 x.v] 33)).cell? ⟨w.heap.size, 4, none⟩ = some (.int .u64 x.v) := by simp
  have hsz : (w.alloc (.cells #[.int .u8 x.d, .int .i64 x.t, .int .i64 x.a, .int .u64 x.o, .int .u64 x.v] 33)).heap.size = w.heap.size + 1 := by simp
  clear h bB bx
  go_enter Try.func13, Try.ntmps13
  go_wp2_with fail
  generalize w.alloc (.cells #[.int .u8 x.d, .int .i64 x.t, .int .i64 x.a, .int .u64 x.o, .int .u64 x.v] 33) = W1 at *
  refine (casZ b p q M x.t x.a x.o x.v z y W1 DP.out.l (by omega) v0 v1 HY.out HZ.out).mono ?_
  rintro r W2 ⟨rfl, ha⟩
  obtain ⟨q1, dp, b2, keep, hs2⟩ := DP.out.left ha
  have DP2 := Lib.hid dp
  have B2 := Lib.hid (BW.out.trans b2)
  have kk : W2.heap[w.heap.size]? = W1.heap[w.heap.size]? := keep _ (by omega) hnb
  have k1 := (World.cell?_of_block (a := ⟨w.heap.size, 1, none⟩) kk).trans k1
  have k2 := (World.cell?_of_block (a := ⟨w.heap.size, 2, none⟩) kk).trans k2
  have k3 := (World.cell?_of_block (a := ⟨w.heap.size, 3, none⟩) kk).trans k3
  have k4 := (World.cell?_of_block (a := ⟨w.heap.size, 4, none⟩) kk).trans k4
  clear ha dp b2 keep kk DP BW hs2
  go_wp2_with fail
  refine (casRZ br p' q' M x.t x.a x.o x.v z y W2 DP2.out.r (by omega) v0 v1 HY.out HZ.out).mono ?_
  rintro r W3 ⟨rfl, ha⟩
  obtain ⟨q2, dp, b3, _, _⟩ := DP2.out.right ha
  have DP3 := Lib.hid dp
  have B3 := Lib.hid (B2.out.trans b3)
  clear ha dp b3 DP2 B2
  go_wp2
  go_ret
  exact ⟨rfl, ⟨p, q1, p', q2, DP3.out⟩, B3.out⟩

set_option maxRecDepth 100000 in
set_option maxHeartbeats 4000000 in
theorem call_4 (B b br : Nat) (M : Wm) (w : World) (x : Dd) (h : Du B w b br M) (bx : BdD1 x) (hL : M.L.length ≤ 40000) (c : x.d % 5 = 4) :
    Calls Try.prog 13 #[.agg #[.int .u8 x.d, .int .i64 x.t, .int .i64 x.a, .int .u64 x.o, .int .u64 x.v], .pointer (some ⟨b, 0, none⟩), .pointer (some ⟨br, 0, none⟩)] w (ClP B b br (M.does x) w) := by
  have u0 : (x.d % 5 == 0) = false := by simp [c]
  have u1 : (x.d % 5 == 1) = false := by simp [c]
  have u2 : (x.d % 5 == 2) = false := by simp [c]
  have u3 : (x.d % 5 == 3) = false := by simp [c]
  have hM : M.does x = M := by unfold Wm.does; rw [if_pos c]
  rw [hM]
  have d0 := bx.d0
  have d1 := bx.d1
  have v0 := bx.v0
  have v1 := bx.v1
  clear c hM
  obtain ⟨p, q, p', q', h⟩ := h
  have bB : Below w.heap.size w (w.alloc (.cells #[.int .u8 x.d, .int .i64 x.t, .int .i64 x.a, .int .u64 x.o, .int .u64 x.v] 33)) := bel_alloc (Below.refl _ _) _
  have hle := h.le
  have hnb : ¬ Of b p q w.heap.size := fun e => by have := h.l.lt _ e; omega
  have hnr : ∀ i, i = w.heap.size → ¬ Of br p' q' i := fun i hi e => by have := h.r.lt _ e; omega
  have DP := Lib.hid (h.below bB)
  have BW := Lib.hid (bB.mono hle)
  have k1 : (w.alloc (.cells #[.int .u8 x.d, .int .i64 x.t, .int .i64 x.a, .int .u64 x.o, .int .u64 x.v] 33)).cell? ⟨w.heap.size, 1, none⟩ = some (.int .i64 x.t) := by simp
  have k2 : (w.alloc (.cells #[.int .u8 x.d, .int .i64 x.t, .int .i64 x.a, .int .u64 x.o, .int .u64 x.v] 33)).cell? ⟨w.heap.size, 2, none⟩ = some (.int .i64 x.a) := by simp
  have k3 : (w.alloc (.cells #[.int .u8 x.d, .int .i64 x.t, .int .i64 x.a, .int .u64 x.o, .int .u64 x.v] 33)).cell? ⟨w.heap.size, 3, none⟩ = some (.int .u64 x.o) := by simp
  have k4 : (w.alloc (.cells #[.int .u8 x.d, .int .i64 x.t, .int .i64 x.a, .int .u64 x.o, .int .u64 x.v] 33)).cell? ⟨w.heap.size, 4, none⟩ = some (.int .u64 x.v) := by simp
  have hsz : (w.alloc (.cells #[.int .u8 x.d, .int .i64 x.t, .int .i64 x.a, .int .u64 x.o, .int .u64 x.v] 33)).heap.size = w.heap.size + 1 := by simp
  clear h bB bx
  go_enter Try.func13, Try.ntmps13
  go_wp2_with fail
  generalize w.alloc (.cells #[.int .u8 x.d, .int .i64 x.t, .int .i64 x.a, .int .u64 x.o, .int .u64 x.v] 33) = W1 at *
  have CA := peek_any b p q M x.a W1 DP.out.l
  have CB := peekR_any br p' q' M x.a W1 DP.out.r
  unfold peekT at CA CB
  generalize (if 0 ≤ x.a ∧ x.a < M.W.length then M.get x.a else 0) = z at CA CB
  generalize decide (0 ≤ x.a ∧ x.a < M.W.length) = y at CA CB
  refine CA.mono ?_
  rintro r W2 ⟨rfl, rfl⟩
  go_wp2_with fail
  refine CB.mono ?_
  rintro r W3 ⟨rfl, rfl⟩
  clear CA CB
  go_wp2
  go_ret
  exact ⟨rfl, ⟨p, q, p', q', DP.out⟩, BW.out⟩

theorem call_any (B b br : Nat) (M : Wm) (w : World) (x : Dd) (h : Du B w b br M) (bx : BdD1 x) (hL : M.L.length ≤ 40000) :
    Calls Try.prog 13 #[.agg #[.int .u8 x.d, .int .i64 x.t, .int .i64 x.a, .int .u64 x.o, .int .u64 x.v], .pointer (some ⟨b, 0, none⟩), .pointer (some ⟨br, 0, none⟩)] w (ClP B b br (M.does x) w) := by
  rcases (show x.d % 5 = 0 ∨ x.d % 5 = 1 ∨ x.d % 5 = 2 ∨ x.d % 5 = 3 ∨ x.d % 5 = 4 by omega) with c | c | c | c | c
  · exact call_0 B b br M w x h bx hL c
  · exact call_1 B b br M w x h bx hL c
  · exact call_2 B b br M w x h bx hL c
  · exact call_3 B b br M w x h bx hL c
  · exact call_4 B b br M w x h bx hL c
end Wd
end Go.Proofs.Ytpakolaegbccdaa
