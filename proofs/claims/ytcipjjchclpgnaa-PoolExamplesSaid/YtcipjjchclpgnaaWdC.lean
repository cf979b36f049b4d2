/- A memory of package words (or of the reference) in memory; word, note, Load, Store, Add, CompareAndSwap of package words: contracts of the translated code. Conditions: the bounds of each number's kind; a log of at most 50,000 accesses. -/
import Derived.Test.YtcipjjchclpgnaaWdW
import Derived.Deep.RegionLaw
import Derived.Deep.AppendLies
namespace Go.Proofs.Ytcipjjchclpgnaa
open Go.RowKit Go.Sort
set_option linter.unusedVariables false
set_option linter.unusedSimpArgs false
set_option maxRecDepth 100000
namespace Wd
open Dm (addr_lit info_parts spot_none RdK flatU infoU bel_alloc bel_trans own_keep below_drewN)
/-- nothing changed but the blocks S -/
structure Fr (S : Nat → Prop) (w w' : World) : Prop where
  os : w'.os = w.os
  tape : w'.tape = w.tape
  output : w'.output = w.output
  size : w.heap.size ≤ w'.heap.size
  block : ∀ i, i < w.heap.size → ¬ S i → w'.heap[i]? = w.heap[i]?
theorem Fr.of_below {S : Nat → Prop} {w w' : World} (h : Below w.heap.size w w') : Fr S w w' := ⟨h.os, h.tape, h.output, h.size, fun i hi _ => h.block i hi⟩
theorem Fr.trans {S T : Nat → Prop} {w w1 w2 : World} (h : Fr S w w1) (h2 : Fr T w1 w2) (hs : ∀ i, i < w.heap.size → T i → S i) : Fr S w w2 :=
  ⟨h2.os.trans h.os, h2.tape.trans h.tape, h2.output.trans h.output, Nat.le_trans h.size h2.size, fun i hi hn => (h2.block i (Nat.lt_of_lt_of_le hi h.size) fun e => hn (hs i hi e)).trans (h.block i hi hn)⟩
theorem Fr.set {S : Nat → Prop} {w w1 : World} (h : Fr S w w1) (a : Addr) (v : Value) (ha : S a.block) : Fr S w (w1.setCell a v) :=
  ⟨h.os, h.tape, h.output, by simpa using h.size, fun i hi hn => (Below.heap_setCell w1 a v i (fun e => hn (e ▸ ha))).trans (h.block i hi hn)⟩
theorem Fr.grown {S : Nat → Prop} {w w1 w2 : World} {r : Option Nat} (h : Fr S w w1) (hg : w1.grownBy w2 r) (hr : ∀ i, r = some i → S i ∨ w.heap.size ≤ i) : Fr S w w2 :=
  ⟨hg.os.trans h.os, hg.tape.trans h.tape, hg.output.trans h.output, Nat.le_trans h.size hg.size, fun i hi hn => (hg.block i (Nat.lt_of_lt_of_le hi h.size) fun e => by
    rcases hr i e.symm with h1 | h1
    · exact hn h1
    · omega).trans (h.block i hi hn)⟩
theorem Fr.below {S : Nat → Prop} {w w' : World} {B : Nat} (h : Fr S w w') (hB : B ≤ w.heap.size) (hS : ∀ i, i < B → ¬ S i) : Below B w w' := ⟨h.os, h.tape, h.output, h.size, fun i hi => h.block i (by omega) (hS i hi)⟩
/-- at b lies the memory M: its words from ⟨p, 0⟩ on, of type ty; its log is the slice v -/
structure At0 (ty : TypeId) (w : World) (b p c : Nat) (v : Value) (M : Wm) : Prop where
  c0 : w.cell? ⟨b, 0, none⟩ = some (.slice (some ⟨p, 0, none⟩) M.W.length c)
  c1 : w.cell? ⟨b, 1, none⟩ = some v
  f1 : w.frozen? ⟨b, 1, none⟩ = false
  row : w.ownsRow 0 ty 1 (.slice (some ⟨p, 0, none⟩) M.W.length c) M.W.length (flatU M.W)
  log : w.ownsRow 0 151 6 v M.L.length (flatA M.L)
  pb : p ≠ b
  qb : v.ownBlock ≠ some b
  qp : v.ownBlock ≠ some p
  bd : BdW M.W
  n0 : 0 < M.W.length
  n1 : M.W.length ≤ 65536
variable {ty : TypeId}
theorem At0.lt {w : World} {b p c : Nat} {v : Value} {M : Wm} (h : At0 ty w b p c v M) : b < w.heap.size := World.block_lt_of_cell? w ⟨b, 0, none⟩ h.c0
theorem At0.plt {w : World} {b p c : Nat} {v : Value} {M : Wm} (h : At0 ty w b p c v M) : p < w.heap.size := (h.row.lt p rfl).2
theorem At0.keep {w w' : World} {b p c : Nat} {v : Value} {M : Wm} (h : At0 ty w b p c v M) (h1 : w'.heap[b]? = w.heap[b]?) (h2 : w'.heap[p]? = w.heap[p]?) (h3 : ∀ q, v.ownBlock = some q → w'.heap[q]? = w.heap[q]?) : At0 ty w' b p c v M :=
  ⟨(World.cell?_of_block (a := ⟨b, 0, none⟩) h1).trans h.c0, (World.cell?_of_block (a := ⟨b, 1, none⟩) h1).trans h.c1, (World.frozen?_of_block (a := ⟨b, 1, none⟩) h1).trans h.f1,
   own_keep h.row (fun g hg => by cases hg; exact h2), own_keep h.log h3, h.pb, h.qb, h.qp, h.bd, h.n0, h.n1⟩
theorem At0.below {w w' : World} {b p c : Nat} {v : Value} {M : Wm} (h : At0 ty w b p c v M) (hb : Below w.heap.size w w') : At0 ty w' b p c v M :=
  h.keep (hb.block b h.lt) (hb.block p h.plt) fun q hq => hb.block q (h.log.lt q hq).2
/-- the word at i -/
theorem At0.word {w : World} {b p c : Nat} {v : Value} {M : Wm} (h : At0 ty w b p c v M) {i : Nat} (hi : i < M.W.length) : w.cell? ⟨p, i, none⟩ = some (.int .u64 (M.get (i : Nat))) ∧ w.frozen? ⟨p, i, none⟩ = false := by
  refine ⟨?_, h.row.frozenAt i⟩
  rw [h.row.cellAt i (by omega), flatU, List.getElem?_map, M.get_in hi]; rfl
/-- a word is written -/
theorem At0.setW {w : World} {b p c : Nat} {v : Value} {M : Wm} (h : At0 ty w b p c v M) {i : Nat} {x : Int} (hi : i < M.W.length) (x0 : 0 ≤ x) (x1 : x ≤ 18446744073709551615) :
    At0 ty (w.setCell ⟨p, i, none⟩ (.int .u64 x)) b p c v ⟨M.W.set i x, M.L⟩ := by
  have hl : (M.W.set i x).length = M.W.length := by simp
  have hr := (h.row.stored i (.int .u64 x)).1
  rw [show (flatU M.W).set i (Value.int .u64 x) = flatU (M.W.set i x) by simp [flatU, List.map_set]] at hr
  have hb : (w.setCell ⟨p, i, none⟩ (.int .u64 x)).heap[b]? = w.heap[b]? := Below.heap_setCell w ⟨p, i, none⟩ _ b (fun e => h.pb e.symm)
  refine ⟨?_, (World.cell?_of_block (a := ⟨b, 1, none⟩) hb).trans h.c1, (World.frozen?_of_block (a := ⟨b, 1, none⟩) hb).trans h.f1, ?_, own_keep h.log fun q hq => Below.heap_setCell w ⟨p, i, none⟩ _ q (fun e => h.qp (hq.trans (congrArg some e))), h.pb, h.qb, h.qp, Wm.bd_set h.bd i x0 x1, ?_, ?_⟩
  · rw [hl]; exact (World.cell?_of_block (a := ⟨b, 0, none⟩) hb).trans h.c0
  · rw [hl]; exact hr
  · rw [hl]; exact h.n0
  · rw [hl]; exact h.n1
/-- an access is put behind the log -/
theorem At0.logged {w w' : World} {b p c : Nat} {v v' : Value} {M : Wm} {x : Ac} (h : At0 ty w b p c v M) (ho : w'.ownsRow 0 151 6 v' (M.L.length + 1) (flatA (M.L ++ [x]))) (hg : w.grownBy w' v.ownBlock) (hv : v'.ownBlock = v.ownBlock ∨ v'.ownBlock = some w.heap.size) :
    At0 ty (w'.setCell ⟨b, 1, none⟩ v') b p c v' ⟨M.W, M.L ++ [x]⟩ := by
  have hb : w'.heap[b]? = w.heap[b]? := hg.block b h.lt fun e => h.qb e.symm
  have hp : w'.heap[p]? = w.heap[p]? := hg.block p h.plt fun e => h.qp e.symm
  have qb : v'.ownBlock ≠ some b := fun e => by
    rcases hv with h1 | h1
    · exact h.qb (h1.symm.trans e)
    · rw [h1] at e; injection e with e; have := h.lt; omega
  have qp : v'.ownBlock ≠ some p := fun e => by
    rcases hv with h1 | h1
    · exact h.qp (h1.symm.trans e)
    · rw [h1] at e; injection e with e; have := h.plt; omega
  refine ⟨?_, World.cell?_setCell_same _ _ _ ((World.cell?_of_block (a := ⟨b, 1, none⟩) hb).trans h.c1), ?_, ?_, ?_, h.pb, qb, qp, h.bd, h.n0, h.n1⟩
  · rw [World.cell?_setCell_other _ _ _ _ (by simp)]
    exact (World.cell?_of_block (a := ⟨b, 0, none⟩) hb).trans h.c0
  · rw [World.frozen?_setCell]
    exact (World.frozen?_of_block (a := ⟨b, 1, none⟩) hb).trans h.f1
  · exact own_keep h.row fun g hg' => by
      cases hg'
      exact (Below.heap_setCell w' ⟨b, 1, none⟩ _ p h.pb).trans hp
  · rw [show (M.L ++ [x]).length = M.L.length + 1 by simp]
    exact own_keep ho fun q hq => Below.heap_setCell w' ⟨b, 1, none⟩ _ q (fun e => qb (hq.trans (congrArg some e)))
/-- a memory at b, with its words at p and its log in the block q -/
def At (ty : TypeId) (w : World) (b p : Nat) (q : Option Nat) (M : Wm) : Prop := ∃ c v, v.ownBlock = q ∧ At0 ty w b p c v M
theorem At.below {w w' : World} {b p : Nat} {q : Option Nat} {M : Wm} (h : At ty w b p q M) (hb : Below w.heap.size w w') : At ty w' b p q M := by
  obtain ⟨c, v, h1, h2⟩ := h
  exact ⟨c, v, h1, h2.below hb⟩
/-- the blocks of a memory -/
def Of (b p : Nat) (q : Option Nat) : Nat → Prop := fun k => k = b ∨ k = p ∨ q = some k
theorem At.keep {w w' : World} {b p : Nat} {q : Option Nat} {M : Wm} (h : At ty w b p q M) (hb : ∀ i, i < w.heap.size → Of b p q i → w'.heap[i]? = w.heap[i]?) : At ty w' b p q M := by
  obtain ⟨c, v, rfl, h2⟩ := h
  exact ⟨c, v, rfl, h2.keep (hb b h2.lt (.inl rfl)) (hb p h2.plt (.inr (.inl rfl))) fun q hq => hb q (h2.log.lt q hq).2 (.inr (.inr hq))⟩
theorem At.lt {w : World} {b p : Nat} {q : Option Nat} {M : Wm} (h : At ty w b p q M) : ∀ i, Of b p q i → i < w.heap.size := by
  obtain ⟨c, v, rfl, h2⟩ := h
  intro i hi
  rcases hi with rfl | rfl | hi
  · exact h2.lt
  · exact h2.plt
  · exact (h2.log.lt i hi).2
/-- what a call leaves: the memory M, its blocks old or new, nothing else changed -/
def After (ty : TypeId) (b p : Nat) (q : Option Nat) (M : Wm) (w w' : World) : Prop := ∃ q', At ty w' b p q' M ∧ (∀ g, q' = some g → q = some g ∨ w.heap.size ≤ g) ∧ Fr (Of b p q) w w'
theorem After.same {w w' : World} {b p : Nat} {q : Option Nat} {M : Wm} (h : At ty w b p q M) (hb : Below w.heap.size w w') : After ty b p q M w w' := ⟨q, h.below hb, fun g hg => .inl hg, Fr.of_below hb⟩
/-- behind changes of the memory's own blocks -/
theorem After.behind {w w1 w' : World} {b p : Nat} {q : Option Nat} {M : Wm} (h : After ty b p q M w1 w') (hf : Fr (Of b p q) w w1) : After ty b p q M w w' := by
  obtain ⟨q', h1, h2, h3⟩ := h
  exact ⟨q', h1, fun g hg => (h2 g hg).imp id fun h => Nat.le_trans hf.size h, hf.trans h3 fun _ _ h => h⟩
theorem After.then {w w1 w' : World} {b p : Nat} {q : Option Nat} {M : Wm} (h : After ty b p q M w w1) (hb : Below w1.heap.size w1 w') : After ty b p q M w w' := by
  obtain ⟨q', h1, h2, h3⟩ := h
  exact ⟨q', h1.below hb, h2, h3.trans (Fr.of_below (S := Of b p q) hb) fun _ _ h => h⟩
/-- 'append(l, a)' onto a row of one's own, in a region that draws -/
theorem stepA {ops : Array Oper} {o : Oper} {a : Act} {K : Act → World → Prop} {Q : Exit → Act → World → Prop} {E : Prop} (hgd : o.guard = none) (s x : Operand)
    (ho : o.op = .call { callee := .builtin .append, args := #[s, x], argTypes := #[90, 90] }) (W : World) (H : Nat) (v : Value) (ys : List Ac) (y : Ac)
    (hs : a.eval s = v) (hx : a.eval x = .slice (some ⟨H, 0, none⟩) 1 1) (hb : W.heap[H]? = some (.cells #[.int .i64 y.t, .int .i64 y.a, .int .u8 y.k, .int .u64 y.o, .int .u64 y.n, .bool y.s] 151 (0, 0))) (hown : W.ownsRow 0 151 6 v ys.length (flatA ys)) (hn : ys.length ≤ 50000)
    (h : ∀ g cap w', w'.ownsRow 0 151 6 (.slice (some ⟨g, 0, none⟩) (ys.length + 1) cap) (ys.length + 1) (flatA (ys ++ [y])) → W.grownBy w' v.ownBlock → (v.ownBlock = some g ∨ g = W.heap.size) → K (a.put o.dst (.slice (some ⟨g, 0, none⟩) (ys.length + 1) cap)) w') :
    if Region.wanted o (yielded ops a.tmps) = true then Oper.wp Try.prog o a W K Q else E := by
  obtain ⟨i0, hi, hz0, hz1, hz2⟩ := info_parts infoA
  refine step_append_lies _ hgd s x 90 ho 0 151 i0 _ 6 48 Try.underlying90 hi hz0 hz1 hz2 rfl (by omega) v ys.length (flatA ys) hs hown ⟨H, 0, none⟩ 1 1 (encA y) hx rfl
    (World.news_of_block hb) ?_ (by omega) (by unfold maxLen; omega) (by omega) (by omega) _ rfl ?_
  · intro u hu
    exact flatA_one_cell [y] u (by rw [flatA_one]; exact hu)
  · intro g cap w' h1 h2 h3 _
    rw [show flatA ys ++ encA y = flatA (ys ++ [y]) by rw [flatA_append, flatA_one]] at h1
    exact h g cap w' h1 h2 h3
theorem logged_end {w W w1 : World} {b p c g cap : Nat} {v : Value} {M : Wm} {x : Ac} (HB : Below w.heap.size w W) (HR : At0 ty W b p c v M) (hv : ∀ q, v.ownBlock = some q → q < w.heap.size)
    (own1 : w1.ownsRow 0 151 6 (.slice (some ⟨g, 0, none⟩) (M.L.length + 1) cap) (M.L.length + 1) (flatA (M.L ++ [x]))) (grow1 : W.grownBy w1 v.ownBlock) (at1 : v.ownBlock = some g ∨ g = W.heap.size) :
    After ty b p v.ownBlock ⟨M.W, M.L ++ [x]⟩ w (w1.setCell ⟨b, 1, none⟩ (.slice (some ⟨g, 0, none⟩) (M.L.length + 1) cap)) := by
  have hat := HR.logged own1 grow1 (at1.imp (fun h => h.symm) (fun h => by rw [h]; rfl))
  refine ⟨some g, ⟨c, _, rfl, hat⟩, fun g' hg => ?_, ((Fr.of_below HB).grown grow1 fun i hi => .inl (.inr (.inr hi))).set _ _ (.inl rfl)⟩
  cases hg
  exact at1.imp id fun h => by have := HB.size; omega
set_option maxRecDepth 100000 in
set_option maxHeartbeats 1000000 in
theorem note_any (b p c : Nat) (v : Value) (M : Wm) (x : Ac) (w : World) (h : At0 97 w b p c v M) (hL : M.L.length ≤ 50000) :
    Calls Try.prog 77 #[.pointer (some ⟨b, 0, none⟩), agA x] w fun e w' => e = .returned (.tuple #[]) ∧ After 97 b p v.ownBlock ⟨M.W, M.L ++ [x]⟩ w w' := by
  have c1 := h.c1
  have f1 := h.f1
  have hlt := h.lt
  have hv : ∀ q, v.ownBlock = some q → q < w.heap.size := fun q hq => (h.log.lt q hq).2
  obtain ⟨o, ho⟩ : ∃ o : Obj, o = .cells #[.int .i64 x.t, .int .i64 x.a, .int .u8 x.k, .int .u64 x.o, .int .u64 x.n, .bool x.s] 151 := ⟨_, rfl⟩
  have BB : Below w.heap.size w ((w.alloc o).alloc o).drew := below_drewN (bel_alloc (bel_alloc (Below.refl _ _) _) _) 1
  have HW := h.below BB
  have NB : ((w.alloc o).alloc o).drew.heap[w.heap.size + 1]? = some o := by
    have := heap_alloc_new (w.alloc o) o
    rw [World.size_alloc] at this; exact this
  rw [ho] at BB HW NB
  have HB := Lib.hid BB
  have HR := Lib.hid HW
  have HN := Lib.hid NB
  have HV := Lib.hid hv
  clear BB HW NB ho h hv
  unfold agA
  go_enter Try.func77, Try.ntmps77
  go_wp2
  go_region_law ((refine stepA (by rfl) (.tmp 8) (.tmp 10) (by rfl) _ _ v M.L x (by rfl) (by rfl) HN.out HR.out.log (by omega) ?_; intro g cap w1 own1 grow1 at1; have kb := grow1.block b HR.out.lt (fun e => HR.out.qb e.symm); have k1 := (World.cell?_of_block (a := ⟨b, 1, none⟩) kb).trans HR.out.c1; have k2 := (World.frozen?_of_block (a := ⟨b, 1, none⟩) kb).trans HR.out.f1))
  all_goals
    go_wp2
    go_end0
    exact ⟨rfl, logged_end HB.out HR.out HV.out own1 grow1 at1⟩
end Wd
end Go.Proofs.Ytcipjjchclpgnaa
