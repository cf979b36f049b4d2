/- lists of leapfroglaw07: contract of the translated code. Conditions: at most 80 parts, the bounds of each number's kind. -/
import Derived.Test.YtbndgbjenmknmaaDoorMsZ
import Derived.Deep.AppendLies
import Derived.Deep.MidRow
namespace Go.Proofs.YtbndgbjenmknmaaDoor
open Go.RowKit Go.Sort
set_option linter.unusedVariables false
set_option linter.unusedSimpArgs false
namespace Wk
open Hq
open Om (bel_alloc Pr bel_trans flat below_drewN)
open Mg (Pt Gp upd sub RdP P3 flatP)
open Dm (flatI RdK cell_lt)
theorem bit_val {S v : Nat} (hS : S < 18446744073709551616) : (bits .and .u64 ((S : Int) / 2 ^ v) 1 == 0) = !S.testBit v := by
  have e : (S : Int) / 2 ^ v = ((S >>> v : Nat) : Int) := by rw [Nat.shiftRight_eq_div_pow]; simp
  have hle : S >>> v ≤ S := by rw [Nat.shiftRight_eq_div_pow]; exact Nat.div_le_self _ _
  rw [e, show (1 : Int) = ((1 : Nat) : Int) from rfl, Dm.and_nat (by omega) (by decide)]
  unfold Nat.testBit
  rw [Nat.and_comm]
  generalize 1 &&& S >>> v = z
  cases z with
  | zero => rfl
  | succ z => simp; omega
theorem take_run (A : Option Addr) (n m c : Nat) (hm : m ≤ n) (hc : n ≤ c) : ∀ w : World, (Instr.sliceAt 48 (.slice A n c) none (some (.int .i64 m)) none).run Tryd.prog w = .ok (.slice A m c) w := fun w => by
  have u : Tryd.prog.underlying 48 = some (.slice (Tryd.prog.elem 48)) := by kernel_rfl
  have hmc : (m : Int) ≤ c := by omega
  simp [go_sem, Instr.sliceBounds, hmc, sliced]
theorem drop_run (A : Option Addr) (n m c : Nat) (hm : m ≤ n) (hc : n ≤ c) (h0 : A = none → c = 0) : ∃ AD cD, (AD = none → cD = 0) ∧ (∀ (w : World) (l : List Pt), l.length = n → RdP w A l → RdP w AD (l.drop m)) ∧ ∀ w : World, (Instr.sliceAt 48 (.slice A n c) (some (.int .i64 m)) none none).run Tryd.prog w = .ok (.slice AD (n - m) cD) w := by
  have u : Tryd.prog.underlying 48 = some (.slice (Tryd.prog.elem 48)) := by kernel_rfl
  have hmn : (m : Int) ≤ n := by omega
  have hnc : (n : Int) ≤ c := by omega
  have run : ∀ w : World, (Instr.sliceAt 48 (.slice A n c) (some (.int .i64 m)) none none).run Tryd.prog w = .ok (sliced A m n c 3) w := fun w => by
    simp [go_sem, Instr.sliceBounds, hmn, hnc]
  by_cases hc1 : m = c
  · have e : sliced A m n c 3 = .slice A (n - m) 0 := by
      unfold sliced
      rw [if_pos hc1.symm, hc1]; simp
    rw [e] at run
    exact ⟨A, 0, fun _ => rfl, fun w l hl h i x hi => (by rw [List.getElem?_drop, List.getElem?_eq_none (by omega)] at hi; cases hi), run⟩
  · have e : sliced A m n c 3 = .slice (A.map fun a => a.add (m * 3)) (n - m) (c - m) := by
      unfold sliced
      rw [if_neg (fun e => hc1 e.symm)]
    rw [e] at run
    refine ⟨_, _, fun h => ?_, fun w l _ h => h.drop m, run⟩
    cases A with
    | none => have := h0 rfl; omega
    | some ad => cases h
/-- the array that is filled: the value of each place, a row of the call's own; no two rows in one block -/
structure Ot (H : Nat) (w : World) (ob : Nat) (R : Nat → List Pr) (V : Nat → Value) : Prop where
  c : ∀ v, v < 64 → w.cell? ⟨ob, v, none⟩ = some (V v)
  f : ∀ v, v < 64 → w.frozen? ⟨ob, v, none⟩ = false
  o : ∀ v, v < 64 → w.ownsRow H 39 2 (V v) (R v).length (flat (R v))
  d : ∀ u v g, u < 64 → v < 64 → u ≠ v → (V u).ownBlock = some g → (V v).ownBlock ≠ some g
  lt : ob < H
theorem Ot.below {H : Nat} {w w' : World} {ob : Nat} {R : Nat → List Pr} {V : Nat → Value} (h : Ot H w ob R V) (hb : Below w.heap.size w w') (hob : ob < w.heap.size) : Ot H w' ob R V :=
  ⟨fun v hv => (hb.cell (p := ⟨ob, v, none⟩) hob).trans (h.c v hv), fun v hv => (hb.frozen (p := ⟨ob, v, none⟩) hob).trans (h.f v hv), fun v hv => Mg.own_keep (h.o v hv) fun g hg => hb.block g ((h.o v hv).lt g hg).2, h.d, h.lt⟩
theorem Ot.congr {H : Nat} {w : World} {ob : Nat} {R R' : Nat → List Pr} {V : Nat → Value} (h : Ot H w ob R V) (e : ∀ v, v < 64 → R' v = R v) : Ot H w ob R' V :=
  ⟨h.c, h.f, fun v hv => by rw [e v hv]; exact h.o v hv, h.d, h.lt⟩
theorem Ot.next {H : Nat} {w w1 : World} {ob v : Nat} {R : Nat → List Pr} {V : Nat → Value} {x : Pr} {s : Value} (h : Ot H w ob R V) (hv : v < 64) (ho : w1.ownsRow H 39 2 s ((R v).length + 1) (flat (R v ++ [x]))) (hg : w.grownBy w1 (V v).ownBlock) (hs : s.ownBlock = (V v).ownBlock ∨ s.ownBlock = some w.heap.size) (hob : ob < w.heap.size) :
    Ot H (w1.setCell ⟨ob, v, none⟩ s) ob (upd R v (R v ++ [x])) (fun u => if u = v then s else V u) := by
  have hlt := h.lt
  have hne : some ob ≠ (V v).ownBlock := fun e => by have := ((h.o v hv).lt ob e.symm).1; omega
  have kb : w1.heap[ob]? = w.heap[ob]? := hg.block ob hob hne
  have row : ∀ u, u < 64 → u ≠ v → ∀ g, (V u).ownBlock = some g → (w1.setCell ⟨ob, v, none⟩ s).heap[g]? = w.heap[g]? := fun u hu hn g e => by
    have hl := (h.o u hu).lt g e
    rw [Go.heap_setCell_other _ _ _ _ (show g ≠ ob by omega)]
    exact hg.block g hl.2 fun e2 => h.d u v g hu hv hn e e2.symm
  refine ⟨fun u hu => ?_, fun u hu => ?_, fun u hu => ?_, fun u u' g hu hu' hn e => ?_, h.lt⟩
  · by_cases e : u = v
    · subst e
      simp only [if_pos]
      exact World.cell?_setCell_same _ _ _ ((World.cell?_of_block (a := ⟨ob, u, none⟩) kb).trans (h.c u hu))
    · simp only [if_neg e]
      rw [World.cell?_setCell_other _ _ _ _ (fun e2 => e (by injection e2 with _ e3; exact e3.symm))]
      exact (World.cell?_of_block (a := ⟨ob, u, none⟩) kb).trans (h.c u hu)
  · rw [World.frozen?_setCell]
    exact (World.frozen?_of_block (a := ⟨ob, u, none⟩) kb).trans (h.f u hu)
  · by_cases e : u = v
    · subst e
      simp only [if_pos, upd, List.length_append, List.length_cons, List.length_nil, Nat.zero_add]
      exact Mg.own_keep ho fun g e => Go.heap_setCell_other _ _ _ _ (by have := (ho.lt g e).1; show g ≠ ob; omega)
    · simp only [if_neg e, upd]
      exact Mg.own_keep (h.o u hu) (row u hu e)
  · have old : ∀ z, z < 64 → ∀ g, (V z).ownBlock = some g → g < w.heap.size := fun z hz g e => ((h.o z hz).lt g e).2
    by_cases e1 : u = v
    · subst e1
      simp only [if_pos] at e
      simp only [if_neg (fun e2 : u' = u => hn e2.symm)]
      intro e2
      rcases hs with h2 | h2
      · rw [h2] at e; exact h.d u u' g hu hu' hn e e2
      · rw [h2] at e; injection e with e; have := old u' hu' g e2; omega
    · simp only [if_neg e1] at e
      by_cases e3 : u' = v
      · subst e3
        simp only [if_pos]
        intro e2
        rcases hs with h2 | h2
        · rw [h2] at e2; exact h.d u u' g hu hu' e1 e e2
        · rw [h2] at e2; injection e2 with e2; have := old u hu g e; omega
      · simp only [if_neg e3]
        exact h.d u u' g hu hu' hn e
/-- 'append(l, p)' onto a row of one's own, in a region that draws -/
theorem stepPr {ops : Array Oper} {o : Oper} {a : Act} {K : Act → World → Prop} {Q : Exit → Act → World → Prop} {E : Prop} (hgd : o.guard = none) (s x : Operand)
    (ho : o.op = .call { callee := .builtin .append, args := #[s, x], argTypes := #[34, 34] }) (W : World) (B H : Nat) (v : Value) (ys : List Pr) (y : Pr)
    (hs : a.eval s = v) (hx : a.eval x = .slice (some ⟨H, 0, none⟩) 1 1) (hb : W.heap[H]? = some (.cells #[.int .u64 y.1, .int .u64 y.2] 39 (0, 0))) (hown : W.ownsRow B 39 2 v ys.length (flat ys)) (hn : ys.length ≤ 50000) (hB : B ≤ W.heap.size)
    (h : ∀ g cap w', w'.ownsRow B 39 2 (.slice (some ⟨g, 0, none⟩) (ys.length + 1) cap) (ys.length + 1) (flat (ys ++ [y])) → W.grownBy w' v.ownBlock → (v.ownBlock = some g ∨ g = W.heap.size) → K (a.put o.dst (.slice (some ⟨g, 0, none⟩) (ys.length + 1) cap)) w') :
    if Region.wanted o (yielded ops a.tmps) = true then Oper.wp Tryd.prog o a W K Q else E := by
  obtain ⟨i0, hi, hz0, hz1, hz2⟩ := info_parts Om.info
  refine step_append_lies _ hgd s x 34 ho B 39 i0 _ 2 16 Tryd.underlying34 hi hz0 hz1 hz2 rfl (by omega) v ys.length (flat ys) hs hown ⟨H, 0, none⟩ 1 1 [.int .u64 y.1, .int .u64 y.2] hx rfl
    (World.news_of_block hb) ?_ (by omega) (by unfold maxLen; omega) (by omega) hB _ rfl ?_
  · intro u hu
    simp at hu
    rcases hu with rfl | rfl <;> rfl
  · intro g cap w' h1 h2 h3 _
    rw [show flat ys ++ [.int .u64 y.1, .int .u64 y.2] = flat (ys ++ [y]) by rw [Om.flat_append, Om.flat_one]] at h1
    exact h g cap w' h1 h2 h3
/-- the sequences that are handed out, and all parts -/
structure LiP (S n : Nat) (w w' : World) (cs : List Value) (AL : Option Addr) (cL : Nat) (all : List Pt) : Prop where
  g : Gp S all
  le : all.length ≤ n
  rd : RdP w' AL all
  al : ∀ a, AL = some a → w.heap.size ≤ a.block ∧ a.block < w'.heap.size
  n : cs.length = 64
  c : ∀ v, v < 64 → ∃ A c, cs[v]? = some (.slice A (sub v all).length c) ∧ (sub v all).length ≤ c ∧ Om.Rd w' A (sub v all) ∧ (∀ a, A = some a → w.heap.size ≤ a.block ∧ a.block < w'.heap.size)
  b : Below w.heap.size w w'
theorem res_cell {fn : Func} {tmps : Array Value} {W : World} {a ty b : Nat} {ad : Addr} {x y : Value} (hfn : fn.results = #[.cell a ty, .tmp b]) (h1 : tmps.getD a undef = .pointer (some ad)) (h2 : (loadVar ty ad).run Tryd.prog W = .ok x W) (h3 : tmps.getD b undef = y) : (results fn tmps).run Tryd.prog W = .ok (.tuple #[x, y]) W := by
  unfold results
  rw [hfn]
  have ha : asAddr (tmps[a]?.getD undef) = pure ad := by rw [show tmps[a]?.getD undef = tmps.getD a undef by simp, h1]; rfl
  have hb : tmps[b]?.getD undef = y := by rw [← h3]; simp
  simp [ha, h2, hb]
theorem zs_get {v : Nat} (h : v < 64) : (List.replicate 64 (Value.slice none 0 0)).toArray[v]? = some (.slice none 0 0) := by rw [List.getElem?_toArray, List.getElem?_replicate, if_pos h]
theorem Kp.grown {X : Nat → Prop} {pb : Nat} {w w1 w2 : World} {r : Option Nat} (h : Kp X pb w w1) (hg : w1.grownBy w2 r) (hX : ∀ i, X i → i < w1.heap.size) (hr : ∀ i, X i → some i ≠ r) : Kp X pb w w2 :=
  ⟨hg.os.trans h.os, hg.tape.trans h.tape, hg.output.trans h.output, Nat.le_trans h.size hg.size, fun i hi hn => (hg.block i (hX i hi) (hr i hi)).trans (h.block i hi hn)⟩
theorem next_sub {all : List Pt} {j v : Nat} {x : Pr} (hy : all[j]? = some ⟨(v : Int), x⟩) (u : Nat) : sub u (all.take (j + 1)) = upd (fun v => sub v (all.take j)) v (sub v (all.take j) ++ [x]) u := by
  have ht : all.take (j + 1) = all.take j ++ [⟨(v : Int), x⟩] := by rw [List.take_add_one, hy]; rfl
  by_cases e : u = v
  · subst e
    simp only [upd, if_pos]
    rw [ht, Mg.sub_snoc_yes rfl]
  · simp only [upd, if_neg e]
    rw [ht, Mg.sub_snoc_no (fun e2 => e (by have h : (v : Int) = (u : Int) := e2; omega))]
theorem lists_end {S n : Nat} {w ws wr : World} {A : Option Addr} {c : Nat} {all : List Pt} {V : Nat → Value} (hg : Gp S all) (hle : all.length ≤ n) (rd : RdP ws A all) (ha : ∀ a, A = some a → w.heap.size + 2 ≤ a.block ∧ a.block < ws.heap.size) (hB : Below w.heap.size w ws) (hs : w.heap.size + 2 ≤ ws.heap.size)
    (ot : Ot ws.heap.size wr (w.heap.size + 1) (fun v => sub v all) V) (kp : Kp (fun i => i < ws.heap.size) (w.heap.size + 1) ws wr) :
    LiP S n w (wr.setCells w.heap.size 0 ((List.range 64).map V)) ((List.range 64).map V) A c all := by
  have sb := fun i (hi : i ≠ w.heap.size) => Mg.set_block w.heap.size i hi ((List.range 64).map V) 0 wr
  have hsz := (sb (w.heap.size + 1) (by omega)).2.1
  have hkz := kp.size
  refine ⟨hg, hle, fun i y hi => ?_, fun a e => ⟨by have := (ha a e).1; omega, by rw [hsz]; have := (ha a e).2; omega⟩, by simp, fun v hv => ?_, ?_⟩
  · obtain ⟨b, o, e, p3⟩ := rd i y hi
    have hb := ha _ e
    have h1 : w.heap.size + 2 ≤ b := hb.1
    have h2 : b < ws.heap.size := hb.2
    exact ⟨b, o, e, p3.keep ((sb b (by omega)).1.trans (kp.block b h2 (by omega)))⟩
  · obtain ⟨_, Av, cv, e, hc, hr, hf⟩ := Om.row_form (ot.o v hv)
    refine ⟨Av, cv, by rw [List.getElem?_map, List.getElem?_range hv, Option.map_some, e], hc, rd_keep hr fun a ea => ?_, fun a ea => ?_⟩
    · have h := hf a ea
      exact (sb a.block (by omega)).1
    · have h := hf a ea
      exact ⟨by omega, by rw [hsz]; exact h.2.1⟩
  · have h0 := sb (w.heap.size + 1) (by omega)
    exact ⟨h0.2.2.1.trans (kp.os.trans hB.os), h0.2.2.2.1.trans (kp.tape.trans hB.tape), h0.2.2.2.2.trans (kp.output.trans hB.output), by rw [hsz]; omega, fun i hi => (sb i (by omega)).1.trans ((kp.block i (by show i < _; omega) (by omega)).trans (hB.block i hi))⟩
theorem zp_run (w : World) : (zeroValue 49).run Tryd.prog w = .ok (.agg (List.replicate 64 (.slice none 0 0)).toArray) w := by kernel_rfl
set_option maxRecDepth 100000 in
set_option maxHeartbeats 4000000 in
theorem lists_any (S : Nat) (hS : S < 18446744073709551616) (A : Option Addr) (n c : Nat) (l : List Pt) (w : World) (hl : l.length = n) (hn : n ≤ 80) (hr : RdP w A l) (hb : Mg.BdP l) :
    Calls Tryd.prog 22 #[.int .u64 (S : Nat), .slice A n c] w fun e w' => ∃ cs AL cL all, e = .returned (.tuple #[.agg cs.toArray, .slice AL all.length cL]) ∧ LiP S n w w' cs AL cL all := by
  have hz := zp_run
  obtain ⟨zs, hzs⟩ : ∃ zs : Array Value, zs = (List.replicate 64 (Value.slice none 0 0)).toArray := ⟨_, rfl⟩
  have hne : ¬ zs = #[] := fun e => by rw [e] at hzs; have := congrArg Array.size hzs; revert this; decide
  have hsz : zs.size = 64 := by rw [hzs]; decide
  rw [← hzs] at hz
  have HZ := Lib.hid hzs
  have HR := Lib.hid hr
  have HB := Lib.hid hb
  have HL := Lib.hid hl
  clear hzs hr hb hl
  go_enter Tryd.func22, Tryd.ntmps22
  go_wp2_with fail
  have BW := bel_alloc (bel_alloc (Below.refl w.heap.size w) (.cells zs 49)) (.cells zs 49)
  have hs0 : ((w.alloc (.cells zs 49)).alloc (.cells zs 49)).heap.size = w.heap.size + 2 := by simp
  have hs1 : (w.alloc (.cells zs 49)).heap.size = w.heap.size + 1 := by simp
  have zc : ∀ v, v < 64 → zs[v]? = some (.slice none 0 0) := fun v hv => by rw [HZ.out]; exact zs_get hv
  have C0 : ∀ v, v < 64 → ((w.alloc (.cells zs 49)).alloc (.cells zs 49)).cell? ⟨w.heap.size + 1, v, none⟩ = some (.slice none 0 0) := fun v hv => by rw [← hs1]; simpa using zc v hv
  have F0 : ∀ v, v < 64 → ((w.alloc (.cells zs 49)).alloc (.cells zs 49)).frozen? ⟨w.heap.size + 1, v, none⟩ = false := fun v hv => by rw [← hs1]; simp
  have BA2 : Below (w.alloc (.cells zs 49)).heap.size (w.alloc (.cells zs 49)) ((w.alloc (.cells zs 49)).alloc (.cells zs 49)) := bel_alloc (Below.refl _ _) _
  have C1 : ∀ v, v < 64 → ((w.alloc (.cells zs 49)).alloc (.cells zs 49)).cell? ⟨w.heap.size, v, none⟩ = some (.slice none 0 0) := fun v hv => (BA2.cell (p := ⟨w.heap.size, v, none⟩) (by rw [hs1]; show w.heap.size < _; omega)).trans (by simpa using zc v hv)
  have F1 : ∀ v, v < 64 → ((w.alloc (.cells zs 49)).alloc (.cells zs 49)).frozen? ⟨w.heap.size, v, none⟩ = false := fun v hv => (BA2.frozen (p := ⟨w.heap.size, v, none⟩) (by rw [hs1]; show w.heap.size < _; omega)).trans (by simp)
  clear BA2 zc hs1
  generalize hW0 : (w.alloc (.cells zs 49)).alloc (.cells zs 49) = W0 at *
  have HW0 := Lib.hid hW0
  have HBW := Lib.hid BW
  have HC0 := Lib.hid C0
  have HF0 := Lib.hid F0
  have HC1 := Lib.hid C1
  have HF1 := Lib.hid F1
  clear hW0 BW C0 F0 C1 F1
  go_loopw [7, 8] (fun s7 s8 wr => ∃ (k : Nat) (A' : Option Addr) (c' : Nat) (all : List Pt), s7 = .slice A' all.length c' ∧ s8 = .int .i64 k ∧ k ≤ n ∧ all.length ≤ k ∧ all.length ≤ c' ∧ RdP wr A' all ∧ (A' = none → c' = 0) ∧ Gp S all ∧ (∀ a, A' = some a → w.heap.size + 2 ≤ a.block ∧ a.block < wr.heap.size) ∧ Below W0.heap.size W0 wr) (fun _ s _ => (n - intOf s).toNat)
  case atStart => exact ⟨0, none, 0, [], rfl, rfl, Nat.zero_le _, Nat.le_refl _, Nat.le_refl _, fun i y h => (by cases h), fun _ => rfl, Gp.nil S, fun a e => (by cases e), Below.refl _ _⟩
  case round =>
    obtain ⟨k, A', c', all, rfl, rfl, hk, hak, hac, rd, hnil, hg, hA', bel⟩ := hrel
    have RD := Lib.hid rd
    have HG := Lib.hid hg
    have HA := Lib.hid hA'
    have BEL := Lib.hid bel
    clear rd hg hA' bel
    by_cases hlt : k < n
    · obtain ⟨x, hx⟩ : ∃ x, l[k]? = some x := ⟨_, List.getElem?_eq_getElem (by rw [HL.out]; exact hlt)⟩
      obtain ⟨xl, kx, vx⟩ := x
      have bx := HB.out _ (List.mem_of_getElem? hx)
      have BWR := HBW.out.trans (BEL.out.mono HBW.out.size)
      obtain ⟨ab, ao, rfl, c0, c1, c2⟩ := (HR.out.below BWR) k _ hx
      have c0 : wr.cell? ⟨ab, ao + k * 3, none⟩ = some (.int .i64 xl) := c0
      have c1 : wr.cell? ⟨ab, ao + k * 3 + 1, none⟩ = some (.int .u64 kx) := c1
      have c2 : wr.cell? ⟨ab, ao + k * 3 + 2, none⟩ = some (.int .u64 vx) := c2
      have t1 : decide ((k : Int) < (n : Int)) = true := decide_eq_true (by omega)
      have k0 : (k : Int) < (n : Int) := by omega
      have x0 : -9223372036854775808 ≤ xl := bx.l0
      have x1 : xl ≤ 9223372036854775807 := bx.l1
      have y0 : 0 ≤ kx := bx.k0
      have y1 : kx ≤ 18446744073709551615 := bx.k1
      have BX := Lib.hid (bel_alloc (Below.refl _ wr) (.cells #[.int .i64 xl, .int .u64 kx, .int .u64 vx] 55))
      clear bx hx BWR
      by_cases h0 : xl < 0
      · have u0 : decide (xl < 0) = true := decide_eq_true h0
        go_wp2_with fail
        go_roundw
        case rel => exact ⟨k + 1, A', c', all, rfl, by go_num, by omega, by omega, hac, RD.out.below BX.out, hnil, HG.out, fun a e => ⟨(HA.out a e).1, Nat.lt_of_lt_of_le (HA.out a e).2 BX.out.size⟩, bel_trans BEL.out BX.out⟩
        case measure => simp [intOf]; omega
      by_cases h1 : 64 ≤ xl
      · have u0 : decide (xl < 0) = false := decide_eq_false h0
        have u1 : decide (64 ≤ xl) = true := decide_eq_true h1
        go_wp2_with fail
        go_roundw
        case rel => exact ⟨k + 1, A', c', all, rfl, by go_num, by omega, by omega, hac, RD.out.below BX.out, hnil, HG.out, fun a e => ⟨(HA.out a e).1, Nat.lt_of_lt_of_le (HA.out a e).2 BX.out.size⟩, bel_trans BEL.out BX.out⟩
        case measure => simp [intOf]; omega
      obtain ⟨v, rfl⟩ : ∃ v : Nat, xl = v := ⟨xl.toNat, by omega⟩
      have hv64 : v < 64 := by omega
      have u0 : decide ((v : Int) < 0) = false := decide_eq_false (by omega)
      have u1 : decide (64 ≤ (v : Int)) = false := decide_eq_false (by omega)
      have BXs := BX.out.size
      by_cases hbit : S.testBit v = true
      · have PX := Lib.hid (show Mg.Pg S ⟨(v : Int), (kx, vx)⟩ from ⟨by show 0 ≤ (v : Int); omega, by show (v : Int) < 64; omega, by show S.testBit (v : Int).toNat = true; rw [Int.toNat_natCast]; exact hbit, y0, y1⟩)
        have ub := bit_val (v := v) hS
        rw [hbit] at ub
        have ub : (bits .and .u64 ((S : Int) / 2 ^ v) 1 == 0) = false := ub
        clear hbit
        go_wp2_with fail
        have b1 : (wr.alloc (.cells #[.int .i64 (v : Int), .int .u64 kx, .int .u64 vx] 55)).cell? ⟨wr.heap.size, 1, none⟩ = some (.int .u64 kx) := by simp
        have b0 : (wr.alloc (.cells #[.int .i64 (v : Int), .int .u64 kx, .int .u64 vx] 55)).cell? ⟨wr.heap.size, 0, none⟩ = some (.int .i64 (v : Int)) := by simp
        have b2 : (wr.alloc (.cells #[.int .i64 (v : Int), .int .u64 kx, .int .u64 vx] 55)).cell? ⟨wr.heap.size, 2, none⟩ = some (.int .u64 vx) := by simp
        have hsx : (wr.alloc (.cells #[.int .i64 (v : Int), .int .u64 kx, .int .u64 vx] 55)).heap.size = wr.heap.size + 1 := by simp
        generalize wr.alloc (.cells #[.int .i64 (v : Int), .int .u64 kx, .int .u64 vx] 55) = W1 at *
        obtain ⟨wo, hwo⟩ : ∃ wo, wo = wr := ⟨_, rfl⟩
        rw [← hwo] at RD HA BEL BX b0 b1 b2 hsx BXs ⊢
        generalize hxb : wo.heap.size = xb at b0 b1 b2 ⊢
        rw [hxb] at hsx
        have B0 := Lib.hid b0
        have B1 := Lib.hid b1
        have B2' := Lib.hid b2
        clear hwo c0 c1 c2 b0 b1 b2
        go_loopw [10, 11] (fun s10 s11 wi => ∃ (m : Nat) (z : Bool), m ≤ all.length ∧ s10 = .int .i64 m ∧ s11 = .bool z ∧ (z = false → ∀ (j : Nat) (y : Pt), j < m → all[j]? = some y → y.x.1 ≤ kx ∧ y.x.1 ≠ kx) ∧ Below W1.heap.size W1 wi) (fun s _ _ => (all.length - intOf s).toNat)
        case atStart => exact ⟨0, false, Nat.zero_le _, rfl, rfl, fun _ j y hj => absurd hj (Nat.not_lt_zero _), Below.refl _ _⟩
        case round =>
          obtain ⟨m, z, hm, rfl, rfl, hle, bi⟩ := hrel
          have BI := Lib.hid bi
          have HLE := Lib.hid hle
          have bx1 := (bi.cell (p := ⟨xb, 1, none⟩) (by show xb < _; omega)).trans B1.out
          have bx0 := (bi.cell (p := ⟨xb, 0, none⟩) (by show xb < _; omega)).trans B0.out
          have bx2 := (bi.cell (p := ⟨xb, 2, none⟩) (by show xb < _; omega)).trans B2'.out
          clear bi hle
          by_cases hml : m < all.length
          · obtain ⟨y, hy⟩ : ∃ y, all[m]? = some y := ⟨_, List.getElem?_eq_getElem hml⟩
            obtain ⟨pb2, po, rfl, d0, d1, d2⟩ := (RD.out.below (bel_trans BX.out BI.out)) m y hy
            have g0 : decide ((m : Int) < (all.length : Int)) = true := decide_eq_true (by omega)
            have mi : (m : Int) < (all.length : Int) := by omega
            have HY := Lib.hid hy
            have hal80 : all.length ≤ 80 := by omega
            clear hy d0 d2
            by_cases hk1 : y.x.1 ≤ kx
            · have g1 : decide (y.x.1 ≤ kx) = true := decide_eq_true hk1
              cases z with
              | true =>
                go_wp2_with fail
                go_quiet (fail)
                go_wp2_with fail
                go_quiet (fail)
                go_wp2_with fail
                go_roundw
                case rel => exact ⟨m + 1, true, by omega, by go_num, rfl, (fun h => by cases h), below_drewN BI.out _⟩
                case measure => simp [intOf]; omega
              | false =>
                by_cases heq : y.x.1 = kx
                · have g2 : (y.x.1 == kx) = true := by simp [heq]
                  have g3 : decide (y.x.1 ≤ kx) = true := g1
                  generalize y.x.1 = ky at *
                  clear heq hk1
                  go_wp2_with fail
                  go_quiet (fail)
                  go_wp2_with fail
                  go_quiet (fail)
                  go_wp2_with fail
                  go_roundw
                  case rel => exact ⟨m + 1, true, by omega, by go_num, rfl, (fun h => by cases h), below_drewN BI.out _⟩
                  case measure => simp [intOf]; omega
                · have g2 : (y.x.1 == kx) = false := by simp [heq]
                  have HN := Lib.hid (show ∀ (j : Nat) (y' : Pt), j < m + 1 → all[j]? = some y' → y'.x.1 ≤ kx ∧ y'.x.1 ≠ kx from fun j y' hj hy' => by
                    by_cases hjm : j < m
                    · exact HLE.out rfl j y' hjm hy'
                    · obtain rfl : j = m := by omega
                      rw [HY.out] at hy'; cases hy'; exact ⟨hk1, heq⟩)
                  clear heq hk1
                  go_wp2_with fail
                  go_quiet (fail)
                  go_wp2_with fail
                  go_quiet (fail)
                  go_wp2_with fail
                  go_roundw
                  case rel => exact ⟨m + 1, false, by omega, by go_num, rfl, (fun _ => HN.out), below_drewN BI.out _⟩
                  case measure => simp [intOf]; omega
            · have g1 : decide (y.x.1 ≤ kx) = false := decide_eq_false hk1
              have GT := Lib.hid (show ∀ y' : Pt, all[m]? = some y' → kx < y'.x.1 from fun y' hy' => by rw [HY.out] at hy'; cases hy'; omega)
              clear hk1
              go_wp2_with fail
              go_quiet (fail)
              have e0 : (wr.drewN nq).cell? ⟨xb, 0, none⟩ = some (.int .i64 (v : Int)) := bx0
              have e1 : (wr.drewN nq).cell? ⟨xb, 1, none⟩ = some (.int .u64 kx) := bx1
              have e2 : (wr.drewN nq).cell? ⟨xb, 2, none⟩ = some (.int .u64 vx) := bx2
              have BQ := Lib.hid (bel_trans BX.out (below_drewN BI.out nq))
              clear bx0 bx1 bx2 BI
              generalize wr.drewN nq = Wx at *
              cases z with
              | true =>
                go_wp2_with fail
                go_roundw
                case rel => exact ⟨k + 1, (some ⟨pb2, po, none⟩), c', all, rfl, by go_num, by omega, by omega, hac, RD.out.below BQ.out, hnil, HG.out, fun a e => ⟨(HA.out a e).1, Nat.lt_of_lt_of_le (HA.out a e).2 BQ.out.size⟩, bel_trans BEL.out BQ.out⟩
                case measure => simp [intOf]; omega
              | false =>
                have RDx := Lib.hid (RD.out.below BQ.out)
                have RUNT := take_run (some ⟨pb2, po, none⟩) all.length m c' hm hac
                obtain ⟨AD, cD, hAD, hRD, RUND⟩ := drop_run (some ⟨pb2, po, none⟩) all.length m c' hm hac hnil
                have RT := Lib.hid (RDx.out.take m)
                have RD2 := Lib.hid (hRD _ all rfl RDx.out)
                have GI := Lib.hid (HG.out.ins_at (x := ⟨(v : Int), (kx, vx)⟩) PX.out m (HLE.out rfl) GT.out)
                have hlt2 : (all.take m).length = m := by rw [List.length_take]; omega
                have hld2 : (all.drop m).length = all.length - m := List.length_drop
                have HLT := Lib.hid hlt2
                have HLD := Lib.hid hld2
                have hmi : (m : Int) ≤ (all.length : Int) := by omega
                have hxbx : xb < Wx.heap.size := World.block_lt_of_cell? Wx ⟨xb, 0, none⟩ e0
                have hal80 : all.length ≤ 80 := by omega
                clear hRD hlt2 hld2
                go_wp2_with (at_builtin; first | (refine Mg.appAllP rfl (.tmp 73) (.tmp 76) rfl Wx Wx.heap.size 0 _ [] (some ⟨pb2, po, none⟩) m c' (all.take m) rfl rfl (World.ownsRow_nil _ _ _ _) HLT.out RT.out hnil (by omega) (Nat.le_refl _) ?_; intro va wa hoa hba; rw [Nat.zero_add, List.nil_append] at hoa; have OA := Lib.hid hoa; have BA := Lib.hid hba; have f0 := (hba.cell (p := ⟨xb, 0, none⟩) hxbx).trans e0; have f1 := (hba.cell (p := ⟨xb, 1, none⟩) hxbx).trans e1; have f2 := (hba.cell (p := ⟨xb, 2, none⟩) hxbx).trans e2; clear hoa hba e0 e1 e2) | (refine Mg.app1P rfl (.tmp 78) (.tmp 80) rfl _ Wx.heap.size m va (all.take m) ⟨(v : Int), (kx, vx)⟩ rfl wa.heap.size rfl ⟨by simp, by simp, by simp⟩ (OA.out.alloc _) (by omega) (by have := BA.out.size; simp; omega) ?_; intro vb wb hob hgb hvb; have OB := Lib.hid hob; have BB := Lib.hid (show Below Wx.heap.size Wx wb from ((BA.out.alloc BA.out.size _).grown hgb (by have := BA.out.size; simp; omega) fun g hk => (OA.out.lt g hk).1)); clear hob hgb hvb) | (refine Mg.appAllP rfl (.tmp 82) (.tmp 85) rfl wb Wx.heap.size (m + 1) vb (all.take m ++ [⟨(v : Int), (kx, vx)⟩]) AD (all.length - m) cD (all.drop m) rfl rfl OB.out HLD.out (RD2.out.below BB.out) hAD (by omega) BB.out.size ?_; intro vc wc hoc hbc; have OC := Lib.hid hoc; have BC := Lib.hid (BB.out.trans hbc); clear hoc hbc))
                obtain ⟨hlen, A2, c2, rfl, hc2, rd2, hn2⟩ := Mg.rowP OC.out
                have HLN := Lib.hid hlen
                have hrg : ∀ a, A2 = some a → w.heap.size + 2 ≤ a.block ∧ a.block < wc.heap.size := fun a e => by
                  cases e
                  obtain ⟨g2, cap2, e2⟩ := Joins.ownsRow_form OC.out (by omega)
                  cases e2
                  have h := OC.out.lt g2 rfl
                  have hw := BEL.out.size
                  have hw2 := BQ.out.size
                  exact ⟨by show _ ≤ g2; omega, h.2⟩
                have BFIN := Lib.hid (bel_trans BEL.out (bel_trans BQ.out BC.out))
                have RG := Lib.hid hrg
                have RDF := Lib.hid rd2
                clear hlen rd2 hrg RUNT RUND OA OB OC BA BB BC RT RD2 RDx
                go_wp2_with fail
                go_roundw
                case rel => exact ⟨k + 1, A2, c2, _, by rw [HLN.out], by go_num, by omega, by rw [HLN.out]; omega, by rw [HLN.out]; exact hc2, RDF.out, hn2, GI.out, RG.out, BFIN.out⟩
                case measure => simp [intOf]; omega
          · have g0 : decide ((m : Int) < (all.length : Int)) = false := decide_eq_false (by omega)
            have GT := Lib.hid (show ∀ y' : Pt, all[m]? = some y' → kx < y'.x.1 from fun y' hy' => by rw [List.getElem?_eq_none (by omega)] at hy'; cases hy')
            go_wp2_with fail
            go_quiet (fail)
            have e0 : (wr.drewN nq).cell? ⟨xb, 0, none⟩ = some (.int .i64 (v : Int)) := bx0
            have e1 : (wr.drewN nq).cell? ⟨xb, 1, none⟩ = some (.int .u64 kx) := bx1
            have e2 : (wr.drewN nq).cell? ⟨xb, 2, none⟩ = some (.int .u64 vx) := bx2
            have BQ := Lib.hid (bel_trans BX.out (below_drewN BI.out nq))
            clear bx0 bx1 bx2 BI
            generalize wr.drewN nq = Wx at *
            cases z with
            | true =>
              go_wp2_with fail
              go_roundw
              case rel => exact ⟨k + 1, A', c', all, rfl, by go_num, by omega, by omega, hac, RD.out.below BQ.out, hnil, HG.out, fun a e => ⟨(HA.out a e).1, Nat.lt_of_lt_of_le (HA.out a e).2 BQ.out.size⟩, bel_trans BEL.out BQ.out⟩
              case measure => simp [intOf]; omega
            | false =>
              have RDx := Lib.hid (RD.out.below BQ.out)
              have RUNT := take_run A' all.length m c' hm hac
              obtain ⟨AD, cD, hAD, hRD, RUND⟩ := drop_run A' all.length m c' hm hac hnil
              have RT := Lib.hid (RDx.out.take m)
              have RD2 := Lib.hid (hRD _ all rfl RDx.out)
              have GI := Lib.hid (HG.out.ins_at (x := ⟨(v : Int), (kx, vx)⟩) PX.out m (HLE.out rfl) GT.out)
              have hlt2 : (all.take m).length = m := by rw [List.length_take]; omega
              have hld2 : (all.drop m).length = all.length - m := List.length_drop
              have HLT := Lib.hid hlt2
              have HLD := Lib.hid hld2
              have hmi : (m : Int) ≤ (all.length : Int) := by omega
              have hxbx : xb < Wx.heap.size := World.block_lt_of_cell? Wx ⟨xb, 0, none⟩ e0
              have hal80 : all.length ≤ 80 := by omega
              clear hRD hlt2 hld2
              go_wp2_with (at_builtin; first | (refine Mg.appAllP rfl (.tmp 73) (.tmp 76) rfl Wx Wx.heap.size 0 _ [] A' m c' (all.take m) rfl rfl (World.ownsRow_nil _ _ _ _) HLT.out RT.out hnil (by omega) (Nat.le_refl _) ?_; intro va wa hoa hba; rw [Nat.zero_add, List.nil_append] at hoa; have OA := Lib.hid hoa; have BA := Lib.hid hba; have f0 := (hba.cell (p := ⟨xb, 0, none⟩) hxbx).trans e0; have f1 := (hba.cell (p := ⟨xb, 1, none⟩) hxbx).trans e1; have f2 := (hba.cell (p := ⟨xb, 2, none⟩) hxbx).trans e2; clear hoa hba e0 e1 e2) | (refine Mg.app1P rfl (.tmp 78) (.tmp 80) rfl _ Wx.heap.size m va (all.take m) ⟨(v : Int), (kx, vx)⟩ rfl wa.heap.size rfl ⟨by simp, by simp, by simp⟩ (OA.out.alloc _) (by omega) (by have := BA.out.size; simp; omega) ?_; intro vb wb hob hgb hvb; have OB := Lib.hid hob; have BB := Lib.hid (show Below Wx.heap.size Wx wb from ((BA.out.alloc BA.out.size _).grown hgb (by have := BA.out.size; simp; omega) fun g hk => (OA.out.lt g hk).1)); clear hob hgb hvb) | (refine Mg.appAllP rfl (.tmp 82) (.tmp 85) rfl wb Wx.heap.size (m + 1) vb (all.take m ++ [⟨(v : Int), (kx, vx)⟩]) AD (all.length - m) cD (all.drop m) rfl rfl OB.out HLD.out (RD2.out.below BB.out) hAD (by omega) BB.out.size ?_; intro vc wc hoc hbc; have OC := Lib.hid hoc; have BC := Lib.hid (BB.out.trans hbc); clear hoc hbc))
              obtain ⟨hlen, A2, c2, rfl, hc2, rd2, hn2⟩ := Mg.rowP OC.out
              have HLN := Lib.hid hlen
              have hrg : ∀ a, A2 = some a → w.heap.size + 2 ≤ a.block ∧ a.block < wc.heap.size := fun a e => by
                cases e
                obtain ⟨g2, cap2, e2⟩ := Joins.ownsRow_form OC.out (by omega)
                cases e2
                have h := OC.out.lt g2 rfl
                have hw := BEL.out.size
                have hw2 := BQ.out.size
                exact ⟨by show _ ≤ g2; omega, h.2⟩
              have BFIN := Lib.hid (bel_trans BEL.out (bel_trans BQ.out BC.out))
              have RG := Lib.hid hrg
              have RDF := Lib.hid rd2
              clear hlen rd2 hrg RUNT RUND OA OB OC BA BB BC RT RD2 RDx
              go_wp2_with fail
              go_roundw
              case rel => exact ⟨k + 1, A2, c2, _, by rw [HLN.out], by go_num, by omega, by rw [HLN.out]; omega, by rw [HLN.out]; exact hc2, RDF.out, hn2, GI.out, RG.out, BFIN.out⟩
              case measure => simp [intOf]; omega
      · have hbit : S.testBit v = false := by cases h : S.testBit v; rfl; exact absurd h hbit
        have ub := bit_val (v := v) hS
        rw [hbit] at ub
        have ub : (bits .and .u64 ((S : Int) / 2 ^ v) 1 == 0) = true := ub
        clear hbit
        go_wp2_with fail
        go_roundw
        case rel => exact ⟨k + 1, A', c', all, rfl, by go_num, by omega, by omega, hac, RD.out.below BX.out, hnil, HG.out, fun a e => ⟨(HA.out a e).1, Nat.lt_of_lt_of_le (HA.out a e).2 BX.out.size⟩, bel_trans BEL.out BX.out⟩
        case measure => simp [intOf]; omega
    · obtain rfl : k = n := by omega
      have t1 : decide ((k : Int) < (k : Int)) = false := decide_eq_false (by omega)
      have hal80 : all.length ≤ 80 := by omega
      obtain ⟨ws, hws⟩ : ∃ ws, ws = wr := ⟨_, rfl⟩
      rw [← hws] at RD HA BEL ⊢
      clear hws
      have hsz0 := BEL.out.size
      have OT0 := Lib.hid (show Ot ws.heap.size ws (w.heap.size + 1) (fun v => sub v (all.take 0)) (fun _ => .slice none 0 0) from ⟨fun v hv => (BEL.out.cell (p := ⟨w.heap.size + 1, v, none⟩) (by show w.heap.size + 1 < _; omega)).trans (HC0.out v hv), fun v hv => (BEL.out.frozen (p := ⟨w.heap.size + 1, v, none⟩) (by show w.heap.size + 1 < _; omega)).trans (HF0.out v hv), fun v hv => World.ownsRow_nil _ _ _ _, fun u v g _ _ _ e => (by cases e), by omega⟩)
      go_wp2_with fail
      go_loopw [13] (fun s wz => ∃ (j : Nat) (V : Nat → Value), s = .int .i64 j ∧ j ≤ all.length ∧ Ot ws.heap.size wz (w.heap.size + 1) (fun v => sub v (all.take j)) V ∧ Kp (fun i => i < ws.heap.size) (w.heap.size + 1) ws wz) (fun s _ => (all.length - intOf s).toNat)
      case atStart => exact ⟨0, _, rfl, Nat.zero_le _, OT0.out, Kp.refl _ _ _⟩
      case round =>
        clear OT0
        obtain ⟨j, V, rfl, hj, ot, kp⟩ := hrel
        have OT := Lib.hid ot
        have KP := Lib.hid kp
        clear ot kp
        have hsk := KP.out.size
        by_cases hja : j < all.length
        · obtain ⟨y, hy⟩ : ∃ y, all[j]? = some y := ⟨_, List.getElem?_eq_getElem hja⟩
          have py := HG.out.mem y (List.mem_of_getElem? hy)
          obtain ⟨ab, ao, eA, q0, q1, q2⟩ := RD.out j y hy
          have hab := HA.out _ eA
          have hab1 : w.heap.size + 2 ≤ ab := hab.1
          have hab2 : ab < ws.heap.size := hab.2
          subst eA
          obtain ⟨yl, yk, yv⟩ := y
          obtain ⟨v, rfl⟩ : ∃ v : Nat, yl = v := ⟨yl.toNat, by have h : 0 ≤ yl := py.l0; omega⟩
          have hv64 : v < 64 := by have h : (v : Int) < 64 := py.l1; omega
          have kab := KP.out.block ab hab2 (by omega)
          have q0 : ws.cell? ⟨ab, ao + j * 3, none⟩ = some (.int .i64 (v : Int)) := q0
          have q1 : ws.cell? ⟨ab, ao + j * 3 + 1, none⟩ = some (.int .u64 yk) := q1
          have q2 : ws.cell? ⟨ab, ao + j * 3 + 2, none⟩ = some (.int .u64 yv) := q2
          have r0 : wr.drew.cell? ⟨ab, ao + j * 3, none⟩ = some (.int .i64 (v : Int)) := (World.cell?_of_block (a := ⟨ab, ao + j * 3, none⟩) kab).trans q0
          have r1 : wr.drew.cell? ⟨ab, ao + j * 3 + 1, none⟩ = some (.int .u64 yk) := (World.cell?_of_block (a := ⟨ab, ao + j * 3 + 1, none⟩) kab).trans q1
          have r2 : wr.drew.cell? ⟨ab, ao + j * 3 + 2, none⟩ = some (.int .u64 yv) := (World.cell?_of_block (a := ⟨ab, ao + j * 3 + 2, none⟩) kab).trans q2
          obtain ⟨o, ho⟩ : ∃ o : Obj, o = .cells #[.int .u64 yk, .int .u64 yv] 39 := ⟨_, rfl⟩
          have BB : Below wr.heap.size wr (wr.alloc o).drew := below_drewN (bel_alloc (Below.refl _ _) _) 1
          have NB : (wr.alloc o).drew.heap[wr.heap.size]? = some o := heap_alloc_new wr o
          have habr : ab < wr.heap.size := by omega
          have s0 := (BB.cell (p := ⟨ab, ao + j * 3, none⟩) habr).trans ((World.cell?_of_block (a := ⟨ab, ao + j * 3, none⟩) kab).trans q0)
          have s1 := (BB.cell (p := ⟨ab, ao + j * 3 + 1, none⟩) habr).trans ((World.cell?_of_block (a := ⟨ab, ao + j * 3 + 1, none⟩) kab).trans q1)
          have s2 := (BB.cell (p := ⟨ab, ao + j * 3 + 2, none⟩) habr).trans ((World.cell?_of_block (a := ⟨ab, ao + j * 3 + 2, none⟩) kab).trans q2)
          have hobr : w.heap.size + 1 < wr.heap.size := by omega
          have OTP := OT.out.below BB hobr
          obtain ⟨vv, hvv⟩ : ∃ vv, V v = vv := ⟨_, rfl⟩
          have cV : wr.drew.cell? ⟨w.heap.size + 1, v, none⟩ = some (V v) := OT.out.c v hv64
          have cVP := OTP.c v hv64
          have fVP := OTP.f v hv64
          have row := OTP.o v hv64
          rw [hvv] at cV cVP row
          rw [ho] at BB NB s0 s1 s2 cVP fVP row OTP
          obtain ⟨_, Av, cv, rfl, _⟩ := Om.row_form row
          have hsl : (sub v (all.take j)).length ≤ 80 := Nat.le_trans (Mg.sub_len _ _) (by rw [List.length_take]; omega)
          have KPW := KP.out.below BB (fun i hi => by have h : i < ws.heap.size := hi; omega)
          have FIN := Lib.hid (show ∀ (g cap : Nat) (w1 : World), w1.ownsRow ws.heap.size 39 2 (.slice (some ⟨g, 0, none⟩) ((sub v (all.take j)).length + 1) cap) ((sub v (all.take j)).length + 1) (flat (sub v (all.take j) ++ [(yk, yv)])) → (wr.alloc (.cells #[.int .u64 yk, .int .u64 yv] 39)).drew.grownBy w1 (Value.slice Av (sub v (all.take j)).length cv).ownBlock → ((Value.slice Av (sub v (all.take j)).length cv).ownBlock = some g ∨ g = (wr.alloc (.cells #[.int .u64 yk, .int .u64 yv] 39)).drew.heap.size) → ∃ V', Ot ws.heap.size (w1.setCell ⟨w.heap.size + 1, v, none⟩ (.slice (some ⟨g, 0, none⟩) ((sub v (all.take j)).length + 1) cap)) (w.heap.size + 1) (fun v => sub v (all.take (j + 1))) V' ∧ Kp (fun i => i < ws.heap.size) (w.heap.size + 1) ws (w1.setCell ⟨w.heap.size + 1, v, none⟩ (.slice (some ⟨g, 0, none⟩) ((sub v (all.take j)).length + 1) cap)) from fun g cap w1 own1 grow1 at1 => ⟨_, (OTP.next hv64 own1 (by rw [hvv]; exact grow1) (by rw [hvv]; exact at1.imp (fun h => h.symm) (fun h => by rw [h]; rfl)) (by have := BB.size; omega)).congr (fun u hu => next_sub hy u), (KPW.grown grow1 (fun i hi => by have h : i < ws.heap.size := hi; have := BB.size; omega) (fun i hi e => by have h : i < ws.heap.size := hi; have := (row.lt _ e.symm).1; omega)).set _ _⟩)
          clear KPW
          have HBB := Lib.hid BB
          have HNB := Lib.hid NB
          have HRW := Lib.hid row
          have HOT := Lib.hid OTP
          have HVV := Lib.hid hvv
          have HYY := Lib.hid hy
          have u1 : decide ((j : Int) < (all.length : Int)) = true := decide_eq_true (by omega)
          have j0 : (j : Int) < (all.length : Int) := by omega
          have v0 : (v : Int) < 64 := by omega
          have HCP := Lib.hid cVP
          have HFP := Lib.hid fVP
          have HS0 := Lib.hid s0
          have HS1 := Lib.hid s1
          have HS2 := Lib.hid s2
          clear BB NB row OTP hvv hy py q0 q1 q2 kab hab ho
          go_wp2_with fail
          go_region_law ((refine stepPr (by rfl) (.tmp 104) (.tmp 110) (by rfl) _ ws.heap.size _ (.slice Av (sub v (all.take j)).length cv) (sub v (all.take j)) (yk, yv) (by rfl) (by rfl) HNB.out HRW.out (by omega) (by have := HBB.out.size; omega) ?_; intro g cap w1 own1 grow1 at1; have kb := grow1.block (w.heap.size + 1) (by have := HBB.out.size; omega) (fun e => by have := (HRW.out.lt _ e.symm).1; omega); have k1 := (World.cell?_of_block (a := ⟨w.heap.size + 1, v, none⟩) kb).trans HCP.out; have k2 := (World.frozen?_of_block (a := ⟨w.heap.size + 1, v, none⟩) kb).trans HFP.out; have ka := grow1.block ab (by have := HBB.out.size; omega) (fun e => by have := (HRW.out.lt _ e.symm).1; omega); have k3 := (World.cell?_of_block (a := ⟨ab, ao + j * 3, none⟩) ka).trans HS0.out))
          all_goals
            go_wp2_with fail
            go_roundw
            case rel =>
              obtain ⟨V', h1, h2⟩ := FIN.out g cap w1 own1 grow1 at1
              exact ⟨j + 1, V', by go_num, by omega, h1, h2⟩
            case measure => simp [intOf]; omega
        · obtain rfl : j = all.length := by omega
          have u1 : decide ((all.length : Int) < (all.length : Int)) = false := decide_eq_false (by omega)
          have ot := OT.out
          rw [List.take_length] at ot
          have BWS := HBW.out.trans (BEL.out.mono HBW.out.size)
          have LI := Lib.hid (lists_end (c := c') HG.out (Nat.le_trans hak (Nat.le_refl _)) RD.out HA.out BWS (by omega) ot KP.out)
          have RG := Lib.hid (show wr.rangeAt (w.heap.size + 1) 0 ((List.range 64).map V) from fun i u hi => by
            have hi64 : i < 64 := by have := (List.getElem?_eq_some_iff.1 hi).1; simpa using this
            rw [List.getElem?_map, List.getElem?_range hi64, Option.map_some] at hi
            injection hi with hi
            rw [Nat.zero_add, ← hi]; exact ot.c i hi64)
          have krb := KP.out.block w.heap.size (by show w.heap.size < _; omega) (by omega)
          have TH := Lib.hid (show wr.there w.heap.size 0 64 from fun i hi => by
            refine ⟨?_, ?_⟩
            · rw [Nat.zero_add, World.cell?_of_block (a := ⟨w.heap.size, i, none⟩) krb, BEL.out.cell (p := ⟨w.heap.size, i, none⟩) (by show w.heap.size < _; omega), HC1.out i hi]; rfl
            · rw [Nat.zero_add, World.frozen?_of_block (a := ⟨w.heap.size, i, none⟩) krb, BEL.out.frozen (p := ⟨w.heap.size, i, none⟩) (by show w.heap.size < _; omega), HF1.out i hi])
          have one : ∀ u ∈ (List.range 64).map V, u.oneCell' = true := fun u hu => by
            obtain ⟨v, hv, rfl⟩ := List.mem_map.1 hu
            obtain ⟨_, _, _, e, _⟩ := Om.row_form (ot.o v (List.mem_range.1 hv))
            rw [e]; rfl
          have hcl : ((List.range 64).map V).length = 64 := by simp
          have sc : (storeCells ⟨w.heap.size, 0, none⟩ ((List.range 64).map V)).run Tryd.prog wr = .ok () (wr.setCells w.heap.size 0 ((List.range 64).map V)) := by
            have := run_storeCells_cells (P := Tryd.prog) w.heap.size 0 ((List.range 64).map V) 0 wr (fun j hj => by have := (TH.out j (by rw [hcl] at hj; exact hj)).1; simpa using this) (fun j hj => by have := (TH.out j (by rw [hcl] at hj; exact hj)).2; simpa using this) one
            simpa only [Nat.add_zero] using this
          have RG2 : (wr.setCells w.heap.size 0 ((List.range 64).map V)).rangeAt w.heap.size 0 ((List.range 64).map V) := World.rangeAt_setCells_same _ _ _ _ (by rw [hcl]; exact TH.out)
          have sz : (Tryd.prog.info? 49).map (·.size) = some 64 := by kernel_rfl
          have ld := run_loadVar_mid (P := Tryd.prog) (wr.setCells w.heap.size 0 ((List.range 64).map V)) w.heap.size 0 49 ((List.range 64).map V) _ RG2 Tryd.underlying49 rfl (by rw [hcl]; exact sz)
          have cne : ¬ ((List.range 64).map V).toArray = #[] := fun e => by have := congrArg Array.size e; simp at this
          have csz : ((List.range 64).map V).toArray.size = 64 := by simp
          have SC := Lib.hid sc
          have LD := Lib.hid ld
          clear ot one krb BWS RG2 OT KP sc ld
          generalize (List.range 64).map V = cs at *
          have sc := SC.out
          have HSZ : (Tryd.prog.info? 49).map (·.size) = some cs.length := by rw [hcl]; exact sz
          go_wp2_with (refine wpList_load_mid rfl 49 (.tmp 6) rfl (w.heap.size + 1) 0 rfl cs _ RG.out Tryd.underlying49 rfl HSZ ?_)
          exact bodyPost_ret (v := .tuple #[.agg cs.toArray, .slice A' all.length c']) (res_cell Tryd.results22 rfl LD.out rfl) rfl ⟨cs, A', c', all, rfl, LI.out⟩
end Wk
end Go.Proofs.YtbndgbjenmknmaaDoor
