/- Rows of ints that begin anywhere in their block (append, the first off, the last off); the block of a run of leapfroglaw14. Conditions: those of each lemma. (Written by tools/mkps7.py.) -/
import Derived.Test.YtcipjjchclpgnaaPsX
import Derived.ArgAppend
import Derived.Laws.IdiomCopy
namespace Go.Proofs.Ytcipjjchclpgnaa
open Go.RowKit Go.Sort
set_option linter.unusedVariables false
set_option linter.unusedSimpArgs false
set_option maxRecDepth 100000
namespace Po
open Wd
open Ly (Ge tot pP pK pW pk Cf LyAt KI)
open Dm (addr_lit info_parts spot_none RdK flatU infoU bel_alloc bel_trans own_keep below_drewN)
/-- a row of ints of the call's own, of the colour k; the slice may begin in the midst of its block -/
def Ro (w : World) (c : Nat → Nat) (k : Nat) (v : Value) (l : List Int) : Prop :=
  (v = .slice none 0 0 ∧ l = []) ∨
  ∃ g o cap cur, v = .slice (some ⟨g, o, none⟩) l.length cap ∧ w.heap[g]? = some (.cells cur 3 (0, 0)) ∧ l.length ≤ cap ∧ cap ≤ maxLen ∧ o + cap ≤ cur.size ∧ (∀ i x, l[i]? = some x → cur[o + i]? = some (.int .i64 x)) ∧ c g = k
section
variable {w : World} {c : Nat → Nat} {k : Nat} {v : Value} {l : List Int}
theorem Ro.fc (h : Ro w c k v l) {S : Nat → Prop} {w1 : World} {c1 : Nat → Nat} (hf : Fc S w c w1 c1) (hS : ¬ S k) : Ro w1 c1 k v l := by
  rcases h with h | ⟨g, o, cap, cur, h1, h2, h3, h4, h5, h6, h7⟩
  · exact .inl h
  · have lt : g < w.heap.size := (Array.getElem?_eq_some_iff.1 h2).1
    exact .inr ⟨g, o, cap, cur, h1, (hf.keep lt (by rw [h7]; exact hS)).trans h2, h3, h4, h5, h6, (hf.co g lt).trans h7⟩
theorem Ro.below (h : Ro w c k v l) {w1 : World} (hb : Below w.heap.size w w1) : Ro w1 c k v l := h.fc (Fc.of_below (S := fun _ => False) hb) id
theorem Ro.nil (w : World) (c : Nat → Nat) (k : Nat) : Ro w c k (.slice none 0 0) [] := .inl ⟨rfl, rfl⟩
theorem Ro.form (h : Ro w c k v l) : ∃ A n, v = .slice A l.length n ∧ (∀ i x, l[i]? = some x → ∃ g o, A = some ⟨g, o, none⟩ ∧ w.cell? ⟨g, o + i, none⟩ = some (.int .i64 x)) ∧ (A = none → l = []) := by
  rcases h with ⟨rfl, rfl⟩ | ⟨g, o, cap, cur, rfl, h2, h3, h4, h5, h6, h7⟩
  · exact ⟨none, 0, rfl, fun i x hx => by simp at hx, fun _ => rfl⟩
  · exact ⟨_, cap, rfl, fun i x hx => ⟨g, o, rfl, cell_heap h2 (h6 i x hx)⟩, fun e => by cases e⟩
/-- a row of one int at least -/
theorem Ro.some (h : Ro w c k v l) (h0 : 0 < l.length) : ∃ g o n, v = .slice (some ⟨g, o, none⟩) l.length n ∧ l.length ≤ n ∧ n ≤ maxLen ∧ (∀ i x, l[i]? = some x → w.cell? ⟨g, o + i, none⟩ = some (.int .i64 x)) ∧ Ro w c k (.slice (some ⟨g, o + 1, none⟩) (l.length - 1) (n - 1)) l.tail ∧ Ro w c k (.slice (some ⟨g, o, none⟩) (l.length - 1) n) l.dropLast := by
  rcases h with ⟨rfl, rfl⟩ | ⟨g, o, cap, cur, rfl, h2, h3, h4, h5, h6, h7⟩
  · simp at h0
  · refine ⟨g, o, cap, rfl, h3, h4, fun i x hx => cell_heap h2 (h6 i x hx), .inr ⟨g, o + 1, cap - 1, cur, ?_, h2, ?_, by omega, by omega, fun i x hx => ?_, h7⟩, .inr ⟨g, o, cap, cur, ?_, h2, ?_, h4, h5, fun i x hx => ?_, h7⟩⟩
    · rw [List.length_tail]
    · rw [List.length_tail]; omega
    · rw [Nat.add_assoc, Nat.add_comm 1 i]
      refine h6 (i + 1) x ?_
      rw [List.getElem?_tail] at hx
      exact hx
    · rw [List.length_dropLast]
    · rw [List.length_dropLast]; omega
    · refine h6 i x ?_
      rw [List.getElem?_dropLast] at hx
      split at hx
      · exact hx
      · cases hx
theorem Ro.at {g o n cap : Nat} (h : Ro w c k (.slice (.some ⟨g, o, none⟩) n cap) l) : l.length = n ∧ n ≤ cap ∧ cap ≤ maxLen ∧ (∀ i x, l[i]? = .some x → w.cell? ⟨g, o + i, none⟩ = .some (.int .i64 x)) ∧ (∀ m, n = m + 1 → Ro w c k (.slice (.some ⟨g, o, none⟩) m cap) l.dropLast ∧ Ro w c k (.slice (.some ⟨g, o + 1, none⟩) m (cap - 1)) l.tail) := by
  by_cases h0 : 0 < l.length
  · obtain ⟨g', o', n', e, h1, h2, h3, h4, h5⟩ := h.some h0
    injection e with e1 e2 e3
    injection e1 with e1
    injection e1 with e4 e5
    subst e2 e3 e4 e5
    refine ⟨rfl, h1, h2, h3, fun m hm => ?_⟩
    rw [show l.length - 1 = m by omega] at h4 h5
    exact ⟨h5, h4⟩
  · have hl : l = [] := List.eq_nil_of_length_eq_zero (by omega)
    subst hl
    rcases h with ⟨e, _⟩ | ⟨g', o', cap', cur, e, h2, h3, h4, h5, h6, h7⟩
    · cases e
    · injection e with e1 e2 e3
      subst e2 e3
      exact ⟨rfl, h3, h4, fun i x hx => by simp at hx, fun m hm => by simp at hm⟩
theorem Ro.zero {g o n cap : Nat} (h : Ro w c k (.slice (.some ⟨g, o, none⟩) n cap) l) : Ro w c k (.slice (.some ⟨g, o, none⟩) 0 0) [] := by
  rcases h with ⟨e, _⟩ | ⟨g', o', cap', cur, e, h2, h3, h4, h5, h6, h7⟩
  · cases e
  · injection e with e1 e2 e3
    injection e1 with e1
    injection e1 with e4 e5
    subst e4 e5
    exact .inr ⟨g, o, 0, cur, rfl, h2, Nat.zero_le _, Nat.zero_le _, by omega, fun i x hx => by simp at hx, h7⟩
theorem infoI : (Try.prog.info? 3).map (fun i => (i.zero, i.size, i.bytes)) = Option.some (Option.some (.int .i64 0), 1, 8) := by kernel_rfl
theorem own_ro {w w' : World} {c' : Nat → Nat} {k : Nat} {v : Value} {n : Nat} {l : List Int} (h : w'.ownsRow w.heap.size 3 1 v n (l.map (Value.int .i64))) (hl : l.length = n) (hn : 0 < n) (hc : ∀ g, w.heap.size ≤ g → c' g = k) : Ro w' c' k v l := by
  rcases h.2 with ⟨rfl, e⟩ | ⟨g, cap, cur, rfl, hb, hg, hnc, hcm, hcs, ht⟩
  · omega
  · subst hl
    refine .inr ⟨g, 0, cap, cur, rfl, hg, hnc, hcm, by omega, fun i x hx => ?_, hc g hb⟩
    have hi := (List.getElem?_eq_some_iff.1 hx).1
    rw [Nat.zero_add, ← Array.getElem?_toList]
    have : (cur.toList.take (l.length * 1))[i]? = some (.int .i64 x) := by rw [ht, List.getElem?_map, hx]; rfl
    rw [List.getElem?_take] at this
    rw [if_pos (by omega)] at this
    exact this
set_option maxHeartbeats 1000000 in
theorem runR {w : World} {c : Nat → Nat} {k : Nat} {v : Value} {l : List Int} (y : Nat) (z : Int) (hg : w.cell? ⟨y, 0, none⟩ = some (.int .i64 z)) (hr : Ro w c k v l) (hn : l.length ≤ 2000) (ty : TypeId) :
    ∃ g' o' cap w', (Builtin.append_ #[41, 41] ty #[v, .slice (some ⟨y, 0, none⟩) 1 1]).run Try.prog w = .ok (.slice (some ⟨g', o', none⟩) (l.length + 1) cap) w' ∧ Ro w' (up c w.heap.size k) k (.slice (some ⟨g', o', none⟩) (l.length + 1) cap) (l ++ [z]) ∧ Fc (fun i => i = k) w c w' (up c w.heap.size k) := by
  obtain ⟨i0, hi, hz0, hz1, hz2⟩ := info_parts infoI
  have hnews : ∀ j u, [Value.int .i64 z][j]? = some u → w.cell? (Addr.add ⟨y, 0, none⟩ j) = some u := fun j u hj => by
    match j, hj with
    | 0, hj => simp at hj; subst hj; rw [addr_lit]; exact hg
    | j + 1, hj => simp at hj
  have hone : ∀ u ∈ [Value.int .i64 z], u.oneCell' = true := fun u hu => by simp at hu; subst hu; rfl
  have grow : ∀ v' w', (Builtin.append_ #[41, 41] ty #[v, .slice (some ⟨y, 0, none⟩) 1 1]).run Try.prog w = .ok v' w' → w'.ownsRow w.heap.size 3 1 v' (l.length + 1) (l.map (Value.int .i64) ++ [Value.int .i64 z]) → w.grownBy w' none → ∃ g' o' cap w', (Builtin.append_ #[41, 41] ty #[v, .slice (some ⟨y, 0, none⟩) 1 1]).run Try.prog w = .ok (.slice (some ⟨g', o', none⟩) (l.length + 1) cap) w' ∧ Ro w' (up c w.heap.size k) k (.slice (some ⟨g', o', none⟩) (l.length + 1) cap) (l ++ [z]) ∧ Fc (fun i => i = k) w c w' (up c w.heap.size k) := fun v' w' h0 h1 h2 => by
    have hro : Ro w' (up c w.heap.size k) k v' (l ++ [z]) := own_ro (n := l.length + 1) (by rw [List.map_append]; exact h1) (by simp) (by omega) fun g hg => up_ge hg
    have hfc : Fc (fun i => i = k) w c w' (up c w.heap.size k) := ⟨⟨h2.os, h2.tape, h2.output, h2.size, fun i hi hn => h2.block i hi (by simp)⟩, fun i hi => up_lt hi⟩
    obtain ⟨g, o', n, e, _⟩ := hro.some (by simp)
    rw [List.length_append, List.length_singleton] at e
    subst e
    exact ⟨g, o', n, w', h0, hro, hfc⟩
  rcases hr with ⟨rfl, rfl⟩ | ⟨g, off, cap, cur, rfl, h2, h3, h4, h5, h6, h7⟩
  · obtain ⟨v', w', hrun, r1, r2, _⟩ := run_append_own (P := Try.prog) w w.heap.size 41 ty 3 i0 _ 1 8 Try.underlying41 hi hz0 hz1 hz2 rfl (by omega) (.slice none 0 0) 0 [] (World.ownsRow_nil w _ _ _) ⟨y, 0, none⟩ 1 1 [.int .i64 z] rfl hnews hone (by unfold maxLen; omega) (by omega) (Nat.le_refl _)
    exact grow v' w' hrun r1 r2
  · have hlt : g < w.heap.size := (Array.getElem?_eq_some_iff.1 h2).1
    by_cases hr : l.length + 1 ≤ cap
    · have hset : (w.setCell ⟨g, off + l.length, none⟩ (.int .i64 z)).heap[g]? = some (.cells (cur.setIfInBounds (off + l.length) (.int .i64 z)) 3 (0, 0)) := by
        obtain ⟨_, hk⟩ := Array.getElem?_eq_some_iff.1 h2
        show (w.heap.modify g _)[g]? = _
        rw [Array.getElem?_eq_getElem (by rw [Array.size_modify]; exact hlt), Array.getElem_modify_self, hk]
        rfl
      have hw : w.setCells g (off + l.length * i0.size) [.int .i64 z] = w.setCell ⟨g, off + l.length, none⟩ (.int .i64 z) := by rw [hz1, Nat.mul_one]; rfl
      have hrun := run_append_room_cells (P := Try.prog) w 41 ty 3 i0 Try.underlying41 hi g off l.length cap ⟨y, 0, none⟩ 1 1 [.int .i64 z] (by rw [hz1]; rfl) hnews hone hr (fun j hj => by
        obtain rfl : j = 0 := by simp at hj; exact hj
        have : off + l.length * i0.size + 0 < cur.size := by rw [hz1]; omega
        rw [cell_heap h2 (Array.getElem?_eq_getElem this)]
        rfl) (fun j hj => froz_heap h2)
      rw [hw] at hrun
      refine ⟨g, off, cap, _, hrun, .inr ⟨g, off, cap, _, by simp, hset, by simp; omega, h4, by simpa using h5, fun i x hx => ?_, up_of h7⟩, ⟨⟨rfl, rfl, rfl, by simp, fun i hi hn => Below.heap_setCell w _ _ i fun e => hn (by rw [e]; exact h7)⟩, fun i hi => up_lt hi⟩⟩
      rw [Array.getElem?_setIfInBounds]
      by_cases e : i = l.length
      · subst e
        rw [if_pos rfl, if_pos (by omega)]
        simp at hx
        rw [hx]
      · rw [if_neg (by omega)]
        have hi := (List.getElem?_eq_some_iff.1 hx).1
        rw [List.length_append, List.length_singleton] at hi
        rw [List.getElem?_append_left (by omega)] at hx
        exact h6 i x hx
    · obtain ⟨v', w', hrun, r1, r2⟩ := run_append_arg_grows (P := Try.prog) w 41 ty 3 i0 _ 1 8 Try.underlying41 hi hz0 hz1 hz2 rfl (by omega) ⟨g, off, none⟩ l.length cap (l.map (Value.int .i64)) (by simp) (fun j u hj => by
        rw [addr_lit]
        rw [List.getElem?_map] at hj
        cases e : l[j]? with
        | none => rw [e] at hj; simp at hj
        | some x => rw [e] at hj; simp at hj; subst hj; exact cell_heap h2 (h6 j x e)) ⟨y, 0, none⟩ 1 1 [.int .i64 z] rfl hnews (by omega) (by unfold maxLen; omega) (by omega)
      exact grow v' w' hrun r1 r2
/-- 'append(a, x)' -/
theorem wpR {o : Oper} {a : Act} {K : Act → World → Prop} {Q : Exit → Act → World → Prop} (s x : Operand)
    (ho : o.op = .call { callee := .builtin .append, args := #[s, x], argTypes := #[41, 41] }) (w : World) (c : Nat → Nat) (k y : Nat) (v : Value) (l : List Int) (z : Int)
    (hs : a.eval s = v) (hx : a.eval x = .slice (some ⟨y, 0, none⟩) 1 1) (hg : w.cell? ⟨y, 0, none⟩ = some (.int .i64 z)) (hr : Ro w c k v l) (hn : l.length ≤ 2000)
    (h : ∀ g' o' cap w', Ro w' (up c w.heap.size k) k (.slice (some ⟨g', o', none⟩) (l.length + 1) cap) (l ++ [z]) → Fc (fun i => i = k) w c w' (up c w.heap.size k) → K (a.put o.dst (.slice (some ⟨g', o', none⟩) (l.length + 1) cap)) w') : Oper.wp Try.prog o a w K Q := by
  obtain ⟨g', o', cap, w', hrun, h1, h2⟩ := runR y z hg hr hn o.type
  unfold Oper.wp
  simp [execOp, ho, resolve, invoke, builtin, hs, hx, hrun, Result.andThen]
  exact h g' o' cap w' h1 h2
theorem appR {ops : Array Oper} {rest : List Oper} {o : Oper} {a : Act} {Q : Exit → Act → World → Prop}
    (hgd : o.guard = none) (s x : Operand) (ho : o.op = .call { callee := .builtin .append, args := #[s, x], argTypes := #[41, 41] }) (w : World) (c : Nat → Nat) (k y : Nat) (v : Value) (l : List Int) (z : Int)
    (hs : a.eval s = v) (hx : a.eval x = .slice (some ⟨y, 0, none⟩) 1 1) (hg : w.cell? ⟨y, 0, none⟩ = some (.int .i64 z)) (hr : Ro w c k v l) (hn : l.length ≤ 2000)
    (h : ∀ g' o' cap w', Ro w' (up c w.heap.size k) k (.slice (some ⟨g', o', none⟩) (l.length + 1) cap) (l ++ [z]) → Fc (fun i => i = k) w c w' (up c w.heap.size k) → wpList Try.prog ops Q rest (a.put o.dst (.slice (some ⟨g', o', none⟩) (l.length + 1) cap)) w') :
    wpList Try.prog ops Q (o :: rest) a w := wpList_plain hgd fun _ hK => wpR s x ho w c k y v l z hs hx hg hr hn fun g' o' cap w' h1 h2 => hK _ _ (h g' o' cap w' h1 h2)
theorem stepR {ops : Array Oper} {o : Oper} {a : Act} {K : Act → World → Prop} {Q : Exit → Act → World → Prop} {E : Prop} (hgd : o.guard = none) (s x : Operand)
    (ho : o.op = .call { callee := .builtin .append, args := #[s, x], argTypes := #[41, 41] }) (w : World) (c : Nat → Nat) (k y : Nat) (v : Value) (l : List Int) (z : Int)
    (hs : a.eval s = v) (hx : a.eval x = .slice (some ⟨y, 0, none⟩) 1 1) (hg : w.cell? ⟨y, 0, none⟩ = some (.int .i64 z)) (hr : Ro w c k v l) (hn : l.length ≤ 2000)
    (h : ∀ g' o' cap w', Ro w' (up c w.heap.size k) k (.slice (some ⟨g', o', none⟩) (l.length + 1) cap) (l ++ [z]) → Fc (fun i => i = k) w c w' (up c w.heap.size k) → K (a.put o.dst (.slice (some ⟨g', o', none⟩) (l.length + 1) cap)) w') :
    if Region.wanted o (yielded ops a.tmps) = true then Oper.wp Try.prog o a w K Q else E := by
  have hw : Region.wanted o (yielded ops a.tmps) = true := by simp [Region.wanted, hgd]
  rw [if_pos hw]
  exact wpR s x ho w c k y v l z hs hx hg hr hn h
end
/-! ### the run's block -/
def fn6 (f : Nat → Nat) : Prop := True
def ptrO (o : Option Nat) : Value := .pointer (o.map fun y => ⟨y, 0, none⟩)
/-- the block of a run: operations tk, gv by threads, and numbers and rows -/
structure Rb (w : World) (b Y P : Nat) (tk gv : Nat → Option Nat) (of : Nat → Int) (mn sk : Nat → Value) (sw sn st : Nat → Int) : Prop where
  y : w.cell? ⟨b, 0, none⟩ = some (.pointer (some ⟨Y, 0, none⟩))
  p : w.cell? ⟨b, 1, none⟩ = some (.pointer (some ⟨P, 0, none⟩))
  tk : ∀ t, t < 6 → w.cell? ⟨b, 2 + t, none⟩ = some (ptrO (tk t))
  gv : ∀ t, t < 6 → w.cell? ⟨b, 8 + t, none⟩ = some (ptrO (gv t))
  of : ∀ t, t < 6 → w.cell? ⟨b, 14 + t, none⟩ = some (.int .i64 (of t))
  mn : ∀ t, t < 6 → w.cell? ⟨b, 20 + t, none⟩ = some (mn t)
  sk : ∀ t, t < 6 → w.cell? ⟨b, 26 + t, none⟩ = some (sk t)
  sw : ∀ t, t < 6 → w.cell? ⟨b, 32 + t, none⟩ = some (.int .i64 (sw t))
  sn : ∀ t, t < 6 → w.cell? ⟨b, 38 + t, none⟩ = some (.int .i64 (sn t))
  st : ∀ t, t < 6 → w.cell? ⟨b, 44 + t, none⟩ = some (.int .i64 (st t))
  fz : ∀ j, w.frozen? ⟨b, j, none⟩ = false
section
variable {w : World} {b Y P : Nat} {tk gv : Nat → Option Nat} {of : Nat → Int} {mn sk : Nat → Value} {sw sn st : Nat → Int}
theorem Rb.lt (h : Rb w b Y P tk gv of mn sk sw sn st) : b < w.heap.size := World.block_lt_of_cell? w ⟨b, 0, none⟩ h.y
theorem Rb.keep (h : Rb w b Y P tk gv of mn sk sw sn st) {w' : World} (hb : w'.heap[b]? = w.heap[b]?) : Rb w' b Y P tk gv of mn sk sw sn st := by
  have k : ∀ j, w'.cell? ⟨b, j, none⟩ = w.cell? ⟨b, j, none⟩ := fun j => World.cell?_of_block (a := ⟨b, j, none⟩) hb
  exact ⟨(k _).trans h.y, (k _).trans h.p, fun t ht => (k _).trans (h.tk t ht), fun t ht => (k _).trans (h.gv t ht), fun t ht => (k _).trans (h.of t ht), fun t ht => (k _).trans (h.mn t ht), fun t ht => (k _).trans (h.sk t ht), fun t ht => (k _).trans (h.sw t ht), fun t ht => (k _).trans (h.sn t ht), fun t ht => (k _).trans (h.st t ht), fun j => (World.frozen?_of_block (a := ⟨b, j, none⟩) hb).trans (h.fz j)⟩
theorem Rb.set_tk (h : Rb w b Y P tk gv of mn sk sw sn st) {t : Nat} (ht : t < 6) (v : Option Nat) : Rb (w.setCell ⟨b, 2 + t, none⟩ (ptrO v)) b Y P (set tk t v) gv of mn sk sw sn st :=
  ⟨(oth (by omega)).trans h.y, (oth (by omega)).trans h.p, fun u hu => by
      by_cases e : u = t
      · subst e; simp only [set_same]; exact World.cell?_setCell_same _ _ _ (h.tk u hu)
      · rw [set_other e]; exact (oth (by omega)).trans (h.tk u hu), fun u hu => (oth (by omega)).trans (h.gv u hu), fun u hu => (oth (by omega)).trans (h.of u hu), fun u hu => (oth (by omega)).trans (h.mn u hu), fun u hu => (oth (by omega)).trans (h.sk u hu), fun u hu => (oth (by omega)).trans (h.sw u hu), fun u hu => (oth (by omega)).trans (h.sn u hu), fun u hu => (oth (by omega)).trans (h.st u hu), fun j => frz (h.fz j)⟩
theorem Rb.set_gv (h : Rb w b Y P tk gv of mn sk sw sn st) {t : Nat} (ht : t < 6) (v : Option Nat) : Rb (w.setCell ⟨b, 8 + t, none⟩ (ptrO v)) b Y P tk (set gv t v) of mn sk sw sn st :=
  ⟨(oth (by omega)).trans h.y, (oth (by omega)).trans h.p, fun u hu => (oth (by omega)).trans (h.tk u hu), fun u hu => by
      by_cases e : u = t
      · subst e; simp only [set_same]; exact World.cell?_setCell_same _ _ _ (h.gv u hu)
      · rw [set_other e]; exact (oth (by omega)).trans (h.gv u hu), fun u hu => (oth (by omega)).trans (h.of u hu), fun u hu => (oth (by omega)).trans (h.mn u hu), fun u hu => (oth (by omega)).trans (h.sk u hu), fun u hu => (oth (by omega)).trans (h.sw u hu), fun u hu => (oth (by omega)).trans (h.sn u hu), fun u hu => (oth (by omega)).trans (h.st u hu), fun j => frz (h.fz j)⟩
theorem Rb.set_of (h : Rb w b Y P tk gv of mn sk sw sn st) {t : Nat} (ht : t < 6) (v : Int) : Rb (w.setCell ⟨b, 14 + t, none⟩ (.int .i64 v)) b Y P tk gv (set of t v) mn sk sw sn st :=
  ⟨(oth (by omega)).trans h.y, (oth (by omega)).trans h.p, fun u hu => (oth (by omega)).trans (h.tk u hu), fun u hu => (oth (by omega)).trans (h.gv u hu), fun u hu => by
      by_cases e : u = t
      · subst e; simp only [set_same]; exact World.cell?_setCell_same _ _ _ (h.of u hu)
      · rw [set_other e]; exact (oth (by omega)).trans (h.of u hu), fun u hu => (oth (by omega)).trans (h.mn u hu), fun u hu => (oth (by omega)).trans (h.sk u hu), fun u hu => (oth (by omega)).trans (h.sw u hu), fun u hu => (oth (by omega)).trans (h.sn u hu), fun u hu => (oth (by omega)).trans (h.st u hu), fun j => frz (h.fz j)⟩
theorem Rb.set_mn (h : Rb w b Y P tk gv of mn sk sw sn st) {t : Nat} (ht : t < 6) (v : Value) : Rb (w.setCell ⟨b, 20 + t, none⟩ v) b Y P tk gv of (set mn t v) sk sw sn st :=
  ⟨(oth (by omega)).trans h.y, (oth (by omega)).trans h.p, fun u hu => (oth (by omega)).trans (h.tk u hu), fun u hu => (oth (by omega)).trans (h.gv u hu), fun u hu => (oth (by omega)).trans (h.of u hu), fun u hu => by
      by_cases e : u = t
      · subst e; simp only [set_same]; exact World.cell?_setCell_same _ _ _ (h.mn u hu)
      · rw [set_other e]; exact (oth (by omega)).trans (h.mn u hu), fun u hu => (oth (by omega)).trans (h.sk u hu), fun u hu => (oth (by omega)).trans (h.sw u hu), fun u hu => (oth (by omega)).trans (h.sn u hu), fun u hu => (oth (by omega)).trans (h.st u hu), fun j => frz (h.fz j)⟩
theorem Rb.set_sk (h : Rb w b Y P tk gv of mn sk sw sn st) {t : Nat} (ht : t < 6) (v : Value) : Rb (w.setCell ⟨b, 26 + t, none⟩ v) b Y P tk gv of mn (set sk t v) sw sn st :=
  ⟨(oth (by omega)).trans h.y, (oth (by omega)).trans h.p, fun u hu => (oth (by omega)).trans (h.tk u hu), fun u hu => (oth (by omega)).trans (h.gv u hu), fun u hu => (oth (by omega)).trans (h.of u hu), fun u hu => (oth (by omega)).trans (h.mn u hu), fun u hu => by
      by_cases e : u = t
      · subst e; simp only [set_same]; exact World.cell?_setCell_same _ _ _ (h.sk u hu)
      · rw [set_other e]; exact (oth (by omega)).trans (h.sk u hu), fun u hu => (oth (by omega)).trans (h.sw u hu), fun u hu => (oth (by omega)).trans (h.sn u hu), fun u hu => (oth (by omega)).trans (h.st u hu), fun j => frz (h.fz j)⟩
theorem Rb.set_sw (h : Rb w b Y P tk gv of mn sk sw sn st) {t : Nat} (ht : t < 6) (v : Int) : Rb (w.setCell ⟨b, 32 + t, none⟩ (.int .i64 v)) b Y P tk gv of mn sk (set sw t v) sn st :=
  ⟨(oth (by omega)).trans h.y, (oth (by omega)).trans h.p, fun u hu => (oth (by omega)).trans (h.tk u hu), fun u hu => (oth (by omega)).trans (h.gv u hu), fun u hu => (oth (by omega)).trans (h.of u hu), fun u hu => (oth (by omega)).trans (h.mn u hu), fun u hu => (oth (by omega)).trans (h.sk u hu), fun u hu => by
      by_cases e : u = t
      · subst e; simp only [set_same]; exact World.cell?_setCell_same _ _ _ (h.sw u hu)
      · rw [set_other e]; exact (oth (by omega)).trans (h.sw u hu), fun u hu => (oth (by omega)).trans (h.sn u hu), fun u hu => (oth (by omega)).trans (h.st u hu), fun j => frz (h.fz j)⟩
theorem Rb.set_sn (h : Rb w b Y P tk gv of mn sk sw sn st) {t : Nat} (ht : t < 6) (v : Int) : Rb (w.setCell ⟨b, 38 + t, none⟩ (.int .i64 v)) b Y P tk gv of mn sk sw (set sn t v) st :=
  ⟨(oth (by omega)).trans h.y, (oth (by omega)).trans h.p, fun u hu => (oth (by omega)).trans (h.tk u hu), fun u hu => (oth (by omega)).trans (h.gv u hu), fun u hu => (oth (by omega)).trans (h.of u hu), fun u hu => (oth (by omega)).trans (h.mn u hu), fun u hu => (oth (by omega)).trans (h.sk u hu), fun u hu => (oth (by omega)).trans (h.sw u hu), fun u hu => by
      by_cases e : u = t
      · subst e; simp only [set_same]; exact World.cell?_setCell_same _ _ _ (h.sn u hu)
      · rw [set_other e]; exact (oth (by omega)).trans (h.sn u hu), fun u hu => (oth (by omega)).trans (h.st u hu), fun j => frz (h.fz j)⟩
theorem Rb.set_st (h : Rb w b Y P tk gv of mn sk sw sn st) {t : Nat} (ht : t < 6) (v : Int) : Rb (w.setCell ⟨b, 44 + t, none⟩ (.int .i64 v)) b Y P tk gv of mn sk sw sn (set st t v) :=
  ⟨(oth (by omega)).trans h.y, (oth (by omega)).trans h.p, fun u hu => (oth (by omega)).trans (h.tk u hu), fun u hu => (oth (by omega)).trans (h.gv u hu), fun u hu => (oth (by omega)).trans (h.of u hu), fun u hu => (oth (by omega)).trans (h.mn u hu), fun u hu => (oth (by omega)).trans (h.sk u hu), fun u hu => (oth (by omega)).trans (h.sw u hu), fun u hu => (oth (by omega)).trans (h.sn u hu), fun u hu => by
      by_cases e : u = t
      · subst e; simp only [set_same]; exact World.cell?_setCell_same _ _ _ (h.st u hu)
      · rw [set_other e]; exact (oth (by omega)).trans (h.st u hu), fun j => frz (h.fz j)⟩
end
end Po
end Go.Proofs.Ytcipjjchclpgnaa
