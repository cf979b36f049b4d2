/- Rows that are written over; both merges made. Conditions: none. · How many lists of a merge have what; the last key that was popped; a row of keys that grows beside a merge. No conditions. · Sequences that are fed to a merge: parts in ascending order, each list's own sequence, a merge between them; no program. No conditions. · Parts in memory: what is read, rows of the call's own, appends, arguments that are a list of parts. No conditions beside those of each lemma. · feed of leapfroglaw07: contract of the translated code. Conditions: those of the merge's contracts; the sequences' blocks stay. -/
import Derived.Test.YtbndgbjenmknmaaDoorMgF
import Derived.Maps.AppendAt
import Derived.Test.YtbndgbjenmknmaaDoorMgX
import Derived.Deep.Slices
import Derived.Deep.Fields
import Derived.Deep.RegionLaw
namespace Go.Proofs.YtbndgbjenmknmaaDoor
open Go.RowKit Go.Sort
set_option linter.unusedVariables false
set_option linter.unusedSimpArgs false
namespace Wk
open Hq
open Om (bel_alloc Pr bel_trans flat)
open Mg (popT Dd BdD1 MrAt Chg)
open Dm (flatI RdK)
/-- n cells from the address A on may be written over; they lie at H or above -/
def Wr (H : Nat) (w : World) (A : Option Addr) (n : Nat) : Prop := ∀ k, k < n → ∃ g, A = some ⟨g, 0, none⟩ ∧ H ≤ g ∧ (∃ v, w.cell? ⟨g, k, none⟩ = some v) ∧ w.frozen? ⟨g, k, none⟩ = false
theorem Wr.below {H : Nat} {w w' : World} {A : Option Addr} {n : Nat} (h : Wr H w A n) (hb : Below w.heap.size w w') : Wr H w' A n := fun k hk => by
  obtain ⟨g, e, hg, ⟨v, hv⟩, hf⟩ := h k hk
  have hlt : g < w.heap.size := World.block_lt_of_cell? w _ hv
  exact ⟨g, e, hg, ⟨v, (hb.cell (p := ⟨g, k, none⟩) hlt).trans hv⟩, (hb.frozen (p := ⟨g, k, none⟩) hlt).trans hf⟩
theorem Wr.set {H : Nat} {w : World} {A : Option Addr} {n : Nat} (h : Wr H w A n) (b o : Nat) (x : Value) : Wr H (w.setCell ⟨b, o, none⟩ x) A n := fun k hk => by
  obtain ⟨g, e, hg, ⟨v, hv⟩, hf⟩ := h k hk
  refine ⟨g, e, hg, ?_, by rw [World.frozen?_setCell]; exact hf⟩
  by_cases h2 : (⟨b, o, none⟩ : Addr) = ⟨g, k, none⟩
  · rw [h2]; exact ⟨x, World.cell?_setCell_same _ _ _ hv⟩
  · exact ⟨v, by rw [World.cell?_setCell_other _ _ _ _ (fun e => h2 (by rw [e]))]; exact hv⟩
theorem own_wr {w : World} {H : Nat} {t : TypeId} {s : Nat} {A : Option Addr} {n c : Nat} {xs : List Value} (h : w.ownsRow H t s (.slice A n c) n xs) : Wr H w A (n * s) := fun k hk => by
  rcases h.2 with ⟨e, h0⟩ | ⟨g, cap, cur, e, hg, hh, hnc, hm, hs, ht⟩
  · subst h0; omega
  · injection e with e1 e2 e3
    refine ⟨g, e1, hg, ?_, ?_⟩
    · have hlt : k < cur.size := by rw [hs]; exact Nat.lt_of_lt_of_le hk (Nat.mul_le_mul_right s hnc)
      exact ⟨cur[k], by rw [cell_of_row w g k cur _ _ hh]; exact Array.getElem?_eq_getElem hlt⟩
    · subst e1; subst e3
      exact World.ownsRow.frozenAt ⟨h.1, .inr ⟨g, _, cur, rfl, hg, hh, hnc, hm, hs, ht⟩⟩ _
theorem Du.below {B b br : Nat} {w w' : World} {M : Mg.Mg} (h : Du B w b br M) (hb : Below w.heap.size w w') : Du B w' b br M := ⟨h.sm.below hb, h.mr.below hb, h.le⟩
theorem new_both (S : Nat) (w : World) (hS : S < 18446744073709551616) :
    Calls Tryd.prog 9 #[.int .u64 (S : Nat)] w fun e w' => e = .returned (.pointer (some ⟨w.heap.size, 0, none⟩)) ∧ Sm (fun i => i < w.heap.size) w' w.heap.size (Mg.Mg.new fun v => S.testBit v) ∧ Below w.heap.size w w' :=
  newS (fun i => i < w.heap.size) S w hS (fun i h => h)
theorem new_ref (S B b : Nat) (w : World) (hS : S < 18446744073709551616) (h : Sm (fun i => i < B) w b (Mg.Mg.new fun v => S.testBit v)) (hB : B ≤ w.heap.size) :
    Calls Tryd.prog 10 #[.int .u64 S] w fun e w' => e = .returned (.pointer (some ⟨w.heap.size, 0, none⟩)) ∧ Du B w' b w.heap.size (Mg.Mg.new fun v => S.testBit v) ∧ Below w.heap.size w w' :=
  (Mg.newR S w (fun p W hp => Dm.in_any S p hS hp W)).mono fun e w' ⟨he, hm, hb⟩ => ⟨he, ⟨h.more hb fun i hi => by
    rcases hi with h1 | h1 | h1
    · exact .inl h1
    · subst h1; exact .inr ⟨Nat.le_refl _, hm.lt⟩
    · omega, hm, hB⟩, hb⟩
end Wk
end Go.Proofs.YtbndgbjenmknmaaDoor
namespace Go.Proofs.YtbndgbjenmknmaaDoor
set_option linter.unusedVariables false
set_option linter.unusedSimpArgs false
namespace Mg
open Om (Pr)
def cnt (f : Nat → Bool) (n : Nat) : Nat := ((List.range n).filter f).length
theorem cnt_yes {f : Nat → Bool} {n : Nat} (h : f n = true) : cnt f (n + 1) = cnt f n + 1 := by simp [cnt, List.range_succ, List.filter_append, List.filter_cons, h]
theorem cnt_no {f : Nat → Bool} {n : Nat} (h : f n = false) : cnt f (n + 1) = cnt f n := by simp [cnt, List.range_succ, List.filter_append, List.filter_cons, h]
theorem cnt_congr {f g : Nat → Bool} : ∀ {n : Nat}, (∀ v, v < n → f v = g v) → cnt f n = cnt g n
  | 0, _ => rfl
  | n + 1, h => by
    have ih := cnt_congr (f := f) (g := g) (n := n) fun v hv => h v (by omega)
    have e := h n (by omega)
    cases hf : f n with
    | true => rw [cnt_yes hf, cnt_yes (by rw [← e]; exact hf), ih]
    | false => rw [cnt_no hf, cnt_no (by rw [← e]; exact hf), ih]
theorem cnt_put {f g : Nat → Bool} {v : Nat} (hf : f v = false) (hg : g v = true) : ∀ {n : Nat}, v < n → (∀ u, u < n → u ≠ v → g u = f u) → cnt g n = cnt f n + 1
  | 0, h, _ => absurd h (Nat.not_lt_zero _)
  | n + 1, h, ho => by
    by_cases e : v = n
    · subst e
      rw [cnt_yes hg, cnt_no hf, cnt_congr fun u hu => ho u (by omega) (by omega)]
    · have ih := cnt_put hf hg (n := n) (by omega) fun u hu hne => ho u (by omega) hne
      have e2 := ho n (by omega) (fun h2 => e h2.symm)
      cases hn : f n with
      | true => rw [cnt_yes hn, cnt_yes (by rw [e2]; exact hn), ih]
      | false => rw [cnt_no hn, cnt_no (by rw [e2]; exact hn), ih]
theorem cnt_zero {f : Nat → Bool} {n : Nat} (h : cnt f n = 0) : ∀ v, v < n → f v = false := fun v hv => by
  cases e : f v with
  | false => rfl
  | true =>
    have : v ∈ (List.range n).filter f := List.mem_filter.2 ⟨List.mem_range.2 hv, e⟩
    rw [List.eq_nil_of_length_eq_zero h] at this; cases this
theorem cnt_split (M : Mg) : ∀ n, (∀ v, v < n → M.hs v = true → M.ls v = true ∧ M.en v = false) → (∀ v, v < n → M.en v = true → M.ls v = true) → cnt M.ls n = cnt M.hs n + cnt M.lacks n + cnt M.en n
  | 0, _, _ => rfl
  | n + 1, h1, h2 => by
    have ih := cnt_split M n (fun v hv => h1 v (by omega)) (fun v hv => h2 v (by omega))
    have a := h1 n (by omega)
    have b := h2 n (by omega)
    have hl : M.lacks n = (M.ls n && !M.hs n && !M.en n) := rfl
    cases hh : M.hs n with
    | true =>
      obtain ⟨a1, a2⟩ := a hh
      rw [cnt_yes a1, cnt_yes hh, cnt_no (by rw [hl, a1, hh]; rfl), cnt_no a2, ih]; omega
    | false =>
      cases he : M.en n with
      | true => rw [cnt_yes (b he), cnt_no hh, cnt_no (by rw [hl, hh, he, b he]; rfl), cnt_yes he, ih]; omega
      | false =>
        cases hs : M.ls n with
        | true => rw [cnt_yes hs, cnt_no hh, cnt_yes (by rw [hl, hh, he, hs]; rfl), cnt_no he, ih]; omega
        | false => rw [cnt_no hs, cnt_no hh, cnt_no (by rw [hl, hh, he, hs]; rfl), cnt_no he, ih]
theorem leastN_some (M : Mg) : ∀ n, ∃ r, M.leastN n r
  | 0 => ⟨-1, leastN_zero M⟩
  | n + 1 => by
    obtain ⟨r, h⟩ := leastN_some M n
    cases hh : M.hs n with
    | false => exact ⟨r, leastN_skip h hh⟩
    | true =>
      rcases h with ⟨hr, h1⟩ | ⟨v, rfl, h1⟩
      · exact ⟨n, leastN_first (.inl ⟨hr, h1⟩) (by omega) hh⟩
      · by_cases hc : (M.p n).1 < (M.p v).1
        · exact ⟨n, leastN_take (.inr ⟨v, rfl, h1⟩) hh hc⟩
        · exact ⟨v, leastN_keep (.inr ⟨v, rfl, h1⟩) hc⟩
theorem list_count : ∀ (k : Nat) (M : Mg), M.Inv → cnt M.hs 64 = k → M.list.length = k
  | 0, M, hi, h => by rw [list_none hi (cnt_zero h)]; rfl
  | k + 1, M, hi, h => by
    obtain ⟨r, hr⟩ := leastN_some M 64
    rcases hr with ⟨_, h1⟩ | ⟨v, _, hv, hh, hl⟩
    · have e : cnt M.hs 64 = cnt (fun _ => false) 64 := cnt_congr h1
      have e2 : cnt (fun _ => false) 64 = 0 := by decide
      omega
    · have hd := inv_drop hi v
      rw [list_drop hi ⟨hv, hh, hl⟩ hd, List.length_cons]
      have := cnt_put (f := (M.drop v).hs) (g := M.hs) (v := v) (by simp [Mg.drop]) hh hv (fun u hu hne => by simp [Mg.drop, hne])
      rw [list_count k (M.drop v) hd (by omega)]
theorem miss_count (M : Mg) : (M.missN 64).length = cnt M.lacks 64 := by simp [Mg.missN, cnt]
/-- S is the set of the lists; E have ended -/
def Cn (S E : Nat) (M : Mg) : Prop := (∀ v, v < 64 → M.ls v = S.testBit v) ∧ E = cnt M.en 64
theorem Cn.total {S E : Nat} {M : Mg} (h : Cn S E M) (hi : M.Inv) : M.list.length + (M.missN 64).length + E = cnt (fun v => S.testBit v) 64 := by
  rw [list_count _ M hi rfl, miss_count, h.2, ← cnt_congr h.1]
  exact (cnt_split M 64 hi.hl hi.el).symm
theorem Cn.new (S : Nat) : Cn S 0 (Mg.new fun v => S.testBit v) := ⟨fun v hv => rfl, by
  have : cnt (Mg.new fun v => S.testBit v).en 64 = cnt (fun _ => false) 64 := rfl
  rw [this]; decide⟩
theorem Cn.done {S E : Nat} {M : Mg} (h : Cn S E M) {l : Int} (hi : M.Inv) (he : M.err l = 0) : Cn S (E + 1) (M.done l.toNat) := by
  refine ⟨h.1, ?_⟩
  obtain ⟨_, l0, l1⟩ := inv_done hi he
  have h2 : M.en l.toNat = false := by
    unfold Mg.err at he
    split at he
    · cases he
    · split at he
      · cases he
      · rename_i h3
        cases e : M.en l.toNat
        · rfl
        · exact absurd (.inr e) h3
  rw [h.2]
  exact (cnt_put (g := (M.done l.toNat).en) h2 (by simp [Mg.done]) (by omega) (fun u hu hne => by simp [Mg.done, hne])).symm
theorem Cn.put {S E : Nat} {M : Mg} (h : Cn S E M) (v : Nat) (x : Pr) : Cn S E (M.put v x) := h
theorem Cn.skipped {S E : Nat} {M : Mg} (h : Cn S E M) (k : Int) : Cn S E (M.skipped k) := h
theorem Cn.popped {S E : Nat} {M : Mg} (h : Cn S E M) (v : Nat) : Cn S E (M.popped v) := by
  unfold Mg.popped; split <;> exact h
theorem Cn.after {S E : Nat} {M N : Mg} {e : Int} (h : Cn S E M) (hn : e = 0 → Cn S E N) : Cn S E (M.after e N) := by
  unfold Mg.after; split
  · rename_i he; exact hn he
  · exact h
theorem err_done {M : Mg} {l : Int} (he : M.err l = 0) : (M.done l.toNat).err l = 8 := by
  unfold Mg.err at he ⊢
  split at he
  · cases he
  · rename_i h1
    have h2 : ¬ (l < 0 ∨ 64 ≤ l ∨ (M.done l.toNat).ls l.toNat = false) := h1
    rw [if_neg h2, if_pos (.inr (by simp [Mg.done]))]
/-- the last key that was popped, q, is less than what may come -/
def Lk (M : Mg) (q : Int) : Prop := (∀ v, v < 64 → M.hs v = true → q < (M.p v).1) ∧ (M.fu = true ∨ q < M.fl)
theorem Lk.put {M : Mg} {q : Int} (h : Lk M q) {l : Int} {x : Pr} (he : M.offE l x = 0) : Lk (M.put l.toNat x) q := by
  unfold Mg.offE at he
  split at he
  · rename_i h1; exact absurd he h1
  · split at he
    · cases he
    · rename_i hf
      have hfu : M.fu = false := by cases e : M.fu; rfl; exact absurd (.inl e) hf
      have hfl : M.fl ≤ x.1 := Int.not_lt.1 fun h3 => hf (.inr h3)
      have hq : q < M.fl := by
        rcases h.2 with h3 | h3
        · rw [hfu] at h3; cases h3
        · exact h3
      refine ⟨fun v hv hh => ?_, h.2⟩
      simp only [Mg.put] at hh ⊢
      by_cases e : v = l.toNat
      · rw [if_pos e]; omega
      · rw [if_neg e] at hh ⊢; exact h.1 v hv hh
theorem Lk.done {M : Mg} {q : Int} (h : Lk M q) (v : Nat) : Lk (M.done v) q := h
theorem Lk.skipped {M : Mg} {q : Int} (h : Lk M q) (k : Int) : Lk (M.skipped k) q := by
  refine ⟨fun v hv hh => ?_, ?_⟩
  · have : M.hs v = true := by
      simp only [Mg.skipped] at hh
      split at hh
      · cases hh
      · exact hh
    exact h.1 v hv this
  · rcases h.2 with h3 | h3
    · exact .inl h3
    · refine .inr ?_
      show q < (if M.fl < k then k else M.fl)
      split <;> omega
theorem Lk.after {M N : Mg} {q e : Int} (h : Lk M q) (hn : e = 0 → Lk N q) : Lk (M.after e N) q := by
  unfold Mg.after; split
  · rename_i he; exact hn he
  · exact h
theorem Lk.popped {M : Mg} (hi : M.Inv) {v : Nat} (hv : M.least v) : Lk (M.popped v) (M.p v).1 := by
  have key : ∀ u, u < 64 → (M.drop v).hs u = true → (M.p v).1 < (M.p u).1 := fun u hu hh => by
    by_cases e : u = v
    · subst e; simp [Mg.drop] at hh
    · simp only [Mg.drop, if_neg e] at hh
      have h1 := hv.2.2 u hu hh
      have h2 : (M.p u).1 ≠ (M.p v).1 := fun e2 => e (hi.ne u v hu hv.1 hh hv.2.1 e2)
      omega
  unfold Mg.popped
  split
  · exact ⟨key, .inl rfl⟩
  · exact ⟨key, .inr (by show (M.p v).1 < (M.p v).1 + 1; omega)⟩
end Mg
open Go.RowKit Go.Sort
namespace Wk
open Hq
open Om (bel_alloc Pr bel_trans addr_lit)
def flatU (l : List Int) : List Value := l.map (Value.int .u64)
theorem infoU : (Tryd.prog.info? 22).map (fun i => (i.zero, i.size, i.bytes)) = some (some (.int .u64 0), 1, 8) := by kernel_rfl
/-- the blocks that stay: those below B, and the row's -/
def Xl (B : Nat) (v : Value) : Nat → Prop := fun i => i < B ∨ v.ownBlock = some i
theorem app1L {ops : Array Oper} {rest : List Oper} {o : Oper} {a : Act} {Q : Exit → Act → World → Prop} (hgd : o.guard = none) (s x : Operand)
    (ho : o.op = .call { callee := .builtin .append, args := #[s, x], argTypes := #[61, 61] }) (w : World) (base n : Nat) (v : Value) (ys : List Int) (y : Int)
    (hs : a.eval s = v) (hx : a.eval x = .slice (some ⟨w.heap.size, 0, none⟩) 1 1) (hown : w.ownsRow base 22 1 v n (flatU ys)) (hn : n ≤ 2000) (hb : base ≤ w.heap.size)
    (h : ∀ v' w', w'.ownsRow base 22 1 v' (n + 1) (flatU (ys ++ [y])) → (w.alloc (.cells #[.int .u64 y] 22)).grownBy w' v.ownBlock → (v'.ownBlock = v.ownBlock ∨ v'.ownBlock = some (w.alloc (.cells #[.int .u64 y] 22)).heap.size) → wpList Tryd.prog ops Q rest (a.put o.dst v') w') :
    wpList Tryd.prog ops Q (o :: rest) a (w.alloc (.cells #[.int .u64 y] 22)) := by
  obtain ⟨i0, hi, hz0, hz1, hz2⟩ := info_parts infoU
  refine wpList_append_own_at _ hgd s x 61 ho base 22 i0 _ 1 8 Tryd.underlying61 hi hz0 hz1 hz2 rfl (by omega) v n (flatU ys) hs (hown.alloc _) ⟨w.heap.size, 0, none⟩ 1 1 [.int .u64 y] hx rfl ?_ ?_ (by unfold maxLen; omega) (by omega) (by simp; omega) ?_
  · intro j u hj
    rw [addr_lit, Nat.zero_add, World.cell?_alloc_new]
    simpa using hj
  · intro u hu
    simp at hu
    subst hu
    rfl
  · intro v' w' h1 h2 _ h4
    rw [show flatU ys ++ [.int .u64 y] = flatU (ys ++ [y]) by simp [flatU]] at h1
    exact h v' w' h1 h2 h4
theorem Sm.row {B b : Nat} {v v' : Value} {w w' : World} {M : Mg.Mg} (h : Sm (Xl B v) w b M) (hg : w.grownBy w' v.ownBlock) (hv : v'.ownBlock = v.ownBlock ∨ v'.ownBlock = some w.heap.size) (hlt : ∀ g, v'.ownBlock = some g → g < w'.heap.size) : Sm (Xl B v') w' b M := by
  obtain ⟨Q, h1, h2⟩ := h.at'
  have hX : ∀ i, Xl B v' i → Xl B v i ∨ i = w.heap.size := fun i hi => by
    rcases hi with h3 | h3
    · exact .inl (.inl h3)
    · rcases hv with h4 | h4
      · exact .inl (.inr (by rw [← h4]; exact h3))
      · rw [h4] at h3; injection h3 with h3; exact .inr h3.symm
  refine ⟨⟨Q, h1.keep (hg.block b h.lb fun e => h.nb (.inr e.symm)) (fun q e => hg.block q (by subst e; exact h1.qlt) fun e2 => h2 q e (.inr e2.symm)), fun q e hq => ?_⟩, fun hq => ?_, h.inv, h.u, fun i hi => ?_, Nat.lt_of_lt_of_le h.lb hg.size⟩
  · rcases hX q hq with h3 | h3
    · exact h2 q e h3
    · subst e; have := h1.qlt; omega
  · rcases hX b hq with h3 | h3
    · exact h.nb h3
    · have := h.lb; omega
  · rcases hi with h3 | h3
    · exact Nat.lt_of_lt_of_le (h.lt i (.inl h3)) hg.size
    · exact hlt i h3
theorem rowU {w : World} {base n : Nat} {v : Value} {l : List Int} (h : w.ownsRow base 22 1 v n (flatU l)) : l.length = n ∧ ∃ A c, v = .slice A n c ∧ ∀ (k : Nat) (x : Int), l[k]? = some x → ∃ g, A = some ⟨g, 0, none⟩ ∧ w.cell? ⟨g, k, none⟩ = some (.int .u64 x) := by
  have hl : l.length = n := by have := h.1; simpa [flatU] using this
  refine ⟨hl, ?_⟩
  rcases h.2 with ⟨rfl, rfl⟩ | ⟨g, cap, cur, rfl, hg, hh, hnc, hm, hs, ht⟩
  · exact ⟨none, 0, rfl, fun k x hk => by rw [List.eq_nil_of_length_eq_zero hl] at hk; cases hk⟩
  · refine ⟨_, cap, rfl, fun k x hk => ⟨g, rfl, ?_⟩⟩
    have hkn : k < n := by have := (List.getElem?_eq_some_iff.1 hk).1; omega
    rw [World.ownsRow.cellAt ⟨h.1, .inr ⟨g, cap, cur, rfl, hg, hh, hnc, hm, hs, ht⟩⟩ _ (by omega)]
    simp [flatU, hk]
/-- a round's state: the merge, the row of popped keys, how many have ended -/
structure Rs (B : Nat) (w : World) (b S E : Nat) (M : Mg.Mg) (L : List Int) (v : Value) : Prop where
  sm : Sm (Xl B v) w b M
  row : w.ownsRow B 22 1 v L.length (flatU L)
  cn : Mg.Cn S E M
  lk : ∀ q, L.getLast? = some q → Mg.Lk M q
theorem Rs.below {B : Nat} {w w' : World} {b S E : Nat} {M : Mg.Mg} {L : List Int} {v : Value} (h : Rs B w b S E M L v) (hb : Below w.heap.size w w') : Rs B w' b S E M L v :=
  ⟨h.sm.below hb, ownU_keep h.row fun g hg => hb.block g (h.row.lt g hg).2, h.cn, h.lk⟩
where ownU_keep {w w' : World} {base : Nat} {e : TypeId} {size : Nat} {v : Value} {n : Nat} {xs : List Value} (h : w.ownsRow base e size v n xs) (hb : ∀ g, v.ownBlock = some g → w'.heap[g]? = w.heap[g]?) : w'.ownsRow base e size v n xs := Mg.own_keep h hb
theorem Rs.call {B : Nat} {w w' : World} {b S E F : Nat} {M N : Mg.Mg} {L : List Int} {v : Value} (h : Rs B w b S E M L v) (hs : Sm (Xl B v) w' b N) (hk : Kx (Xl B v) w w') (hc : Mg.Cn S F N) (hl : ∀ q, L.getLast? = some q → Mg.Lk N q) : Rs B w' b S F N L v :=
  ⟨hs, Mg.own_keep h.row fun g hg => hk.block g (.inr hg), hc, hl⟩
end Wk
end Go.Proofs.YtbndgbjenmknmaaDoor
namespace Go.Proofs.YtbndgbjenmknmaaDoor
set_option linter.unusedVariables false
set_option linter.unusedSimpArgs false
namespace Mg
open Om (Pr)
structure Pt where
  l : Int
  x : Pr
/-- the pairs of the list v -/
def sub (v : Nat) (all : List Pt) : List Pr := (all.filter fun y => decide (y.l = (v : Int))).map (·.x)
theorem sub_nil (v : Nat) : sub v [] = [] := rfl
theorem sub_yes {v : Nat} {y : Pt} {all : List Pt} (h : y.l = (v : Int)) : sub v (y :: all) = y.x :: sub v all := by simp [sub, List.filter_cons, h]
theorem sub_no {v : Nat} {y : Pt} {all : List Pt} (h : y.l ≠ (v : Int)) : sub v (y :: all) = sub v all := by simp [sub, List.filter_cons, h]
theorem sub_snoc_yes {v : Nat} {y : Pt} {all : List Pt} (h : y.l = (v : Int)) : sub v (all ++ [y]) = sub v all ++ [y.x] := by simp [sub, List.filter_append, List.filter_cons, h]
theorem sub_snoc_no {v : Nat} {y : Pt} {all : List Pt} (h : y.l ≠ (v : Int)) : sub v (all ++ [y]) = sub v all := by simp [sub, List.filter_append, List.filter_cons, h]
theorem sub_mem {v : Nat} {all : List Pt} {x : Pr} (h : x ∈ sub v all) : ∃ y ∈ all, y.l = (v : Int) ∧ y.x = x := by
  unfold sub at h
  obtain ⟨y, hy, rfl⟩ := List.mem_map.1 h
  obtain ⟨h1, h2⟩ := List.mem_filter.1 hy
  exact ⟨y, h1, by simpa using h2, rfl⟩
theorem sub_len (v : Nat) (all : List Pt) : (sub v all).length ≤ all.length := by unfold sub; rw [List.length_map]; exact List.length_filter_le _ _
/-- a part of the set S, its numbers in their bounds -/
structure Pg (S : Nat) (y : Pt) : Prop where
  l0 : 0 ≤ y.l
  l1 : y.l < 64
  ls : S.testBit y.l.toNat = true
  k0 : 0 ≤ y.x.1
  k1 : y.x.1 ≤ 18446744073709551615
def Lt (a b : Pt) : Prop := a.x.1 < b.x.1
structure Gp (S : Nat) (all : List Pt) : Prop where
  asc : all.Pairwise Lt
  mem : ∀ y ∈ all, Pg S y
theorem Gp.nil (S : Nat) : Gp S [] := ⟨List.Pairwise.nil, fun y h => by cases h⟩
theorem Gp.tail {S : Nat} {y : Pt} {all : List Pt} (h : Gp S (y :: all)) : Gp S all := ⟨(List.pairwise_cons.1 h.asc).2, fun z hz => h.mem z (List.mem_cons_of_mem _ hz)⟩
theorem Gp.one {S : Nat} {all : List Pt} (h : Gp S all) {a b : Pt} (ha : a ∈ all) (hb : b ∈ all) (e : a.x.1 = b.x.1) : a = b := by
  induction all with
  | nil => cases ha
  | cons y t ih =>
    obtain ⟨h1, h2⟩ := List.pairwise_cons.1 h.asc
    rcases List.mem_cons.1 ha with e1 | ha2
    · rcases List.mem_cons.1 hb with e2 | hb2
      · rw [e1, e2]
      · have := h1 b hb2; unfold Lt at this; rw [← e1] at this; omega
    · rcases List.mem_cons.1 hb with e2 | hb2
      · have := h1 a ha2; unfold Lt at this; rw [← e2] at this; omega
      · exact ih h.tail ha2 hb2
/-- a part laid between those with lesser and those with greater keys -/
theorem Gp.ins {S : Nat} {all : List Pt} (h : Gp S all) {x : Pt} (hx : Pg S x) (n : Nat) (h1 : ∀ y ∈ all.take n, y.x.1 < x.x.1) (h2 : ∀ y ∈ all.drop n, x.x.1 < y.x.1) : Gp S (all.take n ++ [x] ++ all.drop n) := by
  have ha := h.asc
  rw [← List.take_append_drop n all] at ha
  obtain ⟨a1, a2, a3⟩ := List.pairwise_append.1 ha
  refine ⟨?_, fun y hy => ?_⟩
  · rw [List.append_assoc]
    refine List.pairwise_append.2 ⟨a1, List.pairwise_append.2 ⟨List.pairwise_singleton _ _, a2, fun a ha b hb => ?_⟩, fun a ha b hb => ?_⟩
    · obtain rfl := List.mem_singleton.1 ha
      exact h2 b hb
    · rcases List.mem_append.1 hb with hb | hb
      · obtain rfl := List.mem_singleton.1 hb
        exact h1 a ha
      · exact a3 a ha b hb
  · rcases List.mem_append.1 hy with hy | hy
    · rcases List.mem_append.1 hy with hy | hy
      · exact h.mem y (List.mem_of_mem_take hy)
      · obtain rfl := List.mem_singleton.1 hy; exact hx
    · exact h.mem y (List.mem_of_mem_drop hy)
/-- where the keys before n are at most that of x and none is equal, and the one at n is greater -/
theorem Gp.ins_at {S : Nat} {all : List Pt} (h : Gp S all) {x : Pt} (hx : Pg S x) (n : Nat) (h1 : ∀ (k : Nat) (y : Pt), k < n → all[k]? = some y → y.x.1 ≤ x.x.1 ∧ y.x.1 ≠ x.x.1) (h2 : ∀ y, all[n]? = some y → x.x.1 < y.x.1) : Gp S (all.take n ++ [x] ++ all.drop n) := by
  refine h.ins hx n (fun y hy => ?_) (fun y hy => ?_)
  · obtain ⟨k, hk⟩ := List.getElem?_of_mem hy
    have hkn : k < n := by
      have := (List.getElem?_eq_some_iff.1 hk).1
      rw [List.length_take] at this; omega
    rw [List.getElem?_take_of_lt hkn] at hk
    have := h1 k y hkn hk; omega
  · cases hd : all.drop n with
    | nil => rw [hd] at hy; cases hy
    | cons z t =>
      have hz : all[n]? = some z := by
        have : (all.drop n)[0]? = some z := by rw [hd]; rfl
        rw [List.getElem?_drop] at this; simpa using this
      have h3 := h2 z hz
      have hp : (all.drop n).Pairwise Lt := List.Pairwise.sublist (List.drop_sublist n all) h.asc
      rw [hd] at hy hp
      rcases List.mem_cons.1 hy with rfl | hy
      · exact h3
      · have := (List.pairwise_cons.1 hp).1 y hy; unfold Lt at this; omega
/-- M has been fed from the sequences of 'all' as far as the R v are left -/
structure Fd (S : Nat) (M : Mg) (all : List Pt) (R : Nat → List Pr) : Prop where
  ls : ∀ v, v < 64 → M.ls v = S.testBit v
  st : ∀ v, v < 64 → S.testBit v = true → (M.hs v = true ∧ M.en v = false ∧ sub v all = M.p v :: R v) ∨ (M.hs v = false ∧ M.en v = false ∧ sub v all = R v) ∨ (M.hs v = false ∧ M.en v = true ∧ sub v all = [] ∧ R v = [])
  fu : all = [] ∨ M.fu = false
  fl : ∀ y ∈ all, M.fl ≤ y.x.1
theorem Fd.start {S : Nat} {all : List Pt} (h : Gp S all) : Fd S (Mg.new fun v => S.testBit v) all (fun v => sub v all) :=
  ⟨fun v _ => rfl, fun v _ _ => .inr (.inl ⟨rfl, rfl, rfl⟩), .inr rfl, fun y hy => (h.mem y hy).k0⟩
theorem lacks_iff {M : Mg} {v : Nat} : M.lacks v = true ↔ M.ls v = true ∧ M.hs v = false ∧ M.en v = false := by
  unfold Mg.lacks
  cases M.ls v <;> cases M.hs v <;> cases M.en v <;> simp
theorem miss_mem {M : Mg} {x : Int} : x ∈ M.missN 64 ↔ ∃ v : Nat, x = (v : Int) ∧ v < 64 ∧ M.lacks v = true := by
  unfold Mg.missN
  rw [List.mem_map]
  constructor
  · rintro ⟨v, hv, rfl⟩
    obtain ⟨h1, h2⟩ := List.mem_filter.1 hv
    exact ⟨v, rfl, List.mem_range.1 h1, h2⟩
  · rintro ⟨v, rfl, h1, h2⟩
    exact ⟨v, List.mem_filter.2 ⟨List.mem_range.2 h1, h2⟩, rfl⟩
theorem filter_one : ∀ (l : List Nat) (f g : Nat → Bool) (v : Nat) (t : List Nat), l.Nodup → l.filter f = v :: t → (∀ u, g u = if u = v then false else f u) → l.filter g = t
  | [], f, g, v, t, hn, h, hg => by cases h
  | a :: l, f, g, v, t, hn, h, hg => by
    obtain ⟨h1, h2⟩ := List.nodup_cons.1 hn
    by_cases hf : f a = true
    · rw [List.filter_cons_of_pos hf] at h
      injection h with e1 e2
      subst e1
      rw [List.filter_cons_of_neg (by rw [hg, if_pos rfl]; exact Bool.false_ne_true), ← e2]
      refine List.filter_congr fun u hu => ?_
      rw [hg, if_neg (fun (e : u = a) => h1 (e ▸ hu))]
    · rw [List.filter_cons_of_neg hf] at h
      have hga : ¬ g a = true := by
        rw [hg]; split
        · exact Bool.false_ne_true
        · exact hf
      rw [List.filter_cons_of_neg hga]
      exact filter_one l f g v t h2 h hg
theorem miss_one {M N : Mg} {v : Nat} {t : List Int} (h : M.missN 64 = (v : Int) :: t) (hN : ∀ u, N.lacks u = if u = v then false else M.lacks u) : N.missN 64 = t := by
  unfold Mg.missN at h ⊢
  cases hl : (List.range 64).filter M.lacks with
  | nil => rw [hl] at h; cases h
  | cons a l =>
    rw [hl, List.map_cons] at h
    injection h with e1 e2
    have e1 : a = v := by have : (a : Int) = (v : Int) := e1; omega
    subst e1
    rw [filter_one _ _ _ a l List.nodup_range hl hN, e2]
theorem miss_put {M : Mg} {v : Nat} {t : List Int} (h : M.missN 64 = (v : Int) :: t) (x : Pr) : (M.put v x).missN 64 = t :=
  miss_one h fun u => by
    by_cases e : u = v
    · subst e; simp [Mg.lacks, Mg.put]
    · simp [Mg.lacks, Mg.put, e]
theorem miss_done {M : Mg} {v : Nat} {t : List Int} (h : M.missN 64 = (v : Int) :: t) : (M.done v).missN 64 = t :=
  miss_one h fun u => by
    by_cases e : u = v
    · subst e; simp [Mg.lacks, Mg.done]
    · simp [Mg.lacks, Mg.done, e]
theorem err_lacks {M : Mg} {v : Nat} (hv : v < 64) (h : M.lacks v = true) : M.err (v : Int) = 0 := by
  obtain ⟨h1, h2, h3⟩ := lacks_iff.1 h
  unfold Mg.err
  rw [if_neg (by rw [Int.toNat_natCast, h1]; simp; omega), if_neg (by rw [Int.toNat_natCast, h2, h3]; simp)]
/-- what is left of v's sequence -/
def upd (R : Nat → List Pr) (v : Nat) (l : List Pr) : Nat → List Pr := fun u => if u = v then l else R u
theorem Fd.lack {S : Nat} {M : Mg} {all : List Pt} {R : Nat → List Pr} (h : Fd S M all R) {v : Nat} (hv : v < 64) (hl : M.lacks v = true) : S.testBit v = true ∧ sub v all = R v := by
  obtain ⟨h1, h2, h3⟩ := lacks_iff.1 hl
  have hs : S.testBit v = true := by rw [← h.ls v hv]; exact h1
  refine ⟨hs, ?_⟩
  rcases h.st v hv hs with ⟨h4, _⟩ | ⟨_, _, h4⟩ | ⟨_, h4, _⟩
  · rw [h2] at h4; cases h4
  · exact h4
  · rw [h3] at h4; cases h4
theorem Fd.off {S : Nat} {M : Mg} {all : List Pt} {R : Nat → List Pr} (h : Fd S M all R) (hg : Gp S all) (hi : M.Inv) {v : Nat} (hv : v < 64) (hl : M.lacks v = true) {x : Pr} {r : List Pr} (hR : R v = x :: r) : M.offE (v : Int) x = 0 := by
  obtain ⟨hs, e⟩ := h.lack hv hl
  obtain ⟨_, h2, _⟩ := lacks_iff.1 hl
  rw [hR] at e
  obtain ⟨y, hy, y1, y2⟩ := sub_mem (v := v) (all := all) (x := x) (by rw [e]; exact List.mem_cons_self)
  have hfu : M.fu = false := by
    rcases h.fu with h3 | h3
    · rw [h3] at hy; cases hy
    · exact h3
  have hfl := h.fl y hy
  rw [y2] at hfl
  unfold Mg.offE
  rw [if_neg (by rw [err_lacks hv hl]; simp), if_neg (by rw [hfu]; simp; omega), if_neg]
  rintro ⟨u, hu, hh, hk⟩
  have hus : S.testBit u = true := by rw [← h.ls u hu]; exact (hi.hl u hu hh).1
  rcases h.st u hu hus with ⟨_, _, h4⟩ | ⟨h4, _⟩ | ⟨h4, _⟩
  · obtain ⟨z, hz, z1, z2⟩ := sub_mem (v := u) (all := all) (x := M.p u) (by rw [h4]; exact List.mem_cons_self)
    have e2 := hg.one hz hy (by rw [z2, y2]; exact hk)
    have : u = v := by rw [e2, y1] at z1; omega
    subst this
    rw [h2] at hh; cases hh
  · rw [hh] at h4; cases h4
  · rw [hh] at h4; cases h4
theorem Fd.put {S : Nat} {M : Mg} {all : List Pt} {R : Nat → List Pr} (h : Fd S M all R) {v : Nat} (hv : v < 64) (hl : M.lacks v = true) {x : Pr} {r : List Pr} (hR : R v = x :: r) : Fd S (M.put v x) all (upd R v r) := by
  obtain ⟨hs, e⟩ := h.lack hv hl
  obtain ⟨_, h2, h3⟩ := lacks_iff.1 hl
  refine ⟨h.ls, fun u hu hus => ?_, h.fu, h.fl⟩
  by_cases e2 : u = v
  · subst e2
    exact .inl ⟨by simp [Mg.put], h3, by simp [Mg.put, upd, e, hR]⟩
  · simpa [Mg.put, upd, e2] using h.st u hu hus
theorem Fd.done {S : Nat} {M : Mg} {all : List Pt} {R : Nat → List Pr} (h : Fd S M all R) {v : Nat} (hv : v < 64) (hl : M.lacks v = true) (hR : R v = []) : Fd S (M.done v) all R := by
  obtain ⟨hs, e⟩ := h.lack hv hl
  obtain ⟨_, h2, h3⟩ := lacks_iff.1 hl
  refine ⟨h.ls, fun u hu hus => ?_, h.fu, h.fl⟩
  by_cases e2 : u = v
  · subst e2
    exact .inr (.inr ⟨h2, by simp [Mg.done], e.trans hR, hR⟩)
  · simpa [Mg.done, e2] using h.st u hu hus
/-- all have been fed -/
theorem Fd.full {S : Nat} {M : Mg} {all : List Pt} {R : Nat → List Pr} (h : Fd S M all R) (hm : M.missN 64 = []) {v : Nat} (hv : v < 64) (hs : S.testBit v = true) : (M.hs v = true ∧ sub v all = M.p v :: R v) ∨ (M.hs v = false ∧ sub v all = []) := by
  rcases h.st v hv hs with ⟨h1, _, h2⟩ | ⟨h1, h2, _⟩ | ⟨h1, _, h2, _⟩
  · exact .inl ⟨h1, h2⟩
  · have : M.lacks v = true := lacks_iff.2 ⟨by rw [h.ls v hv]; exact hs, h1, h2⟩
    have := miss_mem.2 ⟨v, rfl, hv, this⟩
    rw [hm] at this; cases this
  · exact .inr ⟨h1, h2⟩
theorem Fd.none {S : Nat} {M : Mg} {R : Nat → List Pr} (h : Fd S M [] R) (hi : M.Inv) : ∀ v, v < 64 → M.hs v = false := fun v hv => by
  cases hh : M.hs v with
  | false => rfl
  | true =>
    have hs : S.testBit v = true := by rw [← h.ls v hv]; exact (hi.hl v hv hh).1
    rcases h.st v hv hs with ⟨_, _, h2⟩ | ⟨h1, _⟩ | ⟨h1, _⟩
    · cases h2
    · rw [hh] at h1; cases h1
    · rw [hh] at h1; cases h1
theorem Fd.head {S : Nat} {M : Mg} {y : Pt} {all : List Pt} {R : Nat → List Pr} (h : Fd S M (y :: all) R) (hg : Gp S (y :: all)) (hm : M.missN 64 = []) (hi : M.Inv) : y.l.toNat < 64 ∧ M.hs y.l.toNat = true ∧ M.p y.l.toNat = y.x ∧ (∀ u, u < 64 → M.hs u = true → u ≠ y.l.toNat → y.x.1 < (M.p u).1) := by
  have py := hg.mem y List.mem_cons_self
  have hv : y.l.toNat < 64 := by have := py.l0; have := py.l1; omega
  have hvl : y.l = ((y.l.toNat : Nat) : Int) := by have := py.l0; omega
  have hsub := sub_yes (all := all) hvl
  rcases h.full hm hv py.ls with ⟨h1, h2⟩ | ⟨_, h2⟩
  · rw [hsub] at h2
    injection h2 with e1 e2
    refine ⟨hv, h1, e1.symm, fun u hu hh hne => ?_⟩
    have hus : S.testBit u = true := by rw [← h.ls u hu]; exact (hi.hl u hu hh).1
    rcases h.full hm hu hus with ⟨_, h4⟩ | ⟨h4, _⟩
    · rw [sub_no (fun e => hne (by omega))] at h4
      obtain ⟨z, hz, _, z2⟩ := sub_mem (v := u) (all := all) (x := M.p u) (by rw [h4]; exact List.mem_cons_self)
      have := (List.pairwise_cons.1 hg.asc).1 z hz
      unfold Lt at this
      rw [z2] at this; exact this
    · rw [hh] at h4; cases h4
  · rw [hsub] at h2; cases h2
theorem Fd.pop {S : Nat} {M : Mg} {y : Pt} {all : List Pt} {R : Nat → List Pr} (h : Fd S M (y :: all) R) (hg : Gp S (y :: all)) (hm : M.missN 64 = []) (hi : M.Inv) : Fd S (M.popped y.l.toNat) all R := by
  obtain ⟨hv, h1, h2, h3⟩ := h.head hg hm hi
  have py := hg.mem y List.mem_cons_self
  have hvl : y.l = ((y.l.toNat : Nat) : Int) := by have := py.l0; omega
  have hst : ∀ u, u < 64 → S.testBit u = true → ((M.drop y.l.toNat).hs u = true ∧ M.en u = false ∧ sub u all = M.p u :: R u) ∨ ((M.drop y.l.toNat).hs u = false ∧ M.en u = false ∧ sub u all = R u) ∨ ((M.drop y.l.toNat).hs u = false ∧ M.en u = true ∧ sub u all = [] ∧ R u = []) := fun u hu hus => by
    by_cases e : u = y.l.toNat
    · rcases h.st u hu hus with ⟨a1, a2, a3⟩ | ⟨a1, _⟩ | ⟨a1, _⟩
      · rw [sub_yes (e ▸ hvl)] at a3
        injection a3 with _ a4
        exact .inr (.inl ⟨by simp [Mg.drop, e], a2, a4⟩)
      · rw [e, h1] at a1; cases a1
      · rw [e, h1] at a1; cases a1
    · have hno : y.l ≠ (u : Int) := fun e2 => e (by omega)
      have := h.st u hu hus
      rw [sub_no hno] at this
      simpa [Mg.drop, e] using this
  have hgt : ∀ z ∈ all, y.x.1 < z.x.1 := fun z hz => (List.pairwise_cons.1 hg.asc).1 z hz
  unfold Mg.popped
  rw [h2]
  split
  · rename_i hmax
    have hnil : all = [] := by
      cases all with
      | nil => rfl
      | cons z t =>
        have a := hgt z List.mem_cons_self
        have b := (hg.mem z (List.mem_cons_of_mem _ List.mem_cons_self)).k1
        omega
    exact ⟨h.ls, hst, .inl hnil, fun z hz => by rw [hnil] at hz; cases hz⟩
  · refine ⟨h.ls, hst, ?_, fun z hz => ?_⟩
    · rcases h.fu with h4 | h4
      · cases h4
      · exact .inr h4
    · have := hgt z hz
      show y.x.1 + 1 ≤ z.x.1
      omega
theorem Fd.least {S : Nat} {M : Mg} {y : Pt} {all : List Pt} {R : Nat → List Pr} (h : Fd S M (y :: all) R) (hg : Gp S (y :: all)) (hm : M.missN 64 = []) (hi : M.Inv) : ∃ t, M.list = y.x :: t := by
  obtain ⟨hv, h1, h2, h3⟩ := h.head hg hm hi
  refine ⟨(M.drop y.l.toNat).list, ?_⟩
  rw [← h2]
  refine list_drop hi ⟨hv, h1, fun u hu hh => ?_⟩ (inv_drop hi _)
  by_cases e : u = y.l.toNat
  · rw [e]; exact Int.le_refl _
  · rw [h2]; exact Int.le_of_lt (h3 u hu hh e)
end Mg
end Go.Proofs.YtbndgbjenmknmaaDoor
namespace Go.Proofs.YtbndgbjenmknmaaDoor
open Go.RowKit Go.Sort Go.ChangeShapes Go.WideShapes Go.Deep
set_option linter.unusedVariables false
set_option linter.unusedSimpArgs false
namespace Mg
open Om (Pr addr_lit spot_none bel_alloc bel_trans)
def encP (x : Pt) : List Value := [.int .i64 x.l, .int .u64 x.x.1, .int .u64 x.x.2]
def agP (x : Pt) : Value := .agg #[.int .i64 x.l, .int .u64 x.x.1, .int .u64 x.x.2]
def flatP (l : List Pt) : List Value := l.flatMap encP
theorem flatP_len : ∀ l : List Pt, (flatP l).length = l.length * 3
  | [] => rfl
  | x :: l => by
    have := flatP_len l
    simp only [flatP, List.flatMap_cons, List.length_append, encP, List.length_cons, List.length_nil] at this ⊢
    omega
theorem flatP_append (l m : List Pt) : flatP (l ++ m) = flatP l ++ flatP m := by simp [flatP]
theorem flatP_one (x : Pt) : flatP [x] = encP x := by simp [flatP]
theorem flatP_one_cell (l : List Pt) : ∀ u ∈ flatP l, u.oneCell' = true := fun u hu => by
  simp only [flatP, List.mem_flatMap] at hu
  obtain ⟨x, _, hu⟩ := hu
  simp only [encP, List.mem_cons, List.not_mem_nil, or_false] at hu
  rcases hu with rfl | rfl | rfl <;> rfl
theorem flatP_get : ∀ (l : List Pt) (k j : Nat), j < 3 → (flatP l)[k * 3 + j]? = (l[k]?).bind fun x => (encP x)[j]?
  | [], k, j, h => by simp [flatP]
  | x :: l, 0, j, h => by
    have : (flatP (x :: l))[j]? = (encP x)[j]? := by
      rw [show flatP (x :: l) = encP x ++ flatP l from rfl, List.getElem?_append_left (by simpa [encP] using h)]
    simpa using this
  | x :: l, k + 1, j, h => by
    have : (flatP (x :: l))[(k + 1) * 3 + j]? = (flatP l)[k * 3 + j]? := by
      rw [show flatP (x :: l) = encP x ++ flatP l from rfl, List.getElem?_append_right (by simp [encP]; omega)]
      congr 1
      simp [encP]; omega
    rw [this, flatP_get l k j h]
    rfl
/-- the cells of an part at ⟨b, o⟩ -/
structure P3 (w : World) (b o : Nat) (x : Pt) : Prop where
  c0 : w.cell? ⟨b, o, none⟩ = some (.int .i64 x.l)
  c1 : w.cell? ⟨b, o + 1, none⟩ = some (.int .u64 x.x.1)
  c2 : w.cell? ⟨b, o + 2, none⟩ = some (.int .u64 x.x.2)
theorem P3.keep {w w' : World} {b o : Nat} {x : Pt} (h : P3 w b o x) (hb : w'.heap[b]? = w.heap[b]?) : P3 w' b o x := by
  have k : ∀ j, w'.cell? ⟨b, j, none⟩ = w.cell? ⟨b, j, none⟩ := fun j => World.cell?_of_block (a := ⟨b, j, none⟩) hb
  exact ⟨(k _).trans h.c0, (k _).trans h.c1, (k _).trans h.c2⟩
/-- from the address A on lie the partes l -/
def RdP (w : World) (A : Option Addr) (l : List Pt) : Prop := ∀ (i : Nat) (x : Pt), l[i]? = some x → ∃ b o, A = some ⟨b, o, none⟩ ∧ P3 w b (o + i * 3) x
theorem RdP.below {w w' : World} {A : Option Addr} {l : List Pt} (h : RdP w A l) (hb : Below w.heap.size w w') : RdP w' A l := by
  intro i x hi
  obtain ⟨b, o, e, c⟩ := h i x hi
  exact ⟨b, o, e, c.keep (hb.block b (World.block_lt_of_cell? w _ c.c0))⟩
theorem RdP.cells {w : World} {b o c' : Nat} {l : List Pt} (h : RdP w (some ⟨b, o, none⟩) l) : ∀ j u, (flatP l)[j]? = some u → w.cell? (Addr.add ⟨b, o, none⟩ j) = some u := fun j u hj => by
  have hlt := (List.getElem?_eq_some_iff.1 hj).1
  rw [flatP_len] at hlt
  have e : j = j / 3 * 3 + j % 3 := by omega
  rw [e, flatP_get l _ _ (Nat.mod_lt _ (by omega))] at hj
  have hk : j / 3 < l.length := by omega
  rw [List.getElem?_eq_getElem hk] at hj
  obtain ⟨b', o', e', c⟩ := h (j / 3) _ (List.getElem?_eq_getElem hk)
  cases e'
  rw [addr_lit]
  simp only [Option.bind_some] at hj
  have hm : j % 3 < 3 := Nat.mod_lt _ (by omega)
  rw [show o + j = o + j / 3 * 3 + j % 3 by omega]
  generalize j % 3 = m at *
  match m, hm with
  | 0, _ => exact c.c0.trans hj
  | 1, _ => exact c.c1.trans hj
  | 2, _ => exact c.c2.trans hj
theorem rowP_get {w : World} {base g n cap : Nat} {l : List Pt} (h : w.ownsRow base 55 3 (.slice (some ⟨g, 0, none⟩) n cap) n (flatP l)) : RdP w (some ⟨g, 0, none⟩) l := fun i x hi => by
  have hl : l.length = n := by have := h.1; rw [flatP_len] at this; omega
  have hin : i < n := by have := (List.getElem?_eq_some_iff.1 hi).1; omega
  have k : ∀ j, j < 3 → w.cell? ⟨g, 0 + i * 3 + j, none⟩ = (encP x)[j]? := fun j hj => by
    rw [Nat.zero_add, h.cellAt _ (by omega), flatP_get l i j hj, hi]; rfl
  exact ⟨g, 0, rfl, k 0 (by omega), k 1 (by omega), k 2 (by omega)⟩
/-- what a row of the call's own reads as -/
theorem rowP {w : World} {base n : Nat} {v : Value} {l : List Pt} (h : w.ownsRow base 55 3 v n (flatP l)) : l.length = n ∧ ∃ A c, v = .slice A n c ∧ n ≤ c ∧ RdP w A l ∧ (A = none → c = 0) := by
  have hl : l.length = n := by have := h.1; rw [flatP_len] at this; omega
  refine ⟨hl, ?_⟩
  rcases h.2 with ⟨rfl, rfl⟩ | ⟨g, cap, cur, rfl, hbase, hh, hnc, _⟩
  · obtain rfl : l = [] := List.eq_nil_of_length_eq_zero hl
    exact ⟨none, 0, rfl, Nat.le_refl _, fun k x hk => by simp at hk, fun _ => rfl⟩
  · exact ⟨_, cap, rfl, hnc, rowP_get h, fun e => by cases e⟩
theorem infoP : (Tryd.prog.info? 55).map (fun i => (i.zero, i.size, i.bytes)) = some (some (.agg #[.int .i64 0, .int .u64 0, .int .u64 0]), 3, 24) := by kernel_rfl
/-- 'append(l, a)': onto a row of one's own -/
theorem app1P {ops : Array Oper} {rest : List Oper} {o : Oper} {a : Act} {Q : Exit → Act → World → Prop} (hgd : o.guard = none) (s x : Operand)
    (ho : o.op = .call { callee := .builtin .append, args := #[s, x], argTypes := #[48, 48] }) (w : World) (base n : Nat) (v : Value) (ys : List Pt) (y : Pt)
    (hs : a.eval s = v) (g : Nat) (hx : a.eval x = .slice (some ⟨g, 0, none⟩) 1 1) (hg : P3 w g 0 y) (hown : w.ownsRow base 55 3 v n (flatP ys)) (hn : n ≤ 100000) (hb : base ≤ w.heap.size)
    (h : ∀ v' w', w'.ownsRow base 55 3 v' (n + 1) (flatP (ys ++ [y])) → w.grownBy w' v.ownBlock → (v'.ownBlock = v.ownBlock ∨ v'.ownBlock = some w.heap.size) → wpList Tryd.prog ops Q rest (a.put o.dst v') w') :
    wpList Tryd.prog ops Q (o :: rest) a w := by
  obtain ⟨i0, hi, hz0, hz1, hz2⟩ := info_parts infoP
  refine wpList_append_own_at _ hgd s x 48 ho base 55 i0 _ 3 24 Tryd.underlying48 hi hz0 hz1 hz2 rfl (by omega) v n (flatP ys) hs hown ⟨g, 0, none⟩ 1 1 (encP y) hx rfl ?_ ?_ (by unfold maxLen; omega) (by omega) hb ?_
  · intro j u hj
    rw [addr_lit, Nat.zero_add]
    have hlt : j < 3 := by have := (List.getElem?_eq_some_iff.1 hj).1; simpa [encP] using this
    have c := hg
    match j, hlt with
    | 0, _ => exact c.c0.trans hj
    | 1, _ => exact c.c1.trans hj
    | 2, _ => exact c.c2.trans hj
  · intro u hu
    exact flatP_one_cell [y] u (by rw [flatP_one]; exact hu)
  · intro v' w' h1 h2 _ h4
    rw [show flatP ys ++ encP y = flatP (ys ++ [y]) by rw [flatP_append, flatP_one]] at h1
    exact h v' w' h1 h2 h4
/-- 'append(l, xs...)': a list put behind a row of one's own -/
theorem appAllP {ops : Array Oper} {rest : List Oper} {o : Oper} {a : Act} {Q : Exit → Act → World → Prop} (hgd : o.guard = none) (s x : Operand)
    (ho : o.op = .call { callee := .builtin .append, args := #[s, x], argTypes := #[48, 48] }) (w : World) (base n : Nat) (v : Value) (ys : List Pt) (A : Option Addr) (m c : Nat) (l : List Pt)
    (hs : a.eval s = v) (hx : a.eval x = .slice A m c) (hown : w.ownsRow base 55 3 v n (flatP ys)) (hl : l.length = m) (hr : RdP w A l) (hnil : A = none → c = 0) (hn : n + m ≤ 100000) (hb : base ≤ w.heap.size)
    (h : ∀ v' w', w'.ownsRow base 55 3 v' (n + m) (flatP (ys ++ l)) → Below base w w' → wpList Tryd.prog ops Q rest (a.put o.dst v') w') :
    wpList Tryd.prog ops Q (o :: rest) a w := by
  obtain ⟨i0, hi, hz0, hz1, hz2⟩ := info_parts infoP
  cases A with
  | none =>
    have hl0 : l = [] := by
      cases l with
      | nil => rfl
      | cons x l => obtain ⟨b, o, e, _⟩ := hr 0 x rfl; cases e
    subst hl0
    obtain rfl : m = 0 := by simpa using hl.symm
    obtain rfl := hnil rfl
    rw [List.append_nil] at h
    exact wpList_append_own_none hgd s x 48 ho base 55 i0 3 Tryd.underlying48 hi _ n (flatP ys) hs hown hx (h _ _ hown (Below.refl _ _))
  | some ad =>
    by_cases h0 : l = []
    · subst h0
      obtain rfl : m = 0 := by simpa using hl.symm
      rw [List.append_nil] at h
      refine wpList_append_own _ hgd s x 48 ho base 55 i0 _ 3 24 Tryd.underlying48 hi hz0 hz1 hz2 rfl (by omega) v n (flatP ys) hs hown ad 0 c [] hx rfl (fun j u hj => by simp at hj) (fun u hu => by simp at hu) (by unfold maxLen; omega) (by omega) hb ?_
      intro v' w' h1 h2 _
      rw [List.append_nil] at h1
      exact h v' w' h1 ((Below.refl _ w).grown h2 hb fun k hk => (hown.lt k hk).1)
    · obtain ⟨x0, h1⟩ : ∃ x, l[0]? = some x := by cases l with
        | nil => exact absurd rfl h0
        | cons x l => exact ⟨x, rfl⟩
      obtain ⟨b, o', e, _⟩ := hr 0 x0 h1
      cases e
      refine wpList_append_own _ hgd s x 48 ho base 55 i0 _ 3 24 Tryd.underlying48 hi hz0 hz1 hz2 rfl (by omega) v n (flatP ys) hs hown _ m c (flatP l) hx (by rw [flatP_len, hl]) (RdP.cells (c' := 0) hr) (flatP_one_cell l) (by unfold maxLen; omega) (by omega) hb ?_
      intro v' w' h1 h2 _
      rw [← flatP_append] at h1
      exact h v' w' h1 ((Below.refl _ w).grown h2 hb fun k hk => (hown.lt k hk).1)
theorem RdP.drop {w : World} {A : Option Addr} {l : List Pt} (h : RdP w A l) (k : Nat) : RdP w (A.map fun a => a.add (k * 3)) (l.drop k) := fun i x hi => by
  rw [List.getElem?_drop] at hi
  obtain ⟨b, o, e, c⟩ := h (k + i) x hi
  subst e
  refine ⟨b, o + k * 3, by rw [Option.map_some, addr_lit], ?_⟩
  rw [show o + k * 3 + i * 3 = o + (k + i) * 3 by omega]
  exact c
theorem RdP.take {w : World} {A : Option Addr} {l : List Pt} (h : RdP w A l) (k : Nat) : RdP w A (l.take k) := fun i x hi => by
  rw [List.getElem?_take] at hi
  split at hi
  · exact h i x hi
  · cases hi
/-- the numbers of a part -/
structure BdP1 (y : Pt) : Prop where
  l0 : (-9223372036854775808) ≤ y.l
  l1 : y.l ≤ 9223372036854775807
  k0 : 0 ≤ y.x.1
  k1 : y.x.1 ≤ 18446744073709551615
def BdP (l : List Pt) : Prop := ∀ x, x ∈ l → BdP1 x
section
variable {H : Type} {enc : TypeId × Value → H} {w : World} {base b0 : Nat} {spare : Nat → Bool} {held : Bool} {r : Reach}
set_option maxRecDepth 100000 in
theorem open_parts {v : Value} {d : DataW H} {p : List MemPlace} (hv : Value.okWide Tryd.prog w r b0 48 v) (h : DataW.Trod enc Tryd.prog w base spare held 48 v d p) :
    ∃ (A : Option Addr) (n c : Nat) (l : List Pt), v = .slice A n c ∧ l.length = n ∧ n ≤ maxLen ∧ RdP w A l ∧ BdP l ∧ (A = none → c = 0) := by
  obtain ⟨A, n, c, rfl⟩ := okWide_slice Tryd.underlying48 hv
  obtain ⟨fuel, hf⟩ := h
  rcases open_slice Tryd.underlying48 hf with ⟨hcs, hx⟩ | ⟨a, len, cap, m, q, D, Pl, hcs, hb, hl, hm, hmm, hx, hi⟩
  · simp [Value.cells] at hcs
    obtain ⟨rfl, rfl, rfl⟩ := hcs
    exact ⟨none, 0, 0, [], rfl, rfl, Nat.zero_le _, fun k x hk => by simp at hk, fun x hx => (by cases hx), fun _ => rfl⟩
  · simp [Value.cells] at hcs
    obtain ⟨rfl, rfl, rfl⟩ := hcs
    have hlm : n ≤ m := by rw [hmm]; split <;> omega
    have hC : Tryd.prog.cellsOf 55 = 3 := by kernel_rfl
    have each : ∀ i, i < n → ∃ x : Pt, BdP1 x ∧ w.cell? (a.add (i * 3)) = some (.int .i64 x.l) ∧ w.cell? (a.add (i * 3 + 1)) = some (.int .u64 x.x.1) ∧ w.cell? (a.add (i * 3 + 2)) = some (.int .u64 x.x.2) := by
      intro i hin
      obtain ⟨cs', hcs, ht⟩ := hi i (by omega)
      rw [hC] at hcs
      obtain ⟨_, hcl, hat⟩ := World.cells?_some hcs
      match cs', hcl with
      | [v0, v1, v2], _ =>
        obtain ⟨y0, y1, n1, _, _, h0, h1⟩ := trod_struct2 Tryd.underlying55 ht
        simp only [show Tryd.prog.cellsOf 3 = 1 by kernel_rfl, show Tryd.prog.cellsOf 39 = 2 by kernel_rfl, List.drop_zero, List.drop_succ_cons, List.take_succ_cons, List.take_zero] at h0 h1
        obtain ⟨z0, z1, n2, _, _, g0, g1⟩ := trod_struct2 Tryd.underlying39 h1
        simp only [show Tryd.prog.cellsOf 22 = 1 by kernel_rfl, List.drop_zero, List.drop_succ_cons, List.take_succ_cons, List.take_zero] at g0 g1
        obtain ⟨x0, e0, _, w0⟩ := DataW.trod_int Tryd.underlying3 h0
        obtain ⟨x1, e1, _, w1⟩ := DataW.trod_int Tryd.underlying22 g0
        obtain ⟨x2, e2, _, w2⟩ := DataW.trod_int Tryd.underlying22 g1
        simp at e0 e1 e2
        subst e0 e1 e2
        have c0 := hat 0 (by omega)
        have c1 := hat 1 (by omega)
        have c2 := hat 2 (by omega)
        rw [Go.Deep.add_add] at c0 c1 c2
        exact ⟨⟨x0, (x1, x2)⟩, ⟨(bounds_i64 w0).1, (bounds_i64 w0).2, (bounds_u64 w1).1, (bounds_u64 w1).2⟩, c0, c1, c2⟩
    have each' : ∃ g : Nat → Pt, ∀ i, i < n → BdP1 (g i) ∧ w.cell? (a.add (i * 3)) = some (.int .i64 (g i).l) ∧ w.cell? (a.add (i * 3 + 1)) = some (.int .u64 (g i).x.1) ∧ w.cell? (a.add (i * 3 + 2)) = some (.int .u64 (g i).x.2) := by
      refine ⟨fun i => if hi : i < n then Classical.choose (each i hi) else ⟨0, (0, 0)⟩, fun i hi => ?_⟩
      simp only [dif_pos hi]
      exact Classical.choose_spec (each i hi)
    obtain ⟨g, hg⟩ := each'
    refine ⟨some a, n, c, (List.range n).map g, rfl, by simp, by omega, ?_, ?_, fun h => (by cases h)⟩
    · intro k x hk
      have hkn : k < n := by have := (List.getElem?_eq_some_iff.1 hk).1; simpa using this
      rw [List.getElem?_map, List.getElem?_range hkn] at hk
      simp only [Option.map_some, Option.some.injEq] at hk
      subst hk
      obtain ⟨b, o, s⟩ := a
      obtain ⟨_, z0, _⟩ := hg 0 (by omega)
      have hs : s = none := spot_none (a := ⟨b, o, s⟩) (by simpa [Addr.add] using z0)
      subst hs
      obtain ⟨_, c0, c1, c2⟩ := hg k hkn
      rw [addr_lit] at c0 c1 c2
      exact ⟨b, o, rfl, c0, c1, c2⟩
    · intro x hx
      simp only [List.mem_map, List.mem_range] at hx
      obtain ⟨i, hin, rfl⟩ := hx
      exact (hg i hin).1
end
end Mg
end Go.Proofs.YtbndgbjenmknmaaDoor
namespace Go.Proofs.YtbndgbjenmknmaaDoor
open Go.RowKit Go.Sort
set_option linter.unusedVariables false
set_option linter.unusedSimpArgs false
namespace Wk
open Hq
open Om (bel_alloc Pr bel_trans flat below_drewN)
open Mg (Pt Gp upd sub)
open Dm (flatI RdK cell_lt)
/-- the array of 64 sequences at pb; the sequences' blocks are among X -/
structure Ar (X : Nat → Prop) (w : World) (pb : Nat) (R : Nat → List Pr) : Prop where
  c : ∀ v, v < 64 → ∃ A c, w.cell? ⟨pb, v, none⟩ = some (.slice A (R v).length c) ∧ (R v).length ≤ c ∧ Om.Rd w A (R v) ∧ (∀ a, A = some a → X a.block ∧ a.block ≠ pb)
  f : ∀ v, v < 64 → w.frozen? ⟨pb, v, none⟩ = false
theorem rd_keep {w w' : World} {A : Option Addr} {l : List Pr} (h : Om.Rd w A l) (hb : ∀ a, A = some a → w'.heap[a.block]? = w.heap[a.block]?) : Om.Rd w' A l := fun k x hk => by
  obtain ⟨b, o, e, c0, c1⟩ := h k x hk
  have h2 : w'.heap[b]? = w.heap[b]? := hb _ e
  exact ⟨b, o, e, (World.cell?_of_block (a := ⟨b, o + k * 2, none⟩) h2).trans c0, (World.cell?_of_block (a := ⟨b, o + k * 2 + 1, none⟩) h2).trans c1⟩
theorem Ar.keep {X : Nat → Prop} {w w' : World} {pb : Nat} {R : Nat → List Pr} (h : Ar X w pb R) (hp : X pb) (hb : ∀ i, X i → w'.heap[i]? = w.heap[i]?) : Ar X w' pb R := by
  refine ⟨fun v hv => ?_, fun v hv => (World.frozen?_of_block (a := ⟨pb, v, none⟩) (hb pb hp)).trans (h.f v hv)⟩
  obtain ⟨A, c, h1, h2, h3, h4⟩ := h.c v hv
  exact ⟨A, c, (World.cell?_of_block (a := ⟨pb, v, none⟩) (hb pb hp)).trans h1, h2, rd_keep h3 fun a e => hb _ (h4 a e).1, h4⟩
theorem Ar.set {X : Nat → Prop} {w : World} {pb v : Nat} {R : Nat → List Pr} (h : Ar X w pb R) (hv : v < 64) {A : Option Addr} {c : Nat} {r : List Pr} (hc : r.length ≤ c) (hr : Om.Rd w A r) (hA : ∀ a, A = some a → X a.block ∧ a.block ≠ pb) : Ar X (w.setCell ⟨pb, v, none⟩ (.slice A r.length c)) pb (upd R v r) := by
  refine ⟨fun u hu => ?_, fun u hu => by rw [World.frozen?_setCell]; exact h.f u hu⟩
  by_cases e : u = v
  · subst e
    obtain ⟨A', c', h1, _⟩ := h.c u hu
    refine ⟨A, c, ?_, by simpa [upd] using hc, ?_, hA⟩
    · simp only [upd, if_pos]; exact World.cell?_setCell_same _ _ _ h1
    · simp only [upd, if_pos]; exact rd_keep hr fun a e => Go.heap_setCell_other _ _ _ _ (hA a e).2
  · obtain ⟨A', c', h1, h2, h3, h4⟩ := h.c u hu
    refine ⟨A', c', ?_, ?_, ?_, h4⟩
    · simp only [upd, if_neg e]
      rw [World.cell?_setCell_other _ _ _ _ (fun e2 => e (by injection e2 with _ e3; exact e3.symm))]; exact h1
    · simp only [upd, if_neg e]; exact h2
    · simp only [upd, if_neg e]; exact rd_keep h3 fun a e => Go.heap_setCell_other _ _ _ _ (h4 a e).2
/-- of the blocks X only pb may have changed -/
structure Kp (X : Nat → Prop) (pb : Nat) (w w' : World) : Prop where
  os : w'.os = w.os
  tape : w'.tape = w.tape
  output : w'.output = w.output
  size : w.heap.size ≤ w'.heap.size
  block : ∀ i, X i → i ≠ pb → w'.heap[i]? = w.heap[i]?
theorem Kp.refl (X : Nat → Prop) (pb : Nat) (w : World) : Kp X pb w w := ⟨rfl, rfl, rfl, Nat.le_refl _, fun _ _ _ => rfl⟩
theorem Kp.kx {X : Nat → Prop} {pb : Nat} {w w1 w2 : World} (h : Kp X pb w w1) (k : Kx X w1 w2) : Kp X pb w w2 := ⟨k.os.trans h.os, k.tape.trans h.tape, k.output.trans h.output, Nat.le_trans h.size k.size, fun i hi hn => (k.block i hi).trans (h.block i hi hn)⟩
theorem Kp.trans {X : Nat → Prop} {pb : Nat} {w w1 w2 : World} (h : Kp X pb w w1) (k : Kp X pb w1 w2) : Kp X pb w w2 := ⟨k.os.trans h.os, k.tape.trans h.tape, k.output.trans h.output, Nat.le_trans h.size k.size, fun i hi hn => (k.block i hi hn).trans (h.block i hi hn)⟩
theorem Kp.set {X : Nat → Prop} {pb : Nat} {w w1 : World} (h : Kp X pb w w1) (o : Nat) (v : Value) : Kp X pb w (w1.setCell ⟨pb, o, none⟩ v) := ⟨h.os, h.tape, h.output, by simpa using h.size, fun i hi hn => (Go.heap_setCell_other _ _ _ _ hn).trans (h.block i hi hn)⟩
theorem Kp.below {X : Nat → Prop} {pb : Nat} {w w1 w2 : World} (h : Kp X pb w w1) (k : Below w1.heap.size w1 w2) (hX : ∀ i, X i → i < w1.heap.size) : Kp X pb w w2 := h.kx (kx_of k hX)
theorem Kp.tz {X : Nat → Prop} {pb : Nat} {w w' : World} (h : Kp X pb w w') (h0 : X 0) (hp : 0 ≠ pb) (hT : Dm.Tz w) : Dm.Tz w' := fun j hj => (World.cell?_of_block (a := ⟨0, j, none⟩) (h.block 0 h0 hp)).trans (hT j hj)
theorem tail_run (b o' r c : Nat) (hc : r + 1 ≤ c) : ∃ RA RC, (0 < r → RA = some ⟨b, o' + 2, none⟩) ∧ r ≤ RC ∧ (∀ a, RA = some a → a.block = b) ∧ ∀ w : World, (Instr.sliceAt 34 (.slice (some ⟨b, o', none⟩) (r + 1) c) (some (.int .i64 1)) none none).run Tryd.prog w = .ok (.slice RA r RC) w := by
  have h1 : ((1 : Int) ≤ ((r + 1 : Nat) : Int)) := by omega
  have run : ∀ w : World, (Instr.sliceAt 34 (.slice (some ⟨b, o', none⟩) (r + 1) c) (some (.int .i64 1)) none none).run Tryd.prog w = .ok (sliced (some ⟨b, o', none⟩) 1 (r + 1) c 2) w := fun w => by
    have u : Tryd.prog.underlying 34 = some (.slice (Tryd.prog.elem 34)) := by kernel_rfl
    simp [go_sem, Instr.sliceBounds, hc]
    intro h; omega
  by_cases hc1 : c = 1
  · subst hc1
    obtain rfl : r = 0 := by omega
    exact ⟨_, _, fun h => absurd h (Nat.lt_irrefl 0), Nat.le_refl _, fun a e => by cases e; rfl, run⟩
  · have e : sliced (some ⟨b, o', none⟩) 1 (r + 1) c 2 = .slice (some ⟨b, o' + 2, none⟩) r (c - 1) := by
      unfold sliced
      rw [if_neg hc1]; rfl
    rw [e] at run
    exact ⟨_, _, fun _ => rfl, by omega, fun a e => by cases e; rfl, run⟩
theorem rd_tail {w : World} {b o : Nat} {x : Pr} {r : List Pr} {RA : Option Addr} (h : Om.Rd w (some ⟨b, o, none⟩) (x :: r)) (hA : 0 < r.length → RA = some ⟨b, o + 2, none⟩) : Om.Rd w RA r := fun k y hk => by
  obtain ⟨b', o', e, c0, c1⟩ := h (k + 1) y (by simpa using hk)
  cases e
  refine ⟨b, o + 2, hA (by have := (List.getElem?_eq_some_iff.1 hk).1; omega), ?_, ?_⟩
  · rw [show o + 2 + k * 2 = o + (k + 1) * 2 by omega]; exact c0
  · rw [show o + 2 + k * 2 + 1 = o + (k + 1) * 2 + 1 by omega]; exact c1
theorem aft_z (M N : Mg.Mg) : M.after 0 N = N := by unfold Mg.Mg.after; rw [if_pos rfl]
theorem drop_cons {L : List Int} {k : Nat} (h : k < L.length) : L.drop k = L[k] :: L.drop (k + 1) := List.drop_eq_getElem_cons h
def FeP (X : Nat → Prop) (b pb S : Nat) (all : List Pt) (w : World) (e : Ending) (w' : World) : Prop := e = .returned (.bool true) ∧ ∃ N R, Sm X w' b N ∧ N.missN 64 = [] ∧ Mg.Fd S N all R ∧ Ar X w' pb R ∧ Kp X pb w w'
set_option maxRecDepth 100000 in
set_option maxHeartbeats 4000000 in
theorem feed_any (X : Nat → Prop) (b pb S : Nat) (M : Mg.Mg) (all : List Pt) (R : Nat → List Pr) (w : World) (sm : Sm X w b M) (hX0 : X 0) (hXp : X pb) (hp0 : 0 ≠ pb) (ar : Ar X w pb R) (fd : Mg.Fd S M all R) (hg : Gp S all) (hT : Dm.Tz w) :
    Calls Tryd.prog 23 #[.pointer (some ⟨b, 0, none⟩), .pointer (some ⟨pb, 0, none⟩)] w (FeP X b pb S all w) := by
  have SM := Lib.hid sm
  have AR := Lib.hid ar
  have FD := Lib.hid fd
  have HG := Lib.hid hg
  have TZ := Lib.hid hT
  clear sm ar fd hg hT
  go_enter Tryd.func23, Tryd.ntmps23
  go_wp2_with fail
  refine (missS SM.out TZ.out).mono ?_
  rintro r w1 ⟨⟨A, c, rfl, hrl, ho⟩, hb⟩
  obtain ⟨L, hL⟩ : ∃ L, M.missN 64 = L := ⟨_, rfl⟩
  rw [hL] at hrl ho ⊢
  have hL64 : L.length ≤ 64 := by rw [← hL]; exact Mg.missN_len _ 64
  have hXlt := SM.out.lt
  have hpb := hXlt pb hXp
  obtain ⟨Y, hY⟩ : ∃ Y : Nat → Prop, Y = fun i => X i ∨ (w.heap.size ≤ i ∧ i < w1.heap.size) := ⟨_, rfl⟩
  have hXY : ∀ i, X i → Y i := fun i hi => by rw [hY]; exact .inl hi
  have SM1 := Lib.hid (show Sm Y w1 b M from SM.out.more hb fun i hi => by rw [hY] at hi; exact hi)
  have AR1 := Lib.hid (AR.out.keep hXp fun i hi => hb.block i (hXlt i hi))
  have KP1 := Lib.hid ((Kp.refl X pb w).below hb hXlt)
  have RL1 := Lib.hid (show ∀ k, k < L.length → ∃ ab ao, A = some ⟨ab, ao, none⟩ ∧ Y ab ∧ ab ≠ pb ∧ w1.cell? ⟨ab, ao + k, none⟩ = some (.int .i64 (L.getD k 0)) from fun k hk => by
    obtain ⟨g, cap, e⟩ := Joins.ownsRow_form ho (by omega)
    cases e
    have hlt := ho.lt g rfl
    obtain ⟨b', o', e, h1⟩ := hrl k hk
    cases e
    exact ⟨g, 0, rfl, by rw [hY]; exact .inr hlt, fun e => by have := hlt.1; omega, h1⟩)
  have HXY := Lib.hid hXY
  have HXL := Lib.hid hXlt
  have HM := Lib.hid hL
  clear hrl ho hb hY hXY hXlt hL SM AR
  go_wp2_with fail
  go_loopw [6] (fun s wr => ∃ (k : Nat) (N : Mg.Mg) (R' : Nat → List Pr), k ≤ L.length ∧ s = .int .i64 k ∧ Sm Y wr b N ∧ N.missN 64 = L.drop k ∧ Mg.Fd S N all R' ∧ Ar X wr pb R' ∧ Kp Y pb w1 wr) (fun s _ => (L.length - intOf s).toNat)
  case atStart => exact ⟨0, M, R, Nat.zero_le _, rfl, SM1.out, HM.out, FD.out, AR1.out, Kp.refl _ _ _⟩
  case round =>
    clear SM1 FD AR1 HM
    obtain ⟨k, N, R', hk, rfl, sm, hm, fd, ar, kp⟩ := hrel
    have SM := Lib.hid sm
    have FD := Lib.hid fd
    have AR := Lib.hid ar
    have KP := Lib.hid kp
    have KX := Lib.hid (show Kp X pb w wr from KP1.out.trans ⟨kp.os, kp.tape, kp.output, kp.size, fun i hi hn => kp.block i (HXY.out i hi) hn⟩)
    clear sm fd ar kp
    by_cases hlt : k < L.length
    · rw [drop_cons hlt] at hm
      obtain ⟨v, ev, hv, hlk⟩ := Mg.miss_mem.1 (show L[k] ∈ N.missN 64 by rw [hm]; exact List.mem_cons_self)
      rw [ev] at hm
      have HMS := Lib.hid hm
      obtain ⟨ab, ao, rfl, hYa, hne, cl⟩ := RL1.out k hlt
      have cl := (World.cell?_of_block (a := ⟨ab, ao + k, none⟩) (KP.out.block ab hYa hne)).trans cl
      rw [List.getD_eq_getElem?_getD, List.getElem?_eq_getElem hlt, Option.getD_some, ev] at cl
      obtain ⟨Av, cv, ca, hle, rd, hA⟩ := AR.out.c v hv
      have fa := AR.out.f v hv
      have RDV := Lib.hid rd
      have HAV := Lib.hid hA
      have LK := Lib.hid hlk
      have t1 : decide ((k : Int) < (L.length : Int)) = true := decide_eq_true (by omega)
      have k0 : (k : Int) < (L.length : Int) := by omega
      have v0 : decide ((v : Int) < 0) = false := decide_eq_false (by omega)
      have v1 : decide ((64 : Int) ≤ (v : Int)) = false := decide_eq_false (by omega)
      have v2 : (v : Int) < 64 := by omega
      clear hm ev rd hA hlk hYa hne
      cases hR : R' v with
      | nil =>
        have HR := Lib.hid hR
        rw [hR] at ca hle
        have ca : wr.cell? ⟨pb, v, none⟩ = some (.slice Av 0 cv) := ca
        have he := Mg.err_lacks hv LK.out
        clear hR
        go_wp2_with fail
        refine (endS SM.out (v : Int) (by omega) (by omega)).mono ?_
        rintro r w3 ⟨rfl, sm, kx⟩
        rw [he] at sm ⊢
        rw [aft_z, Int.toNat_natCast] at sm
        have SM3 := Lib.hid sm
        have KX3 := Lib.hid kx
        clear sm kx he cl ca fa
        go_wp2_with fail
        go_roundw
        case rel => exact ⟨k + 1, N.done v, R', by omega, by go_num, SM3.out, Mg.miss_done HMS.out, FD.out.done hv LK.out HR.out, AR.out.keep hXp (fun i hi => KX3.out.block i (HXY.out i hi)), KP.out.kx KX3.out⟩
        case measure => simp [intOf]; omega
      | cons x r =>
        have HR := Lib.hid hR
        rw [hR] at ca hle
        have RDX := Lib.hid (show Om.Rd wr Av (x :: r) by rw [← hR]; exact RDV.out)
        have ca : wr.cell? ⟨pb, v, none⟩ = some (.slice Av (r.length + 1) cv) := ca
        obtain ⟨ab2, ao2, rfl, cx0, cx1⟩ := RDX.out 0 x rfl
        simp only [Nat.zero_mul, Nat.add_zero] at cx0 cx1
        have hs := (FD.out.lack hv LK.out).2
        rw [hR] at hs
        obtain ⟨y, hy, _, hyx⟩ := Mg.sub_mem (v := v) (all := all) (x := x) (by rw [hs]; exact List.mem_cons_self)
        have py := HG.out.mem y hy
        have x0 := py.k0
        have x1 := py.k1
        rw [hyx] at x0 x1
        have he := FD.out.off HG.out SM.out.inv hv LK.out hR
        obtain ⟨RA, RC, hra, hrc, hrb, RUN⟩ := tail_run ab2 ao2 r.length cv (by simpa using hle)
        have z0 : (0 : Int) < ((r.length : Int) + 1) := by omega
        have z1 : ((r.length : Int) + 1 == 0) = false := by simp; omega
        have hXa := (HAV.out _ rfl)
        clear hR hs hy hyx py RDV
        go_wp2_with fail
        refine (offerS SM.out (v : Int) x (by omega) (by omega) x0 x1).mono ?_
        rintro r2 w3 ⟨rfl, sm, kx⟩
        rw [he] at sm ⊢
        rw [aft_z, Int.toNat_natCast] at sm
        have SM3 := Lib.hid sm
        have KX3 := Lib.hid kx
        have c3 : w3.drew.cell? ⟨pb, v, none⟩ = some (.slice (some ⟨ab2, ao2, none⟩) (r.length + 1) cv) := (World.cell?_of_block (a := ⟨pb, v, none⟩) (kx.block pb (HXY.out _ hXp))).trans ca
        have f3 : w3.drew.frozen? ⟨pb, v, none⟩ = false := (World.frozen?_of_block (a := ⟨pb, v, none⟩) (kx.block pb (HXY.out _ hXp))).trans fa
        clear sm kx he cl ca fa cx0 cx1
        go_wp2_with fail
        go_region
        all_goals
          go_wp2_with fail
          go_roundw
          case rel => exact ⟨k + 1, N.put v x, upd R' v r, by omega, by go_num, SM3.out.other (HXY.out _ hXp) ((Mg.Chg.of_below (below_drewN (Below.refl _ w3) 1)).set _ _), Mg.miss_put HMS.out x, FD.out.put hv LK.out HR.out, Ar.set (show Ar X w3.drew pb R' from AR.out.keep hXp (fun i hi => KX3.out.block i (HXY.out i hi))) hv hrc (rd_tail (show Om.Rd w3.drew (some ⟨ab2, ao2, none⟩) (x :: r) from rd_keep RDX.out (fun a e => by cases e; exact KX3.out.block ab2 (HXY.out _ hXa.1))) hra) (fun a e => ⟨by rw [hrb a e]; exact hXa.1, by rw [hrb a e]; exact hXa.2⟩), Kp.set (show Kp Y pb w1 w3.drew from KP.out.kx ⟨KX3.out.os, KX3.out.tape, KX3.out.output, KX3.out.size, KX3.out.block⟩) _ _⟩
          case measure => simp [intOf]; omega
    · obtain rfl : k = L.length := by omega
      rw [List.drop_length] at hm
      have t1 : decide ((L.length : Int) < (L.length : Int)) = false := decide_eq_false (by omega)
      have HM := Lib.hid hm
      go_wp2_with fail
      refine (missS SM.out (KX.out.tz hX0 hp0 TZ.out)).mono ?_
      rw [hm]
      rintro r w3 ⟨⟨A2, c2, rfl, _, _⟩, hb⟩
      have HB := Lib.hid hb
      clear hb hm
      go_wp2_with fail
      go_ret
      exact ⟨rfl, N, R', (SM.out.below HB.out).less HXY.out, HM.out, FD.out, AR.out.keep hXp (fun i hi => HB.out.block i (SM.out.lt i (HXY.out i hi))), KX.out.below HB.out (fun i hi => SM.out.lt i (HXY.out i hi))⟩
end Wk
end Go.Proofs.YtbndgbjenmknmaaDoor
