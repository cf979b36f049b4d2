/- How many lists of a merge have what; the last key that was popped; a row of keys that grows beside a merge. No conditions. -/
import Derived.Test.YtoplhlhbdidncaaDoorMgG
import Derived.Maps.AppendAt
namespace Go.Proofs.YtoplhlhbdidncaaDoor
set_option linter.unusedVariables false
set_option linter.unusedSimpArgs false
namespace Mg
open Om (Pr)
def cnt (f : Nat → Bool) (n : Nat) : Nat := ((List.range n).filter f).length
theorem cnt_yes {f : Nat → Bool} {n : Nat} (h : f n = true) : cnt f (n + 1) = cnt f n + 1 := by simp [cnt, List.range_succ, List.filter_append, List.filter_cons, h]
theorem cnt_no {f : Nat → Bool} {n : Nat} (h : f n = false) : cnt f (n + 1) = cnt f n := by simp [cnt, List.range_succ, List.filter_append, List.filter_cons, h]
theorem cnt_congr {f g : Nat → Bool} : ∀ {n : Nat}, (∀ v, v < n → f v = g v) → cnt f n = cnt g n
  | 0, _ => rfl
  | n + 1, h => by
    have ih := cnt_congr (f := f) (g := g) (n := n) fun v hv => h v (by omega)
    have e := h n (by omega)
    cases hf : f n with
    | true => rw [cnt_yes hf, cnt_yes (by rw [← e]; exact hf), ih]
    | false => rw [cnt_no hf, cnt_no (by rw [← e]; exact hf), ih]
theorem cnt_put {f g : Nat → Bool} {v : Nat} (hf : f v = false) (hg : g v = true) : ∀ {n : Nat}, v < n → (∀ u, u < n → u ≠ v → g u = f u) → cnt g n = cnt f n + 1
  | 0, h, _ => absurd h (Nat.not_lt_zero _)
  | n + 1, h, ho => by
    by_cases e : v = n
    · subst e
      rw [cnt_yes hg, cnt_no hf, cnt_congr fun u hu => ho u (by omega) (by omega)]
    · have ih := cnt_put hf hg (n := n) (by omega) fun u hu hne => ho u (by omega) hne
      have e2 := ho n (by omega) (fun h2 => e h2.symm)
      cases hn : f n with
      | true => rw [cnt_yes hn, cnt_yes (by rw [e2]; exact hn), ih]
      | false => rw [cnt_no hn, cnt_no (by rw [e2]; exact hn), ih]
theorem cnt_zero {f : Nat → Bool} {n : Nat} (h : cnt f n = 0) : ∀ v, v < n → f v = false := fun v hv => by
  cases e : f v with
  | false => rfl
  | true =>
    have : v ∈ (List.range n).filter f := List.mem_filter.2 ⟨List.mem_range.2 hv, e⟩
    rw [List.eq_nil_of_length_eq_zero h] at this; cases this
theorem cnt_split (M : Mg) : ∀ n, (∀ v, v < n → M.hs v = true → M.ls v = true ∧ M.en v = false) → (∀ v, v < n → M.en v = true → M.ls v = true) → cnt M.ls n = cnt M.hs n + cnt M.lacks n + cnt M.en n
  | 0, _, _ => rfl
  | n + 1, h1, h2 => by
    have ih := cnt_split M n (fun v hv => h1 v (by omega)) (fun v hv => h2 v (by omega))
    have a := h1 n (by omega)
    have b := h2 n (by omega)
    have hl : M.lacks n = (M.ls n && !M.hs n && !M.en n) := rfl
    cases hh : M.hs n with
    | true =>
      obtain ⟨a1, a2⟩ := a hh
      rw [cnt_yes a1, cnt_yes hh, cnt_no (by rw [hl, a1, hh]; rfl), cnt_no a2, ih]; omega
    | false =>
      cases he : M.en n with
      | true => rw [cnt_yes (b he), cnt_no hh, cnt_no (by rw [hl, hh, he, b he]; rfl), cnt_yes he, ih]; omega
      | false =>
        cases hs : M.ls n with
        | true => rw [cnt_yes hs, cnt_no hh, cnt_yes (by rw [hl, hh, he, hs]; rfl), cnt_no he, ih]; omega
        | false => rw [cnt_no hs, cnt_no hh, cnt_no (by rw [hl, hh, he, hs]; rfl), cnt_no he, ih]
theorem leastN_some (M : Mg) : ∀ n, ∃ r, M.leastN n r
  | 0 => ⟨-1, leastN_zero M⟩
  | n + 1 => by
    obtain ⟨r, h⟩ := leastN_some M n
    cases hh : M.hs n with
    | false => exact ⟨r, leastN_skip h hh⟩
    | true =>
      rcases h with ⟨hr, h1⟩ | ⟨v, rfl, h1⟩
      · exact ⟨n, leastN_first (.inl ⟨hr, h1⟩) (by omega) hh⟩
      · by_cases hc : (M.p n).1 < (M.p v).1
        · exact ⟨n, leastN_take (.inr ⟨v, rfl, h1⟩) hh hc⟩
        · exact ⟨v, leastN_keep (.inr ⟨v, rfl, h1⟩) hc⟩
theorem list_count : ∀ (k : Nat) (M : Mg), M.Inv → cnt M.hs 64 = k → M.list.length = k
  | 0, M, hi, h => by rw [list_none hi (cnt_zero h)]; rfl
  | k + 1, M, hi, h => by
    obtain ⟨r, hr⟩ := leastN_some M 64
    rcases hr with ⟨_, h1⟩ | ⟨v, _, hv, hh, hl⟩
    · have e : cnt M.hs 64 = cnt (fun _ => false) 64 := cnt_congr h1
      have e2 : cnt (fun _ => false) 64 = 0 := by decide
      omega
    · have hd := inv_drop hi v
      rw [list_drop hi ⟨hv, hh, hl⟩ hd, List.length_cons]
      have := cnt_put (f := (M.drop v).hs) (g := M.hs) (v := v) (by simp [Mg.drop]) hh hv (fun u hu hne => by simp [Mg.drop, hne])
      rw [list_count k (M.drop v) hd (by omega)]
theorem miss_count (M : Mg) : (M.missN 64).length = cnt M.lacks 64 := by simp [Mg.missN, cnt]
/-- S is the set of the lists; E have ended -/
def Cn (S E : Nat) (M : Mg) : Prop := (∀ v, v < 64 → M.ls v = S.testBit v) ∧ E = cnt M.en 64
theorem Cn.total {S E : Nat} {M : Mg} (h : Cn S E M) (hi : M.Inv) : M.list.length + (M.missN 64).length + E = cnt (fun v => S.testBit v) 64 := by
  rw [list_count _ M hi rfl, miss_count, h.2, ← cnt_congr h.1]
  exact (cnt_split M 64 hi.hl hi.el).symm
theorem Cn.new (S : Nat) : Cn S 0 (Mg.new fun v => S.testBit v) := ⟨fun v hv => rfl, by
  have : cnt (Mg.new fun v => S.testBit v).en 64 = cnt (fun _ => false) 64 := rfl
  rw [this]; decide⟩
theorem Cn.done {S E : Nat} {M : Mg} (h : Cn S E M) {l : Int} (hi : M.Inv) (he : M.err l = 0) : Cn S (E + 1) (M.done l.toNat) := by
  refine ⟨h.1, ?_⟩
  obtain ⟨_, l0, l1⟩ := inv_done hi he
  have h2 : M.en l.toNat = false := by
    unfold Mg.err at he
    split at he
    · cases he
    · split at he
      · cases he
      · rename_i h3
        cases e : M.en l.toNat
        · rfl
        · exact absurd (.inr e) h3
  rw [h.2]
  exact (cnt_put (g := (M.done l.toNat).en) h2 (by simp [Mg.done]) (by omega) (fun u hu hne => by simp [Mg.done, hne])).symm
theorem Cn.put {S E : Nat} {M : Mg} (h : Cn S E M) (v : Nat) (x : Pr) : Cn S E (M.put v x) := h
theorem Cn.skipped {S E : Nat} {M : Mg} (h : Cn S E M) (k : Int) : Cn S E (M.skipped k) := h
theorem Cn.popped {S E : Nat} {M : Mg} (h : Cn S E M) (v : Nat) : Cn S E (M.popped v) := by
  unfold Mg.popped; split <;> exact h
theorem Cn.after {S E : Nat} {M N : Mg} {e : Int} (h : Cn S E M) (hn : e = 0 → Cn S E N) : Cn S E (M.after e N) := by
  unfold Mg.after; split
  · rename_i he; exact hn he
  · exact h
theorem err_done {M : Mg} {l : Int} (he : M.err l = 0) : (M.done l.toNat).err l = 8 := by
  unfold Mg.err at he ⊢
  split at he
  · cases he
  · rename_i h1
    have h2 : ¬ (l < 0 ∨ 64 ≤ l ∨ (M.done l.toNat).ls l.toNat = false) := h1
    rw [if_neg h2, if_pos (.inr (by simp [Mg.done]))]
/-- the last key that was popped, q, is less than what may come -/
def Lk (M : Mg) (q : Int) : Prop := (∀ v, v < 64 → M.hs v = true → q < (M.p v).1) ∧ (M.fu = true ∨ q < M.fl)
theorem Lk.put {M : Mg} {q : Int} (h : Lk M q) {l : Int} {x : Pr} (he : M.offE l x = 0) : Lk (M.put l.toNat x) q := by
  unfold Mg.offE at he
  split at he
  · rename_i h1; exact absurd he h1
  · split at he
    · cases he
    · rename_i hf
      have hfu : M.fu = false := by cases e : M.fu; rfl; exact absurd (.inl e) hf
      have hfl : M.fl ≤ x.1 := Int.not_lt.1 fun h3 => hf (.inr h3)
      have hq : q < M.fl := by
        rcases h.2 with h3 | h3
        · rw [hfu] at h3; cases h3
        · exact h3
      refine ⟨fun v hv hh => ?_, h.2⟩
      simp only [Mg.put] at hh ⊢
      by_cases e : v = l.toNat
      · rw [if_pos e]; omega
      · rw [if_neg e] at hh ⊢; exact h.1 v hv hh
theorem Lk.done {M : Mg} {q : Int} (h : Lk M q) (v : Nat) : Lk (M.done v) q := h
theorem Lk.skipped {M : Mg} {q : Int} (h : Lk M q) (k : Int) : Lk (M.skipped k) q := by
  refine ⟨fun v hv hh => ?_, ?_⟩
  · have : M.hs v = true := by
      simp only [Mg.skipped] at hh
      split at hh
      · cases hh
      · exact hh
    exact h.1 v hv this
  · rcases h.2 with h3 | h3
    · exact .inl h3
    · refine .inr ?_
      show q < (if M.fl < k then k else M.fl)
      split <;> omega
theorem Lk.after {M N : Mg} {q e : Int} (h : Lk M q) (hn : e = 0 → Lk N q) : Lk (M.after e N) q := by
  unfold Mg.after; split
  · rename_i he; exact hn he
  · exact h
theorem Lk.popped {M : Mg} (hi : M.Inv) {v : Nat} (hv : M.least v) : Lk (M.popped v) (M.p v).1 := by
  have key : ∀ u, u < 64 → (M.drop v).hs u = true → (M.p v).1 < (M.p u).1 := fun u hu hh => by
    by_cases e : u = v
    · subst e; simp [Mg.drop] at hh
    · simp only [Mg.drop, if_neg e] at hh
      have h1 := hv.2.2 u hu hh
      have h2 : (M.p u).1 ≠ (M.p v).1 := fun e2 => e (hi.ne u v hu hv.1 hh hv.2.1 e2)
      omega
  unfold Mg.popped
  split
  · exact ⟨key, .inl rfl⟩
  · exact ⟨key, .inr (by show (M.p v).1 < (M.p v).1 + 1; omega)⟩
end Mg
open Go.RowKit Go.Sort
namespace Wk
open Hq
open Om (bel_alloc Pr bel_trans addr_lit)
def flatU (l : List Int) : List Value := l.map (Value.int .u64)
theorem infoU : (Tryd.prog.info? 22).map (fun i => (i.zero, i.size, i.bytes)) = some (some (.int .u64 0), 1, 8) := by kernel_rfl
/-- the blocks that stay: those below B, and the row's -/
def Xl (B : Nat) (v : Value) : Nat → Prop := fun i => i < B ∨ v.ownBlock = some i
theorem app1L {ops : Array Oper} {rest : List Oper} {o : Oper} {a : Act} {Q : Exit → Act → World → Prop} (hgd : o.guard = none) (s x : Operand)
    (ho : o.op = .call { callee := .builtin .append, args := #[s, x], argTypes := #[61, 61] }) (w : World) (base n : Nat) (v : Value) (ys : List Int) (y : Int)
    (hs : a.eval s = v) (hx : a.eval x = .slice (some ⟨w.heap.size, 0, none⟩) 1 1) (hown : w.ownsRow base 22 1 v n (flatU ys)) (hn : n ≤ 2000) (hb : base ≤ w.heap.size)
    (h : ∀ v' w', w'.ownsRow base 22 1 v' (n + 1) (flatU (ys ++ [y])) → (w.alloc (.cells #[.int .u64 y] 22)).grownBy w' v.ownBlock → (v'.ownBlock = v.ownBlock ∨ v'.ownBlock = some (w.alloc (.cells #[.int .u64 y] 22)).heap.size) → wpList Tryd.prog ops Q rest (a.put o.dst v') w') :
    wpList Tryd.prog ops Q (o :: rest) a (w.alloc (.cells #[.int .u64 y] 22)) := by
  obtain ⟨i0, hi, hz0, hz1, hz2⟩ := info_parts infoU
  refine wpList_append_own_at _ hgd s x 61 ho base 22 i0 _ 1 8 Tryd.underlying61 hi hz0 hz1 hz2 rfl (by omega) v n (flatU ys) hs (hown.alloc _) ⟨w.heap.size, 0, none⟩ 1 1 [.int .u64 y] hx rfl ?_ ?_ (by unfold maxLen; omega) (by omega) (by simp; omega) ?_
  · intro j u hj
    rw [addr_lit, Nat.zero_add, World.cell?_alloc_new]
    simpa using hj
  · intro u hu
    simp at hu
    subst hu
    rfl
  · intro v' w' h1 h2 _ h4
    rw [show flatU ys ++ [.int .u64 y] = flatU (ys ++ [y]) by simp [flatU]] at h1
    exact h v' w' h1 h2 h4
theorem Sm.row {B b : Nat} {v v' : Value} {w w' : World} {M : Mg.Mg} (h : Sm (Xl B v) w b M) (hg : w.grownBy w' v.ownBlock) (hv : v'.ownBlock = v.ownBlock ∨ v'.ownBlock = some w.heap.size) (hlt : ∀ g, v'.ownBlock = some g → g < w'.heap.size) : Sm (Xl B v') w' b M := by
  obtain ⟨Q, h1, h2⟩ := h.at'
  have hX : ∀ i, Xl B v' i → Xl B v i ∨ i = w.heap.size := fun i hi => by
    rcases hi with h3 | h3
    · exact .inl (.inl h3)
    · rcases hv with h4 | h4
      · exact .inl (.inr (by rw [← h4]; exact h3))
      · rw [h4] at h3; injection h3 with h3; exact .inr h3.symm
  refine ⟨⟨Q, h1.keep (hg.block b h.lb fun e => h.nb (.inr e.symm)) (fun q e => hg.block q (by subst e; exact h1.qlt) fun e2 => h2 q e (.inr e2.symm)), fun q e hq => ?_⟩, fun hq => ?_, h.inv, h.u, fun i hi => ?_, Nat.lt_of_lt_of_le h.lb hg.size⟩
  · rcases hX q hq with h3 | h3
    · exact h2 q e h3
    · subst e; have := h1.qlt; omega
  · rcases hX b hq with h3 | h3
    · exact h.nb h3
    · have := h.lb; omega
  · rcases hi with h3 | h3
    · exact Nat.lt_of_lt_of_le (h.lt i (.inl h3)) hg.size
    · exact hlt i h3
theorem rowU {w : World} {base n : Nat} {v : Value} {l : List Int} (h : w.ownsRow base 22 1 v n (flatU l)) : l.length = n ∧ ∃ A c, v = .slice A n c ∧ ∀ (k : Nat) (x : Int), l[k]? = some x → ∃ g, A = some ⟨g, 0, none⟩ ∧ w.cell? ⟨g, k, none⟩ = some (.int .u64 x) := by
  have hl : l.length = n := by have := h.1; simpa [flatU] using this
  refine ⟨hl, ?_⟩
  rcases h.2 with ⟨rfl, rfl⟩ | ⟨g, cap, cur, rfl, hg, hh, hnc, hm, hs, ht⟩
  · exact ⟨none, 0, rfl, fun k x hk => by rw [List.eq_nil_of_length_eq_zero hl] at hk; cases hk⟩
  · refine ⟨_, cap, rfl, fun k x hk => ⟨g, rfl, ?_⟩⟩
    have hkn : k < n := by have := (List.getElem?_eq_some_iff.1 hk).1; omega
    rw [World.ownsRow.cellAt ⟨h.1, .inr ⟨g, cap, cur, rfl, hg, hh, hnc, hm, hs, ht⟩⟩ _ (by omega)]
    simp [flatU, hk]
/-- a round's state: the merge, the row of popped keys, how many have ended -/
structure Rs (B : Nat) (w : World) (b S E : Nat) (M : Mg.Mg) (L : List Int) (v : Value) : Prop where
  sm : Sm (Xl B v) w b M
  row : w.ownsRow B 22 1 v L.length (flatU L)
  cn : Mg.Cn S E M
  lk : ∀ q, L.getLast? = some q → Mg.Lk M q
theorem Rs.below {B : Nat} {w w' : World} {b S E : Nat} {M : Mg.Mg} {L : List Int} {v : Value} (h : Rs B w b S E M L v) (hb : Below w.heap.size w w') : Rs B w' b S E M L v :=
  ⟨h.sm.below hb, ownU_keep h.row fun g hg => hb.block g (h.row.lt g hg).2, h.cn, h.lk⟩
where ownU_keep {w w' : World} {base : Nat} {e : TypeId} {size : Nat} {v : Value} {n : Nat} {xs : List Value} (h : w.ownsRow base e size v n xs) (hb : ∀ g, v.ownBlock = some g → w'.heap[g]? = w.heap[g]?) : w'.ownsRow base e size v n xs := Mg.own_keep h hb
theorem Rs.call {B : Nat} {w w' : World} {b S E F : Nat} {M N : Mg.Mg} {L : List Int} {v : Value} (h : Rs B w b S E M L v) (hs : Sm (Xl B v) w' b N) (hk : Kx (Xl B v) w w') (hc : Mg.Cn S F N) (hl : ∀ q, L.getLast? = some q → Mg.Lk N q) : Rs B w' b S F N L v :=
  ⟨hs, Mg.own_keep h.row fun g hg => hk.block g (.inr hg), hc, hl⟩
end Wk
end Go.Proofs.YtoplhlhbdidncaaDoor
