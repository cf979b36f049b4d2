/- leapfrogref02.put: contract of the translated code. Conditions: at most 1000 ranges; the bounds of each end's kind. -/
import Derived.Test.YtmnoljnjnmcgpaaSpanN
import Derived.Laws.AppendOwnNone
namespace Go.Proofs.Ytmnoljnjnmcgpaa
open Go.RowKit Go.Sort
set_option linter.unusedVariables false
set_option linter.unusedSimpArgs false
namespace Sp
/-- 'out = append(out, y)' onto a row of the call's own -/
theorem app1 {ops : Array Oper} {rest : List Oper} {o : Oper} {a : Act} {Q : Exit → Act → World → Prop} (hgd : o.guard = none) (s x : Operand)
    (ho : o.op = .call { callee := .builtin .append, args := #[s, x], argTypes := #[37, 37] }) (w : World) (base n : Nat) (v : Value) (ys : List Sp) (y : Sp)
    (hs : a.eval s = v) (hx : a.eval x = .slice (some ⟨w.heap.size, 0, none⟩) 1 1) (hown : w.ownsRow base 24 2 v n (flat ys)) (hn : n ≤ 2000) (hb : base ≤ w.heap.size)
    (h : ∀ v' w', w'.ownsRow base 24 2 v' (n + 1) (flat (ys ++ [y])) → Below base w w' → wpList Try.prog ops Q rest (a.put o.dst v') w') :
    wpList Try.prog ops Q (o :: rest) a (w.alloc (.cells #[.int .u64 y.1, .int .u64 y.2] 24)) := by
  obtain ⟨i0, hi, hz0, hz1, hz2⟩ := info_parts info
  refine wpList_append_own _ hgd s x 37 ho base 24 i0 _ 2 16 Try.underlying37 hi hz0 hz1 hz2 rfl (by omega) v n (flat ys) hs (hown.alloc _) ⟨w.heap.size, 0, none⟩ 1 1 [.int .u64 y.1, .int .u64 y.2] hx rfl ?_ ?_ (by unfold maxLen; omega) (by omega) (by simp; omega) ?_
  · intro j u hj
    rw [addr_lit, Nat.zero_add, World.cell?_alloc_new]
    simpa using hj
  · intro u hu
    simp at hu
    rcases hu with rfl | rfl <;> rfl
  · intro v' w' h1 h2 _
    rw [show flat ys ++ [.int .u64 y.1, .int .u64 y.2] = flat (ys ++ [y]) by rw [flat_append, flat_one]] at h1
    refine h v' w' h1 (((Below.refl _ _).alloc hb _).grown h2 (by simp; omega) fun k hk => ?_)
    exact (hown.lt k hk).1

/-- 'append([]T{}, xs...)': a copy -/
theorem appAll {ops : Array Oper} {rest : List Oper} {o : Oper} {a : Act} {Q : Exit → Act → World → Prop} (hgd : o.guard = none) (s x : Operand)
    (ho : o.op = .call { callee := .builtin .append, args := #[s, x], argTypes := #[37, 37] }) (w : World) (A : Option Addr) (n c : Nat) (l : List Sp)
    (hs : a.eval s = .slice (some ⟨w.heap.size, 0, none⟩) 0 0) (hx : a.eval x = .slice A n c) (hl : l.length = n) (hn : n ≤ 2000) (hr : Rd w A l) (hnil : A = none → c = 0)
    (h : ∀ v' w', w'.ownsRow w.heap.size 24 2 v' n (flat l) → Below w.heap.size w w' → wpList Try.prog ops Q rest (a.put o.dst v') w') :
    wpList Try.prog ops Q (o :: rest) a (w.alloc (.cells #[] 24)) := by
  obtain ⟨i0, hi, hz0, hz1, hz2⟩ := info_parts info
  have made : (w.alloc (.cells #[] 24)).ownsRow w.heap.size 24 2 (.slice (some ⟨w.heap.size, 0, none⟩) 0 0) 0 [] := World.ownsRow_made w #[] 0 (Nat.le_refl _) (Nat.zero_le _) (by simp)
  cases A with
  | none =>
    have hl0 : l = [] := by
      cases l with
      | nil => rfl
      | cons x l => obtain ⟨b, o, e, _⟩ := hr 0 x rfl; cases e
    subst hl0
    obtain rfl : n = 0 := by simpa using hl.symm
    obtain rfl := hnil rfl
    exact wpList_append_own_none hgd s x 37 ho w.heap.size 24 i0 2 Try.underlying37 hi _ 0 [] hs made hx (h _ _ made (bel_alloc (Below.refl _ _) _))
  | some ad =>
    refine wpList_append_own _ hgd s x 37 ho w.heap.size 24 i0 _ 2 16 Try.underlying37 hi hz0 hz1 hz2 rfl (by omega) _ 0 [] hs made ad n c (flat l) hx (by rw [flat_len, hl]) ?_ (flat_one_cell l) (by unfold maxLen; omega) (by omega) (by simp) ?_
    · intro j u hj
      have h := hr.flat_cells j u hj
      rw [World.cell?_alloc_lt w _ _ (World.block_lt_of_cell? w _ h)]
      exact h
    · intro v' w' h1 h2 _
      refine h v' w' (by simpa using h1) (((Below.refl _ w).alloc (Nat.le_refl _) _).grown h2 (by simp) fun k hk => ?_)
      simp [Value.ownBlock] at hk
      omega
theorem put_done : ∀ (l : List Sp) (s y : Sp), (∃ x, x ∈ l ∧ s.1 < x.1) → put (l ++ [y]) s = put l s ++ [y]
  | [], s, y, ⟨x, hx, _⟩ => by cases hx
  | z :: l, s, y, h => by
    rw [List.cons_append]
    unfold put
    by_cases c : s.1 < z.1
    · rw [if_pos c, if_pos c]; rfl
    · rw [if_neg c, if_neg c, put_done l s y]
      · rfl
      · obtain ⟨x, hx, hlt⟩ := h
        rcases List.mem_cons.1 hx with rfl | hx
        · exact absurd hlt c
        · exact ⟨x, hx, hlt⟩
theorem put_not : ∀ (l m : List Sp) (s : Sp), (∀ x, x ∈ l → ¬ s.1 < x.1) → put (l ++ m) s = l ++ put m s
  | [], m, s, _ => rfl
  | z :: l, m, s, h => by
    rw [List.cons_append, put, if_neg (h z (by simp)), put_not l m s fun x hx => h x (by simp [hx])]; rfl
/-- after k ranges: what has been put together so far -/
structure Pt (l : List Sp) (s : Sp) (k : Nat) (done : Bool) (ys : List Sp) : Prop where
  yes : done = true → ys = put (l.take k) s ∧ ∃ x, x ∈ l.take k ∧ s.1 < x.1
  no : done = false → ys = l.take k ∧ ∀ x, x ∈ l.take k → ¬ s.1 < x.1
  len : ys.length ≤ k + 1
theorem Pt.start (l : List Sp) (s : Sp) : Pt l s 0 false [] := ⟨fun h => (Bool.noConfusion h), fun _ => ⟨rfl, by simp⟩, by simp⟩
theorem Pt.on {l ys : List Sp} {s x : Sp} {k : Nat} (h : Pt l s k true ys) (hx : l[k]? = some x) : Pt l s (k + 1) true (ys ++ [x]) := by
  obtain ⟨e, z, hz, hlt⟩ := h.yes rfl
  refine ⟨fun _ => ⟨?_, z, ?_, hlt⟩, fun h => (Bool.noConfusion h), by have := h.len; simp; omega⟩
  · rw [take_succ' hx, put_done _ _ _ ⟨z, hz, hlt⟩, e]
  · rw [take_succ' hx]; simp [hz]
theorem Pt.here {l ys : List Sp} {s x : Sp} {k : Nat} (h : Pt l s k false ys) (hx : l[k]? = some x) (hk : k < l.length) (c : s.1 < x.1) : Pt l s (k + 1) true ((ys ++ [s]) ++ [x]) := by
  obtain ⟨e, hn⟩ := h.no rfl
  refine ⟨fun _ => ⟨?_, x, ?_, c⟩, fun h => (Bool.noConfusion h), ?_⟩
  · rw [take_succ' hx, put_not _ _ _ hn, e, put, if_pos c, List.append_assoc]; rfl
  · rw [take_succ' hx]; simp
  · rw [e]; simp; omega
theorem Pt.past {l ys : List Sp} {s x : Sp} {k : Nat} (h : Pt l s k false ys) (hx : l[k]? = some x) (c : ¬ s.1 < x.1) : Pt l s (k + 1) false (ys ++ [x]) := by
  obtain ⟨e, hn⟩ := h.no rfl
  refine ⟨fun h => (Bool.noConfusion h), fun _ => ⟨?_, ?_⟩, by have := h.len; simp; omega⟩
  · rw [take_succ' hx, e]
  · rw [take_succ' hx]
    intro z hz
    rcases List.mem_append.1 hz with hz | hz
    · exact hn z hz
    · simp at hz; subst hz; exact c
theorem Pt.end_yes {l ys : List Sp} {s : Sp} {k : Nat} (h : Pt l s k true ys) (hk : l.length ≤ k) : ys = put l s := by
  have := (h.yes rfl).1
  rwa [List.take_of_length_le hk] at this
theorem Pt.end_no {l ys : List Sp} {s : Sp} {k : Nat} (h : Pt l s k false ys) (hk : l.length ≤ k) : ys ++ [s] = put l s := by
  obtain ⟨e, hn⟩ := h.no rfl
  rw [List.take_of_length_le hk] at e hn
  have := put_not l [] s hn
  rw [List.append_nil] at this
  rw [this, e]; rfl
def PutPost (w : World) (l : List Sp) (s : Sp) (e : Ending) (w' : World) : Prop :=
  ∃ v, e = .returned v ∧ w'.ownsRow w.heap.size 24 2 v (put l s).length (flat (put l s)) ∧ Below w.heap.size w w'
theorem row_base {w : World} {B B' n : Nat} {t : TypeId} {v : Value} {xs : List Value} (h : w.ownsRow B t 2 v n xs) (hB : B' ≤ B) : w.ownsRow B' t 2 v n xs := by
  refine ⟨h.1, ?_⟩
  rcases h.2 with h' | ⟨g, cap, cur, e, hb, r⟩
  · exact .inl h'
  · exact .inr ⟨g, cap, cur, e, by omega, r⟩
theorem put_any (A : Option Addr) (n c : Nat) (l : List Sp) (s : Sp) (w : World) (hn : l.length = n) (hs : n ≤ 1000) (hr : Rd w A l) :
    Calls Try.prog 43 #[.slice A n c, .agg #[.int .u64 s.1, .int .u64 s.2]] w (PutPost w l s) := by
  have HR := Lib.hid hr; clear hr
  have HN := Lib.hid hn; clear hn
  have hs1 : (n : Int) ≤ 1000 := by omega
  go_enter Try.func43, Try.ntmps43
  go_wp2
  go_loopw [5, 6, 7] (fun v dn i wr => ∃ (k : Nat) (done : Bool) (ys : List Sp), k ≤ n ∧ i = .int .i64 k ∧ dn = .bool done ∧ Pt l s k done ys ∧ wr.ownsRow (w.heap.size + 1) 24 2 v ys.length (flat ys) ∧ Below (w.heap.size + 1) (w.alloc (.cells #[.int .u64 s.1, .int .u64 s.2] 24)) wr) (fun _ _ i _ => n - (intOf i).toNat)
  case atStart => exact ⟨0, false, [], Nat.zero_le _, rfl, rfl, Pt.start l s, World.ownsRow_nil _ _ _ _, Below.refl _ _⟩
  case round =>
    obtain ⟨k, done, ys, hk, rfl, rfl, pt, hown, bel⟩ := hrel
    have hbs := bel.size
    simp at hbs
    have t0 : wr.cell? ⟨w.heap.size, 0, none⟩ = some (.int .u64 s.1) := by rw [bel.cell (p := ⟨w.heap.size, 0, none⟩) (by simp)]; simp
    have t1 : wr.cell? ⟨w.heap.size, 1, none⟩ = some (.int .u64 s.2) := by rw [bel.cell (p := ⟨w.heap.size, 1, none⟩) (by simp)]; simp
    have belw : Below w.heap.size w wr := ((Below.refl _ _).alloc (Nat.le_refl _) _).trans (bel.mono (by omega))
    have hlen := pt.len
    have PT := Lib.hid pt; clear pt
    have OW := Lib.hid hown; clear hown
    by_cases hlt : k < n
    · obtain ⟨x, hx, hm⟩ := getElem?_lt HN.out hlt
      have HX := Lib.hid hx; clear hx hm
      obtain ⟨b, o, rfl, c0, c1⟩ := (HR.out.below belw) k x HX.out
      cases done with
      | true =>
        go_wp2
        go_quiet (fail)
        go_wp2_with (at_builtin; refine app1 rfl (.tmp 30) (.tmp 35) rfl (wr.drewN nq) (w.heap.size + 1) ys.length _ ys x rfl rfl OW.out (by omega) hbs ?_; intro v1 w1 h1 b1)
        have b3 := below_drewN bel nq
        go_roundw
        case rel => exact ⟨k + 1, true, ys ++ [x], by omega, by go_num, rfl, PT.out.on HX.out, by simpa using h1, b3.trans b1⟩
        case measure => simp [intOf]; omega
      | false =>
        by_cases hc : s.1 < x.1
        · go_wp2
          go_quiet (fail)
          go_wp2_with (first | (at_builtin; refine app1 rfl (.tmp 26) (.tmp 28) rfl (wr.drewN nq) (w.heap.size + 1) ys.length _ ys s rfl rfl OW.out (by omega) hbs ?_; intro v1 w1 h1 b1; have hz1 : wr.heap.size ≤ w1.heap.size := b1.size; obtain ⟨b', o', e', c0', c1'⟩ := ((below_drewN belw nq |> fun h => HR.out.below (h.trans (b1.mono (by omega)))) k x HX.out); cases e') | (at_builtin; refine app1 rfl (.tmp 30) (.tmp 35) rfl w1 (w.heap.size + 1) (ys.length + 1) _ (ys ++ [s]) x rfl rfl h1 (by omega) (Nat.le_trans hbs hz1) ?_; intro v2 w2 h2 b2))
          have b3 := below_drewN bel nq
          go_roundw
          case rel => exact ⟨k + 1, true, (ys ++ [s]) ++ [x], by omega, by go_num, rfl, PT.out.here HX.out (by have := HN.out; omega) hc, by simpa using h2, (b3.trans b1).trans b2⟩
          case measure => simp [intOf]; omega
        · have hc' : x.1 ≤ s.1 := by omega
          go_wp2
          go_quiet (fail)
          go_wp2_with (at_builtin; refine app1 rfl (.tmp 30) (.tmp 35) rfl (wr.drewN nq) (w.heap.size + 1) ys.length _ ys x rfl rfl OW.out (by omega) hbs ?_; intro v1 w1 h1 b1)
          have b3 := below_drewN bel nq
          go_roundw
          case rel => exact ⟨k + 1, false, ys ++ [x], by omega, by go_num, rfl, PT.out.past HX.out (by omega), by simpa using h1, b3.trans b1⟩
          case measure => simp [intOf]; omega
    · have hkn : l.length ≤ k := by have := HN.out; omega
      cases done with
      | true =>
        go_wp2
        go_ret
        have e := PT.out.end_yes hkn
        exact ⟨_, rfl, by rw [← e]; exact row_base OW.out (by omega), belw⟩
      | false =>
        go_wp2_with (at_builtin; refine app1 rfl (.tmp 39) (.tmp 41) rfl wr (w.heap.size + 1) ys.length _ ys s rfl rfl OW.out (by omega) hbs ?_; intro v1 w1 h1 b1)
        go_ret
        have e := PT.out.end_no hkn
        exact ⟨_, rfl, by rw [← e]; exact row_base (by simpa using h1) (by omega), belw.trans (b1.mono (by omega))⟩
end Sp
end Go.Proofs.Ytmnoljnjnmcgpaa
