/- Plain mathematics of ranges: lists of pairs, their keys, the normal form and that it is the only one. No conditions. -/
namespace Go.Proofs.Ytmnoljnjnmcgpaa
set_option linter.unusedVariables false
namespace Sp
abbrev Sp := Int × Int
/-- all ranges are valid -/
def Ok (l : List Sp) : Prop := ∀ x, x ∈ l → x.1 ≤ x.2
/-- a key is in some range -/
def In (l : List Sp) (k : Int) : Prop := ∃ x, x ∈ l ∧ x.1 ≤ k ∧ k ≤ x.2
/-- ascending, with gaps -/
def Asc (l : List Sp) : Prop := l.Pairwise (fun a b => a.2 + 1 < b.1)
def Nrm (l : List Sp) : Prop := Ok l ∧ Asc l

theorem In_cons (a : Sp) (l : List Sp) (k : Int) : In (a :: l) k ↔ (a.1 ≤ k ∧ k ≤ a.2) ∨ In l k := by
  simp [In]
theorem In_nil (k : Int) : ¬ In [] k := by simp [In]
theorem In_append (l m : List Sp) (k : Int) : In (l ++ m) k ↔ In l k ∨ In m k := by
  simp only [In, List.mem_append]
  constructor
  · rintro ⟨x, h | h, h2⟩
    · exact .inl ⟨x, h, h2⟩
    · exact .inr ⟨x, h, h2⟩
  · rintro (⟨x, h, h2⟩ | ⟨x, h, h2⟩)
    · exact ⟨x, .inl h, h2⟩
    · exact ⟨x, .inr h, h2⟩
theorem Nrm.nil : Nrm [] := ⟨by simp [Ok], by simp [Asc]⟩
theorem Nrm.cons_iff (a : Sp) (l : List Sp) : Nrm (a :: l) ↔ a.1 ≤ a.2 ∧ (∀ b, b ∈ l → a.2 + 1 < b.1) ∧ Nrm l := by
  simp only [Nrm, Ok, Asc, List.pairwise_cons, List.mem_cons]
  constructor
  · rintro ⟨h1, h2, h3⟩
    exact ⟨h1 a (.inl rfl), h2, fun x hx => h1 x (.inr hx), h3⟩
  · rintro ⟨h1, h2, h3, h4⟩
    exact ⟨fun x hx => hx.elim (fun e => e ▸ h1) (h3 x), h2, h4⟩
theorem Nrm.append_iff (l m : List Sp) : Nrm (l ++ m) ↔ Nrm l ∧ Nrm m ∧ ∀ a, a ∈ l → ∀ b, b ∈ m → a.2 + 1 < b.1 := by
  simp only [Nrm, Ok, Asc, List.pairwise_append, List.mem_append]
  constructor
  · rintro ⟨h1, h2, h3, h4⟩
    exact ⟨⟨fun x hx => h1 x (.inl hx), h2⟩, ⟨fun x hx => h1 x (.inr hx), h3⟩, h4⟩
  · rintro ⟨⟨h1, h2⟩, ⟨h3, h4⟩, h5⟩
    exact ⟨fun x hx => hx.elim (h1 x) (h3 x), h2, h4, h5⟩

/-- there is one normal form with given keys -/
theorem Nrm.ext : ∀ {l m : List Sp}, Nrm l → Nrm m → (∀ k, In l k ↔ In m k) → l = m
  | [], [], _, _, _ => rfl
  | [], b :: m, _, hm, h => by
    have hb := (Nrm.cons_iff b m).1 hm
    exact absurd ((h b.1).2 ((In_cons b m _).2 (.inl ⟨Int.le_refl _, hb.1⟩))) (In_nil _)
  | a :: l, [], hl, _, h => by
    have ha := (Nrm.cons_iff a l).1 hl
    exact absurd ((h a.1).1 ((In_cons a l _).2 (.inl ⟨Int.le_refl _, ha.1⟩))) (In_nil _)
  | a :: l, b :: m, hl, hm, h => by
    obtain ⟨a1, a2, a3⟩ := (Nrm.cons_iff a l).1 hl
    obtain ⟨b1, b2, b3⟩ := (Nrm.cons_iff b m).1 hm
    have tl : ∀ k, In l k → a.2 + 1 < k := fun k ⟨x, hx, h1, h2⟩ => by have := a2 x hx; omega
    have tm : ∀ k, In m k → b.2 + 1 < k := fun k ⟨x, hx, h1, h2⟩ => by have := b2 x hx; omega
    simp only [In_cons] at h
    have e1 : a.1 = b.1 := by
      have p := (h a.1).1 (.inl ⟨Int.le_refl _, a1⟩)
      have q := (h b.1).2 (.inl ⟨Int.le_refl _, b1⟩)
      have p1 := tm a.1
      have q1 := tl b.1
      rcases p with p | p <;> rcases q with q | q
      · omega
      · have := q1 q; omega
      · have := p1 p; omega
      · have := q1 q; have := p1 p; omega
    have e2 : a.2 = b.2 := by
      rcases Int.lt_trichotomy a.2 b.2 with c | c | c
      · rcases (h (a.2 + 1)).2 (.inl (by omega)) with p | p
        · omega
        · have := tl _ p; omega
      · exact c
      · rcases (h (b.2 + 1)).1 (.inl (by omega)) with p | p
        · omega
        · have := tm _ p; omega
    have e : a = b := Prod.ext e1 e2
    subst e
    have : l = m := Nrm.ext a3 b3 fun k => by
      constructor
      · intro p
        rcases (h k).1 (.inr p) with q | q
        · have := tl k p; omega
        · exact q
      · intro p
        rcases (h k).2 (.inr p) with q | q
        · have := tm k p; omega
        · exact q
    rw [this]

/-! ### the folding of ranges in ascending order of Lo -/
def reach (a b : Sp) : Bool := decide (b.1 ≤ a.2 + 1)
def hull (a b : Sp) : Sp := (min a.1 b.1, max a.2 b.2)
/-- one range more; the list is the result so far -/
def push (acc : List Sp) (s : Sp) : List Sp :=
  match acc.getLast? with
  | none => [s]
  | some a => if reach a s = true then acc.dropLast ++ [(a.1, max a.2 s.2)] else acc ++ [s]
def fold (l : List Sp) : List Sp := l.foldl push []

theorem push_nil (s : Sp) : push [] s = [s] := rfl
theorem push_snoc (l : List Sp) (a s : Sp) : push (l ++ [a]) s = if reach a s = true then l ++ [(a.1, max a.2 s.2)] else (l ++ [a]) ++ [s] := by
  simp [push]
theorem snoc_cases (l : List Sp) : l = [] ∨ ∃ m a, l = m ++ [a] := by
  rcases List.eq_nil_or_concat l with h | ⟨m, a, h⟩
  · exact .inl h
  · exact .inr ⟨m, a, by simpa using h⟩
theorem push_len (acc : List Sp) (s : Sp) : (push acc s).length ≤ acc.length + 1 := by
  rcases snoc_cases acc with rfl | ⟨l, a, rfl⟩
  · simp [push_nil]
  · rw [push_snoc]; split <;> simp
theorem push_nrm {acc : List Sp} {s : Sp} (h : Nrm acc) (hs : s.1 ≤ s.2) (hl : ∀ x, x ∈ acc → x.1 ≤ s.1) : Nrm (push acc s) := by
  rcases snoc_cases acc with rfl | ⟨l, a, rfl⟩
  · rw [push_nil]
    exact (Nrm.cons_iff _ _).2 ⟨hs, by simp, Nrm.nil⟩
  · rw [push_snoc]
    obtain ⟨h1, h2, h3⟩ := (Nrm.append_iff l [a]).1 h
    have ha := ((Nrm.cons_iff a []).1 h2).1
    split
    · refine (Nrm.append_iff l _).2 ⟨h1, (Nrm.cons_iff _ _).2 ⟨?_, by simp, Nrm.nil⟩, ?_⟩
      · show a.1 ≤ max a.2 s.2
        omega
      · intro x hx b hb
        have := h3 x hx a (by simp)
        simp only [List.mem_singleton] at hb
        subst hb
        exact this
    · rename_i hr
      have hr' : ¬ s.1 ≤ a.2 + 1 := by simpa [reach] using hr
      refine (Nrm.append_iff _ _).2 ⟨h, (Nrm.cons_iff _ _).2 ⟨hs, by simp, Nrm.nil⟩, ?_⟩
      intro x hx b hb
      simp only [List.mem_singleton] at hb
      subst hb
      rcases List.mem_append.1 hx with q | q
      · have := h3 x q a (by simp); omega
      · simp only [List.mem_singleton] at q; subst q; omega
theorem push_in {acc : List Sp} {s : Sp} (h : Nrm acc) (hl : ∀ x, x ∈ acc → x.1 ≤ s.1) (k : Int) : In (push acc s) k ↔ In acc k ∨ (s.1 ≤ k ∧ k ≤ s.2) := by
  rcases snoc_cases acc with rfl | ⟨l, a, rfl⟩
  · rw [push_nil, In_cons]
    simp [In_nil]
  · rw [push_snoc]
    obtain ⟨h1, h2, h3⟩ := (Nrm.append_iff l [a]).1 h
    have ha := ((Nrm.cons_iff a []).1 h2).1
    have hls := hl a (by simp)
    split
    · rename_i hr
      have hr' : s.1 ≤ a.2 + 1 := by simpa [reach] using hr
      rw [In_append, In_append, In_cons, In_cons]
      simp only [In_nil, or_false]
      constructor
      · rintro (p | p)
        · exact .inl (.inl p)
        · have p1 : a.1 ≤ k := p.1
          have p2 : k ≤ max a.2 s.2 := p.2
          by_cases c : k ≤ a.2
          · exact .inl (.inr ⟨p1, c⟩)
          · exact .inr (by omega)
      · rintro ((p | p) | p)
        · exact .inl p
        · right; show a.1 ≤ k ∧ k ≤ max a.2 s.2; omega
        · right; show a.1 ≤ k ∧ k ≤ max a.2 s.2; omega
    · rw [In_append, In_cons]
      simp [In_nil]
theorem push_los {acc : List Sp} {s : Sp} (hl : ∀ x, x ∈ acc → x.1 ≤ s.1) : ∀ x, x ∈ push acc s → x.1 ≤ s.1 := by
  rcases snoc_cases acc with rfl | ⟨l, a, rfl⟩
  · simp [push_nil]
  · rw [push_snoc]
    intro x hx
    split at hx
    · rcases List.mem_append.1 hx with q | q
      · exact hl x (by simp [q])
      · simp only [List.mem_singleton] at q
        subst q
        exact hl a (by simp)
    · rcases List.mem_append.1 hx with q | q
      · exact hl x q
      · simp only [List.mem_singleton] at q
        subst q
        exact Int.le_refl _
theorem fold_aux : ∀ (l acc : List Sp), Nrm acc → Ok l → l.Pairwise (fun a b => a.1 ≤ b.1) → (∀ x, x ∈ acc → ∀ y, y ∈ l → x.1 ≤ y.1) →
    Nrm (l.foldl push acc) ∧ ∀ k, In (l.foldl push acc) k ↔ In acc k ∨ In l k
  | [], acc, h, _, _, _ => ⟨h, fun k => by simp [In_nil]⟩
  | s :: l, acc, h, ho, hp, hl => by
    rw [List.pairwise_cons] at hp
    have hls : ∀ x, x ∈ acc → x.1 ≤ s.1 := fun x hx => hl x hx s (by simp)
    have hs : s.1 ≤ s.2 := ho s (by simp)
    obtain ⟨r1, r2⟩ := fold_aux l (push acc s) (push_nrm h hs hls) (fun x hx => ho x (by simp [hx])) hp.2
      (fun x hx y hy => Int.le_trans (push_los hls x hx) (hp.1 y hy))
    refine ⟨r1, fun k => ?_⟩
    rw [List.foldl_cons, r2 k, push_in h hls, In_cons, or_assoc]
/-- folding ranges in ascending order gives the normal form -/
theorem fold_nrm {l : List Sp} (ho : Ok l) (hp : l.Pairwise (fun a b => a.1 ≤ b.1)) : Nrm (fold l) ∧ ∀ k, In (fold l) k ↔ In l k := by
  obtain ⟨h1, h2⟩ := fold_aux l [] Nrm.nil ho hp (by simp)
  exact ⟨h1, fun k => by rw [fold, h2]; simp [In_nil]⟩

/-! ### range by range: joining with all that touch, and putting in its place -/
def touch (a b : Sp) : Bool := decide (b.1 ≤ a.2 + 1 ∧ a.1 ≤ b.2 + 1)
def join1 (st : Sp × List Sp) (x : Sp) : Sp × List Sp := if touch x st.1 = true then (hull x st.1, st.2) else (st.1, st.2 ++ [x])
def joins (out : List Sp) (s : Sp) : Sp × List Sp := out.foldl join1 (s, [])
def put : List Sp → Sp → List Sp
  | [], s => [s]
  | x :: l, s => if s.1 < x.1 then s :: x :: l else x :: put l s
def insert1 (out : List Sp) (s : Sp) : List Sp := put (joins out s).2 (joins out s).1
def norm (l : List Sp) : List Sp := l.foldl insert1 []

def Apart (rest : List Sp) (s : Sp) : Prop := ∀ r, r ∈ rest → r.2 + 1 < s.1 ∨ s.2 + 1 < r.1
theorem joins_aux : ∀ (out rest : List Sp) (s : Sp), Nrm (rest ++ out) → s.1 ≤ s.2 → Apart rest s →
    (out.foldl join1 (s, rest)).1.1 ≤ (out.foldl join1 (s, rest)).1.2 ∧ Nrm (out.foldl join1 (s, rest)).2 ∧ Apart (out.foldl join1 (s, rest)).2 (out.foldl join1 (s, rest)).1 ∧
    ∀ k, (In (out.foldl join1 (s, rest)).2 k ∨ ((out.foldl join1 (s, rest)).1.1 ≤ k ∧ k ≤ (out.foldl join1 (s, rest)).1.2)) ↔ (In (rest ++ out) k ∨ (s.1 ≤ k ∧ k ≤ s.2))
  | [], rest, s, h, hs, ha => by simpa using ⟨hs, by simpa using h, ha⟩
  | y :: out, rest, s, h, hs, ha => by
    obtain ⟨h1, h2, h3⟩ := (Nrm.append_iff rest (y :: out)).1 h
    obtain ⟨y1, y2, y3⟩ := (Nrm.cons_iff y out).1 h2
    rw [List.foldl_cons]
    by_cases ht : touch y s = true
    · have ht' : s.1 ≤ y.2 + 1 ∧ y.1 ≤ s.2 + 1 := by simpa [touch] using ht
      have e : join1 (s, rest) y = (hull y s, rest) := by simp [join1, ht]
      rw [e]
      obtain ⟨r1, r2, r3, r4⟩ := joins_aux out rest (hull y s) ((Nrm.append_iff _ _).2 ⟨h1, y3, fun a hx b hb => h3 a hx b (by simp [hb])⟩) (by simp only [hull]; omega) (by
        intro r hr
        have := ha r hr
        have := h3 r hr y (by simp)
        have := h1.1 r hr
        simp only [hull]
        omega)
      refine ⟨r1, r2, r3, fun k => ?_⟩
      rw [r4 k, In_append, In_append, In_cons]
      simp only [hull]
      constructor
      · rintro ((p | p) | p)
        · exact .inl (.inl p)
        · exact .inl (.inr (.inr p))
        · by_cases c : y.1 ≤ k ∧ k ≤ y.2
          · exact .inl (.inr (.inl c))
          · exact .inr (by omega)
      · rintro ((p | p | p) | p)
        · exact .inl (.inl p)
        · exact .inr (by omega)
        · exact .inl (.inr p)
        · exact .inr (by omega)
    · have ht' : ¬ (s.1 ≤ y.2 + 1 ∧ y.1 ≤ s.2 + 1) := by simpa [touch] using ht
      have e : join1 (s, rest) y = (s, rest ++ [y]) := by simp [join1, ht]
      rw [e]
      have e2 : (rest ++ [y]) ++ out = rest ++ y :: out := by simp
      obtain ⟨r1, r2, r3, r4⟩ := joins_aux out (rest ++ [y]) s (by rw [e2]; exact h) hs (by
        intro r hr
        rcases List.mem_append.1 hr with q | q
        · exact ha r q
        · simp only [List.mem_singleton] at q
          subst q
          omega)
      refine ⟨r1, r2, r3, fun k => ?_⟩
      rw [r4 k, e2]
theorem put_in : ∀ (l : List Sp) (s : Sp) (k : Int), In (put l s) k ↔ In l k ∨ (s.1 ≤ k ∧ k ≤ s.2)
  | [], s, k => by simp [put, In_cons, In_nil]
  | x :: l, s, k => by
    unfold put
    split
    · rw [In_cons, or_comm]
    · rw [In_cons, In_cons, put_in l s k, or_assoc]
theorem put_mem : ∀ (l : List Sp) (s b : Sp), b ∈ put l s → b = s ∨ b ∈ l
  | [], s, b, h => .inl (by simpa [put] using h)
  | x :: l, s, b, h => by
    unfold put at h
    split at h
    · simp only [List.mem_cons] at h ⊢
      exact h
    · simp only [List.mem_cons] at h ⊢
      rcases h with h | h
      · exact .inr (.inl h)
      · exact (put_mem l s b h).elim .inl (fun q => .inr (.inr q))
theorem put_nrm : ∀ (l : List Sp) (s : Sp), Nrm l → s.1 ≤ s.2 → Apart l s → Nrm (put l s)
  | [], s, _, hs, _ => (Nrm.cons_iff _ _).2 ⟨hs, by simp, Nrm.nil⟩
  | x :: l, s, h, hs, ha => by
    obtain ⟨x1, x2, x3⟩ := (Nrm.cons_iff x l).1 h
    have hx := ha x (by simp)
    unfold put
    split
    · refine (Nrm.cons_iff _ _).2 ⟨hs, ?_, h⟩
      intro b hb
      simp only [List.mem_cons] at hb
      rcases hb with rfl | hb
      · omega
      · have := x2 b hb; omega
    · refine (Nrm.cons_iff _ _).2 ⟨x1, ?_, put_nrm l s x3 hs (fun r hr => ha r (by simp [hr]))⟩
      intro b hb
      rcases put_mem l s b hb with rfl | hb
      · omega
      · exact x2 b hb
theorem insert1_nrm {out : List Sp} {s : Sp} (h : Nrm out) (hs : s.1 ≤ s.2) : Nrm (insert1 out s) ∧ ∀ k, In (insert1 out s) k ↔ In out k ∨ (s.1 ≤ k ∧ k ≤ s.2) := by
  obtain ⟨r1, r2, r3, r4⟩ := joins_aux out [] s (by simpa using h) hs (by simp [Apart])
  exact ⟨put_nrm _ _ r2 r1 r3, fun k => by rw [insert1, put_in]; exact r4 k⟩
theorem norm_aux : ∀ (l out : List Sp), Nrm out → Ok l → Nrm (l.foldl insert1 out) ∧ ∀ k, In (l.foldl insert1 out) k ↔ In out k ∨ In l k
  | [], out, h, _ => ⟨h, fun k => by simp [In_nil]⟩
  | s :: l, out, h, ho => by
    obtain ⟨p1, p2⟩ := insert1_nrm h (ho s (by simp))
    obtain ⟨r1, r2⟩ := norm_aux l (insert1 out s) p1 (fun x hx => ho x (by simp [hx]))
    refine ⟨r1, fun k => ?_⟩
    rw [List.foldl_cons, r2 k, p2 k, In_cons, or_assoc]
theorem norm_nrm {l : List Sp} (ho : Ok l) : Nrm (norm l) ∧ ∀ k, In (norm l) k ↔ In l k := by
  obtain ⟨h1, h2⟩ := norm_aux l [] Nrm.nil ho
  exact ⟨h1, fun k => by rw [norm, h2]; simp [In_nil]⟩
/-- a list in the normal form with the keys of l is that which the range by range joining gives -/
theorem nrm_eq {l m : List Sp} (ho : Ok l) (hm : Nrm m) (hk : ∀ k, In m k ↔ In l k) : m = norm l :=
  Nrm.ext hm (norm_nrm ho).1 fun k => (hk k).trans ((norm_nrm ho).2 k).symm
theorem fold_eq {l m : List Sp} (ho : Ok l) (hp : m.Perm l) (hs : m.Pairwise (fun a b => a.1 ≤ b.1)) : fold m = norm l := by
  have hom : Ok m := fun x hx => ho x (hp.mem_iff.1 hx)
  obtain ⟨h1, h2⟩ := fold_nrm hom hs
  refine nrm_eq ho h1 fun k => (h2 k).trans ?_
  unfold In
  constructor
  · rintro ⟨x, hx, h⟩; exact ⟨x, hp.mem_iff.1 hx, h⟩
  · rintro ⟨x, hx, h⟩; exact ⟨x, hp.mem_iff.2 hx, h⟩
end Sp
end Go.Proofs.Ytmnoljnjnmcgpaa
