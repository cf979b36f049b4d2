/- Histories of events as mathematics: the sections and waits of a prefix, those of one thread, and the events of one thread. -/
import Derived.Test.YtbnchajkfceaoaaEvM
namespace Go.Proofs.Ytbnchajkfceaoaa
set_option linter.unusedVariables false
set_option linter.unusedSimpArgs false
namespace Ev
/-- an interval as it is known behind a step -/
def clip (st : Int) (x : I) : I := if st < x.b then clos x else x
def begun (st : Int) (s : List I) : List I := (s.filter fun x => decide (x.a ≤ st)).map (clip st)
theorem upto_none {st : Int} : ∀ {l : List E}, (∀ e ∈ l, st < e.s) → upto st l = [] := fun h => by
  unfold upto
  rw [List.filter_eq_nil_iff]
  intro e he
  have := h e he
  simp; omega
theorem nxt_upto {st t : Int} : ∀ {l : List E}, l.Pairwise (fun x y => x.s ≤ y.s) → nxt t (upto st l) = if st < nxt t l then -1 else nxt t l
  | [], _ => by show (-1 : Int) = if st < -1 then -1 else -1; exact (ite_self _).symm
  | e :: r, h => by
    have hr := (List.pairwise_cons.1 h).2
    have he := (List.pairwise_cons.1 h).1
    by_cases hs : e.s ≤ st
    · have hu : upto st (e :: r) = e :: upto st r := by unfold upto; rw [List.filter_cons_of_pos (by simpa using hs)]
      rw [hu]
      unfold nxt
      by_cases ht : e.t = t
      · rw [if_pos ht, if_pos ht, if_neg (by omega)]
      · rw [if_neg ht, if_neg ht, nxt_upto hr]
    · have hu : upto st (e :: r) = [] := upto_none fun x hx => by
        simp at hx
        rcases hx with rfl | hx
        · omega
        · have := he x hx; omega
      rw [hu]
      by_cases hn : nxt t (e :: r) = -1
      · rw [hn]; simp [nxt]
      · have hgt : st < nxt t (e :: r) := by
          have key : ∀ (q : List E), (∀ x ∈ q, st < x.s) → nxt t q = -1 ∨ st < nxt t q := by
            intro q
            induction q with
            | nil => intro _; left; rfl
            | cons x q ih =>
              intro hq
              unfold nxt
              by_cases hx : x.t = t
              · rw [if_pos hx]; right; exact hq x (List.mem_cons_self ..)
              · rw [if_neg hx]; exact ih fun y hy => hq y (List.mem_cons_of_mem _ hy)
          rcases key (e :: r) (fun x hx => by
            simp at hx
            rcases hx with rfl | hx
            · omega
            · have := he x hx; omega) with h1 | h1
          · exact absurd h1 hn
          · exact h1
        rw [if_pos hgt]; rfl
theorem ivs_after {k st : Int} : ∀ {l : List E}, (∀ e ∈ l, st < e.s) → begun st (ivs k l) = []
  | [], _ => rfl
  | e :: r, h => by
    have he := h e (List.mem_cons_self ..)
    have ih := ivs_after (k := k) (st := st) (l := r) fun y hy => h y (List.mem_cons_of_mem _ hy)
    unfold ivs
    split
    · unfold begun
      rw [List.filter_cons_of_neg (by simp; omega)]
      exact ih
    · exact ih
/-- the sections or waits of a prefix -/
theorem ivs_upto {k st : Int} : ∀ {l : List E}, l.Pairwise (fun x y => x.s ≤ y.s) → ivs k (upto st l) = begun st (ivs k l)
  | [], _ => rfl
  | e :: r, h => by
    have hr := (List.pairwise_cons.1 h).2
    have he := (List.pairwise_cons.1 h).1
    by_cases hs : e.s ≤ st
    · have hu : upto st (e :: r) = e :: upto st r := by unfold upto; rw [List.filter_cons_of_pos (by simpa using hs)]
      rw [hu]
      have ih := ivs_upto (k := k) (st := st) hr
      unfold ivs
      by_cases hk : e.k = k
      · rw [if_pos hk, if_pos hk]
        unfold begun
        rw [List.filter_cons_of_pos (by simpa using hs), List.map_cons]
        rw [nxt_upto hr, ih]
        unfold begun clip clos
        simp only
        split <;> rfl
      · rw [if_neg hk, if_neg hk]
        exact ih
    · have ha : ∀ x ∈ e :: r, st < x.s := fun x hx => by
        simp at hx
        rcases hx with rfl | hx
        · omega
        · have := he x hx; omega
      rw [upto_none ha, ivs_after ha]; rfl
/-- a prefix by steps is a prefix -/
theorem upto_take {st : Int} : ∀ {l : List E}, l.Pairwise (fun x y => x.s ≤ y.s) → ∃ n, upto st l = l.take n
  | [], _ => ⟨0, rfl⟩
  | e :: r, h => by
    have hr := (List.pairwise_cons.1 h).2
    have he := (List.pairwise_cons.1 h).1
    by_cases hs : e.s ≤ st
    · obtain ⟨n, hn⟩ := upto_take (st := st) hr
      refine ⟨n + 1, ?_⟩
      rw [List.take_succ_cons, ← hn]
      unfold upto
      rw [List.filter_cons_of_pos (by simpa using hs)]
    · refine ⟨0, ?_⟩
      rw [List.take_zero]
      exact upto_none fun x hx => by
        simp at hx
        rcases hx with rfl | hx
        · omega
        · have := he x hx; omega
theorem WF_upto {st : Int} {l : List E} (h : WF l) : WF (upto st l) := by
  obtain ⟨n, hn⟩ := upto_take (st := st) (WF_sorted h)
  rw [hn]
  exact WF_take h n
/-- those of the begun ones that have no end are the open ones -/
theorem opn_begun {st : Int} : ∀ {s : List I}, (∀ x ∈ s, -1 ≤ x.b) → opn st s = (begun st s).filter fun x => decide (x.b < 0)
  | [], _ => rfl
  | x :: s, h => by
    have hx := h x (List.mem_cons_self ..)
    have ih := opn_begun (st := st) (s := s) fun y hy => h y (List.mem_cons_of_mem _ hy)
    unfold opn begun at ih ⊢
    by_cases ha : x.a ≤ st
    · rw [List.filter_cons_of_pos (p := fun (y : I) => decide (y.a ≤ st)) (by simpa using ha), List.map_cons]
      by_cases ho : openB st x = true
      · rw [List.filter_cons_of_pos ho, List.map_cons, ih]
        have hc : clip st x = clos x := by
          unfold openB at ho
          simp [ha] at ho
          unfold clip
          split
          · rfl
          · have hb : x.b = -1 := by omega
            unfold clos; rw [← hb]
        rw [hc, List.filter_cons_of_pos (by simp [clos])]
      · rw [List.filter_cons_of_neg ho, ih]
        have hb : ¬ (x.b = -1 ∨ st < x.b) := by
          unfold openB at ho
          simp [ha] at ho
          omega
        have hc : clip st x = x := by unfold clip; rw [if_neg (by omega)]
        rw [hc, List.filter_cons_of_neg (by simp; omega)]
    · have ho : ¬ openB st x = true := by unfold openB; simp [ha]
      rw [List.filter_cons_of_neg ho, List.filter_cons_of_neg (by simpa using ha), ih]
/-- one interval ends before another one begins -/
def Bef (x y : I) : Prop := x.t = y.t → 0 ≤ x.b ∧ x.b < y.a
/-- what follows an event that begins something: the next event of its thread ends it -/
theorem allow_end {i : Int × Int} {e : E} (h : allowB i e = true) (hi : i.1 = 1 ∨ i.1 = 3) : e.k ≠ 1 ∧ e.k ≠ 3 := by
  unfold allowB at h
  constructor
  · intro hk
    rw [if_pos hk] at h
    simp at h; omega
  · intro hk
    rw [if_neg (by omega), if_neg (by omega), if_pos hk] at h
    simp at h; omega
/-- what lies between: r behind an event x of WF l ++ x :: r -/
theorem nxt_before {x : E} : ∀ (r : List E) (l : List E) (y : E), WF (l ++ x :: (r ++ [y])) → (x.k = 1 ∨ x.k = 3) → x.t = y.t → (y.k = 1 ∨ y.k = 3) → 0 ≤ nxt x.t r ∧ nxt x.t r < y.s := by
  intro r l y h hx ht hy
  have h1 : WF (l ++ x :: r) ∧ goodB (l ++ x :: r) y = true := by
    have e : l ++ x :: (r ++ [y]) = (l ++ x :: r) ++ [y] := by simp
    rw [e] at h
    exact WF_snoc.1 h
  obtain ⟨h1, h2⟩ := h1
  obtain ⟨_, hst, hal⟩ := goodB_parts h2
  have hmem := WF_mem h1
  -- steps before y are smaller
  have hlt : ∀ z ∈ l ++ x :: r, z.s < y.s := by
    intro z hz
    cases hl : (l ++ x :: r).getLast? with
    | none => rw [List.getLast?_eq_none_iff] at hl; rw [hl] at hz; cases hz
    | some q =>
      have h3 := WF_last h1 q hl z hz
      have h4 := hst q hl
      by_cases h5 : y.s ≤ q.s
      · have := stepB_eq h4 h5; omega
      · omega
  -- there is an event of the thread in r
  have hex : ∃ z ∈ r, z.t = x.t := by
    apply Classical.byContradiction
    intro hno
    have hl : lastE y.t (l ++ x :: r) = (x.k, x.v) := by
      have key : ∀ q : List E, (∀ z ∈ q, z.t ≠ x.t) → lastE y.t (l ++ x :: q) = (x.k, x.v) := by
        refine snoc_ind ?_ ?_
        · intro _
          rw [lastE_snoc, if_pos ht]
        · intro q e ih hq
          have e1 : l ++ x :: (q ++ [e]) = (l ++ x :: q) ++ [e] := by simp
          rw [e1, lastE_snoc, if_neg (fun h => hq e (by simp) (h.trans ht.symm))]
          exact ih fun z hz => hq z (by simp [hz])
      exact key r fun z hz hzt => hno ⟨z, hz, hzt⟩
    have := allow_end hal (by rw [hl]; exact hx)
    omega
  obtain ⟨z, hz, hzt⟩ := hex
  have key : ∀ q : List E, (∃ z ∈ q, z.t = x.t) → ∃ z ∈ q, nxt x.t q = z.s := by
    intro q
    induction q with
    | nil => rintro ⟨z, hz, _⟩; cases hz
    | cons a q ih =>
      rintro ⟨z, hz, hzt⟩
      unfold nxt
      by_cases ha : a.t = x.t
      · exact ⟨a, List.mem_cons_self .., by rw [if_pos ha]⟩
      · simp at hz
        rcases hz with rfl | hz
        · exact absurd hzt ha
        · obtain ⟨b, hb, e⟩ := ih ⟨z, hz, hzt⟩
          exact ⟨b, List.mem_cons_of_mem _ hb, by rw [if_neg ha]; exact e⟩
  obtain ⟨b, hb, e⟩ := key r ⟨z, hz, hzt⟩
  rw [e]
  exact ⟨(hmem b (by simp [hb])).1, hlt b (by simp [hb])⟩
theorem nxt_append {t : Int} : ∀ {r q : List E}, 0 ≤ nxt t r → nxt t (r ++ q) = nxt t r
  | [], q, h => by simp [nxt] at h
  | e :: r, q, h => by
    unfold nxt at h
    rw [List.cons_append]
    unfold nxt
    by_cases ht : e.t = t
    · rw [if_pos ht, if_pos ht]
    · rw [if_neg ht] at h
      rw [if_neg ht, if_neg ht]
      exact nxt_append h
/-- an event that begins something is over before the thread begins the next thing -/
theorem over {l : List E} {x : E} {r : List E} (h : WF (l ++ x :: r)) (hx : x.k = 1 ∨ x.k = 3) {k : Int} (hk : k = 1 ∨ k = 3) : ∀ y ∈ ivs k r, x.t = y.t → 0 ≤ nxt x.t r ∧ nxt x.t r < y.a := by
  intro y hy ht
  have key : ∀ q : List E, y ∈ ivs k q → ∃ a e b, q = a ++ e :: b ∧ e.k = k ∧ y.t = e.t ∧ y.a = e.s := by
    intro q
    induction q with
    | nil => intro h; cases h
    | cons e q ih =>
      intro h
      unfold ivs at h
      split at h
      · rename_i hk
        simp at h
        rcases h with rfl | h
        · exact ⟨[], e, q, rfl, hk, rfl, rfl⟩
        · obtain ⟨a, f, b, rfl, h1⟩ := ih h
          exact ⟨e :: a, f, b, rfl, h1⟩
      · obtain ⟨a, f, b, rfl, h1⟩ := ih h
        exact ⟨e :: a, f, b, rfl, h1⟩
  obtain ⟨a, e, b, rfl, h1, h2, h3⟩ := key r hy
  have hw : WF (l ++ x :: (a ++ [e])) := by
    have := WF_take h (l.length + 1 + a.length + 1)
    have e1 : l ++ x :: (a ++ e :: b) = (l ++ x :: (a ++ [e])) ++ b := by simp
    rw [e1, List.take_append_of_le_length (by simp; omega), List.take_of_length_le (by simp; omega)] at this
    exact this
  have := nxt_before a l e hw hx (by omega) (by omega)
  rw [nxt_append this.1, h3]
  exact this
/-- the sections, or the waits, of a thread come one after another -/
theorem ivs_apart {k : Int} (hk : k = 1 ∨ k = 3) : ∀ (r l : List E), WF (l ++ r) → (ivs k r).Pairwise Bef
  | [], l, _ => List.Pairwise.nil
  | e :: r, l, h => by
    have ih := ivs_apart hk r (l ++ [e]) (by simpa using h)
    unfold ivs
    split
    · rename_i hek
      rw [List.pairwise_cons]
      exact ⟨fun y hy ht => over h (by omega) hk y hy ht, ih⟩
    · exact ih
/-- a section and a wait of one thread do not overlap -/
theorem ivs_both : ∀ (r l : List E), WF (l ++ r) → ∀ x ∈ ivs 1 r, ∀ y ∈ ivs 3 r, x.t = y.t → (0 ≤ x.b ∧ x.b < y.a) ∨ (0 ≤ y.b ∧ y.b < x.a)
  | [], l, _ => fun x hx => by cases hx
  | e :: r, l, h => by
    have ih := ivs_both r (l ++ [e]) (by simpa using h)
    intro x hx y hy ht
    unfold ivs at hx hy
    by_cases h1 : e.k = 1
    · rw [if_pos h1] at hx
      rw [if_neg (by omega)] at hy
      simp at hx
      rcases hx with rfl | hx
      · exact .inl (over h (.inl h1) (.inr rfl) y hy ht)
      · exact ih x hx y hy ht
    · rw [if_neg h1] at hx
      by_cases h3 : e.k = 3
      · rw [if_pos h3] at hy
        simp at hy
        rcases hy with rfl | hy
        · exact .inr (over h (.inr h3) (.inl rfl) x hx ht.symm)
        · exact ih x hx y hy ht
      · rw [if_neg h3] at hy
        exact ih x hx y hy ht
/-- an interval does not end before it begins; a section ends later -/
theorem ivs_long {k : Int} (hk : k = 1 ∨ k = 3) : ∀ (r l : List E), WF (l ++ r) → ∀ x ∈ ivs k r, 0 ≤ x.b → x.a ≤ x.b ∧ (k = 1 → x.a < x.b)
  | [], l, _ => fun x hx => by cases hx
  | e :: r, l, h => by
    have ih := ivs_long hk r (l ++ [e]) (by simpa using h)
    intro x hx hb
    unfold ivs at hx
    split at hx
    · rename_i hek
      simp at hx
      rcases hx with rfl | hx
      · simp only at hb ⊢
        -- the next event of the thread
        have key : ∀ q : List E, 0 ≤ nxt e.t q → ∃ a f b, q = a ++ f :: b ∧ f.t = e.t ∧ nxt e.t q = f.s ∧ ∀ z ∈ a, z.t ≠ e.t := by
          intro q
          induction q with
          | nil => intro h; simp [nxt] at h
          | cons g q ih2 =>
            intro h2
            unfold nxt at h2 ⊢
            by_cases hg : g.t = e.t
            · exact ⟨[], g, q, rfl, hg, by rw [if_pos hg], fun z hz => by cases hz⟩
            · rw [if_neg hg] at h2
              obtain ⟨a, f, b, rfl, h3, h4, h5⟩ := ih2 h2
              exact ⟨g :: a, f, b, rfl, h3, by rw [if_neg hg]; exact h4, fun z hz => by
                simp at hz
                rcases hz with rfl | hz
                · exact hg
                · exact h5 z hz⟩
        obtain ⟨a, f, b, rfl, h3, h4, h5⟩ := key r hb
        rw [h4]
        have hw : WF ((l ++ e :: a) ++ [f]) := by
          have := WF_take h (l.length + 1 + a.length + 1)
          have e1 : l ++ e :: (a ++ f :: b) = ((l ++ e :: a) ++ [f]) ++ b := by simp
          rw [e1, List.take_append_of_le_length (by simp; omega), List.take_of_length_le (by simp; omega)] at this
          exact this
        obtain ⟨w1, w2⟩ := WF_snoc.1 hw
        obtain ⟨_, hst, hal⟩ := goodB_parts w2
        have hl : lastE f.t (l ++ e :: a) = (e.k, e.v) := by
          have key : ∀ q : List E, (∀ z ∈ q, z.t ≠ e.t) → lastE f.t (l ++ e :: q) = (e.k, e.v) := by
            refine snoc_ind ?_ ?_
            · intro _
              rw [lastE_snoc, if_pos h3.symm]
            · intro q g ih hq
              have e1 : l ++ e :: (q ++ [g]) = (l ++ e :: q) ++ [g] := by simp
              rw [e1, lastE_snoc, if_neg (fun h => hq g (by simp) (h.trans h3))]
              exact ih fun z hz => hq z (by simp [hz])
          exact key a h5
        cases hq : (l ++ e :: a).getLast? with
        | none => rw [List.getLast?_eq_none_iff] at hq; simp at hq
        | some q =>
          have g1 := WF_last w1 q hq e (by simp)
          have g2 := hst q hq
          have g3 := stepB_le g2
          refine ⟨by omega, fun hk1 => ?_⟩
          by_cases g4 : f.s ≤ q.s
          · have g5 := stepB_eq g2 g4
            -- f is a Done: but the thread is in a section
            rw [hl] at hal
            unfold allowB at hal
            rw [if_neg (by omega), if_neg (by omega), if_neg (by omega)] at hal
            simp at hal
            omega
          · omega
      · exact ih x hx hb
    · exact ih x hx hb
/-- at most one section of a thread is open -/
theorem opn_apart {st : Int} : ∀ {s : List I}, s.Pairwise Bef → (opn st s).Pairwise fun x y => x.t ≠ y.t
  | [], _ => List.Pairwise.nil
  | x :: s, h => by
    have hs := (List.pairwise_cons.1 h).2
    have hx := (List.pairwise_cons.1 h).1
    have ih := opn_apart (st := st) hs
    unfold opn at ih ⊢
    by_cases ho : openB st x = true
    · rw [List.filter_cons_of_pos ho, List.map_cons, List.pairwise_cons]
      refine ⟨fun y hy ht => ?_, ih⟩
      simp only [List.mem_map, List.mem_filter] at hy
      obtain ⟨z, ⟨hz, hzo⟩, rfl⟩ := hy
      have := hx z hz ht
      unfold openB at ho hzo
      simp at ho hzo
      omega
    · rw [List.filter_cons_of_neg ho]; exact ih
/-- the events of a thread -/
theorem ofT_last {t : Int} : ∀ l : List E, lastE t (ofT t l) = lastE t l := by
  refine snoc_ind rfl ?_
  intro l e ih
  unfold ofT at ih ⊢
  rw [List.filter_append, lastE_snoc]
  by_cases h : e.t = t
  · rw [List.filter_cons_of_pos (by simpa using h), List.filter_nil, lastE_snoc, if_pos h, if_pos h]
  · rw [List.filter_cons_of_neg (by simpa using h), List.filter_nil, List.append_nil, if_neg h, ih]
theorem ofT_snoc (t : Int) (l : List E) (e : E) : ofT t (l ++ [e]) = if e.t = t then ofT t l ++ [e] else ofT t l := by
  unfold ofT
  rw [List.filter_append]
  by_cases h : e.t = t
  · rw [if_pos h, List.filter_cons_of_pos (by simpa using h), List.filter_nil]
  · rw [if_neg h, List.filter_cons_of_neg (by simpa using h), List.filter_nil, List.append_nil]
theorem WF_ofT {t : Int} : ∀ l : List E, WF l → WF (ofT t l) := by
  refine snoc_ind (fun h => h) ?_
  intro l e ih h
  obtain ⟨h1, h2⟩ := WF_snoc.1 h
  rw [ofT_snoc]
  by_cases ht : e.t = t
  · rw [if_pos ht]
    refine WF_snoc.2 ⟨ih h1, ?_⟩
    have hr : rangeB e = true := by
      unfold goodB at h2
      simp only [Bool.and_eq_true] at h2
      exact h2.1
    obtain ⟨_, h3, h4⟩ := goodB_parts h2
    refine goodB_of hr (fun p hp => ?_) (by subst ht; rw [ofT_last]; exact h4)
    have hpm : p ∈ ofT t l := List.mem_of_getLast? hp
    have hpl : p ∈ l ∧ p.t = t := by
      unfold ofT at hpm
      simpa using hpm
    cases hq : l.getLast? with
    | none => rw [List.getLast?_eq_none_iff] at hq; subst hq; cases hpl.1
    | some q =>
      have g1 := WF_last h1 q hq p hpl.1
      have g2 := h3 q hq
      by_cases g3 : e.s ≤ q.s
      · have g4 := stepB_eq g2 g3
        -- q is of this thread, so it is p
        obtain ⟨l', hl'⟩ : ∃ l', l = l' ++ [q] := by
          rw [List.getLast?_eq_some_iff] at hq
          exact hq
        have : ofT t l = ofT t l' ++ [q] := by rw [hl', ofT_snoc, if_pos (by omega)]
        rw [this, last_snoc] at hp
        injection hp with hp
        rw [← hp]; exact g2
      · simp [stepB]; omega
  · rw [if_neg ht]; exact ih h1
/-- how many events the threads below n have -/
def sumT (l : List E) : Nat → Nat
  | 0 => 0
  | n + 1 => sumT l n + (ofT n l).length
theorem sumT_eq (l : List E) : ∀ n : Nat, sumT l n = (l.filter fun e => decide (0 ≤ e.t ∧ e.t < (n : Int))).length
  | 0 => by
    have : (l.filter fun e => decide (0 ≤ e.t ∧ e.t < ((0 : Nat) : Int))) = [] := by
      rw [List.filter_eq_nil_iff]
      intro e _
      simp
    rw [this]; rfl
  | n + 1 => by
    rw [sumT, sumT_eq l n]
    unfold ofT
    rw [← List.countP_eq_length_filter, ← List.countP_eq_length_filter, ← List.countP_eq_length_filter]
    induction l with
    | nil => rfl
    | cons e l ih =>
      rw [List.countP_cons, List.countP_cons, List.countP_cons]
      have : (if decide (0 ≤ e.t ∧ e.t < ((n + 1 : Nat) : Int)) = true then 1 else 0) = (if decide (0 ≤ e.t ∧ e.t < (n : Int)) = true then 1 else 0) + (if decide (e.t = (n : Int)) = true then 1 else 0) := by
        simp only [decide_eq_true_eq]
        by_cases h1 : e.t = n
        · rw [if_pos (by omega), if_neg (by omega), if_pos h1]
        · by_cases h2 : 0 ≤ e.t ∧ e.t < (n : Int)
          · rw [if_pos (by omega), if_pos h2, if_neg h1]
          · rw [if_neg (by omega), if_neg h2, if_neg h1]
      omega
theorem sumT_le (l : List E) (n : Nat) : sumT l n ≤ l.length := by
  rw [sumT_eq]; exact List.length_filter_le _ _
theorem sumT_all {l : List E} (h : WF l) : sumT l 64 = l.length := by
  rw [sumT_eq, List.filter_eq_self.2]
  intro e he
  have := WF_mem h e he
  simp; omega
/-- the state of a thread, as the code keeps it -/
def stE (p : Int × Int) : Int × Int := if p.1 = 1 ∨ p.1 = 3 then p else (0, 0)
theorem stE_after {i : Int × Int} {e : E} (h : allowB i e = true) (hk : 1 ≤ e.k ∧ e.k ≤ 4) : stE (e.k, e.v) = if (stE i).1 = 0 then (e.k, e.v) else (0, 0) := by
  have hy : ∀ p : Int × Int, p.1 = 1 ∨ p.1 = 3 → stE p = p := fun p hp => by unfold stE; rw [if_pos hp]
  have hn : ∀ p : Int × Int, ¬ (p.1 = 1 ∨ p.1 = 3) → stE p = (0, 0) := fun p hp => by unfold stE; rw [if_neg hp]
  unfold allowB at h
  split at h
  · simp at h
    rw [hy _ (by simp; omega), hn i (by omega)]; rfl
  · split at h
    · simp at h
      rw [hn _ (by simp; omega), hy i (by omega), if_neg (by omega)]
    · split at h
      · simp at h
        rw [hy _ (by simp; omega), hn i (by omega)]; rfl
      · simp at h
        rw [hn _ (by simp; omega), hy i (by omega), if_neg (by omega)]
end Ev
end Go.Proofs.Ytbnchajkfceaoaa
