/- A merge of candidates of 64 lists, and its calls, as plain mathematics (layer 7). No program. -/
import Derived.Test.YtbndgbjenmknmaaDoorOmM
namespace Go.Proofs.YtbndgbjenmknmaaDoor
set_option linter.unusedVariables false
set_option linter.unusedSimpArgs false
namespace Mg
open Om (Pr Asc getL setL setA asc_ext)
/-- which lists there are, which have a candidate, which have ended; the candidates; the floor; whether it is full -/
structure Mg where
  ls : Nat → Bool
  hs : Nat → Bool
  en : Nat → Bool
  p : Nat → Pr
  fl : Int
  fu : Bool
def Mg.new (s : Nat → Bool) : Mg := ⟨s, fun _ => false, fun _ => false, fun _ => (0, 0), 0, false⟩
def Mg.lacks (M : Mg) (v : Nat) : Bool := M.ls v && !M.hs v && !M.en v
def Mg.miss (M : Mg) : List Nat := (List.range 64).filter M.lacks
/-- the error of a call that names a list -/
def Mg.err (M : Mg) (l : Int) : Int := if l < 0 ∨ 64 ≤ l ∨ M.ls l.toNat = false then 3 else if M.hs l.toNat = true ∨ M.en l.toNat = true then 8 else 0
def Mg.has (M : Mg) (k : Int) : Prop := ∃ v, v < 64 ∧ M.hs v = true ∧ (M.p v).1 = k
open Classical in
noncomputable def Mg.offE (M : Mg) (l : Int) (x : Pr) : Int := if M.err l ≠ 0 then M.err l else if M.fu = true ∨ x.1 < M.fl then 2 else if M.has x.1 then 9 else 0
def Mg.put (M : Mg) (v : Nat) (x : Pr) : Mg := { M with hs := fun u => if u = v then true else M.hs u, p := fun u => if u = v then x else M.p u }
def Mg.drop (M : Mg) (v : Nat) : Mg := { M with hs := fun u => if u = v then false else M.hs u }
def Mg.done (M : Mg) (v : Nat) : Mg := { M with en := fun u => if u = v then true else M.en u }
/-- v is the list of the least candidate -/
def Mg.least (M : Mg) (v : Nat) : Prop := v < 64 ∧ M.hs v = true ∧ ∀ u, u < 64 → M.hs u = true → (M.p v).1 ≤ (M.p u).1
def Mg.popped (M : Mg) (v : Nat) : Mg := if (M.p v).1 = 18446744073709551615 then { M.drop v with fu := true } else { M.drop v with fl := (M.p v).1 + 1 }
def Mg.skipped (M : Mg) (k : Int) : Mg := { M with fl := if M.fl < k then k else M.fl, hs := fun u => if M.hs u = true ∧ (M.p u).1 < k then false else M.hs u }
def Mg.skipN (M : Mg) (k : Int) : Nat := ((List.range 64).filter fun v => M.hs v && decide ((M.p v).1 < k)).length
/-- the candidates, in ascending order -/
def Mg.cands (M : Mg) : List Pr := ((List.range 64).filter M.hs).map M.p
def Mg.list (M : Mg) : List Pr := setA [] M.cands
/-- what the calls keep -/
structure Mg.Inv (M : Mg) : Prop where
  hl : ∀ v, v < 64 → M.hs v = true → M.ls v = true ∧ M.en v = false
  el : ∀ v, v < 64 → M.en v = true → M.ls v = true
  ne : ∀ u v, u < 64 → v < 64 → M.hs u = true → M.hs v = true → (M.p u).1 = (M.p v).1 → u = v
  fl : ∀ v, v < 64 → M.hs v = true → M.fl ≤ (M.p v).1
theorem inv_new (s : Nat → Bool) : (Mg.new s).Inv := ⟨fun v _ h => (by cases h), fun v _ h => (by cases h), fun u v _ _ h => (by cases h), fun v _ h => (by cases h)⟩
theorem inv_put {M : Mg} (h : M.Inv) {l : Int} {x : Pr} (he : M.offE l x = 0) : (M.put l.toNat x).Inv ∧ 0 ≤ l ∧ l < 64 ∧ M.ls l.toNat = true ∧ M.hs l.toNat = false ∧ M.en l.toNat = false := by
  unfold Mg.offE at he
  by_cases h1 : M.err l ≠ 0
  · rw [if_pos h1] at he; exact absurd he h1
  · rw [if_neg h1] at he
    have h1 : M.err l = 0 := Classical.byContradiction h1
    unfold Mg.err at h1
    split at h1
    · cases h1
    · rename_i hr
      split at h1
      · cases h1
      · rename_i hs
        split at he
        · cases he
        · rename_i hf
          split at he
          · cases he
          · rename_i hk
            have l0 : 0 ≤ l := by omega
            have l1 : l < 64 := by omega
            have e1 : M.ls l.toNat = true := by cases e : M.ls l.toNat; exact absurd (.inr (.inr e)) hr; rfl
            have e2 : M.hs l.toNat = false := by cases e : M.hs l.toNat; rfl; exact absurd (.inl e) hs
            have e3 : M.en l.toNat = false := by cases e : M.en l.toNat; rfl; exact absurd (.inr e) hs
            refine ⟨⟨fun v hv hh => ?_, h.el, fun u v hu hv h2 h3 e => ?_, fun v hv hh => ?_⟩, l0, l1, e1, e2, e3⟩
            · by_cases e : v = l.toNat
              · subst e; exact ⟨e1, e3⟩
              · simp only [Mg.put, if_neg e] at hh; exact h.hl v hv hh
            · simp only [Mg.put] at h2 h3 e
              by_cases e4 : u = l.toNat
              · by_cases e5 : v = l.toNat
                · rw [e4, e5]
                · rw [if_neg e5] at h3
                  rw [if_pos e4, if_neg e5] at e
                  exact absurd ⟨v, hv, h3, e.symm⟩ hk
              · by_cases e5 : v = l.toNat
                · rw [if_neg e4] at h2
                  rw [if_neg e4, if_pos e5] at e
                  exact absurd ⟨u, hu, h2, e⟩ hk
                · rw [if_neg e4] at h2; rw [if_neg e5] at h3; rw [if_neg e4, if_neg e5] at e
                  exact h.ne u v hu hv h2 h3 e
            · simp only [Mg.put] at hh ⊢
              by_cases e : v = l.toNat
              · rw [if_pos e]; omega
              · rw [if_neg e] at hh ⊢; exact h.fl v hv hh
theorem inv_done {M : Mg} (h : M.Inv) {l : Int} (he : M.err l = 0) : (M.done l.toNat).Inv ∧ 0 ≤ l ∧ l < 64 := by
  unfold Mg.err at he
  split at he
  · cases he
  · rename_i hr
    split at he
    · cases he
    · rename_i hs
      have e1 : M.ls l.toNat = true := by cases e : M.ls l.toNat; exact absurd (.inr (.inr e)) hr; rfl
      have e2 : M.hs l.toNat = false := by cases e : M.hs l.toNat; rfl; exact absurd (.inl e) hs
      refine ⟨⟨fun v hv hh => ?_, fun v hv hh => ?_, h.ne, h.fl⟩, by omega, by omega⟩
      · have h1 := h.hl v hv hh
        refine ⟨h1.1, ?_⟩
        show (if v = l.toNat then true else M.en v) = false
        have : v ≠ l.toNat := fun e => by subst e; have h2 : M.hs l.toNat = true := hh; rw [e2] at h2; cases h2
        rw [if_neg this]; exact h1.2
      · by_cases e : v = l.toNat
        · subst e; exact e1
        · simp only [Mg.done, if_neg e] at hh; exact h.el v hv hh
theorem inv_popped {M : Mg} (h : M.Inv) {v : Nat} (hv : M.least v) : (M.popped v).Inv := by
  have base : ∀ u, u < 64 → (M.drop v).hs u = true → u ≠ v ∧ M.hs u = true := fun u hu hh => by
    by_cases e : u = v
    · subst e; simp [Mg.drop] at hh
    · simp only [Mg.drop, if_neg e] at hh; exact ⟨e, hh⟩
  unfold Mg.popped
  split
  · refine ⟨fun u hu hh => ?_, h.el, fun u w hu hw h1 h2 e => ?_, fun u hu hh => ?_⟩
    · exact h.hl u hu (base u hu hh).2
    · exact h.ne u w hu hw (base u hu h1).2 (base w hw h2).2 e
    · exact h.fl u hu (base u hu hh).2
  · refine ⟨fun u hu hh => ?_, h.el, fun u w hu hw h1 h2 e => ?_, fun u hu hh => ?_⟩
    · exact h.hl u hu (base u hu hh).2
    · exact h.ne u w hu hw (base u hu h1).2 (base w hw h2).2 e
    · obtain ⟨b1, b2⟩ := base u hu hh
      have h1 := hv.2.2 u hu b2
      have h2 : (M.p u).1 ≠ (M.p v).1 := fun e => b1 (h.ne u v hu hv.1 b2 hv.2.1 e)
      show (M.p v).1 + 1 ≤ (M.p u).1
      omega
theorem inv_skipped {M : Mg} (h : M.Inv) (k : Int) : (M.skipped k).Inv := by
  have base : ∀ u, (M.skipped k).hs u = true → M.hs u = true ∧ k ≤ (M.p u).1 := fun u hh => by
    simp only [Mg.skipped] at hh
    split at hh
    · cases hh
    · rename_i hc
      exact ⟨hh, Int.not_lt.1 fun hlt => hc ⟨hh, hlt⟩⟩
  refine ⟨fun u hu hh => ?_, h.el, fun u w hu hw h1 h2 e => ?_, fun u hu hh => ?_⟩
  · exact h.hl u hu (base u hh).1
  · exact h.ne u w hu hw (base u h1).1 (base w h2).1 e
  · obtain ⟨b1, b2⟩ := base u hh
    have := h.fl u hu b1
    show (if M.fl < k then k else M.fl) ≤ (M.p u).1
    split <;> omega
/-! ### the candidates in order -/
theorem list_asc (M : Mg) : Asc M.list := Om.setA_asc _ Om.Asc.nil
theorem cands_mem {M : Mg} {x : Pr} : x ∈ M.cands ↔ ∃ v, v < 64 ∧ M.hs v = true ∧ M.p v = x := by
  unfold Mg.cands
  rw [List.mem_map]
  constructor
  · rintro ⟨v, hv, rfl⟩
    rw [List.mem_filter, List.mem_range] at hv
    exact ⟨v, hv.1, hv.2, rfl⟩
  · rintro ⟨v, h1, h2, rfl⟩
    exact ⟨v, List.mem_filter.2 ⟨List.mem_range.2 h1, h2⟩, rfl⟩
theorem setA_keep : ∀ (ps l : List Pr) (x : Pr), x ∈ l → (∀ y, y ∈ ps → y.1 ≠ x.1) → x ∈ setA l ps
  | [], l, x, h, _ => h
  | y :: ps, l, x, h, hk => setA_keep ps (setL l y) x ((Om.mem_setL l y x).2 (.inr ⟨h, fun e => hk y (List.mem_cons_self ..) e.symm⟩)) fun z hz => hk z (List.mem_cons_of_mem _ hz)
theorem setA_all : ∀ (ps l : List Pr) (x : Pr), x ∈ ps → (∀ y z, y ∈ ps → z ∈ ps → y.1 = z.1 → y = z) → x ∈ setA l ps
  | [], l, x, h, _ => by cases h
  | y :: ps, l, x, h, hk => by
    by_cases e : x ∈ ps
    · exact setA_all ps (setL l y) x e fun a b ha hb => hk a b (List.mem_cons_of_mem _ ha) (List.mem_cons_of_mem _ hb)
    · rcases List.mem_cons.1 h with rfl | h
      · refine setA_keep ps _ x ((Om.mem_setL l x x).2 (.inl rfl)) fun z hz hk2 => e ?_
        rw [← hk z x (List.mem_cons_of_mem _ hz) (List.mem_cons_self ..) hk2]; exact hz
      · exact absurd h e
theorem list_mem {M : Mg} (h : M.Inv) {x : Pr} : x ∈ M.list ↔ ∃ v, v < 64 ∧ M.hs v = true ∧ M.p v = x := by
  rw [← cands_mem]
  constructor
  · intro hx
    rcases Om.mem_setA _ _ _ hx with h1 | h1
    · cases h1
    · exact h1
  · intro hx
    refine setA_all _ _ x hx fun y z hy hz e => ?_
    obtain ⟨u, hu, h1, rfl⟩ := cands_mem.1 hy
    obtain ⟨v, hv, h2, rfl⟩ := cands_mem.1 hz
    rw [h.ne u v hu hv h1 h2 e]
/-- the least one is the first, and what is left are the others -/
theorem list_drop {M : Mg} (h : M.Inv) {v : Nat} (hv : M.least v) (hi : (M.drop v).Inv) : M.list = M.p v :: (M.drop v).list := by
  have hm : ∀ x, x ∈ (M.drop v).list ↔ ∃ u, u < 64 ∧ u ≠ v ∧ M.hs u = true ∧ M.p u = x := fun x => by
    rw [list_mem hi]
    constructor
    · rintro ⟨u, hu, h1, h2⟩
      by_cases e : u = v
      · subst e; simp [Mg.drop] at h1
      · simp only [Mg.drop, if_neg e] at h1; exact ⟨u, hu, e, h1, h2⟩
    · rintro ⟨u, hu, e, h1, h2⟩
      exact ⟨u, hu, by simp only [Mg.drop, if_neg e]; exact h1, h2⟩
  refine asc_ext (list_asc M) (List.pairwise_cons.2 ⟨fun y hy => ?_, list_asc _⟩) fun x => ?_
  · obtain ⟨u, hu, e, h1, rfl⟩ := (hm y).1 hy
    have h2 := hv.2.2 u hu h1
    have h3 : (M.p u).1 ≠ (M.p v).1 := fun q => e (h.ne u v hu hv.1 h1 hv.2.1 q)
    omega
  · rw [list_mem h, List.mem_cons, hm]
    constructor
    · rintro ⟨u, hu, h1, rfl⟩
      by_cases e : u = v
      · subst e; exact .inl rfl
      · exact .inr ⟨u, hu, e, h1, rfl⟩
    · rintro (rfl | ⟨u, hu, e, h1, rfl⟩)
      · exact ⟨v, hv.1, hv.2.1, rfl⟩
      · exact ⟨u, hu, h1, rfl⟩
theorem inv_drop {M : Mg} (h : M.Inv) (v : Nat) : (M.drop v).Inv := by
  have base : ∀ u, (M.drop v).hs u = true → M.hs u = true := fun u hh => by
    by_cases e : u = v
    · subst e; simp [Mg.drop] at hh
    · simp only [Mg.drop, if_neg e] at hh; exact hh
  exact ⟨fun u hu hh => h.hl u hu (base u hh), h.el, fun u w hu hw h1 h2 e => h.ne u w hu hw (base u h1) (base w h2) e, fun u hu hh => h.fl u hu (base u hh)⟩
theorem list_none {M : Mg} (h : M.Inv) (hn : ∀ v, v < 64 → M.hs v = false) : M.list = [] := by
  cases e : M.list with
  | nil => rfl
  | cons x t =>
    have : x ∈ M.list := by rw [e]; exact List.mem_cons_self ..
    obtain ⟨v, hv, h1, _⟩ := (list_mem h).1 this
    rw [hn v hv] at h1; cases h1
/-- either there is no candidate, or one is the least -/
theorem least_ex (M : Mg) : (∀ v, v < 64 → M.hs v = false) ∨ ∃ v, M.least v := by
  have key : ∀ n, n ≤ 64 → (∀ v, v < n → M.hs v = false) ∨ ∃ v, v < n ∧ M.hs v = true ∧ ∀ u, u < n → M.hs u = true → (M.p v).1 ≤ (M.p u).1 := by
    intro n
    induction n with
    | zero => intro _; exact .inl fun v hv => absurd hv (Nat.not_lt_zero _)
    | succ n ih =>
      intro hn
      rcases ih (by omega) with h | ⟨v, h1, h2, h3⟩
      · by_cases e : M.hs n = true
        · refine .inr ⟨n, by omega, e, fun u hu hh => ?_⟩
          by_cases q : u = n
          · subst q; exact Int.le_refl _
          · rw [h u (by omega)] at hh; cases hh
        · refine .inl fun v hv => ?_
          by_cases q : v = n
          · subst q; simpa using e
          · exact h v (by omega)
      · by_cases e : M.hs n = true ∧ (M.p n).1 < (M.p v).1
        · refine .inr ⟨n, by omega, e.1, fun u hu hh => ?_⟩
          by_cases q : u = n
          · subst q; exact Int.le_refl _
          · have := h3 u (by omega) hh; omega
        · refine .inr ⟨v, by omega, h2, fun u hu hh => ?_⟩
          by_cases q : u = n
          · subst q; exact Int.not_lt.1 fun hlt => e ⟨hh, hlt⟩
          · exact h3 u (by omega) hh
  exact key 64 (Nat.le_refl _)
end Mg
end Go.Proofs.YtbndgbjenmknmaaDoor
