/- The examples of the chapter, reckoned. No program beside the forms of literal lists in memory. -/
import Derived.Test.YtbdllakbkienoaaPlX
namespace Go.Proofs.Ytbdllakbkienoaa
open Go.RowKit Go.Sort
set_option linter.unusedVariables false
set_option linter.unusedSimpArgs false
namespace Pl
open Om (addr_lit bel_alloc bel_trans below_drewN ret_eq Asc)
theorem lit_c (w : World) (l : List Rc) (xs : Array Value) (h : xs = (flat l).toArray) : Rd (w.alloc (.cells xs 45)) (some ⟨w.heap.size, 0, none⟩) l := fun k x hx => by
  subst h
  have g : ∀ j, j < 5 → (w.alloc (.cells (flat l).toArray 45)).cell? ⟨w.heap.size, 0 + k * 5 + j, none⟩ = (encV x)[j]? := fun j hj => by
    rw [Nat.zero_add, World.cell?_alloc_new, ← flat_get l k x hx j hj]; simp
  exact ⟨_, 0, rfl, g 0 (by omega), g 1 (by omega), g 2 (by omega), g 3 (by omega), g 4 (by omega)⟩
theorem lit_p (w : World) (l : List Om.Pr) (xs : Array Value) (h : xs = (Om.flat l).toArray) : Om.Rd (w.alloc (.cells xs 43)) (some ⟨w.heap.size, 0, none⟩) l := fun k x hx => by
  subst h
  have g := Om.flat_get l k x hx
  refine ⟨_, 0, rfl, ?_, ?_⟩
  · rw [Nat.zero_add, World.cell?_alloc_new, ← g.1]; simp
  · rw [Nat.zero_add, World.cell?_alloc_new, ← g.2]; simp
def pA : List Om.Pr := [(1, 10), (2, 20), (3, 30)]
def pB : List Om.Pr := [(1, 11), (2, 20), (3, 30)]
def pC : List Om.Pr := [(2, 10), (3, 20)]
def pD : List Om.Pr := [(1, 10), (7, 70)]
def pE : List Om.Pr := [(1, 10), (2, 20), (9, 90)]
def pF : List Om.Pr := [(2, 0), (1, 0)]
def L1 : List Cg := [⟨1, some 10, none⟩, ⟨2, some 20, some 10⟩, ⟨3, some 30, some 20⟩]
def r1 : List Rc := [⟨1, true, 10, false, 0⟩, ⟨2, true, 20, true, 10⟩, ⟨3, true, 30, true, 20⟩]
def r2 : List Rc := [⟨1, false, 0, true, 10⟩, ⟨2, true, 10, true, 20⟩, ⟨3, true, 20, true, 30⟩]
def L3 : List Cg := [⟨1, some 10, none⟩, ⟨3, none, some 10⟩]
def r3 : List Rc := [⟨1, true, 10, false, 0⟩, ⟨3, false, 0, true, 10⟩]
def r4 : List Rc := [⟨2, true, 20, false, 0⟩, ⟨9, true, 90, false, 0⟩]
def L5 : List Cg := [⟨3, some 10, none⟩]
def r5 : List Rc := [⟨3, true, 10, false, 0⟩]
def r6 : List Rc := [⟨1, true, 10, false, 0⟩]
def L7 : List Cg := [⟨1, some 10, some 11⟩]
def r7 : List Rc := [⟨1, true, 10, true, 11⟩]
def L8 : List Cg := [⟨1, some 10, some 12⟩]
def r8 : List Rc := [⟨1, true, 10, true, 12⟩]
def L9 : List Cg := [⟨1, none, some 5⟩]
def r9 : List Rc := [⟨1, false, 0, true, 5⟩]
def L10 : List Cg := [⟨1, some 5, none⟩]
def r10 : List Rc := [⟨1, true, 5, false, 0⟩]
theorem aA : Asc pA := by simp [Asc, pA]
theorem aB : Asc pB := by simp [Asc, pB]
theorem aD : Asc pD := by simp [Asc, pD]
theorem aE : Asc pE := by simp [Asc, pE]
theorem bA : Om.Bd pA := by unfold Om.Bd; decide
theorem bD : Om.Bd pD := by unfold Om.Bd; decide
theorem bE : Om.Bd pE := by unfold Om.Bd; decide
theorem bF : Om.Bd pF := by unfold Om.Bd; decide
theorem mv_ok {p : List Om.Pr} {lo hi d : Int} {r : List Rc} (ha : Asc p) (h0 : d ≠ 0) (hs : shE lo hi d = 0) (hr : (mvP p lo hi d).map rawC = r) : mvE p lo hi d = 0 ∧ mvR p lo hi d = r := by
  have h : mvE p lo hi d = 0 := by rw [mvE_sh ha h0]; exact hs
  exact ⟨h, by rw [mvR_yes h, hr]⟩
theorem x1 : mvE pA 1 2 1 = 0 ∧ mvR pA 1 2 1 = r1 := mv_ok aA (by decide) (by decide) (by decide +kernel)
theorem chk_raws {L : List Cg} {r : List Rc} (e : L.map rawC = r) (ha : AscC L) (hr : Real L) : chk r ∧ r.map canon = L := by
  subst e
  exact ⟨raw_chk ha hr, canon_raws L⟩
theorem k1 : chk r1 ∧ r1.map canon = L1 := chk_raws rfl (by simp [AscC, L1]) (by simp [Real, L1])
theorem k3 : chk r3 ∧ r3.map canon = L3 := chk_raws rfl (by simp [AscC, L3]) (by simp [Real, L3])
theorem k5 : chk r5 ∧ r5.map canon = L5 := chk_raws rfl (by simp [AscC, L5]) (by simp [Real, L5])
theorem k7 : chk r7 ∧ r7.map canon = L7 := chk_raws rfl (by simp [AscC, L7]) (by simp [Real, L7])
theorem k8 : chk r8 ∧ r8.map canon = L8 := chk_raws rfl (by simp [AscC, L8]) (by simp [Real, L8])
theorem k9 : chk r9 ∧ r9.map canon = L9 := chk_raws rfl (by simp [AscC, L9]) (by simp [Real, L9])
theorem k10 : chk r10 ∧ r10.map canon = L10 := chk_raws rfl (by simp [AscC, L10]) (by simp [Real, L10])
theorem x2 : apE pA r1 = 0 ∧ apR pA r1 = pC := by
  have h : apE pA r1 = 0 := apE_ok aA k1.1 (by rw [k1.2]; unfold fits; decide +kernel)
  exact ⟨h, by rw [apR_yes h, k1.2]; decide +kernel⟩
theorem x3 : apE pB r1 = 8 ∧ apR pB r1 = [] := by
  have h : apE pB r1 = 8 := apE_st aB k1.1 (by rw [k1.2]; unfold fits; decide +kernel)
  exact ⟨h, apR_no h (by decide)⟩
theorem x4 : ckE r1 = 0 ∧ ivR r1 = r2 := ⟨ckE_yes k1.1, by rw [ivR_yes k1.1]; decide +kernel⟩
theorem x5 : nT true r1 = .tuple #[.int .i64 0, .int .i64 1, .int .i64 2, .int .i64 0] := by
  have e1 : cnt isB r1 = 0 := by decide +kernel
  have e2 : cnt isG r1 = 1 := by decide +kernel
  have e3 : cnt isS r1 = 2 := by decide +kernel
  unfold nT
  rw [if_pos rfl, e1, e2, e3]; rfl
theorem x6 : mvE pD 1 1 2 = 0 ∧ mvR pD 1 1 2 = r3 := mv_ok aD (by decide) (by decide) (by decide +kernel)
theorem x7 : mvE pA 5 6 1 = 0 ∧ mvR pA 5 6 1 = [] := mv_ok aA (by decide) (by decide) (by decide +kernel)
theorem x8 : deE pE 2 9 = 0 ∧ deR pE 2 9 = r4 := by
  have h : deE pE 2 9 = 0 := by rw [deE_rg aE]; rfl
  exact ⟨h, by rw [deR_yes h]; decide +kernel⟩
theorem x9 : mvE pA 1 1 0 = 13 ∧ mvR pA 1 1 0 = [] := by
  have h := mvE_zero (p := pA) (lo := 1) (hi := 1) aA (rfl : (0 : Int) = 0)
  exact ⟨h, mvR_no h (by decide)⟩
theorem x10 : mvE pF 2 1 1 = 2 ∧ mvR pF 2 1 1 = [] := by
  have h := mvE_asc (p := pF) (lo := 2) (hi := 1) (d := 1) (by simp [Asc, pF])
  exact ⟨h, mvR_no h (by decide)⟩
theorem x11 : mvE pA 1 9 18446744073709551607 = 12 ∧ mvR pA 1 9 18446744073709551607 = [] := by
  have h : mvE pA 1 9 18446744073709551607 = 12 := by rw [mvE_sh aA (by decide)]; decide
  exact ⟨h, mvR_no h (by decide)⟩
theorem th_ok {a b : List Rc} {A B : List Cg} {r : List Rc} (ka : chk a ∧ a.map canon = A) (kb : chk b ∧ b.map canon = B) (h : (thW A B).isSome = true) (hr : (thL A B).map rawC = r) : thE a b = 0 ∧ thR a b = r := by
  have ho : okT (a.map canon) (b.map canon) := thW_some _ _ (chk_asc ka.1) (chk_asc kb.1) (by rw [ka.2, kb.2]; exact h)
  have h0 := thE_ok ka.1 kb.1 ho
  exact ⟨h0, by rw [thR_yes h0, ka.2, kb.2, hr]⟩
theorem x12 : thE r3 r5 = 0 ∧ thR r3 r5 = r6 := th_ok k3 k5 (by decide +kernel) (by decide +kernel)
theorem x13 : thE r7 r8 = 8 ∧ thR r7 r8 = [] := by
  have h : thE r7 r8 = 8 := thE_st k7.1 k8.1 (by
    rw [k7.2, k8.2]
    intro h
    have := h 1 ⟨1, some 10, some 11⟩ ⟨1, some 10, some 12⟩ (by decide +kernel) (by decide +kernel)
    exact absurd this (by decide))
  exact ⟨h, thR_no h (by decide)⟩
theorem x14 : thE r9 r10 = 0 ∧ thR r9 r10 = [] := th_ok k9 k10 (by decide +kernel) (by decide +kernel)
theorem x15 : ckE [⟨1, false, 0, false, 0⟩] = 2 := ckE_no fun h => by have := h.1 _ (List.mem_cons_self ..); simp [okR] at this
theorem x16 : ckE [⟨2, true, 1, false, 0⟩, ⟨2, false, 0, true, 1⟩] = 2 := ckE_no fun h => by have := h.2 0 _ _ rfl rfl; simp at this
theorem x17 : ckE [⟨2, false, 1, true, 0⟩] = 2 := ckE_no fun h => by have := h.1 _ (List.mem_cons_self ..); simp [okR] at this
theorem x18 : ckE [] = 0 := ckE_yes ⟨fun x hx => (by cases hx), fun j x y hx => by simp at hx⟩
end Pl
end Go.Proofs.Ytbdllakbkienoaa
