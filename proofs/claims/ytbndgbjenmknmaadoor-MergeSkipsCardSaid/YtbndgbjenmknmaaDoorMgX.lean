/- The calls of a merge with their answers reckoned; literal lists of ints. No conditions. -/
import Derived.Test.YtbndgbjenmknmaaDoorQmX
import Derived.Test.YtbndgbjenmknmaaDoorTzL
namespace Go.Proofs.YtbndgbjenmknmaaDoor
open Go.RowKit Go.Sort
set_option linter.unusedVariables false
set_option linter.unusedSimpArgs false
namespace Hq
open Om (bel_alloc below_drewN flat Pr bel_trans)
open Dm (RdK flatI row_rd)
open Mg (popT)
theorem Kx.trans {X : Nat → Prop} {u v w : World} (h : Kx X u v) (k : Kx X v w) : Kx X u w :=
  ⟨k.os.trans h.os, k.tape.trans h.tape, k.output.trans h.output, Nat.le_trans h.size k.size, fun i hi => (k.block i hi).trans (h.block i hi)⟩
theorem Kx.cell {X : Nat → Prop} {w w' : World} (h : Kx X w w') {r o : Nat} {v : Value} (hr : X r) (hc : w.cell? ⟨r, o, none⟩ = some v) : w'.cell? ⟨r, o, none⟩ = some v := (World.cell?_of_block (a := ⟨r, o, none⟩) (h.block r hr)).trans hc
theorem Kx.frozen {X : Nat → Prop} {w w' : World} (h : Kx X w w') {r o : Nat} {v : Bool} (hr : X r) (hc : w.frozen? ⟨r, o, none⟩ = v) : w'.frozen? ⟨r, o, none⟩ = v := (World.frozen?_of_block (a := ⟨r, o, none⟩) (h.block r hr)).trans hc
theorem bel_set {V w : World} (h : Below V.heap.size V w) {b : Nat} (hb : V.heap.size ≤ b) (o : Nat) (v : Value) : Below V.heap.size V (w.setCell ⟨b, o, none⟩ v) :=
  ⟨h.os, h.tape, h.output, Nat.le_trans h.size (Nat.le_of_eq (by simp)), fun k hk => (Below.heap_setCell w ⟨b, o, none⟩ v k (by show k ≠ b; omega)).trans (h.block k hk)⟩
def offC (M : Mg.Mg) (l : Int) (x : Pr) : Int := if M.err l ≠ 0 then M.err l else if M.fu = true ∨ x.1 < M.fl then 2 else if (List.range 64).any (fun v => M.hs v && (M.p v).1 == x.1) then 9 else 0
theorem offE_c (M : Mg.Mg) (l : Int) (x : Pr) : M.offE l x = offC M l x := by
  unfold Mg.Mg.offE offC
  have hh : M.has x.1 ↔ (List.range 64).any (fun v => M.hs v && (M.p v).1 == x.1) = true := by
    simp [Mg.Mg.has, List.any_eq_true]
  by_cases h : M.has x.1
  · have h2 := hh.1 h
    simp only [h, h2, if_true]
  · have h2 : ¬ (List.range 64).any (fun v => M.hs v && (M.p v).1 == x.1) = true := fun h3 => h (hh.2 h3)
    have h3 := Bool.eq_false_iff.2 h2
    simp only [h, h3, if_false, Bool.false_eq_true]
theorem offerE {X : Nat → Prop} {V w : World} {b : Nat} {M : Mg.Mg} (h0 : Sm X V b M) (hv : Below V.heap.size V w) (l : Int) (x : Pr) (e0 : Int) (N : Mg.Mg) (ho : M.offE l x = e0) (hN : M.after e0 (M.put l.toNat x) = N) (l0 : (-9223372036854775808) ≤ l) (l1 : l ≤ 9223372036854775807) (x0 : 0 ≤ x.1) (x1 : x.1 ≤ 18446744073709551615) :
    Calls Tryd.prog 19 #[.pointer (some ⟨b, 0, none⟩), .int .i64 l, .agg #[.int .u64 x.1, .int .u64 x.2]] w fun e w' => e = .returned (.int .i64 e0) ∧ Sm X w' b N ∧ Kx X V w' :=
  (offerS (h0.below hv) l x l0 l1 x0 x1).mono fun e w' ⟨he, hs, hk⟩ => by
    rw [ho] at he hs
    rw [hN] at hs
    exact ⟨he, hs, (kx_of hv h0.lt).trans hk⟩
theorem endE {X : Nat → Prop} {V w : World} {b : Nat} {M : Mg.Mg} (h0 : Sm X V b M) (hv : Below V.heap.size V w) (l : Int) (e0 : Int) (N : Mg.Mg) (ho : M.err l = e0) (hN : M.after e0 (M.done l.toNat) = N) (l0 : (-9223372036854775808) ≤ l) (l1 : l ≤ 9223372036854775807) :
    Calls Tryd.prog 20 #[.pointer (some ⟨b, 0, none⟩), .int .i64 l] w fun e w' => e = .returned (.int .i64 e0) ∧ Sm X w' b N ∧ Kx X V w' :=
  (endS (h0.below hv) l l0 l1).mono fun e w' ⟨he, hs, hk⟩ => by
    rw [ho] at he hs
    rw [hN] at hs
    exact ⟨he, hs, (kx_of hv h0.lt).trans hk⟩
theorem popE {X : Nat → Prop} {V w : World} {b : Nat} {M : Mg.Mg} (h0 : Sm X V b M) (hv : Below V.heap.size V w) (r0 : Value) (N0 : Mg.Mg) (hp : ∀ r N, M.pops r N → r = r0 ∧ N = N0) :
    Calls Tryd.prog 18 #[.pointer (some ⟨b, 0, none⟩)] w fun e w' => e = .returned r0 ∧ Sm X w' b N0 ∧ Kx X V w' :=
  (popS (h0.below hv)).mono fun e w' ⟨r, N, he, hpp, hs, hk⟩ => by
    obtain ⟨rfl, rfl⟩ := hp r N hpp
    exact ⟨he, hs, (kx_of hv h0.lt).trans hk⟩
theorem pops_state {M : Mg.Mg} (h : M.missN 64 ≠ []) : ∀ r N, M.pops r N → r = popT (0, 0) 0 false 8 ∧ N = M := fun r N hp => by
  rcases hp with ⟨_, h1, h2⟩ | ⟨h1, _⟩ | ⟨h1, _⟩
  · exact ⟨h1, h2⟩
  · exact absurd h1 h
  · exact absurd h1 h
theorem pops_none {M : Mg.Mg} (h : M.missN 64 = []) (hn : ∀ v, v < 64 → M.hs v = false) : ∀ r N, M.pops r N → r = popT (0, 0) 0 false 0 ∧ N = M := fun r N hp => by
  rcases hp with ⟨h1, _⟩ | ⟨_, _, h1, h2⟩ | ⟨_, v, hv, _⟩
  · exact absurd h h1
  · exact ⟨h1, h2⟩
  · exact absurd hv.2.1 (by rw [hn v hv.1]; decide)
theorem pops_least {M : Mg.Mg} (h : M.missN 64 = []) (v : Nat) (hv : v < 64) (hh : M.hs v = true) (hl : ∀ u, u < 64 → M.hs u = true → u ≠ v → (M.p v).1 < (M.p u).1) : ∀ r N, M.pops r N → r = popT (M.p v) v true 0 ∧ N = M.popped v := fun r N hp => by
  rcases hp with ⟨h1, _⟩ | ⟨_, h1, _⟩ | ⟨_, u, hu, h1, h2⟩
  · exact absurd h h1
  · exact absurd hh (by rw [h1 v hv]; decide)
  · have e : u = v := Classical.byContradiction fun hne => by
      have h3 := hl u hu.1 hu.2.1 hne
      have h4 := hu.2.2 v hv hh
      omega
    subst e
    exact ⟨h1, h2⟩
theorem skipE {X : Nat → Prop} {V w : World} {b : Nat} {M : Mg.Mg} (h0 : Sm X V b M) (hv : Below V.heap.size V w) (K : Int) (n : Int) (hn : (M.skN K 64 : Int) = n) : Calls Tryd.prog 21 #[.pointer (some ⟨b, 0, none⟩), .int .u64 K] w fun e w' => e = .returned (.tuple #[.int .i64 n, .int .i64 0]) ∧ Sm X w' b (M.skipped K) ∧ Kx X V w' :=
  (skipS (h0.below hv) K).mono fun e w' ⟨he, hs, hk⟩ => by
    rw [hn] at he
    exact ⟨he, hs, (kx_of hv h0.lt).trans hk⟩
theorem missE {X : Nat → Prop} {V w : World} {b : Nat} {M : Mg.Mg} (h0 : Sm X V b M) (hv : Below V.heap.size V w) (hT : Dm.Tz V) (l : List Int) (n : Nat) (hl : M.missN 64 = l) (hn : l.length = n) : Calls Tryd.prog 12 #[.pointer (some ⟨b, 0, none⟩)] w fun e w' => ∃ A c, e = .returned (.slice A n c) ∧ RdK .i64 w' A l ∧ Below V.heap.size V w' := by
  subst hl; subst hn
  exact (missS (h0.below hv) (hT.below hv)).mono fun e w' ⟨⟨A, c, he, hr, _⟩, hb⟩ => ⟨A, c, he, hr, bel_trans hv hb⟩
theorem listE {X : Nat → Prop} {V w : World} {b : Nat} {M : Mg.Mg} (h0 : Sm X V b M) (hv : Below V.heap.size V w) (l : List Pr) (n : Nat) (hl : M.list = l) (hn : l.length = n) : Calls Tryd.prog 13 #[.pointer (some ⟨b, 0, none⟩)] w fun e w' => ∃ A c, e = .returned (.slice A n c) ∧ Om.Rd w' A l ∧ Below V.heap.size V w' := by
  subst hl; subst hn
  exact (listS (h0.below hv)).mono fun e w' ⟨⟨A, c, he, hr, _⟩, hb⟩ => ⟨A, c, he, hr, bel_trans hv hb⟩
theorem lit_i (w : World) (l : List Int) (xs : Array Value) (h : xs = (flatI l).toArray) : RdK .i64 (w.alloc (.cells xs 3)) (some ⟨w.heap.size, 0, none⟩) l := fun k hk => by
  subst h
  refine ⟨_, _, rfl, ?_⟩
  rw [World.cell?_alloc_new]
  simp [flatI, hk]
theorem lit_p (w : World) (l : List Pr) (xs : Array Value) (h : xs = (flat l).toArray) : Om.Rd (w.alloc (.cells xs 39)) (some ⟨w.heap.size, 0, none⟩) l := fun k x hx => by
  subst h
  obtain ⟨e0, e1⟩ := Om.flat_get l k x hx
  refine ⟨_, _, rfl, ?_, ?_⟩
  · rw [World.cell?_alloc_new, Nat.zero_add]; simpa using e0
  · rw [World.cell?_alloc_new, Nat.zero_add]; simpa using e1
theorem same_i {w : World} {A B : Option Addr} {l r : List Int} (m c q d : Nat) (t : Bool) (hm : l.length = m) (hq : r.length = q) (hx : m ≤ 64) (hy : q ≤ 64) (hl : RdK .i64 w A l) (hr : RdK .i64 w B r) (ht : decide (l = r) = t) :
    Calls Tryd.prog 14 #[.slice A m c, .slice B q d] w fun e w' => e = .returned (.bool t) ∧ Below w.heap.size w w' := by
  subst ht
  exact Dm.sameR_any A B m c q d l r w hm hq (by unfold maxLen; omega) (by unfold maxLen; omega) hl hr
theorem same_p {w : World} {A B : Option Addr} {l r : List Pr} (m c q d : Nat) (t : Bool) (hm : l.length = m) (hq : r.length = q) (hx : m ≤ 64) (hy : q ≤ 64) (hl : Om.Rd w A l) (hr : Om.Rd w B r) (ht : decide (l = r) = t) :
    Calls Tryd.prog 16 #[.slice A m c, .slice B q d] w fun e w' => e = .returned (.bool t) ∧ Below w.heap.size w w' := by
  subst ht
  exact Om.sameR_any A B m c q d l r w hm hq (by omega) (by omega) hl hr
end Hq
end Go.Proofs.YtbndgbjenmknmaaDoor
