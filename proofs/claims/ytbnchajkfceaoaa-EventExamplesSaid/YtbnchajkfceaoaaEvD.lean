/- Package event: collect at sections and at waits: the closures, the array of steps, facts for the region that draws: contracts of the translated code. No conditions beside those of each lemma. -/
import Derived.Test.YtbnchajkfceaoaaEvB
namespace Go.Proofs.Ytbnchajkfceaoaa
open Go.RowKit Go.Shelf Go.Sort
set_option linter.unusedVariables false
set_option linter.unusedSimpArgs false
attribute [local go_sem] Oper.semAt_some
namespace Ev
theorem secF_any (s t k v z : Int) (w : World) : Calls Try.prog 49 #[.agg #[.int .i64 s, .int .i64 t, .int .u8 k, .int .u64 v], .int .i64 z] w fun e w' =>
    e = .returned (.agg #[.int .i64 t, .int .u64 v, .int .i64 s, .int .i64 z]) ∧ Below w.heap.size w w' := by
  go_enter Try.func49, Try.ntmps49
  go_wp2
  refine bodyPost_ret (v := .agg #[.int .i64 t, .int .u64 v, .int .i64 s, .int .i64 z]) (by simp [results, Try.results49, go_sem]) rfl ⟨rfl, bel_alloc (bel_alloc (Below.refl _ _) _) _⟩
theorem waiF_any (s t k v z : Int) (w : World) : Calls Try.prog 51 #[.agg #[.int .i64 s, .int .i64 t, .int .u8 k, .int .u64 v], .int .i64 z] w fun e w' =>
    e = .returned (.agg #[.int .i64 t, .int .u64 v, .int .i64 s, .int .i64 z]) ∧ Below w.heap.size w w' := by
  go_enter Try.func51, Try.ntmps51
  go_wp2
  refine bodyPost_ret (v := .agg #[.int .i64 t, .int .u64 v, .int .i64 s, .int .i64 z]) (by simp [results, Try.results51, go_sem]) rfl ⟨rfl, bel_alloc (bel_alloc (Below.refl _ _) _) _⟩
/-- an array of 64 ints -/
def aI (f : Nat → Int) : Array Value := ((List.range 64).map fun k => Value.int .i64 (f k)).toArray
def ArI (W : World) (B : Nat) (f : Nat → Int) : Prop := W.heap[B]? = some (.cells (aI f) 83 (0, 0))
theorem ArI.lt {W : World} {B : Nat} {f : Nat → Int} (h : ArI W B f) : B < W.heap.size := (Array.getElem?_eq_some_iff.1 h).1
theorem ArI.cell {W : World} {B : Nat} {f : Nat → Int} (h : ArI W B f) {k : Nat} (hk : k < 64) : W.cell? ⟨B, k, none⟩ = some (.int .i64 (f k)) := by
  simp [World.cell?, show W.heap[B]? = _ from h, aI, hk]
theorem ArI.frozen {W : World} {B : Nat} {f : Nat → Int} (h : ArI W B f) (k : Nat) : W.frozen? ⟨B, k, none⟩ = false := by simp [World.frozen?, show W.heap[B]? = _ from h]
theorem ArI.kept {W W' : World} {row : Option Nat} {B : Nat} {f : Nat → Int} (h : ArI W B f) (hg : W.grownBy W' row) (hne : some B ≠ row) : ArI W' B f := (hg.block B h.lt hne).trans h
theorem ArI.same {W W' : World} {B : Nat} {f : Nat → Int} (h : ArI W B f) (hb : W'.heap[B]? = W.heap[B]?) : ArI W' B f := hb.trans h
theorem ArI.alloc {W : World} {B : Nat} {f : Nat → Int} (h : ArI W B f) (o : Obj) : ArI (W.alloc o) B f := h.kept (World.grownBy_alloc W o none) (by simp)
theorem ArI.set {W : World} {B : Nat} {f : Nat → Int} (h : ArI W B f) {r : Nat} (hr : r < 64) (v : Int) : ArI (W.setCell ⟨B, r, none⟩ (.int .i64 v)) B (fun k => if k = r then v else f k) := by
  obtain ⟨hlt, hk⟩ := Array.getElem?_eq_some_iff.1 h
  show (W.heap.modify B _)[B]? = _
  rw [Array.getElem?_eq_getElem (by rw [Array.size_modify]; exact hlt), Array.getElem_modify_self, hk]
  show some (Obj.cells ((aI f).setIfInBounds r (.int .i64 v)) 83 (0, 0)) = _
  congr 2
  apply Array.ext
  · simp [aI]
  · intro i h1 h2
    simp only [aI, List.size_toArray, List.length_map, List.length_range] at h2
    rw [Array.getElem_setIfInBounds (by simpa [aI] using h2)]
    by_cases e : i = r
    · subst e; simp [aI]
    · simp [aI, e, Ne.symm e]
theorem ArI.ext {W : World} {B : Nat} {f g : Nat → Int} (h : ArI W B f) (e : ∀ k, k < 64 → f k = g k) : ArI W B g := by
  have : aI f = aI g := by
    unfold aI
    congr 1
    apply List.map_congr_left
    intro k hk
    rw [e k (by simpa using hk)]
  unfold ArI at h ⊢
  rw [← this]; exact h
theorem arI_own {β : Type} (B : Nat) (f : β → Nat → Int) : Own (fun s W => ArI W B (f s)) := fun s X Y row hs hg hrow =>
  hs.kept hg (fun e' => by obtain ⟨o, ho, hc⟩ := hrow B e'.symm; rw [show X.heap[B]? = _ from hs] at ho; cases ho; cases hc)
theorem boxed_own {β : Type} (B : Nat) (t : TypeId) (v : Value) : Own (fun (_ : β) W => Boxed W B t v) := fun s X Y row hv hg hrow =>
  hv.kept hg (fun e' => by
    obtain ⟨o, ho, hc⟩ := hrow B e'.symm
    rw [show X.heap[B]? = _ from hv] at ho; cases ho; cases hc)
theorem aI_zero : aI (fun _ => 0) = #[.int .i64 0, .int .i64 0, .int .i64 0, .int .i64 0, .int .i64 0, .int .i64 0, .int .i64 0, .int .i64 0, .int .i64 0, .int .i64 0, .int .i64 0, .int .i64 0, .int .i64 0, .int .i64 0, .int .i64 0, .int .i64 0, .int .i64 0, .int .i64 0, .int .i64 0, .int .i64 0, .int .i64 0, .int .i64 0, .int .i64 0, .int .i64 0, .int .i64 0, .int .i64 0, .int .i64 0, .int .i64 0, .int .i64 0, .int .i64 0, .int .i64 0, .int .i64 0, .int .i64 0, .int .i64 0, .int .i64 0, .int .i64 0, .int .i64 0, .int .i64 0, .int .i64 0, .int .i64 0, .int .i64 0, .int .i64 0, .int .i64 0, .int .i64 0, .int .i64 0, .int .i64 0, .int .i64 0, .int .i64 0, .int .i64 0, .int .i64 0, .int .i64 0, .int .i64 0, .int .i64 0, .int .i64 0, .int .i64 0, .int .i64 0, .int .i64 0, .int .i64 0, .int .i64 0, .int .i64 0, .int .i64 0, .int .i64 0, .int .i64 0, .int .i64 0] := rfl
theorem ArI.new (W : World) : ArI (W.alloc (.cells #[.int .i64 0, .int .i64 0, .int .i64 0, .int .i64 0, .int .i64 0, .int .i64 0, .int .i64 0, .int .i64 0, .int .i64 0, .int .i64 0, .int .i64 0, .int .i64 0, .int .i64 0, .int .i64 0, .int .i64 0, .int .i64 0, .int .i64 0, .int .i64 0, .int .i64 0, .int .i64 0, .int .i64 0, .int .i64 0, .int .i64 0, .int .i64 0, .int .i64 0, .int .i64 0, .int .i64 0, .int .i64 0, .int .i64 0, .int .i64 0, .int .i64 0, .int .i64 0, .int .i64 0, .int .i64 0, .int .i64 0, .int .i64 0, .int .i64 0, .int .i64 0, .int .i64 0, .int .i64 0, .int .i64 0, .int .i64 0, .int .i64 0, .int .i64 0, .int .i64 0, .int .i64 0, .int .i64 0, .int .i64 0, .int .i64 0, .int .i64 0, .int .i64 0, .int .i64 0, .int .i64 0, .int .i64 0, .int .i64 0, .int .i64 0, .int .i64 0, .int .i64 0, .int .i64 0, .int .i64 0, .int .i64 0, .int .i64 0, .int .i64 0, .int .i64 0] 83)) W.heap.size (fun _ => 0) := by
  unfold ArI; rw [aI_zero]; exact World.alloc_heap_new W _
/-- what has been gone through, in the order of the list -/
def sf {xs : List E} (pre : List (Fin xs.length)) : List E := (pre.map fun i => xs.getD i.val e0).reverse
theorem sf_snoc {xs : List E} (pre : List (Fin xs.length)) (x : Fin xs.length) : sf (pre ++ [x]) = xs.getD x.val e0 :: sf pre := by
  unfold sf
  rw [List.map_append, List.reverse_append]; rfl
theorem sf_all (xs : List E) : sf (bwd xs.length) = xs := by
  unfold sf bwd
  rw [List.map_reverse, List.reverse_reverse]
  apply List.ext_getElem
  · simp
  · intro i h1 h2
    simp
end Ev
end Go.Proofs.Ytbnchajkfceaoaa
