/- What the code and the reference of stage 14 share: errors, lists of towers, what a step does to the numbers of an operation. Conditions: none. (Parts of XPoR, XPoG, XPoO, XPoN, XPoT.) -/
import Derived.Test.YtdkkpaofodicjaaGreatPoM
import Derived.Test.YtdkkpaofodicjaaGreatWdE
import Derived.Test.YtdkkpaofodicjaaGreatLyD
namespace Go.Proofs.YtdkkpaofodicjaaGreat
open Go.RowKit Go.Sort
set_option linter.unusedVariables false
set_option linter.unusedSimpArgs false
set_option maxRecDepth 100000
namespace Po
open Wd
open Ly (KI)
theorem bel_new {W w : World} (h : Below W.heap.size W w) (o : Obj) : Below W.heap.size W (w.alloc o) := h.alloc h.size o
theorem bel_drew {B : Nat} {a w : World} (h : Below B a w) : Below B a w.drew := ⟨h.os, h.tape, h.output, h.size, h.block⟩
theorem oth {w : World} {x i j : Nat} {v : Value} (h : i ≠ j) : (w.setCell ⟨x, i, none⟩ v).cell? ⟨x, j, none⟩ = w.cell? ⟨x, j, none⟩ := World.cell?_setCell_other _ _ _ _ (by first | simp [h] | simp [Ne.symm h])
theorem frz {w : World} {a b : Addr} {v : Value} {r : Bool} (h : w.frozen? b = r) : (w.setCell a v).frozen? b = r := by rw [World.frozen?_setCell]; exact h
theorem blk {w : World} {a i : Nat} {j : Nat} {v : Value} (h : i ≠ a) : (w.setCell ⟨a, j, none⟩ v).heap[i]? = w.heap[i]? := Below.heap_setCell w ⟨a, j, none⟩ v i h
theorem blkc {w : World} {a i : Nat} {j k : Nat} {v : Value} (h : i ≠ a) : (w.setCell ⟨a, j, none⟩ v).cell? ⟨i, k, none⟩ = w.cell? ⟨i, k, none⟩ := World.cell?_of_block (a := ⟨i, k, none⟩) (blk h)
def tkE (t h m : Int) : Int := if (0 ≤ t ∧ t < 64) ∧ 0 ≤ m ∧ m ≤ 255 then (if 1 ≤ h ∧ h ≤ 6 then 0 else 3) else 2
def gnE (n : Nat) (t : Int) : Int := if 1 ≤ t ∧ t ≤ n then 0 else 3
def gnV (n : Nat) (S : Pm) (t : Int) : Int := if 1 ≤ t ∧ t ≤ n then ((S.gn t.toNat : Nat) : Int) else 0
/-- the error of Give -/
def gvE (n : Nat) (S : Pm) (t u : Int) : Int := if 0 ≤ t ∧ t < 64 then (if 1 ≤ u ∧ u ≤ n then (if S.tk u.toNat = true ∧ S.gv u.toNat = false then 0 else 8) else 3) else 2
/-- the towers below t that are out -/
def outL (S : Pm) : Nat → List Int
  | 0 => []
  | t + 1 => outL S t ++ (if 1 ≤ t ∧ S.tk t = true then [(t : Int)] else [])
theorem outL_len (S : Pm) : ∀ t, (outL S t).length ≤ t
  | 0 => Nat.le_refl _
  | t + 1 => by
    have := outL_len S t
    simp only [outL, List.length_append]
    split
    · simp; omega
    · simp; omega
/-- a row of ints that is handed out -/
def RwI (w : World) (l : List Int) (v : Value) (w' : World) : Prop := w'.ownsRow w.heap.size KI.E KI.sz v l.length (KI.flat l) ∧ Below w.heap.size w w'
/-- a list of different numbers from 1 to n is no longer than n -/
theorem nodup_len : ∀ (n : Nat) (l : List Nat), l.Nodup → (∀ x, x ∈ l → 1 ≤ x ∧ x ≤ n) → l.length ≤ n
  | 0, l, _, h => by
    cases l with
    | nil => exact Nat.le_refl _
    | cons x l => have := h x (List.mem_cons_self ..); omega
  | n + 1, l, hd, h => by
    have h1 := nodup_len n (l.erase (n + 1)) (hd.erase _) fun x hx => by
      have h2 := h x (List.mem_of_mem_erase hx)
      have h3 : x ≠ n + 1 := fun e => by subst e; exact absurd hx (List.Nodup.not_mem_erase hd)
      omega
    have h2 : l.length ≤ (l.erase (n + 1)).length + 1 := by
      rw [List.length_erase]
      split
      · omega
      · omega
    omega
theorem Ch.mid {f : Nat → Int} : ∀ {l : List Nat} {x : Nat} {r : List Nat}, Ch f (l ++ x :: r) → f x = ((r.headD 0 : Nat) : Int)
  | [], _, _, h => h.1
  | _ :: l, _, _, h => Ch.mid (l := l) h.2
def slL : Value → Nat
  | .slice _ n _ => n
  | _ => 0
def nums (l : List Nat) : List Int := l.map Int.ofNat
/-- the error of List -/
def liE (h : Int) : Int := if 1 ≤ h ∧ h ≤ 6 then 0 else 3
/-- new pools: no tower is out -/
def pm0 (M : Wm) : Pm := ⟨M, fun _ => false, fun _ => false, fun _ => 0⟩
theorem made_at (v : Value) (hv : v.cells = #[v]) (m t : Nat) (h : t < m) : (madeCells v.cells (m * 1))[t]? = some v := by
  rw [hv]
  simp [madeCells, h, Nat.mod_one]
theorem cell_heap {W : World} {b t : Nat} {cs : Array Value} {ty : TypeId} {v : Value} (h : W.heap[b]? = some (.cells cs ty (0, 0))) (hc : cs[t]? = some v) : W.cell? ⟨b, t, none⟩ = some v := by
  simp [World.cell?, h, hc]
theorem froz_heap {W : World} {b t : Nat} {cs : Array Value} {ty : TypeId} (h : W.heap[b]? = some (.cells cs ty (0, 0))) : W.frozen? ⟨b, t, none⟩ = false := by
  simp [World.frozen?, h]
/-- the head that an operation holds is a word -/
def HdB (r : Op) : Prop := 0 ≤ r.hd ∧ r.hd ≤ 18446744073709551615
/-- what a step leaves of an operation: its thread, height, tower and tries, and a head that is a word -/
theorem step_same (pp : Nat) (S : Pm) (r : Op) : (step pp S r).2.th = r.th ∧ (step pp S r).2.h = r.h ∧ (step pp S r).2.tw = r.tw ∧ (step pp S r).2.tr = r.tr := by
  unfold step
  repeat' split
  all_goals exact ⟨rfl, rfl, rfl, rfl⟩
theorem step_hd {pp : Nat} {S : Pm} {r : Op} (hw : BdW S.M.W) (h : HdB r) : HdB (step pp S r).2 := by
  unfold step
  repeat' split
  all_goals first | exact h | exact Wm.get_bd hw _
theorem step_fl (pp : Nat) (S : Pm) (r : Op) : (step pp S r).2.fl ≤ r.fl + 1 := by
  unfold step
  repeat' split
  all_goals (simp only; omega)
theorem step_lg (pp : Nat) (S : Pm) (r : Op) : (step pp S r).1.M.L.length ≤ S.M.L.length + 1 := by
  unfold step
  repeat' split
  all_goals first
    | (simp only [Wm.load, Wm.stor, Wm.put, List.length_append, List.length_singleton]; omega)
    | (simp only [Wm.cas]; split <;> (simp only [Wm.put, List.length_append, List.length_singleton]; omega))
    | (simp only; omega)
theorem step_gn (pp : Nat) (S : Pm) (r : Op) (t : Nat) : (step pp S r).1.gn t ≤ S.gn t + 1 := by
  unfold step
  repeat' split
  all_goals first
    | (simp only; omega)
    | (simp only [set]; split <;> (try subst_vars) <;> omega)
/-- what any step does to all operations, and to stacks -/
theorem All.step {pp n B : Nat} {ht : Nat → Nat} {S : Pm} {stk : Nat → List Nat} {sw : Nat → Nat} {X : Nat → Option Op} {i : Nat} {r : Op} (h : All pp n ht S stk sw X B) (hx : X i = some r) (hp : r.pc ≠ 0) (hB : B ≤ 100000) :
    ∃ stk' sw', All pp n ht (Po.step pp S r).1 stk' sw' (upd X i (Po.step pp S r).2) (B + 1) := by
  rcases (h.o i r hx).p with e | e | ⟨e, _⟩ | ⟨e, _⟩ | ⟨e, _⟩ | ⟨e, _⟩
  · exact absurd e hp
  · exact ⟨stk, sw, (h.step4 hx e).1.more (Nat.le_succ _)⟩
  · exact ⟨stk, sw, (h.step5 hx e).1.more (Nat.le_succ _)⟩
  · obtain ⟨s, x, hs, h1, h2⟩ := h.step6 hx e hB
    by_cases he : s = sw r.h
    · obtain ⟨⟨rest, _, ha⟩, _⟩ := h1 he
      exact ⟨_, _, ha⟩
    · exact ⟨stk, sw, (h2 he).1.more (Nat.le_succ _)⟩
  · exact ⟨stk, sw, (h.step7 hx e).1.more (Nat.le_succ _)⟩
  · obtain ⟨s, x, hs, _, h1, h2⟩ := h.step8 hx e hB
    by_cases he : s = sw r.h
    · exact ⟨_, _, (h1 he).1⟩
    · exact ⟨stk, sw, (h2 he).1.more (Nat.le_succ _)⟩
end Po
end Go.Proofs.YtdkkpaofodicjaaGreat
