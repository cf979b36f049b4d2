/- Get, Put, PutIfAbsent, Delete and CompareAndSwap of package omap: contracts of the translated code. Conditions: at most 1000 pairs with increasing keys; the bounds of each number's kind. -/
import Derived.Test.YtbdllakbkienoaaOmK
namespace Go.Proofs.Ytbdllakbkienoaa
open Go.RowKit Go.Sort Go.Lib
set_option linter.unusedVariables false
set_option linter.unusedSimpArgs false
namespace Om
theorem getC_nil (key : Int) (w : World) : Calls Try.prog 34 #[.pointer none, .int .u64 key] w fun e w' => e = .returned (gT none) ∧ w = w' := by
  go_enter Try.func34, Try.ntmps34
  go_wp2
  go_ret2
  exact ⟨rfl, rfl⟩
theorem getC_any (bm : Nat) (v : Value) (l : List Pr) (key : Int) (w : World) (hm : MapAt w bm v l) (ha : Asc l) (hs : l.length ≤ 1000) :
    Calls Try.prog 34 #[.pointer (some ⟨bm, 0, none⟩), .int .u64 key] w fun e w' => e = .returned (gT (getL l key)) ∧ Below w.heap.size w w' := by
  have C := Lib.hid (find_any bm v l key w hm ha hs)
  have HG := Lib.hid (show gT (getL l key) = .tuple #[.int .u64 ((getL l key).getD 0), .bool (getL l key).isSome] from rfl)
  unfold fT at C
  generalize (getL l key).getD 0 = q1 at *
  generalize (getL l key).isSome = q2 at *
  generalize lowN l key = q3 at *
  clear hm ha hs
  go_enter Try.func34, Try.ntmps34
  go_wp2_with fail
  refine C.out.mono ?_
  rintro r w1 ⟨rfl, b1⟩
  go_wp2
  go_ret2
  exact ⟨by rw [HG.out]; rfl, b1⟩
/-- one value of a row changed in its place -/
theorem set_value {W : World} {bm g n c at' : Nat} {l : List Pr} {key u : Int} (x : Int) (hm : MapAt W bm (.slice (some ⟨g, 0, none⟩) n c) l) (hn : l.length = n) (hx : l[at']? = some (key, u)) :
    W.cell? ⟨g, at' * 2 + 1, none⟩ = some (.int .u64 u) ∧ W.frozen? ⟨g, at' * 2 + 1, none⟩ = false ∧ MapAt (W.setCell ⟨g, at' * 2 + 1, none⟩ (.int .u64 x)) bm (.slice (some ⟨g, 0, none⟩) n c) (l.set at' (key, x)) ∧ Chg bm (.slice (some ⟨g, 0, none⟩) n c) W (W.setCell ⟨g, at' * 2 + 1, none⟩ (.int .u64 x)) := by
  subst hn
  have ho := own_of_row hm.2.2.1
  obtain ⟨c0, c1, f0, f1⟩ := ho at' _ hx
  simp only [Nat.zero_add] at c0 c1 f0 f1
  have hbg : bm ≠ g := fun e => hm.2.2.2 (by rw [e]; rfl)
  have hc' := World.cell?_setCell_same W ⟨g, at' * 2 + 1, none⟩ (.int .u64 x) c1
  have hl : (l.set at' (key, x)).length = l.length := List.length_set
  refine ⟨c1, f1, ⟨?_, ?_, ?_, hm.2.2.2⟩, ⟨rfl, rfl, rfl, by simp, fun k hk hb hv => heap_setCell_other W _ k _ (fun e => hv (by rw [e]; rfl))⟩⟩
  · rw [World.cell?_setCell_other _ _ _ _ (by simp <;> (intro e; exact absurd e.symm hbg))]; exact hm.1
  · rw [World.frozen?_setCell]; exact hm.2.1
  · rw [hl]
    refine row_again hm.2.2.1 (fun cur h => ⟨_, heap_setCell_same W g _ cur _ _ h, by simp⟩) (fun k y hk => ?_) hl
    rw [List.getElem?_set] at hk
    rw [World.frozen?_setCell, World.frozen?_setCell]
    simp only [Nat.zero_add]
    by_cases e : at' = k
    · subst e
      rw [if_pos rfl, if_pos (List.getElem?_eq_some_iff.1 hx).1] at hk
      cases hk
      refine ⟨?_, hc', f0, f1⟩
      rw [World.cell?_setCell_other _ _ _ _ (by simp)]; exact c0
    · rw [if_neg e] at hk
      obtain ⟨d0, d1, e0, e1⟩ := ho k y hk
      simp only [Nat.zero_add] at d0 d1 e0 e1
      refine ⟨?_, ?_, e0, e1⟩
      · rw [World.cell?_setCell_other _ _ _ _ (by simp <;> omega)]; exact d0
      · rw [World.cell?_setCell_other _ _ _ _ (by simp <;> omega)]; exact d1
/-- a map that holds a pair has a row in memory -/
theorem MapAt.some {w : World} {bm : Nat} {v : Value} {l : List Pr} (h : MapAt w bm v l) (hl : 0 < l.length) : ∃ g c, v = .slice (some ⟨g, 0, none⟩) l.length c ∧ l.length ≤ c ∧ c ≤ maxLen := by
  rcases h.2.2.1.2 with ⟨_, e⟩ | ⟨g, cap, cur, rfl, _, _, hnc, hcm, _⟩
  · omega
  · exact ⟨g, cap, rfl, hnc, hcm⟩
end Om
end Go.Proofs.Ytbdllakbkienoaa
