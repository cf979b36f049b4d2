/- Package pool: the maps of steps, Next, Result: contracts of the translated code. Conditions: the bounds of each number's kind. (Written by tools/mkps2.py.) -/
import Derived.Test.YtdkkpaofodicjaaGreatPsC
import Derived.WideMake
namespace Go.Proofs.YtdkkpaofodicjaaGreat
open Go.RowKit Go.Sort
set_option linter.unusedVariables false
set_option linter.unusedSimpArgs false
set_option maxRecDepth 100000
namespace Po
open Wd
theorem key_u8 (n : Int) : MapKept.IsKey (.int .u8) (.int .u8 n) := by simp [MapKept.IsKey]
theorem set_push {α : Type} (a : Array α) (x y : α) : (a.push x).setIfInBounds a.size y = a.push y := by
  apply Array.ext
  · simp
  · intro i h1 h2
    have hi : i < a.size + 1 := by simpa using h2
    rw [Array.getElem_setIfInBounds (by simpa using hi)]
    by_cases e : a.size = i
    · rw [if_pos e]; subst e; simp
    · rw [if_neg e, Array.getElem_push_lt (by omega), Array.getElem_push_lt (by omega)]
theorem mu_t (w : World) (es : Array MapEntry) (cl : Nat) (n : Int) (val : Value) (hf : Instr.findNow (.int .u8) (.int .u8 n) es.toList 0 = some none) :
    (Instr.mapUpdate 126 (.map (some w.heap.size)) (.int .u8 n) val).run Tryz.prog (w.alloc (.map es cl)) = .ok () (w.alloc (.map (es.push ⟨.int .u8 n, val, cl⟩) (cl + 1))) := by
  have hb : (w.alloc (.map es cl)).heap[w.heap.size]? = some (.map es cl) := (MapKept.heap_alloc w _).1
  have hc : (Instr.checkKey false 10000 5 (.int .u8 n)).run Tryz.prog (w.alloc (.map es cl)) = .ok () (w.alloc (.map es cl)) := MapKept.run_checkKey (k := .int .u8 n) Tryz.underlying5 (key_u8 n) false 9999
  have hh : ({ w.alloc (.map es cl) with heap := (w.alloc (.map es cl)).heap.setIfInBounds w.heap.size (.map (es.push ⟨.int .u8 n, val, cl⟩) (cl + 1)) } : World) = w.alloc (.map (es.push ⟨.int .u8 n, val, cl⟩) (cl + 1)) := by
    unfold World.alloc
    simp only [set_push]
  simp [Instr.mapUpdate, run_underlying Tryz.underlying126, MapKept.run_getObj_map hb, hc, MapKept.run_findKey Tryz.underlying5 hf, MapKept.run_setObj_map _ hb, Result.andThen]
  simpa using hh
theorem look_t4 {W : World} {m : Nat} (hb : W.heap[m]? = some (.map tkM 3)) : (Instr.lookup 126 (.map (some m)) (.int .u8 4) false).run Tryz.prog W = .ok (.func (.func 46) #[] #[]) W := by
  have hc : ∀ b, (Instr.checkKey b 10000 5 (.int .u8 4)).run Tryz.prog W = .ok () W := fun b => MapKept.run_checkKey (k := .int .u8 4) Tryz.underlying5 (key_u8 4) b 9999
  have hf : Instr.findNow (.int .u8) (.int .u8 4) tkM.toList 0 = some (some (0, .func (.func 46) #[] #[])) := rfl
  simp [Instr.lookup, run_underlying Tryz.underlying126, MapKept.run_getObj_map hb, hc, MapKept.run_findKey Tryz.underlying5 hf, Result.andThen]
theorem look_t5 {W : World} {m : Nat} (hb : W.heap[m]? = some (.map tkM 3)) : (Instr.lookup 126 (.map (some m)) (.int .u8 5) false).run Tryz.prog W = .ok (.func (.func 47) #[] #[]) W := by
  have hc : ∀ b, (Instr.checkKey b 10000 5 (.int .u8 5)).run Tryz.prog W = .ok () W := fun b => MapKept.run_checkKey (k := .int .u8 5) Tryz.underlying5 (key_u8 5) b 9999
  have hf : Instr.findNow (.int .u8) (.int .u8 5) tkM.toList 0 = some (some (1, .func (.func 47) #[] #[])) := rfl
  simp [Instr.lookup, run_underlying Tryz.underlying126, MapKept.run_getObj_map hb, hc, MapKept.run_findKey Tryz.underlying5 hf, Result.andThen]
theorem look_t6 {W : World} {m : Nat} (hb : W.heap[m]? = some (.map tkM 3)) : (Instr.lookup 126 (.map (some m)) (.int .u8 6) false).run Tryz.prog W = .ok (.func (.func 48) #[] #[]) W := by
  have hc : ∀ b, (Instr.checkKey b 10000 5 (.int .u8 6)).run Tryz.prog W = .ok () W := fun b => MapKept.run_checkKey (k := .int .u8 6) Tryz.underlying5 (key_u8 6) b 9999
  have hf : Instr.findNow (.int .u8) (.int .u8 6) tkM.toList 0 = some (some (2, .func (.func 48) #[] #[])) := rfl
  simp [Instr.lookup, run_underlying Tryz.underlying126, MapKept.run_getObj_map hb, hc, MapKept.run_findKey Tryz.underlying5 hf, Result.andThen]
theorem next_t {w : World} {c : Nat → Nat} {y x : Nat} {r : Op} (h : OA w c y x r) : Calls Tryz.prog 56 #[.pointer (some ⟨y, 0, none⟩)] w fun e w' => e = .returned (.int .u8 ((r.pc : Nat) : Int)) ∧ w' = w := by
  have c3 := h.c3
  clear h
  generalize ((r.pc : Nat) : Int) = pc at *
  go_enter Tryz.func56, Tryz.ntmps56
  go_wp2
  go_ret
  exact ⟨rfl, rfl⟩
theorem mu_g (w : World) (es : Array MapEntry) (cl : Nat) (n : Int) (val : Value) (hf : Instr.findNow (.int .u8) (.int .u8 n) es.toList 0 = some none) :
    (Instr.mapUpdate 136 (.map (some w.heap.size)) (.int .u8 n) val).run Tryz.prog (w.alloc (.map es cl)) = .ok () (w.alloc (.map (es.push ⟨.int .u8 n, val, cl⟩) (cl + 1))) := by
  have hb : (w.alloc (.map es cl)).heap[w.heap.size]? = some (.map es cl) := (MapKept.heap_alloc w _).1
  have hc : (Instr.checkKey false 10000 5 (.int .u8 n)).run Tryz.prog (w.alloc (.map es cl)) = .ok () (w.alloc (.map es cl)) := MapKept.run_checkKey (k := .int .u8 n) Tryz.underlying5 (key_u8 n) false 9999
  have hh : ({ w.alloc (.map es cl) with heap := (w.alloc (.map es cl)).heap.setIfInBounds w.heap.size (.map (es.push ⟨.int .u8 n, val, cl⟩) (cl + 1)) } : World) = w.alloc (.map (es.push ⟨.int .u8 n, val, cl⟩) (cl + 1)) := by
    unfold World.alloc
    simp only [set_push]
  simp [Instr.mapUpdate, run_underlying Tryz.underlying136, MapKept.run_getObj_map hb, hc, MapKept.run_findKey Tryz.underlying5 hf, MapKept.run_setObj_map _ hb, Result.andThen]
  simpa using hh
theorem look_g4 {W : World} {m : Nat} (hb : W.heap[m]? = some (.map gvM 3)) : (Instr.lookup 136 (.map (some m)) (.int .u8 4) false).run Tryz.prog W = .ok (.func (.func 52) #[] #[]) W := by
  have hc : ∀ b, (Instr.checkKey b 10000 5 (.int .u8 4)).run Tryz.prog W = .ok () W := fun b => MapKept.run_checkKey (k := .int .u8 4) Tryz.underlying5 (key_u8 4) b 9999
  have hf : Instr.findNow (.int .u8) (.int .u8 4) gvM.toList 0 = some (some (0, .func (.func 52) #[] #[])) := rfl
  simp [Instr.lookup, run_underlying Tryz.underlying136, MapKept.run_getObj_map hb, hc, MapKept.run_findKey Tryz.underlying5 hf, Result.andThen]
theorem look_g7 {W : World} {m : Nat} (hb : W.heap[m]? = some (.map gvM 3)) : (Instr.lookup 136 (.map (some m)) (.int .u8 7) false).run Tryz.prog W = .ok (.func (.func 53) #[] #[]) W := by
  have hc : ∀ b, (Instr.checkKey b 10000 5 (.int .u8 7)).run Tryz.prog W = .ok () W := fun b => MapKept.run_checkKey (k := .int .u8 7) Tryz.underlying5 (key_u8 7) b 9999
  have hf : Instr.findNow (.int .u8) (.int .u8 7) gvM.toList 0 = some (some (1, .func (.func 53) #[] #[])) := rfl
  simp [Instr.lookup, run_underlying Tryz.underlying136, MapKept.run_getObj_map hb, hc, MapKept.run_findKey Tryz.underlying5 hf, Result.andThen]
theorem look_g8 {W : World} {m : Nat} (hb : W.heap[m]? = some (.map gvM 3)) : (Instr.lookup 136 (.map (some m)) (.int .u8 8) false).run Tryz.prog W = .ok (.func (.func 54) #[] #[]) W := by
  have hc : ∀ b, (Instr.checkKey b 10000 5 (.int .u8 8)).run Tryz.prog W = .ok () W := fun b => MapKept.run_checkKey (k := .int .u8 8) Tryz.underlying5 (key_u8 8) b 9999
  have hf : Instr.findNow (.int .u8) (.int .u8 8) gvM.toList 0 = some (some (2, .func (.func 54) #[] #[])) := rfl
  simp [Instr.lookup, run_underlying Tryz.underlying136, MapKept.run_getObj_map hb, hc, MapKept.run_findKey Tryz.underlying5 hf, Result.andThen]
theorem next_g {w : World} {c : Nat → Nat} {y x : Nat} {r : Op} (h : OA w c y x r) : Calls Tryz.prog 61 #[.pointer (some ⟨y, 0, none⟩)] w fun e w' => e = .returned (.int .u8 ((r.pc : Nat) : Int)) ∧ w' = w := by
  have c3 := h.c3
  clear h
  generalize ((r.pc : Nat) : Int) = pc at *
  go_enter Tryz.func61, Tryz.ntmps61
  go_wp2
  go_ret
  exact ⟨rfl, rfl⟩
theorem res_run {w : World} {c : Nat → Nat} {y x : Nat} {r : Op} (h : OA w c y x r) (hp : r.pc ≠ 0) : Calls Tryz.prog 59 #[.pointer (some ⟨y, 0, none⟩)] w fun e w' => e = .returned (.tuple #[.int .i64 0, .int .i64 0, .int .i64 8]) ∧ w' = w := by
  have c3 := h.c3
  have hz : ((r.pc : Nat) : Int) ≠ 0 := by omega
  clear h
  generalize ((r.pc : Nat) : Int) = pc at *
  have t0 : (pc != 0) = true := by simp [hz]
  have t1 : (pc == 0) = false := by simp [hz]
  have t2 : decide (pc = 0) = false := decide_eq_false hz
  clear hz hp
  go_enter Tryz.func59, Tryz.ntmps59
  go_wp2
  go_ret3
  exact ⟨rfl, rfl⟩
theorem res_end {w : World} {c : Nat → Nat} {y x : Nat} {r : Op} (h : OA w c y x r) (hp : r.pc = 0) (h0 : r.tw = 0) : Calls Tryz.prog 59 #[.pointer (some ⟨y, 0, none⟩)] w fun e w' => e = .returned (.tuple #[.int .i64 r.got, .int .i64 ((r.fl : Nat) : Int), .int .i64 r.e]) ∧ Below w.heap.size w w' := by
  have c3 := h.c3
  obtain ⟨_, c7, _, c9, c10⟩ := h.t h0
  rw [hp] at c3
  clear h hp
  generalize ((r.fl : Nat) : Int) = fl at *
  go_enter Tryz.func59, Tryz.ntmps59
  go_wp2_with fail
  go_region
  all_goals
    go_wp2
    go_ret3
    exact ⟨rfl, below_drewN (Below.refl _ _) 1⟩
end Po
end Go.Proofs.YtdkkpaofodicjaaGreat
