/- Latches as mathematics: the state of an operation that locks, what a step makes of it and of the memory, what unlocking makes. No conditions beside those of each lemma. -/
import Derived.Test.YtjocbmoelkobaaaWdF
namespace Go.Proofs.Ytjocbmoelkobaaa
set_option linter.unusedVariables false
set_option linter.unusedSimpArgs false
namespace Lt
open Wd
/-- an operation that locks: thread, address, limit of failures (0: none), failures, whether it ended, how -/
structure Lk where
  t : Int
  a : Int
  m : Int
  n : Int
  ov : Bool
  e : Int
/-- its numbers, in a memory of k words, with at most N failures -/
structure Lk.Ok (L : Lk) (k : Nat) (N : Int) : Prop where
  t0 : 0 ≤ L.t
  t1 : L.t < 64
  a0 : 0 ≤ L.a
  a1 : L.a < k
  m0 : 0 ≤ L.m
  m1 : L.m ≤ 255
  n0 : 0 ≤ L.n
  n1 : L.n ≤ N
  z : L.ov = false → L.e = 0
def Lk.new (t a m : Int) : Lk := ⟨t, a, m, 0, false, 0⟩
def Lk.hit (L : Lk) : Lk := ⟨L.t, L.a, L.m, L.n, true, 0⟩
def Lk.miss (L : Lk) : Lk := ⟨L.t, L.a, L.m, L.n + 1, decide (L.n + 1 = L.m), if L.n + 1 = L.m then 11 else 0⟩
def Lk.step (L : Lk) (M : Wm) : Lk := if L.ov = true then L else if M.get L.a = 0 then L.hit else L.miss
def Lk.mem (L : Lk) (M : Wm) : Wm := if L.ov = true then M else M.cas L.t L.a 0 (L.t + 1)
def Lk.pc (L : Lk) : Int := if L.ov = true then 0 else 2
def Lk.fin (L : Lk) (M : Wm) : Bool := !L.ov && (L.step M).ov
def Lk.res (L : Lk) : Int := if L.ov = true then L.e else 8
/-- the error of New -/
def lkE (M : Wm) (t a m : Int) : Int := if (0 ≤ t ∧ t < 64) ∧ 0 ≤ m ∧ m ≤ 255 then (if 0 ≤ a ∧ a < M.W.length then 0 else 3) else 2
/-- the error of Unlock, and what it makes of the memory -/
def unE (M : Wm) (t a : Int) : Int := if M.err t a = 0 then (if M.get a = t + 1 then 0 else 8) else M.err t a
def unM (M : Wm) (t a : Int) : Wm := if unE M t a = 0 then M.stor t a 0 else M
theorem Lk.step_over {L : Lk} {M : Wm} (h : L.ov = true) : L.step M = L := if_pos h
theorem Lk.step_hit {L : Lk} {M : Wm} (h : L.ov = false) (hg : M.get L.a = 0) : L.step M = L.hit := by unfold Lk.step; rw [if_neg (by rw [h]; simp), if_pos hg]
theorem Lk.step_miss {L : Lk} {M : Wm} (h : L.ov = false) (hg : ¬ M.get L.a = 0) : L.step M = L.miss := by unfold Lk.step; rw [if_neg (by rw [h]; simp), if_neg hg]
theorem Lk.mem_over {L : Lk} {M : Wm} (h : L.ov = true) : L.mem M = M := if_pos h
theorem Lk.mem_run {L : Lk} {M : Wm} (h : L.ov = false) : L.mem M = M.cas L.t L.a 0 (L.t + 1) := if_neg (by rw [h]; simp)
theorem lkE_zero {M : Wm} {t a m : Int} (h : lkE M t a m = 0) : (0 ≤ t ∧ t < 64) ∧ (0 ≤ m ∧ m ≤ 255) ∧ 0 ≤ a ∧ a < M.W.length := by
  unfold lkE at h
  split at h
  · rename_i h1
    split at h
    · rename_i h2; exact ⟨h1.1, h1.2, h2⟩
    · cases h
  · cases h
theorem lkE_m0 (M : Wm) (t a : Int) : lkE M t a 0 = M.err t a := by
  unfold lkE Wm.err
  by_cases h : 0 ≤ t ∧ t < 64
  · rw [if_pos ⟨h, by omega, by omega⟩, if_pos h]
  · rw [if_neg (fun e => h e.1), if_neg h]
theorem new_ok {M : Wm} {t a m : Int} (h : lkE M t a m = 0) {N : Int} (hN : 0 ≤ N) : (Lk.new t a m).Ok M.W.length N := by
  obtain ⟨h1, h2, h3⟩ := lkE_zero h
  exact ⟨h1.1, h1.2, h3.1, h3.2, h2.1, h2.2, Int.le_refl _, hN, fun _ => rfl⟩
theorem Lk.Ok.mono {L : Lk} {k : Nat} {N N' : Int} (h : L.Ok k N) (hN : N ≤ N') : L.Ok k N' := ⟨h.t0, h.t1, h.a0, h.a1, h.m0, h.m1, h.n0, Int.le_trans h.n1 hN, h.z⟩
theorem Lk.Ok.step {L : Lk} {k : Nat} {N : Int} (h : L.Ok k N) (M : Wm) : (L.step M).Ok k (N + 1) := by
  unfold Lk.step
  by_cases ho : L.ov = true
  · rw [if_pos ho]; exact h.mono (by omega)
  rw [if_neg ho]
  by_cases hg : M.get L.a = 0
  · rw [if_pos hg]
    exact ⟨h.t0, h.t1, h.a0, h.a1, h.m0, h.m1, h.n0, by have := h.n1; show L.n ≤ _; omega, fun e => by cases e⟩
  · rw [if_neg hg]
    refine ⟨h.t0, h.t1, h.a0, h.a1, h.m0, h.m1, by have := h.n0; show 0 ≤ L.n + 1; omega, by have := h.n1; show L.n + 1 ≤ _; omega, fun e => ?_⟩
    exact if_neg (of_decide_eq_false e)
theorem cas_len (M : Wm) (t a o v : Int) : (M.cas t a o v).W.length = M.W.length := by
  unfold Wm.cas; split <;> exact Wm.len_put ..
theorem cas_log (M : Wm) (t a o v : Int) : (M.cas t a o v).L.length = M.L.length + 1 := by
  unfold Wm.cas; split <;> simp [Wm.put]
theorem mem_len (L : Lk) (M : Wm) : (L.mem M).W.length = M.W.length := by
  unfold Lk.mem; split
  · rfl
  · exact cas_len ..
theorem mem_log (L : Lk) (M : Wm) : (L.mem M).L.length ≤ M.L.length + 1 := by
  unfold Lk.mem; split
  · exact Nat.le_succ _
  · exact Nat.le_of_eq (cas_log ..)
theorem un_len (M : Wm) (t a : Int) : (unM M t a).W.length = M.W.length := by
  unfold unM; split
  · exact Wm.len_put ..
  · rfl
theorem un_log (M : Wm) (t a : Int) : (unM M t a).L.length ≤ M.L.length + 1 := by
  unfold unM; split
  · simp [Wm.stor, Wm.put]
  · exact Nat.le_succ _
theorem Mb.mem {M : Wm} (h : Mb M) {L : Lk} {k : Nat} {N : Int} (hL : L.Ok k N) (hk : k ≤ 65536) : Mb (L.mem M) := by
  unfold Lk.mem; split
  · exact h
  · have t0 := hL.t0
    have t1 := hL.t1
    have a0 := hL.a0
    have a1 := hL.a1
    unfold Wm.cas; split
    · exact h.put ⟨by omega, by omega⟩ ⟨by omega, by omega⟩ ⟨by omega, by omega⟩ ⟨by omega, by omega⟩
    · exact h.put ⟨by omega, by omega⟩ ⟨by omega, by omega⟩ ⟨by omega, by omega⟩ (Wm.get_bd h.w _)
theorem Mb.un {M : Wm} (h : Mb M) (t a : Int) (hk : M.W.length ≤ 65536) : Mb (unM M t a) := by
  unfold unM; split
  · rename_i h1
    unfold unE at h1
    by_cases he : M.err t a = 0
    · obtain ⟨t0, t1, a0, a1⟩ := Wm.err_zero he
      exact h.put ⟨by omega, by omega⟩ ⟨by omega, by omega⟩ ⟨by omega, by omega⟩ ⟨by omega, by omega⟩
    · rw [if_neg he] at h1; exact absurd h1 he
  · exact h
end Lt
end Go.Proofs.Ytjocbmoelkobaaa
