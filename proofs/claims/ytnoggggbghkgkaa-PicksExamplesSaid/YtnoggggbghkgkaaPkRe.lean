/- Lists returned with an error: one form for the code and the reference; few of leapfroglaw10. Conditions: those of each lemma. -/
import Derived.Test.YtnoggggbghkgkaaPkRg
namespace Go.Proofs.Ytnoggggbghkgkaa
open Go.RowKit Go.Shelf Go.Sort
set_option linter.unusedVariables false
set_option linter.unusedSimpArgs false
namespace Pk
open Wk
open Dm (RdK BdI bel_alloc bel_trans cell_lt flatI info info_parts row_rd app1 appAll addr_lit ret_eq)
/-- a list of n numbers and an error -/
def EfPost (er : Int) (n : Nat) (l : List Int) (w : World) (e : Ending) (w' : World) : Prop := ∃ A c, e = .returned (.tuple #[.slice A n c, .int .i64 er]) ∧ (A = none → c = 0) ∧ Li w' A n l ∧ Below w.heap.size w w' ∧ w'.ownsRow w.heap.size 3 1 (.slice A n c) n (flatI l)
theorem ef_of {er : Int} {l : List Int} {n m : Nat} {w w' : World} {e : Ending} (h : (if er = 0 then ∃ v, e = .returned (.tuple #[v, .int .i64 0]) ∧ w'.ownsRow w.heap.size 3 1 v n (flatI l) else e = .returned (.tuple #[.slice none 0 0, .int .i64 er])) ∧ Below w.heap.size w w') (hn : er = 0 → l.length = n ∧ n ≤ 100000) (hm : (if er = 0 then l else []).length = m) : EfPost er m (if er = 0 then l else []) w e w' := by
  obtain ⟨h, hb⟩ := h
  by_cases h0 : er = 0
  · subst h0
    rw [if_pos rfl] at h hm ⊢
    obtain ⟨v, rfl, ow⟩ := h
    obtain ⟨hl, hx⟩ := hn rfl
    obtain rfl : m = n := by omega
    have ow' := ow
    obtain ⟨A, c, rfl, h1, _, h2, h3⟩ := row_li ow hx
    exact ⟨A, c, rfl, h2, h3, hb, ow'⟩
  · rw [if_neg h0] at h hm ⊢
    simp at hm
    subst hm
    exact ⟨none, 0, h, fun _ => rfl, ⟨fun k hk => by simp at hk, rfl, by omega⟩, hb, World.ownsRow_nil _ _ _ _⟩
/-- a call of the code and one of the reference return the same -/
theorem mk_same (t n : Int) (L : List Int) (hL : L.length = n.toNat) : ∃ er m l, ∀ w e w', MkPost t n L w e w' → EfPost er m l w e w' :=
  ⟨_, _, _, fun w e w' h => ef_of (h : _ ∧ _) (fun h0 => by have := fitE_ok h0; exact ⟨hL, by omega⟩) rfl⟩
theorem cho_same (t : Int) (xs : List Int) : ∃ er m l, ∀ w e w', ChoPost t xs w e w' → EfPost er m l w e w' :=
  ⟨_, _, _, fun w e w' h => ef_of (h : _ ∧ _) (fun h0 => by have := fitE_ok h0; exact ⟨by simp [chI], by omega⟩) rfl⟩
theorem cnt_same (t : Int) (xs : List Int) : ∃ er m l, ∀ w e w', CntPost t xs w e w' → EfPost er m l w e w' :=
  ⟨_, _, _, fun w e w' h => ef_of (h : _ ∧ _) (fun h0 => by have := fitE_ok h0; exact ⟨by simp [cntL], by omega⟩) rfl⟩
theorem wo_same (t k : Int) (xs : List Int) : ∃ er m l, ∀ w e w', WoPost t k xs w e w' → EfPost er m l w e w' :=
  ⟨_, _, _, fun w e w' h => ef_of (h : _ ∧ _) (fun h0 => by have := fitT_ok h0; have := woL_len t k xs; exact ⟨rfl, by omega⟩) rfl⟩
theorem ex_len {xs : List Int} (h : fcE xs = 0) : (exN xs (xs.length / 2)).length ≤ 65536 := by
  obtain ⟨_, hc⟩ := fcE_zero h
  have e1 := exN_len (l := xs) (xs.length / 2) fun i hi => (hc i hi).1
  rcases Nat.eq_zero_or_pos (xs.length / 2) with g | g
  · rw [g]; exact Nat.zero_le _
  · obtain ⟨j, hj⟩ : ∃ j, xs.length / 2 = j + 1 := ⟨xs.length / 2 - 1, by omega⟩
    have e2 := hc j (by omega)
    have e3 : sm xs (j + 1) = sm xs j + cnt xs j := rfl
    rw [hj] at e1 ⊢
    omega
theorem ex_same (xs : List Int) : ∃ er m l, ∀ w e w', ExPost xs w e w' → EfPost er m l w e w' :=
  ⟨_, _, _, fun w e w' h => ef_of (h : _ ∧ _) (fun h0 => ⟨rfl, by have := ex_len h0; omega⟩) rfl⟩
/-- how many of n picks are taken -/
def fw (n : Nat) : Nat := if 65536 < n then 65537 else min n 400
theorem fw_le (n : Nat) : fw n ≤ n ∧ fw n ≤ 65537 := by unfold fw; split <;> omega
set_option maxRecDepth 100000 in
set_option maxHeartbeats 1000000 in
theorem few_any (A : Option Addr) (n c : Nat) (l : List Int) (w : World) (hl : l.length = n) (hn : n ≤ c ∧ c ≤ maxLen) (hr : RdK .i64 w A l) (hz : A = none → c = 0) :
    Calls Try.prog 11 #[.slice A n c] w fun e w' => ∃ B d, e = .returned (.slice B (fw n) d) ∧ (B = none → d = 0) ∧ Li w' B (fw n) (l.take (fw n)) ∧ Below w.heap.size w w' := by
  have hf := fw_le n
  obtain ⟨h1, h2⟩ := hn
  unfold maxLen at h2
  have L0 := li_take hr hl (show fw n ≤ n by omega) (by omega)
  have CP := Lib.hid ((copy_any A (fw n) c (l.take (fw n)) w L0.ln (by omega) L0.rd hz).mono (R' := fun e w' => ∃ B d, e = .returned (.slice B (fw n) d) ∧ (B = none → d = 0) ∧ Li w' B (fw n) (l.take (fw n)) ∧ Below w.heap.size w w') fun e w' ⟨v, e1, ow, hb⟩ => by
    obtain ⟨B, d, rfl, _, _, z, li⟩ := row_li ow (by omega)
    exact ⟨B, d, e1, z, li, hb⟩)
  obtain ⟨L, hL⟩ : ∃ L, l.take (fw n) = L := ⟨_, rfl⟩
  rw [hL] at CP ⊢
  have TR := take_run A n (fw n) c (by omega) h1
  clear hL L0 hf hr hl hz
  by_cases h : 65536 < n
  · have e0 : decide ((n : Int) > 65536) = true := decide_eq_true (by omega)
    have e1 : decide ((65536 : Int) < n) = true := decide_eq_true (by omega)
    have e2 : (65536 : Int) < n := by omega
    have FE := Lib.hid (show 65537 = fw n by unfold fw; rw [if_pos h])
    obtain ⟨f, hf⟩ : ∃ f, fw n = f := ⟨_, rfl⟩
    rw [hf] at CP TR FE ⊢
    clear hf
    obtain rfl := FE.out
    have TR' : ∀ w : World, (Instr.sliceAt 22 (.slice A n c) none (some (.int .i64 65537)) none).run Try.prog w = .ok (.slice A 65537 c) w := TR
    clear TR
    go_enter Try.func11, Try.ntmps11
    go_wp2_with fail
    refine CP.out.mono ?_
    rintro e w' ⟨B, d, rfl, z, li, hb⟩
    have LI := Lib.hid li
    clear li
    go_wp2
    go_ret
    exact ⟨B, d, rfl, z, LI.out, hb⟩
  · have e0 : decide ((n : Int) > 65536) = false := decide_eq_false (by omega)
    have e1 : decide ((65536 : Int) < n) = false := decide_eq_false (by omega)
    have e2 : ¬ (65536 : Int) < n := by omega
    have e4 : ¬ 65536 < n := h
    have FE := Lib.hid (show min n 400 = fw n by unfold fw; rw [if_neg h])
    have hmin : min (n : Int) 400 = ((fw n : Nat) : Int) := by rw [← FE.out]; omega
    obtain ⟨f, hf⟩ : ∃ f, fw n = f := ⟨_, rfl⟩
    rw [hf] at CP TR hmin ⊢
    clear hf FE
    go_enter Try.func11, Try.ntmps11
    go_wp2_with fail
    refine CP.out.mono ?_
    rintro e w' ⟨B, d, rfl, z, li, hb⟩
    have LI := Lib.hid li
    clear li
    go_wp2
    go_ret
    exact ⟨B, d, rfl, z, LI.out, hb⟩
end Pk
end Go.Proofs.Ytnoggggbghkgkaa
