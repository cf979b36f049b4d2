/- The walk of the law OmapMoves (written by tools/mk3om.py), from the contracts of package omap (XOmC), XOmJ, XOmT, XOmU. Conditions: those of the contracts. -/
import Derived.Test.YthinaablldnikaaOmU
import Derived.Test.YthinaablldnikaaWkOm1
import Derived.Deep.RegionHeld3
import Derived.Deep.AppendLies
namespace Go.Proofs.Ythinaablldnikaa
open Go.RowKit Go.Sort
set_option linter.unusedVariables false
set_option linter.unusedSimpArgs false
namespace Om
theorem inL_snoc (l : List Pr) (x : Pr) (lo hi : Int) : inL (l ++ [x]) lo hi = inL l lo hi ++ (if lo ≤ x.1 ∧ x.1 ≤ hi then [x] else []) := by
  unfold inL
  rw [List.filter_append]
  congr 1
  by_cases h : lo ≤ x.1 ∧ x.1 ≤ hi
  · rw [if_pos h]; simp [inB, h]
  · rw [if_neg h]; simp [inB]; omega
theorem BdU.snoc {l : List Int} (h : BdU l) {x : Int} (h1 : 0 ≤ x) (h2 : x ≤ 18446744073709551615) : BdU (l ++ [x]) := fun y hy => by
  rcases List.mem_append.1 hy with hy | hy
  · exact h y hy
  · obtain rfl : y = x := by simpa using hy
    exact ⟨h1, h2⟩
theorem BdU.one {x : Int} (h1 : 0 ≤ x) (h2 : x ≤ 18446744073709551615) : BdU [x] := fun y hy => by
  obtain rfl : y = x := by simpa using hy
  exact ⟨h1, h2⟩
theorem rowU_below {w w' : World} {B n : Nat} {t : TypeId} {v : Value} {xs : List Value} (h : w.ownsRow B t 1 v n xs) (hb : Below w.heap.size w w') : w'.ownsRow B t 1 v n xs := by
  refine ⟨h.1, ?_⟩
  rcases h.2 with h' | ⟨g, cap, cur, e, hbase, hh, r⟩
  · exact .inl h'
  · subst e
    exact .inr ⟨g, cap, cur, rfl, hbase, (hb.block g (h.lt g rfl).2).trans hh, r⟩
theorem step1U {ops : Array Oper} {o : Oper} {a : Act} {K : Act → World → Prop} {Q : Exit → Act → World → Prop} {E : Prop} (hgd : o.guard = none) (s x : Operand)
    (ho : o.op = .call { callee := .builtin .append, args := #[s, x], argTypes := #[64, 64] }) (W : World) (base n : Nat) (v : Value) (ys : List Int) (y : Int)
    (hs : a.eval s = v) (hx : a.eval x = .slice (some ⟨W.heap.size, 0, none⟩) 1 1) (hown : W.ownsRow base 33 1 v n (flatU ys)) (hn : n ≤ 2000) (hb : base ≤ W.heap.size)
    (h : ∀ v' w', w'.ownsRow base 33 1 v' (n + 1) (flatU (ys ++ [y])) → Below base W w' → K (a.put o.dst v') w') :
    if Region.wanted o (yielded ops a.tmps) = true then Oper.wp Try.prog o a (W.alloc (.cells #[.int .u64 y] 33)).drew K Q else E := by
  obtain ⟨i0, hi, hz0, hz1, hz2⟩ := info_parts infoU
  refine step_append_lies _ hgd s x 64 ho base 33 i0 _ 1 8 Try.underlying64 hi hz0 hz1 hz2 rfl (by omega) v n (flatU ys) hs ((hown.alloc _).drew) ⟨W.heap.size, 0, none⟩ 1 1 [.int .u64 y] hx rfl
    (World.news_of_block (cs := #[.int .u64 y]) (t := 33) (fr := (0, 0)) (heap_alloc_new W _)) ?_ (by omega) (by unfold maxLen; omega) (by omega) (by show base ≤ (W.alloc _).heap.size; simp; omega) _ rfl ?_
  · intro u hu
    simp at hu
    subst hu
    rfl
  · intro g cap w' h1 h2 _ _
    rw [show flatU ys ++ [.int .u64 y] = flatU (ys ++ [y]) by simp [flatU]] at h1
    refine h _ w' h1 ((below_drewN ((Below.refl _ _).alloc hb _) 1).grown h2 (by show base ≤ (W.alloc _).heap.size; simp; omega) fun k hk => ?_)
    exact (hown.lt k hk).1
end Om
namespace Wk
open Om
set_option maxRecDepth 100000 in
set_option maxHeartbeats 4000000 in
theorem walk_omapMoves (a0 : Option Addr) (a0n a0c : Nat) (a0v : List Om.Pr) (a1Lo : Int) (a1Hi : Int) (a2Key : Int) (a2By : Int) (w : World) (a0e : a0v.length = a0n) (a0m : a0n ≤ maxLen) (a0r : Om.Rd w a0 a0v) (a0b : Om.Bd a0v) (a0z : a0 = none → a0c = 0) (a0s : a0n * 16 ≤ 140737488351232) (a1Lol : 0 ≤ a1Lo) (a1Loh : a1Lo ≤ 18446744073709551615) (a1Hil : 0 ≤ a1Hi) (a1Hih : a1Hi ≤ 18446744073709551615) (a2Keyl : 0 ≤ a2Key) (a2Keyh : a2Key ≤ 18446744073709551615) (a2Byl : 0 ≤ a2By) (a2Byh : a2By ≤ 18446744073709551615) :
    Calls Try.prog 6 #[.slice a0 a0n a0c, .agg #[.int .u64 a1Lo, .int .u64 a1Hi], .agg #[.int .u64 a2Key, .int .u64 a2By]] w fun e w' => e = .returned (.bool true) ∧ Below w.heap.size w w' := by
  have HE := Lib.hid a0e; clear a0e
  have HR := Lib.hid a0r; clear a0r
  have HSZ := Lib.hid a0s; clear a0s
  have HBD := Lib.hid (maL_bd a0b); clear a0b
  have HA := Lib.hid (maL_asc a0v)
  have HN : a0n ≤ 2 ^ 63 - 1 := a0m
  clear a0z a0m
  have b0 : Below w.heap.size w ((w.alloc (.cells #[.int .u64 a1Lo, .int .u64 a1Hi] 41)).alloc (.cells #[.int .u64 a2Key, .int .u64 a2By] 61)) := bel_alloc (bel_alloc (Below.refl _ _) _) _
  have E0 := Lib.hid (show ((w.alloc (.cells #[.int .u64 a1Lo, .int .u64 a1Hi] 41)).alloc (.cells #[.int .u64 a2Key, .int .u64 a2By] 61)).cell? ⟨w.heap.size, 0, none⟩ = some (.int .u64 a1Lo) by simp)
  have E1 := Lib.hid (show ((w.alloc (.cells #[.int .u64 a1Lo, .int .u64 a1Hi] 41)).alloc (.cells #[.int .u64 a2Key, .int .u64 a2By] 61)).cell? ⟨w.heap.size, 1, none⟩ = some (.int .u64 a1Hi) by simp)
  have E2 := Lib.hid (show ((w.alloc (.cells #[.int .u64 a1Lo, .int .u64 a1Hi] 41)).alloc (.cells #[.int .u64 a2Key, .int .u64 a2By] 61)).cell? ⟨w.heap.size + 1, 0, none⟩ = some (.int .u64 a2Key) by simp)
  have E3 := Lib.hid (show ((w.alloc (.cells #[.int .u64 a1Lo, .int .u64 a1Hi] 41)).alloc (.cells #[.int .u64 a2Key, .int .u64 a2By] 61)).cell? ⟨w.heap.size + 1, 1, none⟩ = some (.int .u64 a2By) by simp)
  by_cases h1 : 60 < a0n
  · have t1 : decide (60 < (a0n : Int)) = true := decide_eq_true (by omega)
    go_enter Try.func6, Try.ntmps6
    go_wp2_with fail
    refine (made_any _ _ _ a0v _ HE.out HSZ.out (HR.out.below b0)).mono ?_
    intro r W0 h
    obtain ⟨p, rfl, b1⟩ := h.any
    clear h
    have e0 := (b1.cell (p := ⟨w.heap.size, 0, none⟩) (by simp <;> omega)).trans E0.out
    have e1 := (b1.cell (p := ⟨w.heap.size, 1, none⟩) (by simp <;> omega)).trans E1.out
    have e2 := (b1.cell (p := ⟨w.heap.size + 1, 0, none⟩) (by simp <;> omega)).trans E2.out
    have e3 := (b1.cell (p := ⟨w.heap.size + 1, 1, none⟩) (by simp <;> omega)).trans E3.out
    go_wp2_with fail
    refine (known_any _).mono ?_
    rintro r W1 ⟨rfl, b2⟩
    go_wp2
    go_ret
    exact ⟨rfl, bel_trans (bel_trans b0 b1) b2⟩
  have t1 : decide (60 < (a0n : Int)) = false := decide_eq_false (by omega)
  by_cases h2 : a1Hi < a1Lo
  · have t2 : decide (a1Hi < a1Lo) = true := decide_eq_true (by omega)
    go_enter Try.func6, Try.ntmps6
    go_wp2_with fail
    refine (made_any _ _ _ a0v _ HE.out HSZ.out (HR.out.below b0)).mono ?_
    intro r W0 h
    obtain ⟨p, rfl, b1⟩ := h.any
    clear h
    have e0 := (b1.cell (p := ⟨w.heap.size, 0, none⟩) (by simp <;> omega)).trans E0.out
    have e1 := (b1.cell (p := ⟨w.heap.size, 1, none⟩) (by simp <;> omega)).trans E1.out
    have e2 := (b1.cell (p := ⟨w.heap.size + 1, 0, none⟩) (by simp <;> omega)).trans E2.out
    have e3 := (b1.cell (p := ⟨w.heap.size + 1, 1, none⟩) (by simp <;> omega)).trans E3.out
    go_wp2_with fail
    refine (known_any _).mono ?_
    rintro r W1 ⟨rfl, b2⟩
    go_wp2
    go_ret
    exact ⟨rfl, bel_trans (bel_trans b0 b1) b2⟩
  have t2 : decide (a1Hi < a1Lo) = false := decide_eq_false (by omega)
  by_cases h3 : a2By = 0
  · have t3 : (a2By == 0) = true := by simp [h3]
    clear h3
    go_enter Try.func6, Try.ntmps6
    go_wp2_with fail
    refine (made_any _ _ _ a0v _ HE.out HSZ.out (HR.out.below b0)).mono ?_
    intro r W0 h
    obtain ⟨p, rfl, b1⟩ := h.any
    clear h
    have e0 := (b1.cell (p := ⟨w.heap.size, 0, none⟩) (by simp <;> omega)).trans E0.out
    have e1 := (b1.cell (p := ⟨w.heap.size, 1, none⟩) (by simp <;> omega)).trans E1.out
    have e2 := (b1.cell (p := ⟨w.heap.size + 1, 0, none⟩) (by simp <;> omega)).trans E2.out
    have e3 := (b1.cell (p := ⟨w.heap.size + 1, 1, none⟩) (by simp <;> omega)).trans E3.out
    go_wp2_with fail
    refine (known_any _).mono ?_
    rintro r W1 ⟨rfl, b2⟩
    go_wp2
    go_ret
    exact ⟨rfl, bel_trans (bel_trans b0 b1) b2⟩
  have t3 : (a2By == 0) = false := by simp [h3]
  by_cases h4 : 18446744073709551615 - a1Hi < a2By
  · have t4 : decide (18446744073709551615 - a1Hi < a2By) = true := decide_eq_true (by omega)
    clear h3
    go_enter Try.func6, Try.ntmps6
    go_wp2_with fail
    refine (made_any _ _ _ a0v _ HE.out HSZ.out (HR.out.below b0)).mono ?_
    intro r W0 h
    obtain ⟨p, rfl, b1⟩ := h.any
    clear h
    have e0 := (b1.cell (p := ⟨w.heap.size, 0, none⟩) (by simp <;> omega)).trans E0.out
    have e1 := (b1.cell (p := ⟨w.heap.size, 1, none⟩) (by simp <;> omega)).trans E1.out
    have e2 := (b1.cell (p := ⟨w.heap.size + 1, 0, none⟩) (by simp <;> omega)).trans E2.out
    have e3 := (b1.cell (p := ⟨w.heap.size + 1, 1, none⟩) (by simp <;> omega)).trans E3.out
    go_wp2_with fail
    refine (known_any _).mono ?_
    rintro r W1 ⟨rfl, b2⟩
    go_wp2
    go_ret
    exact ⟨rfl, bel_trans (bel_trans b0 b1) b2⟩
  have t4 : decide (18446744073709551615 - a1Hi < a2By) = false := decide_eq_false (by omega)
  have hle : a1Lo ≤ a1Hi := by omega
  have hs1 : a1Hi + a2By ≤ 18446744073709551615 := by omega
  have M1 := Lib.hid (show moE a1Lo a1Hi a2By = 0 by unfold moE; rw [if_neg (by omega), if_neg (by omega)])
  have HLEN := Lib.hid (show (maL a0v).length ≤ 60 by have := maL_len a0v; have := HE.out; omega)
  clear h2 h3 h4
  go_enter Try.func6, Try.ntmps6
  go_wp2_with fail
  refine (made_any _ _ _ a0v _ HE.out HSZ.out (HR.out.below b0)).mono ?_
  intro r W0 h
  obtain ⟨bm, v, rfl, hs⟩ := Stb.start (B := w.heap.size + 2) (by simp) (by simp) (h.some_ (by have := HE.out; omega))
  have HS := Lib.hid hs; clear hs h
  generalize hml : maL a0v = l at *
  clear hml
  have e0 := (HS.out.bel.cell (p := ⟨w.heap.size, 0, none⟩) (show w.heap.size < w.heap.size + 2 by omega)).trans E0.out
  have e1 := (HS.out.bel.cell (p := ⟨w.heap.size, 1, none⟩) (show w.heap.size < w.heap.size + 2 by omega)).trans E1.out
  have e2 := (HS.out.bel.cell (p := ⟨w.heap.size + 1, 0, none⟩) (show w.heap.size + 1 < w.heap.size + 2 by omega)).trans E2.out
  have e3 := (HS.out.bel.cell (p := ⟨w.heap.size + 1, 1, none⟩) (show w.heap.size + 1 < w.heap.size + 2 by omega)).trans E3.out
  go_wp2_with fail
  refine (pairsC_any _ _ _ _ HS.out.m (by have := HLEN.out; omega)).mono ?_
  rintro r W1 ⟨q, rfl, hq, b1⟩
  have R1 := Lib.hid (Rv.fresh HS.out hq); clear hq
  have HS := Lib.hid (HS.out.below b1); clear b1
  have e0 := (HS.out.bel.cell (p := ⟨w.heap.size, 0, none⟩) (show w.heap.size < w.heap.size + 2 by omega)).trans E0.out
  have e1 := (HS.out.bel.cell (p := ⟨w.heap.size, 1, none⟩) (show w.heap.size < w.heap.size + 2 by omega)).trans E1.out
  have e2 := (HS.out.bel.cell (p := ⟨w.heap.size + 1, 0, none⟩) (show w.heap.size + 1 < w.heap.size + 2 by omega)).trans E2.out
  have e3 := (HS.out.bel.cell (p := ⟨w.heap.size + 1, 1, none⟩) (show w.heap.size + 1 < w.heap.size + 2 by omega)).trans E3.out
  go_wp2_with fail
  refine (moC_any _ _ _ a1Lo a1Hi a2By _ HS.out.m HA.out (by have := HLEN.out; omega) HBD.out a1Lol a1Loh a1Hil a1Hih a2Byl a2Byh).mono ?_
  intro r W2 h
  rw [show moL l a1Lo a1Hi a2By = mvL l a1Lo a1Hi a2By by unfold moL; rw [M1.out]; rfl] at h
  unfold moT at h
  rw [M1.out] at h
  obtain ⟨v1, rfl, hs, hrw⟩ := HS.out.left' h
  have R1 := Lib.hid (hrw _ _ R1.out); clear hrw
  have HS := Lib.hid hs; clear hs h
  have L1 := Lib.hid (show (mvL l a1Lo a1Hi a2By).length ≤ 60 from Nat.le_trans (mvL_len_le _ _ _ _) HLEN.out)
  have A1 := Lib.hid (mvL_asc HA.out a1Lo a1Hi a2By)
  have B1 := Lib.hid (shL_bd (lo := a1Lo) HBD.out a2Byl hs1)
  have G := fun k => Lib.hid (mv_or HA.out a1Lo a1Hi a2By k)
  generalize mvL l a1Lo a1Hi a2By = l1 at *
  have e0 := (HS.out.bel.cell (p := ⟨w.heap.size, 0, none⟩) (show w.heap.size < w.heap.size + 2 by omega)).trans E0.out
  have e1 := (HS.out.bel.cell (p := ⟨w.heap.size, 1, none⟩) (show w.heap.size < w.heap.size + 2 by omega)).trans E1.out
  have e2 := (HS.out.bel.cell (p := ⟨w.heap.size + 1, 0, none⟩) (show w.heap.size + 1 < w.heap.size + 2 by omega)).trans E2.out
  have e3 := (HS.out.bel.cell (p := ⟨w.heap.size + 1, 1, none⟩) (show w.heap.size + 1 < w.heap.size + 2 by omega)).trans E3.out
  go_wp2_with fail
  refine (pairsC_any _ _ _ _ HS.out.m (by have := L1.out; omega)).mono ?_
  rintro r W3 ⟨q1, rfl, hq, b1⟩
  have R2 := Lib.hid (Rv.fresh HS.out hq); clear hq
  have R1 := Lib.hid (R1.out.below b1)
  have HS := Lib.hid (HS.out.below b1); clear b1
  obtain ⟨A, c, rfl, hc, rd⟩ := R1.out.rd
  have RD := Lib.hid rd; clear rd
  obtain ⟨A', c', rfl, hc', rd⟩ := R2.out.rd
  have RD' := Lib.hid rd; clear rd
  have e0 := (HS.out.bel.cell (p := ⟨w.heap.size, 0, none⟩) (show w.heap.size < w.heap.size + 2 by omega)).trans E0.out
  have e1 := (HS.out.bel.cell (p := ⟨w.heap.size, 1, none⟩) (show w.heap.size < w.heap.size + 2 by omega)).trans E1.out
  have e2 := (HS.out.bel.cell (p := ⟨w.heap.size + 1, 0, none⟩) (show w.heap.size + 1 < w.heap.size + 2 by omega)).trans E2.out
  have e3 := (HS.out.bel.cell (p := ⟨w.heap.size + 1, 1, none⟩) (show w.heap.size + 1 < w.heap.size + 2 by omega)).trans E3.out
  go_wp2_with fail
  refine (ascending_yes A _ c l _ rfl (by have := HLEN.out; omega) RD.out HA.out).mono ?_
  rintro r W4 ⟨rfl, b4⟩
  have HS := Lib.hid (HS.out.below b4)
  have RD := Lib.hid (RD.out.below b4)
  have RD' := Lib.hid (RD'.out.below b4)
  have e0 := (HS.out.bel.cell (p := ⟨w.heap.size, 0, none⟩) (show w.heap.size < w.heap.size + 2 by omega)).trans E0.out
  have e1 := (HS.out.bel.cell (p := ⟨w.heap.size, 1, none⟩) (show w.heap.size < w.heap.size + 2 by omega)).trans E1.out
  have e2 := (HS.out.bel.cell (p := ⟨w.heap.size + 1, 0, none⟩) (show w.heap.size + 1 < w.heap.size + 2 by omega)).trans E2.out
  have e3 := (HS.out.bel.cell (p := ⟨w.heap.size + 1, 1, none⟩) (show w.heap.size + 1 < w.heap.size + 2 by omega)).trans E3.out
  go_wp2_with fail
  refine (ascending_yes A' _ c' l1 _ rfl (by have := L1.out; omega) RD'.out A1.out).mono ?_
  rintro r W5 ⟨rfl, b5⟩
  have HS := Lib.hid (HS.out.below b5)
  have RD := Lib.hid (RD.out.below b5)
  have RD' := Lib.hid (RD'.out.below b5)
  clear R1 R2 b4 b5 e0 e1 e2 e3
  have e0 := (HS.out.bel.cell (p := ⟨w.heap.size, 0, none⟩) (show w.heap.size < w.heap.size + 2 by omega)).trans E0.out
  have e1 := (HS.out.bel.cell (p := ⟨w.heap.size, 1, none⟩) (show w.heap.size < w.heap.size + 2 by omega)).trans E1.out
  have e2 := (HS.out.bel.cell (p := ⟨w.heap.size + 1, 0, none⟩) (show w.heap.size + 1 < w.heap.size + 2 by omega)).trans E2.out
  have e3 := (HS.out.bel.cell (p := ⟨w.heap.size + 1, 1, none⟩) (show w.heap.size + 1 < w.heap.size + 2 by omega)).trans E3.out
  have hz1 : ((l.length : Nat) : Int) ≤ 60 := by have := HLEN.out; omega
  have hz2 : ((l1.length : Nat) : Int) ≤ 60 := by have := L1.out; omega
  go_wp2
  go_loopw [12, 13, 14] (fun n q i wr => ∃ k ks, k ≤ l.length ∧ n = .int .i64 ((inL (l.take k) a1Lo a1Hi).length : Int) ∧ i = .int .i64 (k : Int) ∧ ks.length ≤ 1 + 2 * k ∧ BdU ks ∧ wr.ownsRow W5.heap.size 33 1 q ks.length (flatU ks) ∧ Below W5.heap.size W5 wr) (fun _ _ i _ => l.length - (intOf i).toNat)
  case atStart => exact ⟨0, [a2Key], Nat.zero_le _, rfl, rfl, by simp, BdU.one a2Keyl a2Keyh, rowU_one W5 a2Key, bel_alloc (Below.refl _ _) _⟩
  case round =>
    clear e0 e1 e2 e3
    obtain ⟨k, ks, hk, rfl, rfl, hkl, hkb, hrow, bel⟩ := hrel
    have HK := Lib.hid hkb; clear hkb
    have HW := Lib.hid hrow; clear hrow
    have e0 := ((HS.out.below bel).bel.cell (p := ⟨w.heap.size, 0, none⟩) (show w.heap.size < w.heap.size + 2 by omega)).trans E0.out
    have e1 := ((HS.out.below bel).bel.cell (p := ⟨w.heap.size, 1, none⟩) (show w.heap.size < w.heap.size + 2 by omega)).trans E1.out
    have e2 := ((HS.out.below bel).bel.cell (p := ⟨w.heap.size + 1, 0, none⟩) (show w.heap.size + 1 < w.heap.size + 2 by omega)).trans E2.out
    have e3 := ((HS.out.below bel).bel.cell (p := ⟨w.heap.size + 1, 1, none⟩) (show w.heap.size + 1 < w.heap.size + 2 by omega)).trans E3.out
    by_cases hlt : k < l.length
    · have u0 : decide ((k : Int) < l.length) = true := decide_eq_true (by omega)
      have hki : (k : Int) < l.length := by omega
      obtain ⟨x, hx, hmem⟩ := getElem?_lt rfl hlt
      obtain ⟨d0, d1, d2, d3⟩ := HBD.out x hmem
      have TK := Lib.hid (show inL (l.take (k + 1)) a1Lo a1Hi = inL (l.take k) a1Lo a1Hi ++ (if a1Lo ≤ x.1 ∧ x.1 ≤ a1Hi then [x] else []) by rw [take_succ' hx]; exact inL_snoc _ _ _ _)
      obtain ⟨b, o, rfl, c0, c1⟩ := (RD.out.below bel) k x hx
      obtain ⟨bw, ow, ew, cw0, _⟩ := RD.out k x hx
      cases ew
      have lb : b < W5.heap.size := World.block_lt_of_cell? _ _ cw0
      have HX := Lib.hid hx
      clear hx hmem cw0
      by_cases hin : a1Lo ≤ x.1 ∧ x.1 ≤ a1Hi
      · have u1 : decide (a1Lo ≤ x.1) = true := decide_eq_true hin.1
        have u2 : decide (x.1 ≤ a1Hi) = true := decide_eq_true hin.2
        replace TK := Lib.hid (TK.out.trans (by rw [if_pos hin]))
        have s1 : IntKind.u64.wrap (x.1 + a2By) = x.1 + a2By := IntWalk.u64_in _ (by omega)
        have hlen : (inL (l.take k) a1Lo a1Hi).length ≤ 60 := by have h1 := in_out_len (l.take k) a1Lo a1Hi; have h2 := List.length_take_le k l; omega
        go_wp2
        go_quiet (fail)
        have bd := below_drewN (Below.refl wr.heap.size wr) nq
        have bel5 := below_drewN bel nq
        have HW5 := Lib.hid (rowU_below HW.out bd)
        have c0 := (bd.cell (p := ⟨b, o + k * 2, none⟩) (World.block_lt_of_cell? _ _ c0)).trans c0
        have e3 := (bd.cell (p := ⟨w.heap.size + 1, 1, none⟩) (World.block_lt_of_cell? _ _ e3)).trans e3
        clear c1 e0 e1 e2 bd HW
        generalize wr.drewN nq = w6 at *
        go_wp2
        have l3 : w.heap.size + 1 < W5.heap.size := by have := HS.out.size; omega
        go_region_held3 (fun w' => w'.cell? ⟨b, o + k * 2, none⟩ = some (.int .u64 x.1) ∧ w'.cell? ⟨w.heap.size + 1, 1, none⟩ = some (.int .u64 a2By)) (first | exact ⟨m0, m1⟩ | go_keep) ((refine step1U (by rfl) (.tmp 103) (.tmp 112) (by rfl) w6 W5.heap.size ks.length _ ks (x.1 + a2By) (by rfl) (by rfl) HW5.out (by omega) bel5.size ?_; intro v7 w7 own7 bel7; have m0 := (bel7.cell (p := ⟨b, o + k * 2, none⟩) lb).trans c0; have m1 := (bel7.cell (p := ⟨w.heap.size + 1, 1, none⟩) l3).trans e3))
        have bel7 := bel5.trans bel7
        have HW7 := Lib.hid own7; clear own7
        clear c0 e3 bel5 HW5
        obtain ⟨b', o', e', c0, c1⟩ := (RD.out.below bel7) k x HX.out
        cases e'
        go_wp2_with (at_builtin; refine app1U rfl (.tmp 114) (.tmp 120) rfl w7 W5.heap.size _ _ (ks ++ [x.1 + a2By]) x.1 rfl rfl HW7.out (by omega) bel7.size ?_; intro v8 w8 h1 b8; have HW8 := Lib.hid h1; clear h1)
        go_roundw
        case rel => exact ⟨k + 1, ks ++ [x.1 + a2By] ++ [x.1], by omega, by rw [TK.out, List.length_append]; rfl, by go_num, by simp; omega, (HK.out.snoc (by omega) (by omega)).snoc d0 d1, by simpa using HW8.out, bel7.trans b8⟩
        case measure => simp [intOf]; omega
      by_cases hlo : a1Lo ≤ x.1
      · have hhi : a1Hi < x.1 := by omega
        have u1 : decide (a1Lo ≤ x.1) = true := decide_eq_true hlo
        have u2 : decide (x.1 ≤ a1Hi) = false := decide_eq_false (by omega)
        replace TK := Lib.hid (TK.out.trans (by rw [if_neg hin, List.append_nil]))
        go_wp2
        go_quiet (fail)
        have bd := below_drewN (Below.refl wr.heap.size wr) nq
        have bel5 := below_drewN bel nq
        have HW5 := Lib.hid (rowU_below HW.out bd)
        have c0 := (bd.cell (p := ⟨b, o + k * 2, none⟩) (World.block_lt_of_cell? _ _ c0)).trans c0
        clear c1 e0 e1 e2 e3 bd HW
        generalize wr.drewN nq = w7 at *
        go_wp2_with (at_builtin; refine app1U rfl (.tmp 114) (.tmp 120) rfl w7 W5.heap.size _ _ ks x.1 rfl rfl HW5.out (by omega) bel5.size ?_; intro v8 w8 h1 b8; have HW8 := Lib.hid h1; clear h1)
        go_roundw
        case rel => exact ⟨k + 1, ks ++ [x.1], by omega, by rw [TK.out], by go_num, by simp; omega, HK.out.snoc d0 d1, by simpa using HW8.out, bel5.trans b8⟩
        case measure => simp [intOf]; omega
      · have u1 : decide (a1Lo ≤ x.1) = false := decide_eq_false hlo
        replace TK := Lib.hid (TK.out.trans (by rw [if_neg hin, List.append_nil]))
        go_wp2
        go_quiet (fail)
        have bd := below_drewN (Below.refl wr.heap.size wr) nq
        have bel5 := below_drewN bel nq
        have HW5 := Lib.hid (rowU_below HW.out bd)
        have c0 := (bd.cell (p := ⟨b, o + k * 2, none⟩) (World.block_lt_of_cell? _ _ c0)).trans c0
        clear c1 e0 e1 e2 e3 bd HW
        generalize wr.drewN nq = w7 at *
        go_wp2_with (at_builtin; refine app1U rfl (.tmp 114) (.tmp 120) rfl w7 W5.heap.size _ _ ks x.1 rfl rfl HW5.out (by omega) bel5.size ?_; intro v8 w8 h1 b8; have HW8 := Lib.hid h1; clear h1)
        go_roundw
        case rel => exact ⟨k + 1, ks ++ [x.1], by omega, by rw [TK.out], by go_num, by simp; omega, HK.out.snoc d0 d1, by simpa using HW8.out, bel5.trans b8⟩
        case measure => simp [intOf]; omega
    · obtain rfl : k = l.length := by omega
      have u0 : decide ((l.length : Int) < l.length) = false := decide_eq_false (by omega)
      obtain ⟨w6, rfl⟩ : ∃ w6 : World, w6 = wr := ⟨_, rfl⟩
      have KL : ks.length ≤ 121 := by omega
      simp only [show l.take l.length = l from List.take_length]
      clear e0 e1 e2 e3
      go_wp2
      go_loopw [13, 15] (fun q i wr => ∃ k ks, k ≤ l1.length ∧ i = .int .i64 (k : Int) ∧ ks.length ≤ 121 + k ∧ BdU ks ∧ wr.ownsRow W5.heap.size 33 1 q ks.length (flatU ks) ∧ Below W5.heap.size W5 wr) (fun _ i _ => l1.length - (intOf i).toNat)
      case atStart => exact ⟨0, ks, Nat.zero_le _, rfl, by omega, HK.out, HW.out, bel⟩
      case round =>
        clear HK HW KL hkl bel hk hlt u0
        obtain ⟨k, ks, hk, rfl, hkl, hkb, hrow, bel⟩ := hrel
        have HK := Lib.hid hkb; clear hkb
        have HW := Lib.hid hrow; clear hrow
        by_cases hlt : k < l1.length
        · have u0 : decide ((k : Int) < l1.length) = true := decide_eq_true (by omega)
          have hki : (k : Int) < l1.length := by omega
          obtain ⟨x, hx, hmem⟩ := getElem?_lt rfl hlt
          obtain ⟨d0, d1, d2, d3⟩ := B1.out x hmem
          obtain ⟨b, o, rfl, c0, c1⟩ := (RD'.out.below bel) k x hx
          clear hx hmem
          go_wp2_with (at_builtin; refine app1U rfl (.tmp 128) (.tmp 134) rfl wr W5.heap.size _ _ ks x.1 rfl rfl HW.out (by omega) bel.size ?_; intro v8 w8 h1 b8; have HW8 := Lib.hid h1; clear h1)
          go_roundw
          case rel => exact ⟨k + 1, ks ++ [x.1], by omega, by go_num, by simp; omega, HK.out.snoc d0 d1, by simpa using HW8.out, bel.trans b8⟩
          case measure => simp [intOf]; omega
        · obtain rfl : k = l1.length := by omega
          have u0 : decide ((l1.length : Int) < l1.length) = false := decide_eq_false (by omega)
          obtain ⟨w7, rfl⟩ : ∃ w7 : World, w7 = wr := ⟨_, rfl⟩
          obtain ⟨_, A2, c2, rfl, rdu⟩ := rowU_rd HW.out
          have RU := Lib.hid rdu; clear rdu HW
          have hz3 : ((ks.length : Nat) : Int) ≤ 200 := by omega
          have HS := Lib.hid (HS.out.below bel)
          have RD := Lib.hid (RD.out.below bel)
          clear RD' B1
          go_wp2
          go_loopw [16] (fun i wr => ∃ k : Nat, k ≤ ks.length ∧ i = .int .i64 (k : Int) ∧ Below w7.heap.size w7 wr) (fun i _ => ks.length - (intOf i).toNat)
          case atStart => exact ⟨0, Nat.zero_le _, rfl, Below.refl _ _⟩
          case round =>
            clear u0 hlt hk hkl bel
            obtain ⟨k, hk, rfl, bel⟩ := hrel
            have HS := Lib.hid (HS.out.below bel)
            have RD := Lib.hid (RD.out.below bel)
            by_cases hlt : k < ks.length
            · have u0 : decide ((k : Int) < ks.length) = true := decide_eq_true (by omega)
              have hki : (k : Int) < ks.length := by omega
              obtain ⟨x, hx⟩ : ∃ x, ks[k]? = some x := ⟨_, List.getElem?_eq_getElem hlt⟩
              have hmem := List.mem_of_getElem? hx
              obtain ⟨d0, d1⟩ := HK.out x hmem
              obtain ⟨b, o, rfl, c0⟩ := (RU.out.below bel) k x hx
              clear hx hmem
              have e0 := (HS.out.bel.cell (p := ⟨w.heap.size, 0, none⟩) (show w.heap.size < w.heap.size + 2 by omega)).trans E0.out
              have e1 := (HS.out.bel.cell (p := ⟨w.heap.size, 1, none⟩) (show w.heap.size < w.heap.size + 2 by omega)).trans E1.out
              have e3 := (HS.out.bel.cell (p := ⟨w.heap.size + 1, 1, none⟩) (show w.heap.size + 1 < w.heap.size + 2 by omega)).trans E3.out
              have GX := G x
              have CG := Lib.hid (getC_any bm v1 l1 x _ HS.out.m A1.out (by have := L1.out; omega))
              have CH := Lib.hid (has_any A _ c l x wr rfl (by have := HLEN.out; omega) RD.out)
              have CF := Lib.hid (has_any A _ c l (x - a2By) wr rfl (by have := HLEN.out; omega) RD.out)
              generalize getL l x = g2 at *
              generalize getL l (x - a2By) = g1 at *
              generalize getL l1 x = g3 at *
              by_cases hB1 : x < a2By
              · have v0 : decide (a2By ≤ x) = false := decide_eq_false (by omega)
                replace GX := Lib.hid (GX.out.trans (by rw [if_neg (show ¬ (a1Lo ≤ x - a2By ∧ x - a2By ≤ a1Hi) by omega)]))
                by_cases hlo : x < a1Lo
                · have y1 : decide (x < a1Lo) = true := decide_eq_true hlo
                  replace GX := Lib.hid (show g3 = g2 from GX.out.trans (by rw [if_neg (show ¬ (a1Lo ≤ x ∧ x ≤ a1Hi) by omega)]; first | done | exact Option.none_or))
                  obtain rfl := GX.out
                  clear GX
                  have ng : g3 = g3 := rfl
                  cases g3 with
                  | none =>
                    unfold gT at CG CH CF
                    go_wp2_with fail
                    refine CH.out.mono ?_
                    rintro r w8 ⟨rfl, rfl⟩
                    go_wp2_with fail
                    refine CG.out.mono ?_
                    rintro r w9 ⟨rfl, b9⟩
                    go_wp2
                    go_roundw
                    case rel => exact ⟨k + 1, by omega, by go_num, bel_trans bel b9⟩
                    case measure => simp [intOf]; omega
                  | some u =>
                    unfold gT at CG CH CF
                    go_wp2_with fail
                    refine CH.out.mono ?_
                    rintro r w8 ⟨rfl, rfl⟩
                    go_wp2_with fail
                    refine CG.out.mono ?_
                    rintro r w9 ⟨rfl, b9⟩
                    go_wp2
                    go_roundw
                    case rel => exact ⟨k + 1, by omega, by go_num, bel_trans bel b9⟩
                    case measure => simp [intOf]; omega
                by_cases hhi : a1Hi < x
                · have y1 : decide (x < a1Lo) = false := decide_eq_false hlo
                  have y2 : decide (a1Hi < x) = true := decide_eq_true hhi
                  replace GX := Lib.hid (show g3 = g2 from GX.out.trans (by rw [if_neg (show ¬ (a1Lo ≤ x ∧ x ≤ a1Hi) by omega)]; first | done | exact Option.none_or))
                  obtain rfl := GX.out
                  clear GX
                  have ng : g3 = g3 := rfl
                  cases g3 with
                  | none =>
                    unfold gT at CG CH CF
                    go_wp2_with fail
                    refine CH.out.mono ?_
                    rintro r w8 ⟨rfl, rfl⟩
                    go_wp2_with fail
                    refine CG.out.mono ?_
                    rintro r w9 ⟨rfl, b9⟩
                    go_wp2
                    go_roundw
                    case rel => exact ⟨k + 1, by omega, by go_num, bel_trans bel b9⟩
                    case measure => simp [intOf]; omega
                  | some u =>
                    unfold gT at CG CH CF
                    go_wp2_with fail
                    refine CH.out.mono ?_
                    rintro r w8 ⟨rfl, rfl⟩
                    go_wp2_with fail
                    refine CG.out.mono ?_
                    rintro r w9 ⟨rfl, b9⟩
                    go_wp2
                    go_roundw
                    case rel => exact ⟨k + 1, by omega, by go_num, bel_trans bel b9⟩
                    case measure => simp [intOf]; omega
                · have y1 : decide (x < a1Lo) = false := decide_eq_false hlo
                  have y2 : decide (a1Hi < x) = false := decide_eq_false hhi
                  replace GX := Lib.hid (show g3 = none from GX.out.trans (by rw [if_pos (show a1Lo ≤ x ∧ x ≤ a1Hi by omega)]; first | done | rfl))
                  obtain rfl := GX.out
                  clear GX
                  unfold gT at CG CH CF
                  go_wp2_with fail
                  refine CG.out.mono ?_
                  rintro r w9 ⟨rfl, b9⟩
                  go_wp2
                  go_roundw
                  case rel => exact ⟨k + 1, by omega, by go_num, bel_trans bel b9⟩
                  case measure => simp [intOf]; omega
              have v0 : decide (a2By ≤ x) = true := decide_eq_true (by omega)
              have s1 : IntKind.u64.wrap (x - a2By) = x - a2By := IntWalk.u64_in _ (by omega)
              by_cases hB2 : x - a2By < a1Lo
              · have v1 : decide (a1Lo ≤ x - a2By) = false := decide_eq_false (by omega)
                replace GX := Lib.hid (GX.out.trans (by rw [if_neg (show ¬ (a1Lo ≤ x - a2By ∧ x - a2By ≤ a1Hi) by omega)]))
                by_cases hlo : x < a1Lo
                · have y1 : decide (x < a1Lo) = true := decide_eq_true hlo
                  replace GX := Lib.hid (show g3 = g2 from GX.out.trans (by rw [if_neg (show ¬ (a1Lo ≤ x ∧ x ≤ a1Hi) by omega)]; first | done | exact Option.none_or))
                  obtain rfl := GX.out
                  clear GX
                  have ng : g3 = g3 := rfl
                  cases g3 with
                  | none =>
                    unfold gT at CG CH CF
                    go_wp2_with fail
                    refine CH.out.mono ?_
                    rintro r w8 ⟨rfl, rfl⟩
                    go_wp2_with fail
                    refine CG.out.mono ?_
                    rintro r w9 ⟨rfl, b9⟩
                    go_wp2
                    go_roundw
                    case rel => exact ⟨k + 1, by omega, by go_num, bel_trans bel b9⟩
                    case measure => simp [intOf]; omega
                  | some u =>
                    unfold gT at CG CH CF
                    go_wp2_with fail
                    refine CH.out.mono ?_
                    rintro r w8 ⟨rfl, rfl⟩
                    go_wp2_with fail
                    refine CG.out.mono ?_
                    rintro r w9 ⟨rfl, b9⟩
                    go_wp2
                    go_roundw
                    case rel => exact ⟨k + 1, by omega, by go_num, bel_trans bel b9⟩
                    case measure => simp [intOf]; omega
                by_cases hhi : a1Hi < x
                · have y1 : decide (x < a1Lo) = false := decide_eq_false hlo
                  have y2 : decide (a1Hi < x) = true := decide_eq_true hhi
                  replace GX := Lib.hid (show g3 = g2 from GX.out.trans (by rw [if_neg (show ¬ (a1Lo ≤ x ∧ x ≤ a1Hi) by omega)]; first | done | exact Option.none_or))
                  obtain rfl := GX.out
                  clear GX
                  have ng : g3 = g3 := rfl
                  cases g3 with
                  | none =>
                    unfold gT at CG CH CF
                    go_wp2_with fail
                    refine CH.out.mono ?_
                    rintro r w8 ⟨rfl, rfl⟩
                    go_wp2_with fail
                    refine CG.out.mono ?_
                    rintro r w9 ⟨rfl, b9⟩
                    go_wp2
                    go_roundw
                    case rel => exact ⟨k + 1, by omega, by go_num, bel_trans bel b9⟩
                    case measure => simp [intOf]; omega
                  | some u =>
                    unfold gT at CG CH CF
                    go_wp2_with fail
                    refine CH.out.mono ?_
                    rintro r w8 ⟨rfl, rfl⟩
                    go_wp2_with fail
                    refine CG.out.mono ?_
                    rintro r w9 ⟨rfl, b9⟩
                    go_wp2
                    go_roundw
                    case rel => exact ⟨k + 1, by omega, by go_num, bel_trans bel b9⟩
                    case measure => simp [intOf]; omega
                · have y1 : decide (x < a1Lo) = false := decide_eq_false hlo
                  have y2 : decide (a1Hi < x) = false := decide_eq_false hhi
                  replace GX := Lib.hid (show g3 = none from GX.out.trans (by rw [if_pos (show a1Lo ≤ x ∧ x ≤ a1Hi by omega)]; first | done | rfl))
                  obtain rfl := GX.out
                  clear GX
                  unfold gT at CG CH CF
                  go_wp2_with fail
                  refine CG.out.mono ?_
                  rintro r w9 ⟨rfl, b9⟩
                  go_wp2
                  go_roundw
                  case rel => exact ⟨k + 1, by omega, by go_num, bel_trans bel b9⟩
                  case measure => simp [intOf]; omega
              have v1 : decide (a1Lo ≤ x - a2By) = true := decide_eq_true (by omega)
              by_cases hB3 : a1Hi < x - a2By
              · have v2 : decide (x - a2By ≤ a1Hi) = false := decide_eq_false (by omega)
                replace GX := Lib.hid (GX.out.trans (by rw [if_neg (show ¬ (a1Lo ≤ x - a2By ∧ x - a2By ≤ a1Hi) by omega)]))
                by_cases hlo : x < a1Lo
                · have y1 : decide (x < a1Lo) = true := decide_eq_true hlo
                  exfalso; omega
                by_cases hhi : a1Hi < x
                · have y1 : decide (x < a1Lo) = false := decide_eq_false hlo
                  have y2 : decide (a1Hi < x) = true := decide_eq_true hhi
                  replace GX := Lib.hid (show g3 = g2 from GX.out.trans (by rw [if_neg (show ¬ (a1Lo ≤ x ∧ x ≤ a1Hi) by omega)]; first | done | exact Option.none_or))
                  obtain rfl := GX.out
                  clear GX
                  have ng : g3 = g3 := rfl
                  cases g3 with
                  | none =>
                    unfold gT at CG CH CF
                    go_wp2_with fail
                    refine CH.out.mono ?_
                    rintro r w8 ⟨rfl, rfl⟩
                    go_wp2_with fail
                    refine CG.out.mono ?_
                    rintro r w9 ⟨rfl, b9⟩
                    go_wp2
                    go_roundw
                    case rel => exact ⟨k + 1, by omega, by go_num, bel_trans bel b9⟩
                    case measure => simp [intOf]; omega
                  | some u =>
                    unfold gT at CG CH CF
                    go_wp2_with fail
                    refine CH.out.mono ?_
                    rintro r w8 ⟨rfl, rfl⟩
                    go_wp2_with fail
                    refine CG.out.mono ?_
                    rintro r w9 ⟨rfl, b9⟩
                    go_wp2
                    go_roundw
                    case rel => exact ⟨k + 1, by omega, by go_num, bel_trans bel b9⟩
                    case measure => simp [intOf]; omega
                · have y1 : decide (x < a1Lo) = false := decide_eq_false hlo
                  have y2 : decide (a1Hi < x) = false := decide_eq_false hhi
                  exfalso; omega
              have v2 : decide (x - a2By ≤ a1Hi) = true := decide_eq_true (by omega)
              replace GX := Lib.hid (GX.out.trans (by rw [if_pos (show a1Lo ≤ x - a2By ∧ x - a2By ≤ a1Hi by omega)]))
              cases g1 with
              | none =>
                by_cases hlo : x < a1Lo
                · have y1 : decide (x < a1Lo) = true := decide_eq_true hlo
                  exfalso; omega
                by_cases hhi : a1Hi < x
                · have y1 : decide (x < a1Lo) = false := decide_eq_false hlo
                  have y2 : decide (a1Hi < x) = true := decide_eq_true hhi
                  replace GX := Lib.hid (show g3 = g2 from GX.out.trans (by rw [if_neg (show ¬ (a1Lo ≤ x ∧ x ≤ a1Hi) by omega)]; first | done | exact Option.none_or))
                  obtain rfl := GX.out
                  clear GX
                  have ng : g3 = g3 := rfl
                  cases g3 with
                  | none =>
                    unfold gT at CG CH CF
                    go_wp2_with fail
                    refine CF.out.mono ?_
                    rintro r w8 ⟨rfl, rfl⟩
                    go_wp2_with fail
                    refine CH.out.mono ?_
                    rintro r w8 ⟨rfl, rfl⟩
                    go_wp2_with fail
                    refine CG.out.mono ?_
                    rintro r w9 ⟨rfl, b9⟩
                    go_wp2
                    go_roundw
                    case rel => exact ⟨k + 1, by omega, by go_num, bel_trans bel b9⟩
                    case measure => simp [intOf]; omega
                  | some u =>
                    unfold gT at CG CH CF
                    go_wp2_with fail
                    refine CF.out.mono ?_
                    rintro r w8 ⟨rfl, rfl⟩
                    go_wp2_with fail
                    refine CH.out.mono ?_
                    rintro r w8 ⟨rfl, rfl⟩
                    go_wp2_with fail
                    refine CG.out.mono ?_
                    rintro r w9 ⟨rfl, b9⟩
                    go_wp2
                    go_roundw
                    case rel => exact ⟨k + 1, by omega, by go_num, bel_trans bel b9⟩
                    case measure => simp [intOf]; omega
                · have y1 : decide (x < a1Lo) = false := decide_eq_false hlo
                  have y2 : decide (a1Hi < x) = false := decide_eq_false hhi
                  replace GX := Lib.hid (show g3 = none from GX.out.trans (by rw [if_pos (show a1Lo ≤ x ∧ x ≤ a1Hi by omega)]; first | done | rfl))
                  obtain rfl := GX.out
                  clear GX
                  unfold gT at CG CH CF
                  go_wp2_with fail
                  refine CF.out.mono ?_
                  rintro r w8 ⟨rfl, rfl⟩
                  go_wp2_with fail
                  refine CG.out.mono ?_
                  rintro r w9 ⟨rfl, b9⟩
                  go_wp2
                  go_roundw
                  case rel => exact ⟨k + 1, by omega, by go_num, bel_trans bel b9⟩
                  case measure => simp [intOf]; omega
              | some u =>
                replace GX := Lib.hid (GX.out.trans (Option.some_or : (some u).or _ = some u))
                obtain rfl := GX.out
                clear GX
                unfold gT at CG CH CF
                go_wp2_with fail
                refine CF.out.mono ?_
                rintro r w8 ⟨rfl, rfl⟩
                go_wp2_with fail
                refine CG.out.mono ?_
                rintro r w9 ⟨rfl, b9⟩
                go_wp2
                go_roundw
                case rel => exact ⟨k + 1, by omega, by go_num, bel_trans bel b9⟩
                case measure => simp [intOf]; omega
            · obtain rfl : k = ks.length := by omega
              have u0 : decide ((ks.length : Int) < ks.length) = false := decide_eq_false (by omega)
              have CL := Lib.hid (lenC_any bm v1 l1 _ HS.out.m (by have := L1.out; omega))
              go_wp2_with fail
              refine CL.out.mono ?_
              rintro r w8 ⟨rfl, b8⟩
              go_wp2_with fail
              refine (known_any _).mono ?_
              rintro r w9 ⟨rfl, b9⟩
              go_wp2
              go_ret
              exact ⟨rfl, bel_trans (bel_trans (b0.trans (HS.out.bel.mono (by omega))) b8) b9⟩
end Wk
end Go.Proofs.Ythinaablldnikaa
