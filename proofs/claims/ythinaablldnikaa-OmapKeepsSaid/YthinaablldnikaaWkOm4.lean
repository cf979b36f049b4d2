/- The walk of the law OmapKeeps (written by tools/mk4om.py), from the contracts of package omap (XOmC), XOmJ, XOmT, XOmU. Conditions: those of the contracts. -/
import Derived.Test.YthinaablldnikaaWkOm3
import Derived.Deep.CutBlock
import Derived.Deep.CutRange
namespace Go.Proofs.Ythinaablldnikaa
open Go.RowKit Go.Sort
set_option linter.unusedVariables false
set_option linter.unusedSimpArgs false
namespace Om
/-- a map, a row that was handed out, and a block sb of the law's own that is neither -/
structure Kp (B sb : Nat) (w1 W : World) (bm : Nat) (v : Value) (l : List Pr) (q : Value) (m : List Pr) : Prop where
  st : Stb B w1 W bm v l
  rv : Rv W bm v q m
  nb : sb ≠ bm
  nv : v.ownBlock ≠ some sb
  nq : q.ownBlock ≠ some sb
  lt : sb < W.heap.size
  hb : B ≤ sb
theorem Kp.below {B sb : Nat} {w1 W W' : World} {bm : Nat} {v q : Value} {l m : List Pr} (h : Kp B sb w1 W bm v l q m) (b : Below W.heap.size W W') : Kp B sb w1 W' bm v l q m :=
  ⟨h.st.below b, h.rv.below b, h.nb, h.nv, h.nq, Nat.lt_of_lt_of_le h.lt b.size, h.hb⟩
theorem Kp.set {B sb : Nat} {w1 W : World} {bm : Nat} {v q : Value} {l m : List Pr} (h : Kp B sb w1 W bm v l q m) (o : Nat) (u : Value) : Kp B sb w1 (W.setCell ⟨sb, o, none⟩ u) bm v l q m := by
  have hk : ∀ k, k ≠ sb → (W.setCell ⟨sb, o, none⟩ u).heap[k]? = W.heap[k]? := fun k hk => Below.heap_setCell W ⟨sb, o, none⟩ u k hk
  refine ⟨⟨h.st.m.keep (hk _ h.nb.symm) fun k e => hk k fun e2 => h.nv (e2 ▸ e), h.st.hm, h.st.fv, h.st.hw, h.st.bel.setCell h.hb u⟩, ⟨row_keep h.rv.row fun k e => hk k fun e2 => h.nq (e2 ▸ e), h.rv.l, h.rv.lm⟩, h.nb, h.nv, h.nq, by simpa using h.lt, h.hb⟩
theorem Kp.op {B sb : Nat} {w1 W W' : World} {bm : Nat} {v q : Value} {l l' m : List Pr} {t : Value} {e : Ending} (h : Kp B sb w1 W bm v l q m) (o : Opn W bm v l' t e W') :
    ∃ v', e = .returned t ∧ Kp B sb w1 W' bm v' l' q m ∧ (∀ i, W'.cell? ⟨sb, i, none⟩ = W.cell? ⟨sb, i, none⟩) ∧ ∀ i, W'.frozen? ⟨sb, i, none⟩ = W.frozen? ⟨sb, i, none⟩ := by
  have o' := o
  obtain ⟨v', he, hm', hn', hc⟩ := o'
  obtain ⟨v2, he2, hs, hr⟩ := h.st.left' o
  have hv : v2 = v' := by have h1 := hs.m.1; rw [hm'.1] at h1; exact (Option.some.inj h1).symm
  subst hv
  refine ⟨v2, he, ⟨hs, hr _ _ h.rv, h.nb, fun e => ?_, h.nq, Nat.lt_of_lt_of_le h.lt hc.size, h.hb⟩, fun i => World.cell?_of_block (hc.block sb h.lt h.nb h.nv), fun i => World.frozen?_of_block (hc.block sb h.lt h.nb h.nv)⟩
  rcases hn' sb e with e' | e'
  · exact h.nv e'
  · have := h.lt; omega
/-- what the operation keeps of the map -/
structure Ks (l l1 : List Pr) (lo hi E : Int) : Prop where
  asc : Asc l1
  len : l1.length ≤ 61
  bd : Bd l1
  eq : ∀ k, (E ≠ 0 ∨ k < lo ∨ hi < k) → getL l1 k = getL l k
theorem Ks.same {l : List Pr} (ha : Asc l) (hl : l.length ≤ 60) (hb : Bd l) (lo hi E : Int) : Ks l l lo hi E := ⟨ha, by omega, hb, fun k _ => rfl⟩
theorem Ks.set {l : List Pr} (ha : Asc l) (hl : l.length ≤ 60) (hb : Bd l) {key x : Int} (h1 : 0 ≤ key) (h2 : key ≤ 18446744073709551615) (h3 : 0 ≤ x) (h4 : x ≤ 18446744073709551615) : Ks l (setL l (key, x)) key key 0 :=
  ⟨setL_asc ha _, by have := setL_len_le l (key, x); omega, setL_bd hb ⟨h1, h2, h3, h4⟩, fun k hk => by rw [getL_setL ha, if_neg (by show ¬ k = key; omega)]⟩
theorem Ks.out {l : List Pr} (ha : Asc l) (hl : l.length ≤ 60) (hb : Bd l) (lo hi : Int) : Ks l (outL l lo hi) lo hi 0 :=
  ⟨outL_asc ha _ _, by have := in_out_len l lo hi; omega, outL_bd hb _ _, fun k hk => by rw [getL_outL ha, if_neg (by omega)]⟩
theorem Ks.mv {l : List Pr} (ha : Asc l) (hl : l.length ≤ 60) (hb : Bd l) {lo hi d : Int} (hd : 0 ≤ d) (hh : hi + d ≤ 18446744073709551615) : Ks l (mvL l lo hi d) lo (hi + d) 0 :=
  ⟨mvL_asc ha _ _ _, by have := mvL_len_le l lo hi d; omega, shL_bd hb hd hh, fun k hk => by rw [getL_mvL ha, if_neg (by omega), if_neg (by omega)]; rfl⟩
end Om
namespace Wk
open Om
set_option maxRecDepth 100000 in
set_option maxHeartbeats 4000000 in
theorem walk_omapKeeps (a0 : Option Addr) (a0n a0c : Nat) (a0v : List Om.Pr) (a1Do : Int) (a1Key : Int) (a1Hi : Int) (a1Value : Int) (a1By : Int) (w : World) (a0e : a0v.length = a0n) (a0m : a0n ≤ maxLen) (a0r : Om.Rd w a0 a0v) (a0b : Om.Bd a0v) (a0z : a0 = none → a0c = 0) (a0s : a0n * 16 ≤ 140737488351232) (a1Dol : 0 ≤ a1Do) (a1Doh : a1Do ≤ 255) (a1Keyl : 0 ≤ a1Key) (a1Keyh : a1Key ≤ 18446744073709551615) (a1Hil : 0 ≤ a1Hi) (a1Hih : a1Hi ≤ 18446744073709551615) (a1Valuel : 0 ≤ a1Value) (a1Valueh : a1Value ≤ 18446744073709551615) (a1Byl : 0 ≤ a1By) (a1Byh : a1By ≤ 18446744073709551615) :
    Calls Try.prog 7 #[.slice a0 a0n a0c, .agg #[.int .u8 a1Do, .int .u64 a1Key, .int .u64 a1Hi, .int .u64 a1Value, .int .u64 a1By]] w fun e w' => e = .returned (.bool true) ∧ Below w.heap.size w w' := by
  have HE := Lib.hid a0e; clear a0e
  have HR := Lib.hid a0r; clear a0r
  have HSZ := Lib.hid a0s; clear a0s
  have HBD := Lib.hid (maL_bd a0b); clear a0b
  have HA := Lib.hid (maL_asc a0v)
  have HN : a0n ≤ 2 ^ 63 - 1 := a0m
  clear a0z a0m
  have b0 : Below w.heap.size w (w.alloc (.cells #[.int .u8 a1Do, .int .u64 a1Key, .int .u64 a1Hi, .int .u64 a1Value, .int .u64 a1By] 35)) := bel_alloc (Below.refl _ _) _
  have E0 := Lib.hid (show (w.alloc (.cells #[.int .u8 a1Do, .int .u64 a1Key, .int .u64 a1Hi, .int .u64 a1Value, .int .u64 a1By] 35)).cell? ⟨w.heap.size, 0, none⟩ = some (.int .u8 a1Do) by simp)
  have E1 := Lib.hid (show (w.alloc (.cells #[.int .u8 a1Do, .int .u64 a1Key, .int .u64 a1Hi, .int .u64 a1Value, .int .u64 a1By] 35)).cell? ⟨w.heap.size, 1, none⟩ = some (.int .u64 a1Key) by simp)
  have E2 := Lib.hid (show (w.alloc (.cells #[.int .u8 a1Do, .int .u64 a1Key, .int .u64 a1Hi, .int .u64 a1Value, .int .u64 a1By] 35)).cell? ⟨w.heap.size, 2, none⟩ = some (.int .u64 a1Hi) by simp)
  have E3 := Lib.hid (show (w.alloc (.cells #[.int .u8 a1Do, .int .u64 a1Key, .int .u64 a1Hi, .int .u64 a1Value, .int .u64 a1By] 35)).cell? ⟨w.heap.size, 3, none⟩ = some (.int .u64 a1Value) by simp)
  have E4 := Lib.hid (show (w.alloc (.cells #[.int .u8 a1Do, .int .u64 a1Key, .int .u64 a1Hi, .int .u64 a1Value, .int .u64 a1By] 35)).cell? ⟨w.heap.size, 4, none⟩ = some (.int .u64 a1By) by simp)
  by_cases h1 : 60 < a0n
  · have t1 : decide (60 < (a0n : Int)) = true := decide_eq_true (by omega)
    go_enter Try.func7, Try.ntmps7
    go_wp2_with fail
    refine (made_any _ _ _ a0v _ HE.out HSZ.out (HR.out.below b0)).mono ?_
    intro r W0 h
    obtain ⟨p, rfl, b1⟩ := h.any
    clear h
    go_wp2_with fail
    refine (known_any _).mono ?_
    rintro r W1 ⟨rfl, b2⟩
    go_wp2
    go_ret
    exact ⟨rfl, bel_trans (bel_trans b0 b1) b2⟩
  have t1 : decide (60 < (a0n : Int)) = false := decide_eq_false (by omega)
  have HLEN := Lib.hid (show (maL a0v).length ≤ 60 by have := maL_len a0v; have := HE.out; omega)
  go_enter Try.func7, Try.ntmps7
  go_wp2_with fail
  refine (made_any _ _ _ a0v _ HE.out HSZ.out (HR.out.below b0)).mono ?_
  intro r W0 h
  obtain ⟨bm, v, rfl, hs⟩ := Stb.start (B := w.heap.size + 1) (by simp) (by simp) (h.some_ (by have := HE.out; omega))
  have HS := Lib.hid hs; clear hs h
  generalize hml : maL a0v = l at *
  clear hml
  go_wp2_with fail
  refine (pairsC_any _ _ _ _ HS.out.m (by have := HLEN.out; omega)).mono ?_
  rintro r W1 ⟨q, rfl, hq, b1⟩
  have R1 := Lib.hid (Rv.fresh HS.out hq); clear hq
  have HS := Lib.hid (HS.out.below b1); clear b1
  obtain ⟨A, c, rfl, hc, rd⟩ := R1.out.rd
  have RD := Lib.hid rd; clear rd
  have e0 := (HS.out.bel.cell (p := ⟨w.heap.size, 0, none⟩) (show w.heap.size < w.heap.size + 1 by omega)).trans E0.out
  have e1 := (HS.out.bel.cell (p := ⟨w.heap.size, 1, none⟩) (show w.heap.size < w.heap.size + 1 by omega)).trans E1.out
  have e2 := (HS.out.bel.cell (p := ⟨w.heap.size, 2, none⟩) (show w.heap.size < w.heap.size + 1 by omega)).trans E2.out
  have e3 := (HS.out.bel.cell (p := ⟨w.heap.size, 3, none⟩) (show w.heap.size < w.heap.size + 1 by omega)).trans E3.out
  have e4 := (HS.out.bel.cell (p := ⟨w.heap.size, 4, none⟩) (show w.heap.size < w.heap.size + 1 by omega)).trans E4.out
  go_upto_region 8 with fail
  iterate 8 first | go_values | go_skip | go_step | go_upon | go_back | go_simp
  have KP := Lib.hid (show Kp (w.heap.size + 1) W1.heap.size (w.alloc (.cells #[.int .u8 a1Do, .int .u64 a1Key, .int .u64 a1Hi, .int .u64 a1Value, .int .u64 a1By] 35)) (W1.alloc (.cells #[.int .u64 a1Key, .int .u64 a1Key] 41)) bm v l (.slice A l.length c) l from ⟨HS.out.below (bel_alloc (Below.refl _ _) _), R1.out.below (bel_alloc (Below.refl _ _) _), by have := HS.out.m.lt; omega, fun e => by have := HS.out.m.row_lt _ e; omega, fun e => by have := (R1.out.row.lt _ e).2; omega, by simp, HS.out.size⟩)
  have S0 : (W1.alloc (.cells #[.int .u64 a1Key, .int .u64 a1Key] 41)).cell? ⟨W1.heap.size, 0, none⟩ = some (.int .u64 a1Key) := by simp
  have S1 : (W1.alloc (.cells #[.int .u64 a1Key, .int .u64 a1Key] 41)).cell? ⟨W1.heap.size, 1, none⟩ = some (.int .u64 a1Key) := by simp
  have F1 : (W1.alloc (.cells #[.int .u64 a1Key, .int .u64 a1Key] 41)).frozen? ⟨W1.heap.size, 1, none⟩ = false := by simp
  generalize W1.alloc (.cells #[.int .u64 a1Key, .int .u64 a1Key] 41) = W2 at *
  generalize W1.heap.size = sb at *
  clear HS R1 RD e0 e1 e2 e3 e4
  have e0 := (KP.out.st.bel.cell (p := ⟨w.heap.size, 0, none⟩) (show w.heap.size < w.heap.size + 1 by omega)).trans E0.out
  have e1 := (KP.out.st.bel.cell (p := ⟨w.heap.size, 1, none⟩) (show w.heap.size < w.heap.size + 1 by omega)).trans E1.out
  have e2 := (KP.out.st.bel.cell (p := ⟨w.heap.size, 2, none⟩) (show w.heap.size < w.heap.size + 1 by omega)).trans E2.out
  have e3 := (KP.out.st.bel.cell (p := ⟨w.heap.size, 3, none⟩) (show w.heap.size < w.heap.size + 1 by omega)).trans E3.out
  have e4 := (KP.out.st.bel.cell (p := ⟨w.heap.size, 4, none⟩) (show w.heap.size < w.heap.size + 1 by omega)).trans E4.out
  go_cut [8] from 33 to 114 (fun s8 wc => ∃ v1 l1 lo hi E, s8 = .int .i64 E ∧ Kp (w.heap.size + 1) sb (w.alloc (.cells #[.int .u8 a1Do, .int .u64 a1Key, .int .u64 a1Hi, .int .u64 a1Value, .int .u64 a1By] 35)) wc bm v1 l1 (.slice A l.length c) l ∧ Ks l l1 lo hi E ∧ wc.cell? ⟨sb, 0, none⟩ = some (.int .u64 lo) ∧ wc.cell? ⟨sb, 1, none⟩ = some (.int .u64 hi))
  case first =>
    have hl60 := HLEN.out
    by_cases c0 : a1Do % 6 = 0
    · have u0 : (a1Do % 6 == 0) = true := by simp [c0]
      go_wp2_with fail
      refine (putC_any bm v l a1Key a1Value W2 KP.out.st.m HA.out (by omega)).mono ?_
      intro r W3 h
      obtain ⟨v1, rfl, hk, hc, hf⟩ := KP.out.op h
      have KP := Lib.hid hk; clear hk h
      replace S0 := (hc 0).trans S0
      replace S1 := (hc 1).trans S1
      replace F1 := (hf 1).trans F1
      clear hc hf
      unfold pT
      go_wp2_with fail
      go_meet
      exact ⟨v1, setL l (a1Key, a1Value), a1Key, a1Key, 0, rfl, KP.out, Ks.set HA.out HLEN.out HBD.out a1Keyl a1Keyh a1Valuel a1Valueh, S0, S1⟩
    have u0 : (a1Do % 6 == 0) = false := by simp [c0]
    by_cases c1 : a1Do % 6 = 1
    · have u1 : (a1Do % 6 == 1) = true := by simp [c1]
      have KS := Lib.hid (show Ks l (paL l (getL l a1Key) (a1Key, a1Value)) a1Key a1Key 0 by cases getL l a1Key; exact Ks.set HA.out HLEN.out HBD.out a1Keyl a1Keyh a1Valuel a1Valueh; exact Ks.same HA.out HLEN.out HBD.out _ _ _)
      go_wp2_with fail
      refine (putAbsC_any bm v l a1Key a1Value W2 KP.out.st.m HA.out (by omega)).mono ?_
      intro r W3 h
      obtain ⟨v1, rfl, hk, hc, hf⟩ := KP.out.op h
      have KP := Lib.hid hk; clear hk h
      replace S0 := (hc 0).trans S0
      replace S1 := (hc 1).trans S1
      replace F1 := (hf 1).trans F1
      clear hc hf
      unfold pT
      go_wp2_with fail
      go_meet
      exact ⟨v1, _, a1Key, a1Key, 0, rfl, KP.out, KS.out, S0, S1⟩
    have u1 : (a1Do % 6 == 1) = false := by simp [c1]
    by_cases c2 : a1Do % 6 = 2
    · have u2 : (a1Do % 6 == 2) = true := by simp [c2]
      go_wp2_with fail
      refine (delC_any bm v l a1Key W2 KP.out.st.m HA.out HBD.out (by omega) a1Keyl a1Keyh).mono ?_
      intro r W3 h
      obtain ⟨v1, rfl, hk, hc, hf⟩ := KP.out.op h
      have KP := Lib.hid hk; clear hk h
      replace S0 := (hc 0).trans S0
      replace S1 := (hc 1).trans S1
      replace F1 := (hf 1).trans F1
      clear hc hf
      unfold pT
      go_wp2_with fail
      go_meet
      exact ⟨v1, _, a1Key, a1Key, 0, rfl, KP.out, Ks.out HA.out HLEN.out HBD.out a1Key a1Key, S0, S1⟩
    have u2 : (a1Do % 6 == 2) = false := by simp [c2]
    by_cases c3 : a1Do % 6 = 3
    · have u3 : (a1Do % 6 == 3) = true := by simp [c3]
      have KS := Lib.hid (show Ks l (casL l (getL l a1Key) a1By (a1Key, a1Value)) a1Key a1Key 0 by unfold casL; split; exact Ks.set HA.out HLEN.out HBD.out a1Keyl a1Keyh a1Valuel a1Valueh; exact Ks.same HA.out HLEN.out HBD.out _ _ _)
      go_wp2_with fail
      refine (casC_any bm v l a1Key a1By a1Value W2 KP.out.st.m HA.out (by omega)).mono ?_
      intro r W3 h
      obtain ⟨v1, rfl, hk, hc, hf⟩ := KP.out.op h
      have KP := Lib.hid hk; clear hk h
      replace S0 := (hc 0).trans S0
      replace S1 := (hc 1).trans S1
      replace F1 := (hf 1).trans F1
      clear hc hf
      unfold cT
      go_wp2_with fail
      go_meet
      exact ⟨v1, _, a1Key, a1Key, 0, rfl, KP.out, KS.out, S0, S1⟩
    have u3 : (a1Do % 6 == 3) = false := by simp [c3]
    by_cases c4 : a1Do % 6 = 4
    · have u4 : (a1Do % 6 == 4) = true := by simp [c4]
      have KS := Lib.hid (show Ks l (deL l a1Key a1Hi) a1Key a1Hi (rgE a1Key a1Hi) by unfold deL rgE; split; exact Ks.out HA.out HLEN.out HBD.out _ _; exact Ks.same HA.out HLEN.out HBD.out _ _ _)
      have hs0 : (W2.setCell ⟨sb, 1, none⟩ (.int .u64 a1Hi)).cell? ⟨sb, 0, none⟩ = some (.int .u64 a1Key) := (World.cell?_setCell_other _ _ _ _ (by simp)).trans S0
      have hs1 : (W2.setCell ⟨sb, 1, none⟩ (.int .u64 a1Hi)).cell? ⟨sb, 1, none⟩ = some (.int .u64 a1Hi) := World.cell?_setCell_same _ _ _ S1
      have hf1 : (W2.setCell ⟨sb, 1, none⟩ (.int .u64 a1Hi)).frozen? ⟨sb, 1, none⟩ = false := by rw [World.frozen?_setCell]; exact F1
      have hkp := Lib.hid (KP.out.set 1 (.int .u64 a1Hi))
      go_wp2_with fail
      generalize (W2.setCell ⟨sb, 1, none⟩ (.int .u64 a1Hi)) = W4 at *
      clear S0 S1 F1 KP
      have S0 := hs0; have S1 := hs1; have F1 := hf1; have KP := hkp
      clear hs0 hs1 hf1 hkp
      go_wp2_with fail
      refine (deC_any bm v l a1Key a1Hi W4 KP.out.st.m HA.out (by omega) HBD.out a1Keyl a1Keyh a1Hil a1Hih).mono ?_
      intro r W3 h
      obtain ⟨v1, rfl, hk, hc, hf⟩ := KP.out.op h
      have KP := Lib.hid hk; clear hk h
      replace S0 := (hc 0).trans S0
      replace S1 := (hc 1).trans S1
      replace F1 := (hf 1).trans F1
      clear hc hf
      unfold deT
      go_wp2_with fail
      go_meet
      exact ⟨v1, _, a1Key, a1Hi, _, rfl, KP.out, KS.out, S0, S1⟩
    have u4 : (a1Do % 6 == 4) = false := by simp [c4]
    have hs0 : (W2.setCell ⟨sb, 1, none⟩ (.int .u64 a1Hi)).cell? ⟨sb, 0, none⟩ = some (.int .u64 a1Key) := (World.cell?_setCell_other _ _ _ _ (by simp)).trans S0
    have hs1 : (W2.setCell ⟨sb, 1, none⟩ (.int .u64 a1Hi)).cell? ⟨sb, 1, none⟩ = some (.int .u64 a1Hi) := World.cell?_setCell_same _ _ _ S1
    have hf1 : (W2.setCell ⟨sb, 1, none⟩ (.int .u64 a1Hi)).frozen? ⟨sb, 1, none⟩ = false := by rw [World.frozen?_setCell]; exact F1
    have hkp := Lib.hid (KP.out.set 1 (.int .u64 a1Hi))
    go_wp2_with fail
    generalize (W2.setCell ⟨sb, 1, none⟩ (.int .u64 a1Hi)) = W4 at *
    clear S0 S1 F1 KP
    have S0 := hs0; have S1 := hs1; have F1 := hf1; have KP := hkp
    clear hs0 hs1 hf1 hkp
    by_cases hm : moE a1Key a1Hi a1By = 0
    · have HM := Lib.hid hm
      have hov : a1Hi + a1By ≤ 18446744073709551615 := by unfold moE at hm; split at hm; omega; split at hm; omega; omega
      have s1 : IntKind.u64.wrap (a1Hi + a1By) = a1Hi + a1By := IntWalk.u64_in _ (by omega)
      clear hm
      go_wp2_with fail
      refine (moC_any bm v l a1Key a1Hi a1By W4 KP.out.st.m HA.out (by omega) HBD.out a1Keyl a1Keyh a1Hil a1Hih a1Byl a1Byh).mono ?_
      intro r W3 h
      rw [show moL l a1Key a1Hi a1By = mvL l a1Key a1Hi a1By by unfold moL; rw [HM.out]; rfl, show moT l a1Key a1Hi a1By = .tuple #[.int .i64 ((inL l a1Key a1Hi).length : Int), .int .i64 0] by unfold moT; rw [HM.out]; rfl] at h
      obtain ⟨v1, rfl, hk, hc, hf⟩ := KP.out.op h
      have KP := Lib.hid hk; clear hk h
      replace S0 := (hc 0).trans S0
      replace S1 := (hc 1).trans S1
      replace F1 := (hf 1).trans F1
      clear hc hf
      have e2 := (KP.out.st.bel.cell (p := ⟨w.heap.size, 2, none⟩) (show w.heap.size < w.heap.size + 1 by omega)).trans E2.out
      have e4 := (KP.out.st.bel.cell (p := ⟨w.heap.size, 4, none⟩) (show w.heap.size < w.heap.size + 1 by omega)).trans E4.out
      go_wp2_with fail
      go_meet
      exact ⟨v1, _, a1Key, a1Hi + a1By, 0, rfl, KP.out.set 1 _, Ks.mv HA.out HLEN.out HBD.out a1Byl hov, (World.cell?_setCell_other _ _ _ _ (by simp)).trans S0, World.cell?_setCell_same _ _ _ S1⟩
    · have HM := Lib.hid hm
      have z : (moE a1Key a1Hi a1By == 0) = false := by simp [hm]
      clear hm
      go_wp2_with fail
      refine (moC_any bm v l a1Key a1Hi a1By W4 KP.out.st.m HA.out (by omega) HBD.out a1Keyl a1Keyh a1Hil a1Hih a1Byl a1Byh).mono ?_
      intro r W3 h
      rw [show moL l a1Key a1Hi a1By = l by unfold moL; rw [if_neg HM.out], show moT l a1Key a1Hi a1By = .tuple #[.int .i64 0, .int .i64 (moE a1Key a1Hi a1By)] by unfold moT; rw [if_neg HM.out]] at h
      obtain ⟨v1, rfl, hk, hc, hf⟩ := KP.out.op h
      have KP := Lib.hid hk; clear hk h
      replace S0 := (hc 0).trans S0
      replace S1 := (hc 1).trans S1
      replace F1 := (hf 1).trans F1
      clear hc hf
      go_wp2_with fail
      go_meet
      exact ⟨v1, l, a1Key, a1Hi, _, rfl, KP.out, Ks.same HA.out HLEN.out HBD.out _ _ _, S0, S1⟩
  case rest =>
    clear S0 S1 F1 KP e0 e1 e2 e3 e4
    obtain ⟨v1, l1, lo, hi, E, rfl, hkp, hks, s0, s1⟩ := hcut
    have KP := Lib.hid hkp; have KS := Lib.hid hks; clear hkp hks
    obtain ⟨A2, c2, e, hc2, rd⟩ := KP.out.rv.rd
    cases e
    have RD := Lib.hid rd; clear rd
    have hz1 : ((l.length : Nat) : Int) ≤ 60 := by have := HLEN.out; omega
    have hz2 : ((l1.length : Nat) : Int) ≤ 61 := by have := KS.out.len; omega
    go_wp2_with fail
    refine (pairsC_any _ _ _ _ KP.out.st.m (by have := KS.out.len; omega)).mono ?_
    rintro r W5 ⟨q1, rfl, hq, b5⟩
    have R2 := Lib.hid (Rv.fresh KP.out.st hq); clear hq
    replace s0 := (b5.cell (p := ⟨sb, 0, none⟩) KP.out.lt).trans s0
    replace s1 := (b5.cell (p := ⟨sb, 1, none⟩) KP.out.lt).trans s1
    have KP := Lib.hid (KP.out.below b5)
    have RD := Lib.hid (RD.out.below b5)
    obtain ⟨A', c', rfl, hc', rd⟩ := R2.out.rd
    have RD' := Lib.hid rd; clear rd R2
    go_wp2_with fail
    refine (ascending_yes A' _ c' l1 _ rfl (by have := KS.out.len; omega) RD'.out KS.out.asc).mono ?_
    rintro r W6 ⟨rfl, b6⟩
    replace s0 := (b6.cell (p := ⟨sb, 0, none⟩) KP.out.lt).trans s0
    replace s1 := (b6.cell (p := ⟨sb, 1, none⟩) KP.out.lt).trans s1
    have KP := Lib.hid (KP.out.below b6)
    have RD := Lib.hid (RD.out.below b6)
    have RD' := Lib.hid (RD'.out.below b6)
    go_wp2_with fail
    refine (lenC_any _ _ _ _ KP.out.st.m (by have := KS.out.len; omega)).mono ?_
    rintro r W7 ⟨rfl, b7⟩
    replace s0 := (b7.cell (p := ⟨sb, 0, none⟩) KP.out.lt).trans s0
    replace s1 := (b7.cell (p := ⟨sb, 1, none⟩) KP.out.lt).trans s1
    have KP := Lib.hid (KP.out.below b7)
    have RD := Lib.hid (RD.out.below b7)
    have RD' := Lib.hid (RD'.out.below b7)
    clear b5 b6 b7
    go_wp2
    go_loopw [10] (fun i wr => ∃ k : Nat, k ≤ l.length ∧ i = .int .i64 (k : Int) ∧ Below W7.heap.size W7 wr) (fun i _ => l.length - (intOf i).toNat)
    case atStart => exact ⟨0, Nat.zero_le _, rfl, Below.refl _ _⟩
    case round =>
      obtain ⟨k, hk, rfl, bel⟩ := hrel
      have hsz := KP.out.lt
      replace s0 := (bel.cell (p := ⟨sb, 0, none⟩) hsz).trans s0
      replace s1 := (bel.cell (p := ⟨sb, 1, none⟩) hsz).trans s1
      clear hsz
      have KP := Lib.hid (KP.out.below bel)
      have RD := Lib.hid (RD.out.below bel)
      have RD' := Lib.hid (RD'.out.below bel)
      by_cases hlt : k < l.length
      · have u0 : decide ((k : Int) < l.length) = true := decide_eq_true (by omega)
        have hki : (k : Int) < l.length := by omega
        obtain ⟨x, hx, hmem⟩ := getElem?_lt rfl hlt
        obtain ⟨d0, d1, d2, d3⟩ := HBD.out x hmem
        obtain ⟨b, o, rfl, c0, c1⟩ := RD.out k x hx
        have HG := Lib.hid ((getL_mem HA.out (k := x.1) (v := x.2)).2 hmem)
        clear hx hmem
        by_cases hE : E ≠ 0
        · have z : (E == 0) = false := by simp [hE]
          have z2 : (E != 0) = true := by simp [hE]
          have z3 : (!(E == 0)) = true := by simp [hE]
          have GE := (KS.out.eq x.1 (.inl hE)).trans HG.out
          have CG := getC_any bm v1 l1 x.1 wr KP.out.st.m KS.out.asc (by omega)
          rw [GE] at CG
          unfold gT at CG
          have CG := Lib.hid CG
          clear GE
          clear hE
          go_wp2_with fail
          refine CG.out.mono ?_
          rintro r w9 ⟨rfl, b9⟩
          replace c1 := (b9.cell (p := ⟨b, o + k * 2 + 1, none⟩) (World.block_lt_of_cell? _ _ c1)).trans c1
          go_wp2
          go_roundw
          case rel => exact ⟨k + 1, by omega, by go_num, bel_trans bel b9⟩
          case measure => simp [intOf]; omega
        obtain rfl : E = 0 := by omega
        clear hE
        by_cases hlo : x.1 < lo
        · have y1 : decide (x.1 < lo) = true := decide_eq_true hlo
          have GE := (KS.out.eq x.1 (.inr (.inl hlo))).trans HG.out
          have CG := getC_any bm v1 l1 x.1 wr KP.out.st.m KS.out.asc (by omega)
          rw [GE] at CG
          unfold gT at CG
          have CG := Lib.hid CG
          clear GE
          go_wp2_with fail
          refine CG.out.mono ?_
          rintro r w9 ⟨rfl, b9⟩
          replace c1 := (b9.cell (p := ⟨b, o + k * 2 + 1, none⟩) (World.block_lt_of_cell? _ _ c1)).trans c1
          go_wp2
          go_roundw
          case rel => exact ⟨k + 1, by omega, by go_num, bel_trans bel b9⟩
          case measure => simp [intOf]; omega
        have y1 : decide (x.1 < lo) = false := decide_eq_false hlo
        by_cases hhi : hi < x.1
        · have y2 : decide (hi < x.1) = true := decide_eq_true hhi
          have GE := (KS.out.eq x.1 (.inr (.inr hhi))).trans HG.out
          have CG := getC_any bm v1 l1 x.1 wr KP.out.st.m KS.out.asc (by omega)
          rw [GE] at CG
          unfold gT at CG
          have CG := Lib.hid CG
          clear GE
          go_wp2_with fail
          refine CG.out.mono ?_
          rintro r w9 ⟨rfl, b9⟩
          replace c1 := (b9.cell (p := ⟨b, o + k * 2 + 1, none⟩) (World.block_lt_of_cell? _ _ c1)).trans c1
          go_wp2
          go_roundw
          case rel => exact ⟨k + 1, by omega, by go_num, bel_trans bel b9⟩
          case measure => simp [intOf]; omega
        have y2 : decide (hi < x.1) = false := decide_eq_false hhi
        go_wp2
        go_roundw
        case rel => exact ⟨k + 1, by omega, by go_num, bel⟩
        case measure => simp [intOf]; omega
      · obtain rfl : k = l.length := by omega
        have u0 : decide ((l.length : Int) < l.length) = false := decide_eq_false (by omega)
        obtain ⟨w8, rfl⟩ : ∃ w8 : World, w8 = wr := ⟨_, rfl⟩
        clear bel hk hlt
        go_wp2
        go_loopw [14] (fun i wr => ∃ k : Nat, k ≤ l1.length ∧ i = .int .i64 (k : Int) ∧ Below w8.heap.size w8 wr) (fun i _ => l1.length - (intOf i).toNat)
        case atStart => exact ⟨0, Nat.zero_le _, rfl, Below.refl _ _⟩
        case round =>
          clear u0
          obtain ⟨k, hk, rfl, bel⟩ := hrel
          have hsz := KP.out.lt
          replace s0 := (bel.cell (p := ⟨sb, 0, none⟩) hsz).trans s0
          replace s1 := (bel.cell (p := ⟨sb, 1, none⟩) hsz).trans s1
          clear hsz
          have KP := Lib.hid (KP.out.below bel)
          have RD := Lib.hid (RD.out.below bel)
          have RD' := Lib.hid (RD'.out.below bel)
          by_cases hlt : k < l1.length
          · have u0 : decide ((k : Int) < l1.length) = true := decide_eq_true (by omega)
            have hki : (k : Int) < l1.length := by omega
            obtain ⟨x, hx, hmem⟩ := getElem?_lt rfl hlt
            obtain ⟨d0, d1, d2, d3⟩ := KS.out.bd x hmem
            obtain ⟨b, o, rfl, c0, c1⟩ := RD'.out k x hx
            have HG := Lib.hid ((getL_mem KS.out.asc (k := x.1) (v := x.2)).2 hmem)
            clear hx hmem
            by_cases hE : E ≠ 0
            · have z : (E == 0) = false := by simp [hE]
              have z2 : (E != 0) = true := by simp [hE]
              have z3 : (!(E == 0)) = true := by simp [hE]
              have GE := (KS.out.eq x.1 (.inl hE)).symm.trans HG.out
              have CG := has_any A _ c l x.1 wr rfl (by omega) RD.out
              rw [GE] at CG
              unfold gT at CG
              have CG := Lib.hid CG
              clear GE
              clear hE
              go_wp2_with fail
              refine CG.out.mono ?_
              rintro r w9 ⟨rfl, rfl⟩
              go_wp2
              go_roundw
              case rel => exact ⟨k + 1, by omega, by go_num, bel⟩
              case measure => simp [intOf]; omega
            obtain rfl : E = 0 := by omega
            clear hE
            by_cases hlo : x.1 < lo
            · have y1 : decide (x.1 < lo) = true := decide_eq_true hlo
              have GE := (KS.out.eq x.1 (.inr (.inl hlo))).symm.trans HG.out
              have CG := has_any A _ c l x.1 wr rfl (by omega) RD.out
              rw [GE] at CG
              unfold gT at CG
              have CG := Lib.hid CG
              clear GE
              go_wp2_with fail
              refine CG.out.mono ?_
              rintro r w9 ⟨rfl, rfl⟩
              go_wp2
              go_roundw
              case rel => exact ⟨k + 1, by omega, by go_num, bel⟩
              case measure => simp [intOf]; omega
            have y1 : decide (x.1 < lo) = false := decide_eq_false hlo
            by_cases hhi : hi < x.1
            · have y2 : decide (hi < x.1) = true := decide_eq_true hhi
              have GE := (KS.out.eq x.1 (.inr (.inr hhi))).symm.trans HG.out
              have CG := has_any A _ c l x.1 wr rfl (by omega) RD.out
              rw [GE] at CG
              unfold gT at CG
              have CG := Lib.hid CG
              clear GE
              go_wp2_with fail
              refine CG.out.mono ?_
              rintro r w9 ⟨rfl, rfl⟩
              go_wp2
              go_roundw
              case rel => exact ⟨k + 1, by omega, by go_num, bel⟩
              case measure => simp [intOf]; omega
            have y2 : decide (hi < x.1) = false := decide_eq_false hhi
            go_wp2
            go_roundw
            case rel => exact ⟨k + 1, by omega, by go_num, bel⟩
            case measure => simp [intOf]; omega
          · obtain rfl : k = l1.length := by omega
            have u0 : decide ((l1.length : Int) < l1.length) = false := decide_eq_false (by omega)
            go_wp2_with fail
            refine (known_any _).mono ?_
            rintro r w9 ⟨rfl, b9⟩
            go_wp2
            go_ret
            exact ⟨rfl, bel_trans (b0.trans (KP.out.st.bel.mono (by omega))) b9⟩
end Wk
end Go.Proofs.Ythinaablldnikaa
