/- The iterator over the towers of a list (list, its closure): contracts of the translated code. Conditions: those of each contract. -/
import Derived.Test.YtjcbjbhlclajnaaTwA
import Derived.Test.YtjcbjbhlclajnaaTwS
import Derived.Shelf.RegionOpen
import Derived.Maps.AppendAt
namespace Go.Proofs.Ytjcbjbhlclajnaa
open Go.RowKit Go.Shelf Go.Sort
set_option linter.unusedVariables false
set_option linter.unusedSimpArgs false
set_option maxRecDepth 100000
attribute [local go_sem] Oper.semAt_some
namespace Tw
open Wd
open Ly (Ge tot pk pW nxO wdO ad tg gs InT Cf LyAt I64)
section
variable {w : World} {x bm p : Nat} {q : Option Nat} {bl : Nat} {f : Cf} {l : List Int} {g : Ge} {M : Wm}
theorem height_x (h : LyAt w bl f l g) (ok : g.ok) (v : Int) : Calls Try.prog 32 #[.pointer (some ⟨bl, 0, none⟩), .int .i64 v] w fun e w' => (∃ E : Int, e = .returned (.tuple #[.int .i64 ((hgt g v : Nat) : Int), .int .i64 E])) ∧ Below w.heap.size w w' := by
  refine (Ly.height_any h ok v).mono ?_
  rintro e w' ⟨rfl, hb⟩
  refine ⟨?_, hb⟩
  unfold Ly.hgE hgt
  split
  · exact ⟨_, rfl⟩
  · exact ⟨_, rfl⟩
set_option maxHeartbeats 8000000 in
theorem list1_in (F : Fence) (n : Nat) (hF : ∀ f, F.fn f) (hro : F.round = none) (hwide : ∀ {g : Nat} {args : Array Value} {w : World} {R : Ending → World → Prop}, Calls Try.prog g args w R → CallsIn F (n - 1) Try.prog g args w R) (hn : 1 ≤ n) (lp bV bT bL : Nat) (v u : Int) (hv : I64 v) (hu : 0 ≤ u) (hu2 : u ≤ 9223372036854775807) {W : World} (hT : Tt W x bm p q bl f l g M)
    (h1 : W.cell? ⟨bV, 0, none⟩ = some (.int .i64 v)) (h2 : W.cell? ⟨bT, 0, none⟩ = some (.pointer (some ⟨x, 0, none⟩))) (h3 : W.cell? ⟨bL, 0, none⟩ = some (.int .i64 u))
    (Z : Nat → Prop) (n₀ : Nat) (hn0 : n₀ ≤ W.heap.size) (k1 : bV < n₀ ∧ ¬ Z bV) (k2 : bT < n₀ ∧ ¬ Z bT) (k3 : bL < n₀ ∧ ¬ Z bL) (hk : ∀ V, Kx Z n₀ W V → Tt V x bm p q bl f l g M)
    (J : List Int → World → Prop) (hJ : OwnFrom W.heap.size J)
    (hY : ∀ pre x X, J pre X → pre ++ [x] <+: ls g M v u → YieldAt F (n - 1) Try.prog lp #[.int .i64 x] X fun e X' => e = .returned (.bool true) ∧ J (pre ++ [x]) X' ∧ KeepsFrom W.heap.size X X' ∧ Kx Z n₀ X X')
    (h0 : J [] W) :
    CallsIn F n Try.prog 73 #[.func (.yield lp) #[] #[], .pointer (some ⟨bV, 0, none⟩), .pointer (some ⟨bT, 0, none⟩), .pointer (some ⟨bL, 0, none⟩)] W fun e W' => (∃ v, e = .returned v) ∧ J (ls g M v u) W' := by
  have CH := Lib.hid (fun W => hwide (head_any v hv W))
  have HK := Lib.hid hk
  have CA := Lib.hid (fun (V : World) (hb : Kx Z n₀ W V) (r : Int) (hr : I64 r) => hwide (after_any (hk V hb) r u hr))
  have CG := Lib.hid (fun (V : World) (hb : Kx Z n₀ W V) (r : Int) => hwide (height_x (hk V hb).ly (hk V hb).ok r))
  have HBD := Lib.hid hT.bd
  have HOK := Lib.hid hT.ok
  have KC := Lib.hid (fun (V : World) (hb : Kx Z n₀ W V) => (show V.cell? ⟨bT, 0, none⟩ = some (.pointer (some ⟨x, 0, none⟩)) ∧ V.cell? ⟨bL, 0, none⟩ = some (.int .i64 u) ∧ V.cell? ⟨x, 1, none⟩ = some (.pointer (some ⟨bl, 0, none⟩)) from ⟨(hb.cell (a := ⟨bT, 0, none⟩) k2.1 k2.2).trans h2, (hb.cell (a := ⟨bL, 0, none⟩) k3.1 k3.2).trans h3, (hk V hb).c1⟩))
  have HS := Lib.hid (Li.start g M v u)
  have HX := Lib.hid (Sw.made W)
  have HB0 := Lib.hid (show Kx Z n₀ W (W.alloc (.map #[] 0)) from Kx.of_below ((Below.refl _ W).alloc hn0 _))
  have HJ0 := Lib.hid (show J [] (W.alloc (.map #[] 0)) from hJ.alloc _ h0)
  have HN0 := Lib.hid hn0
  have HJ := Lib.hid hJ
  have h1' := (HB0.out.cell (a := ⟨bV, 0, none⟩) k1.1 k1.2).trans h1
  obtain ⟨xs, hxs⟩ : ∃ xs, xs = ls g M v u := ⟨_, rfl⟩
  rw [← hxs] at hY HS ⊢
  have HU := Lib.hid hu
  have HRV := Lib.hid (show I64 (-1 - v) from ⟨by have := hv.2; omega, by have := hv.1; omega⟩)
  obtain ⟨MB, hMB⟩ : ∃ MB, MB = W.heap.size := ⟨_, rfl⟩
  have HMB := Lib.hid hMB
  clear hk hT h1 h2 h3 h0 hJ hxs hu hMB hv hn0 k1 k2 k3
  have hmm := @run_makeMap Try.prog
  refine callsIn_of_wp Try.func73 rfl (hF _) ?_ hro
  simp only [Try.ntmps73, List.size_toArray, List.length_cons, List.length_nil, Nat.reduceAdd, Nat.reduceSub, Array.replicate_succ, Array.replicate_zero, List.push_toArray, List.append_toArray, List.nil_append, List.cons_append]
  gi_wp2_with (gi_at_call 72; refine (CH.out _).mono ?_; rintro e w' ⟨rfl, rfl⟩)
  clear hmm h1'
  gi_loopw [6] (fun r wr => ∃ (pre : List Int) (at_ : Int) (k : Nat), r = .int .i64 at_ ∧ I64 at_ ∧ Li g M u xs pre at_ k ∧ J pre wr ∧ Kx Z n₀ W wr ∧ Sw wr W.heap.size pre) (fun _ wr => left (tot g.t 6 + 1) W.heap.size wr)
  case atStart => exact ⟨[], -1 - v, _, rfl, HRV.out, HS.out, HJ0.out, HB0.out, HX.out⟩
  case round =>
    obtain ⟨pre, at_, k, rfl, hat, hli, hj, hb, hsw⟩ := hrel
    clear HS HX HB0 HJ0 HRV
    obtain ⟨kc1, kc2, kc3⟩ := KC.out wr hb
    have hbd := af_bd (g := g) HBD.out at_ u
    have htt := HOK.out.tt
    have hbd' : I64 (af g M at_ u) := ⟨by omega, by omega⟩
    have CA1 := Lib.hid (CA.out wr hb at_ hat)
    have HLI := Lib.hid hli
    have HSW := Lib.hid hsw
    have HBB := Lib.hid hb
    have HJJ := Lib.hid hj
    have HBD' := Lib.hid hbd'
    generalize haf : af g M at_ u = a2 at *
    have HAF := Lib.hid haf
    clear haf
    obtain ⟨HH, hHH⟩ : ∃ HH : Int, HH = ((hgt g a2 : Nat) : Int) := ⟨_, rfl⟩
    have HHE := Lib.hid hHH.symm
    clear hHH
    have HN1 := Lib.hid (show n₀ ≤ wr.heap.size from Nat.le_trans HN0.out hb.size)
    clear hat hli hj hb hsw hbd'
    by_cases hs : HH ≤ u
    · have d0 : decide (HH ≤ u) = true := decide_eq_true hs
      have HE := Lib.hid (HLI.out.stop (.inl (by rw [HAF.out, HHE.out]; exact hs)))
      clear hs
      gi_wp2_with (first | (gi_at_call 12; refine CA1.out.mono ?_; rintro e W1 ⟨rfl, hb1⟩; have bb1 := HBB.out.trans (Kx.of_below (Z := Z) (hb1.mono HN1.out)); obtain ⟨c1, c2, c3⟩ := KC.out W1 bb1; have CG1 := CG.out W1 bb1 a2; rw [HHE.out] at CG1) | (gi_at_call 32; refine CG1.mono ?_; rintro e W2 ⟨⟨E, rfl⟩, hb2⟩; have hb12 := hb1.trans (hb2.mono hb1.size); have bb2 := HBB.out.trans (Kx.of_below (Z := Z) (hb12.mono HN1.out)); obtain ⟨e1, e2, e3⟩ := KC.out W2 bb2; have hjj := own_below HJ.out HJJ.out hb12; have hsw2 := HSW.out.below hb12; skip))
      rw [HE.out]
      refine bodyPost_ret (results_none rfl _ _ _) rfl ?_
      exact ⟨⟨_, rfl⟩, hjj⟩
    · have d0 : decide (HH ≤ u) = false := decide_eq_false hs
      by_cases hm : a2 ∈ pre
      · have HE := Lib.hid (HLI.out.stop (.inr (by rw [HAF.out]; exact hm)))
        have HM := Lib.hid (decide_eq_true hm)
        clear hs hm
        gi_wp2_with (first | (gi_at_call 12; refine CA1.out.mono ?_; rintro e W1 ⟨rfl, hb1⟩; have bb1 := HBB.out.trans (Kx.of_below (Z := Z) (hb1.mono HN1.out)); obtain ⟨c1, c2, c3⟩ := KC.out W1 bb1; have CG1 := CG.out W1 bb1 a2; rw [HHE.out] at CG1) | (gi_at_call 32; refine CG1.mono ?_; rintro e W2 ⟨⟨E, rfl⟩, hb2⟩; have hb12 := hb1.trans (hb2.mono hb1.size); have bb2 := HBB.out.trans (Kx.of_below (Z := Z) (hb12.mono HN1.out)); obtain ⟨e1, e2, e3⟩ := KC.out W2 bb2; have hjj := own_below HJ.out HJJ.out hb12; have hsw2 := HSW.out.below hb12; have hlk := hsw2.look HBD'.out; rw [HM.out] at hlk))
        rw [HE.out]
        refine bodyPost_ret (results_none rfl _ _ _) rfl ?_
        exact ⟨⟨_, rfl⟩, hjj⟩
      · obtain ⟨hpx, j, hkj, hli2⟩ := HLI.out.go HU.out (by rw [HAF.out, HHE.out]; exact hs) (by rw [HAF.out]; exact hm)
        rw [HAF.out] at hpx hli2
        have HPX := Lib.hid hpx
        have HKJ := Lib.hid hkj
        have HLI2 := Lib.hid hli2
        have HM := Lib.hid (decide_eq_false hm)
        clear hs hm hpx hkj hli2
        gi_wp2_with (first | (gi_at_call 12; refine CA1.out.mono ?_; rintro e W1 ⟨rfl, hb1⟩; have bb1 := HBB.out.trans (Kx.of_below (Z := Z) (hb1.mono HN1.out)); obtain ⟨c1, c2, c3⟩ := KC.out W1 bb1; have CG1 := CG.out W1 bb1 a2; rw [HHE.out] at CG1) | (gi_at_call 32; refine CG1.mono ?_; rintro e W2 ⟨⟨E, rfl⟩, hb2⟩; have hb12 := hb1.trans (hb2.mono hb1.size); have bb2 := HBB.out.trans (Kx.of_below (Z := Z) (hb12.mono HN1.out)); obtain ⟨e1, e2, e3⟩ := KC.out W2 bb2; have hjj := own_below HJ.out HJJ.out hb12; have hsw2 := HSW.out.below hb12; have hlk := hsw2.look HBD'.out; rw [HM.out] at hlk; obtain ⟨fn, tmps, assign, body, hy, hRd⟩ := hY pre a2 W2 hjj HPX.out; (try dsimp only at hy)))
        refine hRd.mono ?_
        rintro e W3 ⟨rfl, hj3, hk3, hb3⟩
        have hsw3 := hsw2.from hk3 (Nat.le_refl _)
        have hlen := HLI.out.len
        obtain ⟨W4, hst, hsw4, hg4⟩ := hsw3.put HBD'.out (by unfold maxLen; omega)
        have HSW4 := Lib.hid hsw4
        have HJ4 := Lib.hid (HJ.out _ W3 W4 (some W.heap.size) hj3 hg4 (fun r e => by cases e; exact ⟨Nat.le_refl _, hsw3.obj⟩))
        have HB4 := Lib.hid (show Kx Z n₀ W W4 from (bb2.trans hb3).trans (Kx.grown hg4 (Nat.le_trans HN0.out (bb2.trans hb3).size) (fun k e => by cases e; exact .inr HN0.out)))
        clear hsw3 hsw4 hj3 hk3 hb3 hg4 hjj hsw2 hb12 hb2 hb1 hRd hy hlk hlen
        gi_wp2
        go_roundw
        case rel => exact ⟨_, _, _, rfl, HBD'.out, HLI2.out, HJ4.out, HB4.out, HSW4.out⟩
        case measure =>
          have q1 := left_eq HSW4.out HLI2.out.d (fun x hx => by have := HLI2.out.b x hx; exact ⟨by omega, by omega⟩) (tot g.t 6 + 1)
          have q2 := left_eq HSW.out HLI.out.d (fun x hx => by have := HLI.out.b x hx; exact ⟨by omega, by omega⟩) (tot g.t 6 + 1)
          have q3 := HLI.out.len
          rw [q1, q2, List.length_append, List.length_singleton]
          omega
end
/-- the iterator's contract, for whoever calls it with boxes of its own -/
theorem list1_seq (F : Fence) (n : Nat) (hF : ∀ f, F.fn f) (hro : F.round = none) (hwide : ∀ {g : Nat} {args : Array Value} {w : World} {R : Ending → World → Prop}, Calls Try.prog g args w R → CallsIn F (n - 1) Try.prog g args w R) (hn : 1 ≤ n) {x bm p : Nat} {q : Option Nat} {bl : Nat} {f : Cf} {l : List Int} {g : Ge} {M : Wm} (bV bT bL : Nat) (v u : Int) (hv : I64 v) (hu : 0 ≤ u) (hu2 : u ≤ 9223372036854775807) {w : World} (hT : Tt w x bm p q bl f l g M)
    (h1 : w.cell? ⟨bV, 0, none⟩ = some (.int .i64 v)) (h2 : w.cell? ⟨bT, 0, none⟩ = some (.pointer (some ⟨x, 0, none⟩))) (h3 : w.cell? ⟨bL, 0, none⟩ = some (.int .i64 u))
    (Z : Nat → Prop) (n₀ : Nat) (hn0 : n₀ ≤ w.heap.size) (k1 : bV < n₀ ∧ ¬ Z bV) (k2 : bT < n₀ ∧ ¬ Z bT) (k3 : bL < n₀ ∧ ¬ Z bL) (hk : ∀ V, Kx Z n₀ w V → Tt V x bm p q bl f l g M) :
    SeqM F n Try.prog 73 #[.pointer (some ⟨bV, 0, none⟩), .pointer (some ⟨bT, 0, none⟩), .pointer (some ⟨bL, 0, none⟩)] (ls g M v u) Z n₀ w := fun lp J W hW hJ hY h0 => by
  have hb : Kx Z n₀ w W := Kx.of_below (hW.mono hn0)
  exact list1_in F n hF hro hwide hn lp bV bT bL v u hv hu hu2 (hk W hb) ((hb.cell (a := ⟨bV, 0, none⟩) k1.1 k1.2).trans h1) ((hb.cell (a := ⟨bT, 0, none⟩) k2.1 k2.2).trans h2) ((hb.cell (a := ⟨bL, 0, none⟩) k3.1 k3.2).trans h3) Z n₀ (Nat.le_trans hn0 hW.size) k1 k2 k3 (fun V hV => hk V (hb.trans hV)) J hJ hY h0
/-- list: three boxes, and the closure -/
theorem list_in (F : Fence) (n : Nat) (hF : ∀ f, F.fn f) (hro : F.round = none) (x : Nat) (v u : Int) (w : World) : CallsIn F n Try.prog 38 #[.pointer (some ⟨x, 0, none⟩), .int .i64 v, .int .i64 u] w fun e w' => e = .returned (.func (.func 73) #[] #[.pointer (some ⟨w.heap.size + 1, 0, none⟩), .pointer (some ⟨w.heap.size, 0, none⟩), .pointer (some ⟨w.heap.size + 2, 0, none⟩)]) ∧ w' = ((w.alloc (.cells #[.pointer (some ⟨x, 0, none⟩)] 22)).alloc (.cells #[.int .i64 v] 3)).alloc (.cells #[.int .i64 u] 3) := by
  refine callsIn_of_wp Try.func38 rfl (hF _) ?_ hro
  simp only [Try.ntmps38, List.size_toArray, List.length_cons, List.length_nil, Nat.reduceAdd, Nat.reduceSub, Array.replicate_succ, Array.replicate_zero, List.push_toArray, List.append_toArray, List.nil_append, List.cons_append]
  gi_wp2
  go_ret
  exact ⟨rfl, rfl⟩
end Tw
end Go.Proofs.Ytjcbjbhlclajnaa
