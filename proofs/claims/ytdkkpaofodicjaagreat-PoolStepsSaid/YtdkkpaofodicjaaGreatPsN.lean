/- Package pool: New, Take, Give, Gen, and nil: contracts of the translated code. Conditions: the bounds of each number's kind. (Written by tools/mkps5.py.) -/
import Derived.Test.YtdkkpaofodicjaaGreatPsA
import Derived.Test.YtdkkpaofodicjaaGreatPsM
namespace Go.Proofs.YtdkkpaofodicjaaGreat
open Go.RowKit Go.Sort
set_option linter.unusedVariables false
set_option linter.unusedSimpArgs false
set_option maxRecDepth 100000
namespace Po
open Wd
open Ly (Ge tot pP pK pW pk Cf LyAt)
open Dm (addr_lit info_parts spot_none RdK flatU infoU bel_alloc bel_trans own_keep below_drewN)
/-! ### nil -/
theorem new_nil (a b : Option Addr) (w : World) (h : a = none ∨ b = none) (ha : ∀ x, a = some x → ∃ i, x = ⟨i, 0, none⟩) : Calls Tryz.prog 12 #[.pointer a, .pointer b] w fun e w' => e = .returned (.tuple #[.pointer none, .int .i64 1]) ∧ w' = w := by
  cases a with
  | none =>
    go_enter Tryz.func12, Tryz.ntmps12
    go_wp2
    go_ret2
    exact ⟨rfl, rfl⟩
  | some a =>
    obtain ⟨i, rfl⟩ := ha a rfl
    have hb : b = none := by rcases h with e | e; cases e; exact e
    subst hb
    clear ha h
    go_enter Tryz.func12, Tryz.ntmps12
    go_wp2
    go_ret2
    exact ⟨rfl, rfl⟩
theorem take_nil (t h m : Int) (w : World) : Calls Tryz.prog 14 #[.pointer none, .int .i64 t, .int .i64 h, .int .i64 m] w fun e w' => e = .returned (.tuple #[.pointer none, .int .i64 1]) ∧ w' = w := by
  go_enter Tryz.func14, Tryz.ntmps14
  go_wp2
  go_ret2
  exact ⟨rfl, rfl⟩
theorem give_nil (t h : Int) (w : World) : Calls Tryz.prog 16 #[.pointer none, .int .i64 t, .int .i64 h] w fun e w' => e = .returned (.tuple #[.pointer none, .int .i64 1]) ∧ w' = w := by
  go_enter Tryz.func16, Tryz.ntmps16
  go_wp2
  go_ret2
  exact ⟨rfl, rfl⟩
theorem list_nil (h : Int) (w : World) : Calls Tryz.prog 23 #[.pointer none, .int .i64 h] w fun e w' => e = .returned (.tuple #[.slice none 0 0, .int .i64 1]) ∧ w' = w := by
  go_enter Tryz.func23, Tryz.ntmps23
  go_wp2
  go_ret2
  exact ⟨rfl, rfl⟩
theorem gen_nil (h : Int) (w : World) : Calls Tryz.prog 25 #[.pointer none, .int .i64 h] w fun e w' => e = .returned (.tuple #[.int .i64 0, .int .i64 1]) ∧ w' = w := by
  go_enter Tryz.func25, Tryz.ntmps25
  go_wp2
  go_ret2
  exact ⟨rfl, rfl⟩
theorem out_nil (w : World) : Calls Tryz.prog 21 #[.pointer none] w fun e w' => e = .returned (.slice none 0 0) ∧ w' = w := by
  go_enter Tryz.func21, Tryz.ntmps21
  go_wp2
  go_ret
  exact ⟨rfl, rfl⟩
theorem res_nil (w : World) : Calls Tryz.prog 59 #[.pointer none] w fun e w' => e = .returned (.tuple #[.int .i64 0, .int .i64 0, .int .i64 1]) ∧ w' = w := by
  go_enter Tryz.func59, Tryz.ntmps59
  go_wp2
  go_ret3
  exact ⟨rfl, rfl⟩
theorem next_gnil (w : World) : Calls Tryz.prog 61 #[.pointer none] w fun e w' => e = .returned (.int .u8 0) ∧ w' = w := by
  go_enter Tryz.func61, Tryz.ntmps61
  go_wp2
  go_ret
  exact ⟨rfl, rfl⟩
theorem step_gnil (w : World) : Calls Tryz.prog 62 #[.pointer none] w fun e w' => e = .returned (.tuple #[.int .u8 0, .bool false]) ∧ w' = w := by
  have CN := Lib.hid (next_gnil w)
  go_enter Tryz.func62, Tryz.ntmps62
  go_wp2_with fail
  refine CN.out.mono ?_
  rintro r1 w1 ⟨rfl, e⟩
  obtain rfl := e.symm
  go_wp2
  go_ret2
  exact ⟨rfl, rfl⟩
/-! ### Gen -/
theorem gen_any {w : World} {x bm bl ta n : Nat} {S : Pm} (h : PA w x bm bl ta n S) (t : Int) (hn : n ≤ 1024) : Calls Tryz.prog 25 #[.pointer (some ⟨x, 0, none⟩), .int .i64 t] w fun e w' => e = .returned (.tuple #[.int .i64 (gnV n S t), .int .i64 (gnE n t)]) ∧ w' = w := by
  by_cases ht : 1 ≤ t ∧ t ≤ n
  · obtain ⟨k, rfl⟩ : ∃ k : Nat, t = ((k + 1 : Nat) : Int) := ⟨(t - 1).toNat, by omega⟩
    have CR := record_ok h k (by omega) hn
    have c := (h.r k (by omega)).2.2
    have e1 : gnE n ((k + 1 : Nat) : Int) = 0 := if_pos ht
    have e2 : gnV n S ((k + 1 : Nat) : Int) = ((S.gn (k + 1) : Nat) : Int) := by unfold gnV; rw [if_pos ht, Int.toNat_natCast]
    rw [e1, e2]
    clear h ht e1 e2
    generalize ((k + 1 : Nat) : Int) = T at *
    generalize ((S.gn (k + 1) : Nat) : Int) = G at *
    replace CR := Lib.hid CR
    go_enter Tryz.func25, Tryz.ntmps25
    go_wp2_with fail
    refine CR.out.mono ?_
    rintro r1 w1 ⟨rfl, e⟩
    obtain rfl := e.symm
    go_wp2
    go_ret2
    exact ⟨rfl, rfl⟩
  · have CR := Lib.hid (record_no h t ht)
    rw [show gnE n t = 3 from if_neg ht, show gnV n S t = 0 from if_neg ht]
    clear h ht
    go_enter Tryz.func25, Tryz.ntmps25
    go_wp2_with fail
    refine CR.out.mono ?_
    rintro r1 w1 ⟨rfl, e⟩
    obtain rfl := e.symm
    go_wp2
    go_ret2
    exact ⟨rfl, rfl⟩
/-! ### Take -/
/-- an operation made in two new blocks -/
def NwO (x m : Nat) (r : Op) (w' : World) : Prop := ∀ c, c m = 7 → OA w' c (m + 1) x r
def TkC (x : Nat) (t h m : Int) (w : World) (e : Ending) (w' : World) : Prop :=
  (tkE t h m ≠ 0 ∧ e = .returned (.tuple #[.pointer none, .int .i64 (tkE t h m)]) ∧ w' = w) ∨
  (tkE t h m = 0 ∧ ∃ a b d : Nat, t = (a : Int) ∧ h = ((b + 1 : Nat) : Int) ∧ m = (d : Int) ∧ a < 64 ∧ b < 6 ∧ d ≤ 255 ∧ e = .returned (.tuple #[.pointer (some ⟨w.heap.size + 1, 0, none⟩), .int .i64 0]) ∧ NwO x w.heap.size ⟨a, b, 0, d, 4, 0, 0, 0, 0, 0⟩ w' ∧ Below w.heap.size w w')
theorem two_map (W : World) (o : Obj) (cs : Array Value) (ty : TypeId) : ((W.alloc o).alloc (.cells cs ty)).heap[W.heap.size]? = some o := by
  rw [Below.heap_alloc _ _ _ (by rw [World.size_alloc]; omega)]
  exact heap_alloc_new W o
theorem two_cell (W : World) (o : Obj) (cs : Array Value) (ty : TypeId) (i : Nat) : ((W.alloc o).alloc (.cells cs ty)).cell? ⟨W.heap.size + 1, i, none⟩ = cs[i]? := by
  have := World.cell?_alloc_new (W.alloc o) cs ty i
  rw [World.size_alloc] at this
  exact this
theorem two_heap (W : World) (o : Obj) (cs : Array Value) (ty : TypeId) : ((W.alloc o).alloc (.cells cs ty)).heap[W.heap.size + 1]? = some (.cells cs ty) := by
  have := heap_alloc_new (W.alloc o) (.cells cs ty)
  rw [World.size_alloc] at this
  exact this
theorem two_fz (W : World) (o : Obj) (cs : Array Value) (ty : TypeId) (i : Nat) : ((W.alloc o).alloc (.cells cs ty)).frozen? ⟨W.heap.size + 1, i, none⟩ = false := froz_heap (two_heap W o cs ty)
set_option maxHeartbeats 1000000 in
theorem takeC_any (x : Nat) (t h m : Int) (w : World) : Calls Tryz.prog 14 #[.pointer (some ⟨x, 0, none⟩), .int .i64 t, .int .i64 h, .int .i64 m] w (TkC x t h m w) := by
  unfold TkC
  have CT := isThread_any t w
  have CH := isHeight_any h w
  have hmm := @run_makeMap Tryz.prog
  have m1 := fun val (w : World) => mu_t w #[] 0 4 val rfl
  have m2 := fun val (w : World) => mu_t w #[mE 4 46 0] 1 5 val rfl
  have m3 := fun val (w : World) => mu_t w #[mE 4 46 0, mE 5 47 1] 2 6 val rfl
  simp only [mE, Nat.reduceSub, List.push_toArray, List.nil_append, List.cons_append, Nat.reduceAdd, Nat.zero_add] at m1 m2 m3
  by_cases h1 : 0 ≤ t ∧ t < 64
  · rw [decide_eq_true h1] at CT
    replace CT := Lib.hid CT
    by_cases h3 : m < 0
    · have e : tkE t h m = 2 := if_neg (fun e => by omega)
      rw [e]
      have t3 : decide (m < 0) = true := decide_eq_true h3
      clear h1 h3 e CH
      go_enter Tryz.func14, Tryz.ntmps14
      go_wp2_with fail
      refine CT.out.mono ?_
      rintro r1 w1 ⟨rfl, e⟩
      obtain rfl := e.symm
      go_wp2
      go_ret2
      exact .inl ⟨by decide, rfl, rfl⟩
    have t3 : decide (m < 0) = false := decide_eq_false h3
    by_cases h4 : 255 < m
    · have e : tkE t h m = 2 := if_neg (fun e => by omega)
      rw [e]
      have t4 : decide (255 < m) = true := decide_eq_true h4
      clear h1 h3 h4 e CH
      go_enter Tryz.func14, Tryz.ntmps14
      go_wp2_with fail
      refine CT.out.mono ?_
      rintro r1 w1 ⟨rfl, e⟩
      obtain rfl := e.symm
      go_wp2
      go_ret2
      exact .inl ⟨by decide, rfl, rfl⟩
    have t4 : decide (255 < m) = false := decide_eq_false h4
    by_cases h5 : 1 ≤ h ∧ h ≤ 6
    · rw [decide_eq_true h5] at CH
      replace CH := Lib.hid CH
      have e : tkE t h m = 0 := by unfold tkE; rw [if_pos (by omega), if_pos (by omega)]
      rw [e]
      have HX := Lib.hid (show ∃ a b d : Nat, t = (a : Int) ∧ h = ((b + 1 : Nat) : Int) ∧ m = (d : Int) ∧ a < 64 ∧ b < 6 ∧ d ≤ 255 from ⟨t.toNat, (h - 1).toNat, m.toNat, by omega, by omega, by omega, by omega, by omega, by omega⟩)
      clear h1 h3 h4 h5 e
      go_enter Tryz.func14, Tryz.ntmps14
      go_wp2_with fail
      refine CT.out.mono ?_
      rintro r1 w1 ⟨rfl, e⟩
      obtain rfl := e.symm
      go_wp2_with fail
      refine CH.out.mono ?_
      rintro r1 w1 ⟨rfl, e⟩
      obtain rfl := e.symm
      go_wp2
      go_ret2
      obtain ⟨a, b, d, ha, hb, hd, h7, h8, h9⟩ := HX.out
      refine .inr ⟨trivial, a, b, d, ha, hb, hd, h7, h8, h9, by simp, fun c hc => ?_, bel_new (bel_new (Below.refl _ _) _) _⟩
      subst ha hb hd
      refine ⟨two_cell .., two_cell .., two_cell .., two_cell .., two_cell .., ⟨w.heap.size, two_cell .., ?_, hc, by omega⟩, fun _ => ⟨two_cell .., two_cell .., two_cell .., two_cell .., two_cell ..⟩, fun q => absurd q (by simp), fun j _ => two_fz ..⟩
      exact two_map ..
    · rw [decide_eq_false h5] at CH
      replace CH := Lib.hid CH
      have e : tkE t h m = 3 := by unfold tkE; rw [if_pos (by omega), if_neg (by omega)]
      rw [e]
      clear h1 h3 h4 h5 e
      go_enter Tryz.func14, Tryz.ntmps14
      go_wp2_with fail
      refine CT.out.mono ?_
      rintro r1 w1 ⟨rfl, e⟩
      obtain rfl := e.symm
      go_wp2_with fail
      refine CH.out.mono ?_
      rintro r1 w1 ⟨rfl, e⟩
      obtain rfl := e.symm
      go_wp2
      go_ret2
      exact .inl ⟨by decide, rfl, rfl⟩
  · have e : tkE t h m = 2 := if_neg (fun e => h1 e.1)
    rw [e]
    rw [decide_eq_false h1] at CT
    replace CT := Lib.hid CT
    clear h1 e CH
    go_enter Tryz.func14, Tryz.ntmps14
    go_wp2_with fail
    refine CT.out.mono ?_
    rintro r1 w1 ⟨rfl, e⟩
    obtain rfl := e.symm
    go_wp2
    go_ret2
    exact .inl ⟨by decide, rfl, rfl⟩
/-! ### Give -/
def GvC (K : Kc) (S : Pm) (t u : Int) (w : World) (e : Ending) (w' : World) : Prop :=
  (gvE (tot K.g.t 6) S t u ≠ 0 ∧ e = .returned (.tuple #[.pointer none, .int .i64 (gvE (tot K.g.t 6) S t u)]) ∧ w' = w) ∨
  (gvE (tot K.g.t 6) S t u = 0 ∧ ∃ a k m : Nat, t = (a : Int) ∧ u = ((k + 1 : Nat) : Int) ∧ a < 64 ∧ k < tot K.g.t 6 ∧ w.heap.size ≤ m ∧ e = .returned (.tuple #[.pointer (some ⟨m + 1, 0, none⟩), .int .i64 0]) ∧ NwO K.x m ⟨a, htG K.g (k + 1), k + 1, 0, 4, 0, 0, 0, 0, 0⟩ w' ∧ PA w' K.x K.bm K.bl K.ta (tot K.g.t 6) ⟨S.M, S.tk, set S.gv (k + 1) true, S.gn⟩ ∧ Fr (fun i => i = K.ta) w w')
set_option maxHeartbeats 1000000 in
theorem giveC_any {K : Kc} {w : World} {S : Pm} (hp : PA w K.x K.bm K.bl K.ta (tot K.g.t 6) S) (hl : LyAt w K.bl K.f K.l K.g) (hl2 : ∀ W : World, Fr (fun i => i = K.ta) w W → LyAt W K.bl K.f K.l K.g) (ok : K.g.ok) (t u : Int) : Calls Tryz.prog 16 #[.pointer (some ⟨K.x, 0, none⟩), .int .i64 t, .int .i64 u] w (GvC K S t u w) := by
  unfold GvC
  have hn := ok.tt
  have CT := isThread_any t w
  have hmm := @run_makeMap Tryz.prog
  have m1 := fun val (w : World) => mu_g w #[] 0 4 val rfl
  have m2 := fun val (w : World) => mu_g w #[mE 4 52 0] 1 7 val rfl
  have m3 := fun val (w : World) => mu_g w #[mE 4 52 0, mE 7 53 1] 2 8 val rfl
  simp only [mE, Nat.reduceSub, List.push_toArray, List.nil_append, List.cons_append, Nat.reduceAdd, Nat.zero_add] at m1 m2 m3
  by_cases h1 : 0 ≤ t ∧ t < 64
  · rw [decide_eq_true h1] at CT
    replace CT := Lib.hid CT
    by_cases h2 : 1 ≤ u ∧ u ≤ tot K.g.t 6
    · obtain ⟨k, rfl⟩ : ∃ k : Nat, u = ((k + 1 : Nat) : Int) := ⟨(u - 1).toNat, by omega⟩
      have hk : k < tot K.g.t 6 := by omega
      have CR := record_ok hp k hk hn
      have b0 := (hp.r k hk).1
      have b1 := (hp.r k hk).2.1
      have e0 : gvE (tot K.g.t 6) S t ((k + 1 : Nat) : Int) = if S.tk (k + 1) = true ∧ S.gv (k + 1) = false then 0 else 8 := by unfold gvE; rw [if_pos h1, if_pos h2, Int.toNat_natCast]
      rw [e0]
      obtain ⟨T, hT⟩ : ∃ T, T = ((k + 1 : Nat) : Int) := ⟨_, rfl⟩
      rw [← hT] at CR ⊢
      replace CR := Lib.hid CR
      by_cases h3 : S.tk (k + 1) = true ∧ S.gv (k + 1) = false
      · rw [if_pos h3]
        rw [h3.1] at b0
        rw [h3.2] at b1
        have p1 := hp.c1
        have hne := hp.ne
        have bf := hp.f (k * 3 + 1)
        have F1 : Fr (fun i => i = K.ta) w (w.setCell ⟨K.ta, k * 3 + 1, none⟩ (.bool true)) := Fr.set (Fr.of_below (Below.refl _ _)) _ _ rfl
        have hpa := hp.set_gv k true
        obtain ⟨j, j1, j2, j3⟩ := exists_h K.g.t 6 k hk
        have hht := ht_of K.g j1 j2 j3
        have CHt := Ly.height_any (hl2 _ F1) ok T
        unfold Ly.hgE at CHt
        rw [show Ly.pk K.g.t T 6 = j by rw [hT]; exact hht, if_pos j1] at CHt
        replace CHt := Lib.hid CHt
        have HPA := Lib.hid hpa
        have HF1 := Lib.hid F1
        have HX := Lib.hid (show ∃ a : Nat, t = (a : Int) ∧ a < 64 from ⟨t.toNat, by omega, by omega⟩)
        have HK := Lib.hid hk
        have HH := Lib.hid hht
        have HT := Lib.hid hT
        have q1 := hpa.c1
        obtain ⟨TT, hTT⟩ : ∃ v, v = ((j + 1 : Nat) : Int) := ⟨_, rfl⟩
        rw [← hTT] at CHt
        have HTT := Lib.hid hTT
        clear h1 h2 h3 hp hl hl2 ok hpa F1 hk hht j1 j2 j3 e0 hn hT hTT
        go_enter Tryz.func16, Tryz.ntmps16
        go_wp2_with fail
        refine CT.out.mono ?_
        rintro r1 w1 ⟨rfl, e⟩
        obtain rfl := e.symm
        go_wp2_with fail
        refine CR.out.mono ?_
        rintro r1 w1 ⟨rfl, e⟩
        obtain rfl := e.symm
        go_wp2_with fail
        refine CHt.out.mono ?_
        rintro r1 w1 ⟨rfl, hb⟩
        have F2 := HF1.out.trans (Fr.of_below hb) (T := fun i => i = K.ta) fun _ _ e => e
        have HP1 := Lib.hid (HPA.out.keep (M := S.M) (hb.block _ HPA.out.xlt) hb.size (hb.block _ HPA.out.lt))
        have HF2 := Lib.hid F2
        clear F2 hb
        go_wp2
        go_ret2
        obtain ⟨a, ha, h7⟩ := HX.out
        have B2 : Below w1.heap.size w1 ((w1.alloc (.map gvM 3)).alloc (.cells #[.pointer (some ⟨K.x, 0, none⟩), .int .i64 t, .int .i64 TT, .int .u8 4, .int .u64 0, .map (some w1.heap.size), .int .i64 T] 138)) := bel_new (bel_new (Below.refl _ _) _) _
        refine .inr ⟨trivial, a, k, w1.heap.size, ha, HT.out, h7, HK.out, HF2.out.size, by simp, fun c hc => ?_, ?_, HF2.out.trans (Fr.of_below B2) (T := fun i => i = K.ta) fun _ _ e => e⟩
        · rw [HH.out]
          have e1 := HTT.out
          have e2 := HT.out
          subst ha e1 e2
          refine ⟨two_cell .., two_cell .., two_cell .., two_cell .., two_cell .., ⟨w1.heap.size, two_cell .., ?_, hc, by omega⟩, fun q => absurd q (by simp), fun _ => two_cell .., fun j _ => two_fz ..⟩
          exact two_map ..
        · exact HP1.out.keep (M := S.M) (B2.block _ HP1.out.xlt) B2.size (B2.block _ HP1.out.lt)
      · rw [if_neg h3]
        by_cases h4 : S.tk (k + 1) = true
        · have h5 : S.gv (k + 1) = true := by cases e : S.gv (k + 1) with | true => rfl | false => exact absurd ⟨h4, e⟩ h3
          rw [h4] at b0
          rw [h5] at b1
          clear h1 h2 h3 hp hl hl2 ok hk e0 hn hT h4 h5
          go_enter Tryz.func16, Tryz.ntmps16
          go_wp2_with fail
          refine CT.out.mono ?_
          rintro r1 w1 ⟨rfl, e⟩
          obtain rfl := e.symm
          go_wp2_with fail
          refine CR.out.mono ?_
          rintro r1 w1 ⟨rfl, e⟩
          obtain rfl := e.symm
          go_wp2
          go_ret2
          exact .inl ⟨by decide, rfl, rfl⟩
        · rw [show S.tk (k + 1) = false by simpa using h4] at b0
          clear h1 h2 h3 hp hl hl2 ok hk e0 hn hT h4
          go_enter Tryz.func16, Tryz.ntmps16
          go_wp2_with fail
          refine CT.out.mono ?_
          rintro r1 w1 ⟨rfl, e⟩
          obtain rfl := e.symm
          go_wp2_with fail
          refine CR.out.mono ?_
          rintro r1 w1 ⟨rfl, e⟩
          obtain rfl := e.symm
          go_wp2
          go_ret2
          exact .inl ⟨by decide, rfl, rfl⟩
    · have CR := Lib.hid (record_no hp u h2)
      have e0 : gvE (tot K.g.t 6) S t u = 3 := by unfold gvE; rw [if_pos h1, if_neg h2]
      rw [e0]
      clear h1 h2 hp hl hl2 ok hn e0
      go_enter Tryz.func16, Tryz.ntmps16
      go_wp2_with fail
      refine CT.out.mono ?_
      rintro r1 w1 ⟨rfl, e⟩
      obtain rfl := e.symm
      go_wp2_with fail
      refine CR.out.mono ?_
      rintro r1 w1 ⟨rfl, e⟩
      obtain rfl := e.symm
      go_wp2
      go_ret2
      exact .inl ⟨by decide, rfl, rfl⟩
  · have e0 : gvE (tot K.g.t 6) S t u = 2 := by unfold gvE; rw [if_neg h1]
    rw [decide_eq_false h1] at CT
    replace CT := Lib.hid CT
    rw [e0]
    clear h1 hp hl hl2 ok hn e0
    go_enter Tryz.func16, Tryz.ntmps16
    go_wp2_with fail
    refine CT.out.mono ?_
    rintro r1 w1 ⟨rfl, e⟩
    obtain rfl := e.symm
    go_wp2
    go_ret2
    exact .inl ⟨by decide, rfl, rfl⟩
/-! ### New -/
set_option maxHeartbeats 1000000 in
theorem new_bad {w : World} {bm bl p : Nat} {q : Option Nat} {M : Wm} {f : Cf} {l : List Int} {g : Ge} (h : At 106 w bm p q M) (hl : LyAt w bl f l g) (h0 : 0 < pW g) (h1 : pW g ≤ 1000000) (hn : M.W.length < pW g) : Calls Tryz.prog 12 #[.pointer (some ⟨bm, 0, none⟩), .pointer (some ⟨bl, 0, none⟩)] w fun e w' => e = .returned (.tuple #[.pointer none, .int .i64 2]) ∧ Below w.heap.size w w' := by
  have CP := Ly.places_any hl
  unfold Ly.plV at CP
  rw [show Ly.plN g 9 = pW g from rfl] at CP
  have hf := field_pl9
  have w1 : IntKind.i64.wrap ((pW g : Int) - 1) = (pW g : Int) - 1 := IntWalk.i64_in _ (by omega)
  have w1' : wrap64 ((pW g : Int) - 1) = (pW g : Int) - 1 := IntWalk.wrap64_in _ (by omega)
  have w2 : IntKind.i64.wrap ((pW g : Int) - 1 + 1) = (pW g : Int) := by rw [show (pW g : Int) - 1 + 1 = (pW g : Int) by omega]; exact IntWalk.i64_in _ (by omega)
  have w2' : wrap64 ((pW g : Int) - 1 + 1) = (pW g : Int) := by rw [show (pW g : Int) - 1 + 1 = (pW g : Int) by omega]; exact IntWalk.wrap64_in _ (by omega)
  have C1 := fun W (hb : Below w.heap.size w W) => peek_any bm p q M ((pW g : Int) - 1) W (h.below hb)
  have C2 := fun W (hb : Below w.heap.size w W) => peek_any bm p q M (pW g : Int) W (h.below hb)
  unfold peekT at C1 C2
  simp only [decide_eq_false (show ¬ (0 ≤ (pW g : Int) - 1 ∧ (pW g : Int) - 1 < (M.W.length : Int)) by omega), if_neg (show ¬ (0 ≤ (pW g : Int) - 1 ∧ (pW g : Int) - 1 < (M.W.length : Int)) by omega)] at C1
  simp only [decide_eq_false (show ¬ (0 ≤ (pW g : Int) ∧ (pW g : Int) < (M.W.length : Int)) by omega), if_neg (show ¬ (0 ≤ (pW g : Int) ∧ (pW g : Int) < (M.W.length : Int)) by omega)] at C2
  replace CP := Lib.hid CP
  replace C1 := Lib.hid C1
  replace C2 := Lib.hid C2
  clear h hl h0 h1 hn
  generalize (pW g : Int) = PW at *
  generalize hPV : PW - 1 = PV at *
  go_enter Tryz.func12, Tryz.ntmps12
  go_wp2_with fail
  refine CP.out.mono ?_
  rintro r1 w3 ⟨rfl, hb⟩
  go_wp2_with fail
  refine (C1.out _ hb).mono ?_
  rintro r1 w4 ⟨rfl, e⟩
  obtain rfl := e.symm
  go_wp2_with fail
  refine (C2.out _ hb).mono ?_
  rintro r1 w5 ⟨rfl, e⟩
  obtain rfl := e.symm
  go_wp2
  go_ret2
  exact ⟨rfl, hb⟩
theorem made3 (n t j : Nat) (h : t < n) (hj : j < 3) : (madeCells (Value.agg #[.bool false, .bool false, .int .i64 0]).cells (n * 3))[t * 3 + j]? = some (#[Value.bool false, .bool false, .int .i64 0][j]!) := by
  have hc : (Value.agg #[.bool false, .bool false, .int .i64 0]).cells = #[.bool false, .bool false, .int .i64 0] := rfl
  rw [hc]
  unfold madeCells
  have e1 : (t * 3 + j) % 3 = j := by omega
  simp [show t * 3 + j < n * 3 by omega, e1]
/-- a new pool -/
def NpA (bm bl n : Nat) (M : Wm) (w : World) (e : Ending) (w' : World) : Prop :=
  ∃ ta, w.heap.size ≤ ta ∧ e = .returned (.tuple #[.pointer (some ⟨ta + 1, 0, none⟩), .int .i64 0]) ∧ PA w' (ta + 1) bm bl ta n (pm0 M) ∧ Below w.heap.size w w'
set_option maxHeartbeats 1000000 in
theorem new_any {w : World} {bm bl p : Nat} {q : Option Nat} {M : Wm} {f : Cf} {l : List Int} {g : Ge} (h : At 106 w bm p q M) (hl : LyAt w bl f l g) (ok : g.ok) (h0 : 0 < pW g) (h1 : pW g ≤ 1000000) (hn : M.W.length = pW g) : Calls Tryz.prog 12 #[.pointer (some ⟨bm, 0, none⟩), .pointer (some ⟨bl, 0, none⟩)] w (NpA bm bl (tot g.t 6) M w) := by
  have CP := Ly.places_any hl
  have n1 := ok.tt
  unfold Ly.plV at CP
  rw [show Ly.plN g 9 = pW g from rfl] at CP
  have hf := field_pl9
  have w1 : IntKind.i64.wrap ((pW g : Int) - 1) = (pW g : Int) - 1 := IntWalk.i64_in _ (by omega)
  have w1' : wrap64 ((pW g : Int) - 1) = (pW g : Int) - 1 := IntWalk.wrap64_in _ (by omega)
  have w2 : IntKind.i64.wrap ((pW g : Int) - 1 + 1) = (pW g : Int) := by rw [show (pW g : Int) - 1 + 1 = (pW g : Int) by omega]; exact IntWalk.i64_in _ (by omega)
  have w2' : wrap64 ((pW g : Int) - 1 + 1) = (pW g : Int) := by rw [show (pW g : Int) - 1 + 1 = (pW g : Int) by omega]; exact IntWalk.wrap64_in _ (by omega)
  have C1 := fun W (hb : Below w.heap.size w W) => peek_any bm p q M ((pW g : Int) - 1) W (h.below hb)
  have C2 := fun W (hb : Below w.heap.size w W) => peek_any bm p q M (pW g : Int) W (h.below hb)
  unfold peekT at C1 C2
  simp only [decide_eq_true (show (0 ≤ (pW g : Int) - 1 ∧ (pW g : Int) - 1 < (M.W.length : Int)) by omega), if_pos (show (0 ≤ (pW g : Int) - 1 ∧ (pW g : Int) - 1 < (M.W.length : Int)) by omega)] at C1
  simp only [decide_eq_false (show ¬ (0 ≤ (pW g : Int) ∧ (pW g : Int) < (M.W.length : Int)) by omega), if_neg (show ¬ (0 ≤ (pW g : Int) ∧ (pW g : Int) < (M.W.length : Int)) by omega)] at C2
  have CW := fun W (hb : Below w.heap.size w W) => Ly.towers_any (w := W) (by
    have hlt := hl.lt
    exact hl.below hb)
  generalize tot g.t 6 = n at *
  obtain ⟨ii, hii, zi, si, bi⟩ := Dm.info_parts (show (Tryz.prog.info? 134).map (fun i => (i.zero, i.size, i.bytes)) = some (some (.agg #[.bool false, .bool false, .int .i64 0]), 3, 16) by kernel_rfl)
  obtain ⟨OI, hOI⟩ : ∃ o : Obj, o = .cells (madeCells (Value.agg #[.bool false, .bool false, .int .i64 0]).cells (n * 3)) 134 := ⟨_, rfl⟩
  have mi : ∀ W, (Instr.makeSlice 115 (.int .i64 (n : Int)) (.int .i64 (n : Int))).run Tryz.prog W = .ok (.slice (some ⟨W.heap.size, 0, none⟩) n n) (W.alloc OI) := fun W => by
    rw [run_make W 115 134 ii (.agg #[.bool false, .bool false, .int .i64 0]) Tryz.underlying115 hii zi .i64 .i64 (n : Int) (n : Int) (by omega) (Int.le_refl _) (by rw [bi]; omega) (by omega), Int.toNat_natCast, si, hOI]
  have HOI := Lib.hid hOI
  replace CP := Lib.hid CP
  replace C1 := Lib.hid C1
  replace C2 := Lib.hid C2
  replace CW := Lib.hid CW
  clear h hl h0 h1 hn hii zi si bi hOI n1 ok
  generalize (pW g : Int) = PW at *
  generalize hPV : PW - 1 = PV at *
  generalize M.get PV = V at *
  go_enter Tryz.func12, Tryz.ntmps12
  go_wp2_with fail
  refine CP.out.mono ?_
  rintro r1 w3 ⟨rfl, hb⟩
  go_wp2_with fail
  refine (C1.out _ hb).mono ?_
  rintro r1 w4 ⟨rfl, e⟩
  obtain rfl := e.symm
  go_wp2_with fail
  refine (C2.out _ hb).mono ?_
  rintro r1 w5 ⟨rfl, e⟩
  obtain rfl := e.symm
  go_wp2_with fail
  refine (CW.out _ hb).mono ?_
  rintro r1 w6 ⟨rfl, e⟩
  obtain rfl := e.symm
  go_wp2
  go_ret2
  rw [HOI.out]
  refine ⟨w3.heap.size, hb.size, by simp, ⟨two_cell .., two_cell .., two_cell .., fun t ht => ?_, fun j => ?_, ?_, by omega⟩, hb.trans ((bel_new (bel_new (Below.refl _ _) _) _).mono hb.size)⟩
  · have hh := two_map w3 (.cells (madeCells (Value.agg #[.bool false, .bool false, .int .i64 0]).cells (n * 3)) 134) #[.pointer (some ⟨bm, 0, none⟩), .pointer (some ⟨bl, 0, none⟩), .slice (some ⟨w3.heap.size, 0, none⟩) n n] 118
    exact ⟨cell_heap hh (made3 n t 0 ht (by omega)), cell_heap hh (made3 n t 1 ht (by omega)), cell_heap hh (made3 n t 2 ht (by omega))⟩
  · exact froz_heap (two_map ..)
  · rw [World.size_alloc, World.size_alloc]; omega
end Po
end Go.Proofs.YtdkkpaofodicjaaGreat
