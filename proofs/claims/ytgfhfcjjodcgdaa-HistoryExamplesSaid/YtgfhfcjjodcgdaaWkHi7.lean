/- HistoryExamples: the walk (and HistoryPairs, which it calls). No conditions. -/
import Derived.Test.YtgfhfcjjodcgdaaWkHi1
import Derived.Test.YtgfhfcjjodcgdaaWkHi2
import Derived.Deep.CutBlock
namespace Go.Proofs.Ytgfhfcjjodcgdaa
open Go.RowKit Go.Shelf Go.Sort
set_option linter.unusedVariables false
set_option linter.unusedSimpArgs false
namespace Wk
open Hi
set_option maxRecDepth 100000 in
set_option maxHeartbeats 4000000 in
theorem pairs_any (x y : C) (w : World) : Calls Try.prog 28 #[.agg #[.int .i64 x.t, .int .i64 x.i, .int .u8 x.k, .int .u64 x.p0, .int .u64 x.p1, .int .u64 x.p2, .int .u64 x.p3, .int .u64 x.p4, .int .u64 x.p5, .int .i64 x.v, .int .i64 x.u, .int .i64 x.a, .int .i64 x.s, .int .i64 x.re, .bool x.rf, .int .u64 x.rk, .int .u64 x.rv, .int .i64 x.rc], .agg #[.int .i64 y.t, .int .i64 y.i, .int .u8 y.k, .int .u64 y.p0, .int .u64 y.p1, .int .u64 y.p2, .int .u64 y.p3, .int .u64 y.p4, .int .u64 y.p5, .int .i64 y.v, .int .i64 y.u, .int .i64 y.a, .int .i64 y.s, .int .i64 y.re, .bool y.rf, .int .u64 y.rk, .int .u64 y.rv, .int .i64 y.rc]] w fun e w' => e = .returned (.bool true) ∧ Below w.heap.size w w' := by
  have B0 := Lib.hid (bel_alloc (bel_alloc (Below.refl w.heap.size w) (.cells #[.int .i64 x.t, .int .i64 x.i, .int .u8 x.k, .int .u64 x.p0, .int .u64 x.p1, .int .u64 x.p2, .int .u64 x.p3, .int .u64 x.p4, .int .u64 x.p5, .int .i64 x.v, .int .i64 x.u, .int .i64 x.a, .int .i64 x.s, .int .i64 x.re, .bool x.rf, .int .u64 x.rk, .int .u64 x.rv, .int .i64 x.rc] 47)) (.cells #[.int .i64 y.t, .int .i64 y.i, .int .u8 y.k, .int .u64 y.p0, .int .u64 y.p1, .int .u64 y.p2, .int .u64 y.p3, .int .u64 y.p4, .int .u64 y.p5, .int .i64 y.v, .int .i64 y.u, .int .i64 y.a, .int .i64 y.s, .int .i64 y.re, .bool y.rf, .int .u64 y.rk, .int .u64 y.rv, .int .i64 y.rc] 47))
  have C2 := Lib.hid (cells_two w x y (Below.refl _ _))
  have C1 := fun W => before_any x y W
  have C3 := fun W => rbefore_any x y W
  have C4 := fun W => before_any y x W
  have C5 := fun W => rbefore_any y x W
  have CA := fun W => awake_any W
  obtain ⟨p, hp⟩ : ∃ p, bfr x y = p := ⟨_, rfl⟩
  obtain ⟨q, hq⟩ : ∃ q, bfr y x = q := ⟨_, rfl⟩
  rw [hp] at C1 C3
  rw [hq] at C4 C5
  have b1 : (p == p) = true := by simp
  have b2 : (q == q) = true := by simp
  clear hp hq
  go_enter Try.func28, Try.ntmps28
  go_wp2_with fail
  obtain ⟨V, hV⟩ : ∃ V : World, V = (w.alloc (.cells #[.int .i64 x.t, .int .i64 x.i, .int .u8 x.k, .int .u64 x.p0, .int .u64 x.p1, .int .u64 x.p2, .int .u64 x.p3, .int .u64 x.p4, .int .u64 x.p5, .int .i64 x.v, .int .i64 x.u, .int .i64 x.a, .int .i64 x.s, .int .i64 x.re, .bool x.rf, .int .u64 x.rk, .int .u64 x.rv, .int .i64 x.rc] 47)).alloc (.cells #[.int .i64 y.t, .int .i64 y.i, .int .u8 y.k, .int .u64 y.p0, .int .u64 y.p1, .int .u64 y.p2, .int .u64 y.p3, .int .u64 y.p4, .int .u64 y.p5, .int .i64 y.v, .int .i64 y.u, .int .i64 y.a, .int .i64 y.s, .int .i64 y.re, .bool y.rf, .int .u64 y.rk, .int .u64 y.rv, .int .i64 y.rc] 47) := ⟨_, rfl⟩
  rw [← hV] at B0 C2 ⊢
  clear hV
  refine wp_region_quiet_below (by kernel_rfl) (by kernel_rfl) ?_
  repeat (first | (go_big_quiet_want; refine ldQ (.tmp 2) rfl w.heap.size 0 rfl x (at_regrown C2.out.1) ?_; go_simp; go_big_quiet_on) | (go_big_quiet_want; refine ldQ (.tmp 3) rfl (w.heap.size + 1) 0 rfl y (at_regrown C2.out.2) ?_; go_simp; go_big_quiet_on) | quiet_step (first | (go_at_call 30; with_reducible exact Calls.regrown_of (C1 _)) | (go_at_call 30; with_reducible exact Calls.regrown_of (C4 _)) | (go_at_call 49; with_reducible exact Calls.regrown_of (C3 _)) | (go_at_call 49; with_reducible exact Calls.regrown_of (C5 _)) | (go_at_call 23; with_reducible exact Calls.regrown_of (CA _))))
  refine wpQuiet_nil ?_
  rintro w' ⟨q, rfl⟩
  go_wp2
  go_ret
  exact ⟨rfl, bel_bel B0.out (below_regrown _ _ _)⟩
/-- a call of the example with one number changed -/
def setF (f : Nat) (n : Int) (c : C) : C := match f with | 0 => { c with t := n } | 1 => { c with i := n } | 2 => { c with v := n } | 3 => { c with u := n } | 4 => { c with a := n } | 5 => { c with s := n } | _ => { c with rc := n }
theorem setF_bd {f : Nat} {n : Int} {c : C} (hn : I64 n) (h : Bd1 c) : Bd1 (setF f n c) := by
  match f with
  | 0 => exact ⟨hn, h.i, h.k, h.p0, h.p1, h.p2, h.p3, h.p4, h.p5, h.v, h.u, h.a, h.s, h.re, h.rk, h.rv, h.rc⟩
  | 1 => exact ⟨h.t, hn, h.k, h.p0, h.p1, h.p2, h.p3, h.p4, h.p5, h.v, h.u, h.a, h.s, h.re, h.rk, h.rv, h.rc⟩
  | 2 => exact ⟨h.t, h.i, h.k, h.p0, h.p1, h.p2, h.p3, h.p4, h.p5, hn, h.u, h.a, h.s, h.re, h.rk, h.rv, h.rc⟩
  | 3 => exact ⟨h.t, h.i, h.k, h.p0, h.p1, h.p2, h.p3, h.p4, h.p5, h.v, hn, h.a, h.s, h.re, h.rk, h.rv, h.rc⟩
  | 4 => exact ⟨h.t, h.i, h.k, h.p0, h.p1, h.p2, h.p3, h.p4, h.p5, h.v, h.u, hn, h.s, h.re, h.rk, h.rv, h.rc⟩
  | 5 => exact ⟨h.t, h.i, h.k, h.p0, h.p1, h.p2, h.p3, h.p4, h.p5, h.v, h.u, h.a, hn, h.re, h.rk, h.rv, h.rc⟩
  | k + 6 => exact ⟨h.t, h.i, h.k, h.p0, h.p1, h.p2, h.p3, h.p4, h.p5, h.v, h.u, h.a, h.s, h.re, h.rk, h.rv, hn⟩
def exL (f i : Nat) (n : Int) : List C := xH.set i (setF f n (xH.getD i c0))
theorem exL_len (f i : Nat) (n : Int) : (exL f i n).length = 4 := by unfold exL; rw [List.length_set]; rfl
theorem exL_bd {f i : Nat} {n : Int} (hn : I64 n) (hi : i < 4) : Bd (exL f i n) := fun x hx => by
  rcases List.mem_or_eq_of_mem_set hx with h | h
  · exact bdH x h
  · rw [h]; exact setF_bd hn (bdH _ (mem_get (show i < xH.length from hi)))
theorem row_set0 {i : Nat} (hi : i < 4) (n : Int) : (KC.flat xH).set (i * 18) (.int .i64 n) = KC.flat (exL 0 i n) := by
  match i, hi with
  | 0, _ => rfl
  | 1, _ => rfl
  | 2, _ => rfl
  | 3, _ => rfl
theorem row_set1 {i : Nat} (hi : i < 4) (n : Int) : (KC.flat xH).set (i * 18 + 1) (.int .i64 n) = KC.flat (exL 1 i n) := by
  match i, hi with
  | 0, _ => rfl
  | 1, _ => rfl
  | 2, _ => rfl
  | 3, _ => rfl
theorem row_set2 {i : Nat} (hi : i < 4) (n : Int) : (KC.flat xH).set (i * 18 + 9) (.int .i64 n) = KC.flat (exL 2 i n) := by
  match i, hi with
  | 0, _ => rfl
  | 1, _ => rfl
  | 2, _ => rfl
  | 3, _ => rfl
theorem row_set3 {i : Nat} (hi : i < 4) (n : Int) : (KC.flat xH).set (i * 18 + 10) (.int .i64 n) = KC.flat (exL 3 i n) := by
  match i, hi with
  | 0, _ => rfl
  | 1, _ => rfl
  | 2, _ => rfl
  | 3, _ => rfl
theorem row_set4 {i : Nat} (hi : i < 4) (n : Int) : (KC.flat xH).set (i * 18 + 11) (.int .i64 n) = KC.flat (exL 4 i n) := by
  match i, hi with
  | 0, _ => rfl
  | 1, _ => rfl
  | 2, _ => rfl
  | 3, _ => rfl
theorem row_set5 {i : Nat} (hi : i < 4) (n : Int) : (KC.flat xH).set (i * 18 + 12) (.int .i64 n) = KC.flat (exL 5 i n) := by
  match i, hi with
  | 0, _ => rfl
  | 1, _ => rfl
  | 2, _ => rfl
  | 3, _ => rfl
theorem row_set6 {i : Nat} (hi : i < 4) (n : Int) : (KC.flat xH).set (i * 18 + 13 + 4) (.int .i64 n) = KC.flat (exL 6 i n) := by
  match i, hi with
  | 0, _ => rfl
  | 1, _ => rfl
  | 2, _ => rfl
  | 3, _ => rfl
theorem ex_cell {W : World} {base g : Nat} (h : W.ownsRow base KC.E KC.sz (.slice (some ⟨g, 0, none⟩) 4 4) xH.length (KC.flat xH)) {o : Nat} (ho : o < 72) : ∃ u, W.cell? ⟨g, o, none⟩ = some u := by
  rw [h.cellAt o ho]
  exact ⟨_, List.getElem?_eq_getElem (by rw [KC.flat_len]; exact ho)⟩
def xLong : C := ⟨63, 0, 0, 0, 0, 0, 0, 0, 0, 9223372036854775806, 9223372036854775807, 9223372036854775807, 2, 0, false, 0, 0, 0⟩
def xLate : C := ⟨64, 0, 0, 0, 0, 0, 0, 0, 0, 0, -1, -1, 0, 0, false, 0, 0, 0⟩
theorem bdLong : Bd [xLong] := bd_lit (by decide +kernel)
theorem bdLate : Bd [xLate] := bd_lit (by decide +kernel)
section
variable {ops : Array Oper} {rest : List Oper} {op : Oper} {a : Act} {w : World} {Q : Exit → Act → World → Prop}
theorem ldG (hw : Region.wanted op (yielded ops a.tmps) = true) (p : Operand) (ho : op.op = .load 47 p) (b o : Nat) (hp : a.eval p = .pointer (some ⟨b, o, none⟩)) (x : C) (hx : KC.At w b o x)
    (h : wpList Try.prog ops Q rest (a.put op.dst (.agg #[.int .i64 x.t, .int .i64 x.i, .int .u8 x.k, .int .u64 x.p0, .int .u64 x.p1, .int .u64 x.p2, .int .u64 x.p3, .int .u64 x.p4, .int .u64 x.p5, .int .i64 x.v, .int .i64 x.u, .int .i64 x.a, .int .i64 x.s, .int .i64 x.re, .bool x.rf, .int .u64 x.rk, .int .u64 x.rv, .int .i64 x.rc])) w) : wpList Try.prog ops Q (op :: rest) a w :=
  BigFrame.wpList_want hw fun K hK => wp_load_mid _ p ho b o hp [.int .i64 x.t, .int .i64 x.i, .int .u8 x.k, .int .u64 x.p0, .int .u64 x.p1, .int .u64 x.p2, .int .u64 x.p3, .int .u64 x.p4, .int .u64 x.p5, .int .i64 x.v, .int .i64 x.u, .int .i64 x.a, .int .i64 x.s, .int .i64 x.re, .bool x.rf, .int .u64 x.rk, .int .u64 x.rv, .int .i64 x.rc] _ hx Try.underlying47 rfl sz_call (hK _ _ h)
end
/-- HistoryMatches and HistoryAgrees, called -/
theorem match_call (A : Option Addr) (n c : Nat) (l : List C) (t st : Int) (W : World) (hl : l.length = n) (hn : n ≤ 4) (hc : n ≤ c ∧ c ≤ 4) (hr : KC.Rd W A l) (hb : Bd l) (hA : A = none → c = 0) (ht : I64 t) (hs : I64 st) :
    Calls Try.prog 3 #[.slice A n c, .int .i64 t, .int .i64 st] W fun e w' => e = .returned (.bool true) ∧ Below W.heap.size W w' :=
  walk_historyMatches A n c l t st W hl (by unfold maxLen; omega) hr hb hA ⟨hc.1, by unfold maxLen; omega⟩ ht.1 ht.2 hs.1 hs.2
theorem agree_call (A : Option Addr) (n c : Nat) (o : List Int) (A' : Option Addr) (n' c' : Nat) (l : List C) (W : World) (ho : o.length = n) (hn : n ≤ 4) (hc : n ≤ c ∧ c ≤ 4) (hro : KI.Rd W A o) (hbo : BdI o) (hA : A = none → c = 0) (hl : l.length = n') (hn' : n' ≤ 4) (hc' : n' ≤ c' ∧ c' ≤ 4) (hr : KC.Rd W A' l) (hb : Bd l) (hA' : A' = none → c' = 0) :
    Calls Try.prog 4 #[.slice A n c, .slice A' n' c'] W fun e w' => e = .returned (.bool true) ∧ Below W.heap.size W w' :=
  walk_historyAgrees A n c o A' n' c' l W ho (by unfold maxLen; omega) hro hbo hA ⟨hc.1, by unfold maxLen; omega⟩ hl (by unfold maxLen; omega) hr hb hA' ⟨hc'.1, by unfold maxLen; omega⟩
theorem i64_of {x : Int} (h1 : -100 ≤ x) (h2 : x ≤ 100) : I64 x := ⟨by omega, by omega⟩
theorem nilC (w : World) : KC.Rd w none ([] : List C) := fun i x hi => by simp at hi
theorem nilI (w : World) : KI.Rd w none ([] : List Int) := fun i x hi => by simp at hi
set_option maxRecDepth 100000 in
set_option maxHeartbeats 4000000 in
theorem walk_historyExamples  (w : World) :
    Calls Try.prog 5 #[] w fun e w' => e = .returned (.bool true) ∧ Below w.heap.size w w' := by
  go_enter Try.func5, Try.ntmps5
  go_wp2_with fail
  go_loopw [1] (fun s wr => ∃ i : Nat, i ≤ 4 ∧ s = .int .i64 i ∧ Below w.heap.size w wr) (fun s _ => 4 - (intOf s).toNat)
  case atStart => exact ⟨0, by omega, rfl, Below.refl _ _⟩
  case round =>
    obtain ⟨i, hi, rfl, bel⟩ := hrel
    by_cases hi4 : i < 4
    · have d0 : decide ((i : Int) < 4) = true := decide_eq_true (by omega)
      have i4 : (i : Int) < 4 := by omega
      go_wp2_with fail
      refine (ex_call _).mono ?_
      rintro e w1 ⟨g0, rfl, _, _, _, b1⟩
      have bel1 := bel_bel bel b1
      clear b1 bel
      go_wp2_with fail
      go_loopw [2] (fun s wr => ∃ n : Int, -2 ≤ n ∧ n ≤ 13 ∧ s = .int .i64 n ∧ Below w.heap.size w wr) (fun s _ => (13 - intOf s).toNat)
      case atStart => exact ⟨-2, by omega, by omega, rfl, bel1⟩
      case round =>
        obtain ⟨n, hn1, hn2, rfl, bel⟩ := hrel
        by_cases hn : n < 13
        · have d1 : decide (n < 13) = true := decide_eq_true hn
          have hnI : I64 n := i64_of (by omega) (by omega)
          have hnw : IntKind.i64.wrap (n + 1) = n + 1 := IntWalk.i64_in _ (by omega)
          go_wp2_with fail
          go_loopw [3] (fun s wr => ∃ f : Nat, f ≤ 7 ∧ s = .int .i64 f ∧ Below w.heap.size w wr) (fun s _ => 7 - (intOf s).toNat)
          case atStart => exact ⟨0, by omega, rfl, bel⟩
          case round =>
            obtain ⟨f, hf, rfl, bel⟩ := hrel
            by_cases hf7 : f < 7
            · have d2 : decide ((f : Int) < 7) = true := decide_eq_true (by omega)
              obtain ⟨wq, rfl⟩ : ∃ wq : World, wq = wr := ⟨_, rfl⟩
              go_wp2_with fail
              refine (ex_call _).mono ?_
              rintro e w2 ⟨g, rfl, _, ox, hg, b2⟩
              have OX := Lib.hid ox
              have B2 := Lib.hid b2
              have BE := Lib.hid bel
              clear ox b2 bel
              go_upto_block 6 with fail
              go_cut [] from 22 to 70 (fun wx => KC.Rd wx (some ⟨g, 0, none⟩) (exL f i n) ∧ Below wq.heap.size wq wx)
              case first =>
                have hff : f = 0 ∨ f = 1 ∨ f = 2 ∨ f = 3 ∨ f = 4 ∨ f = 5 ∨ f = 6 := by omega
                clear d2 hf7 hf
                rcases hff with rfl | rfl | rfl | rfl | rfl | rfl | rfl
                · obtain ⟨u, hu⟩ := ex_cell OX.out (o := i * 18) (by omega)
                  have fu := OX.out.frozenAt (i * 18)
                  have RL := Lib.hid (KC.row_get (n := 4) (l := exL 0 i n) (show (w2.setCell ⟨g, i * 18, none⟩ (.int .i64 n)).ownsRow _ KC.E KC.sz (.slice (some ⟨g, 0, none⟩) 4 4) 4 (KC.flat (exL 0 i n)) from by rw [← row_set0 hi4 n]; exact (OX.out.stored _ _).1))
                  have BL := Lib.hid (B2.out.setCell (p := ⟨g, i * 18, none⟩) hg (.int .i64 n))
                  clear OX B2
                  go_wp2_with fail
                  go_meet
                  exact ⟨RL.out, BL.out⟩
                · obtain ⟨u, hu⟩ := ex_cell OX.out (o := i * 18 + 1) (by omega)
                  have fu := OX.out.frozenAt (i * 18 + 1)
                  have RL := Lib.hid (KC.row_get (n := 4) (l := exL 1 i n) (show (w2.setCell ⟨g, i * 18 + 1, none⟩ (.int .i64 n)).ownsRow _ KC.E KC.sz (.slice (some ⟨g, 0, none⟩) 4 4) 4 (KC.flat (exL 1 i n)) from by rw [← row_set1 hi4 n]; exact (OX.out.stored _ _).1))
                  have BL := Lib.hid (B2.out.setCell (p := ⟨g, i * 18 + 1, none⟩) hg (.int .i64 n))
                  clear OX B2
                  go_wp2_with fail
                  go_meet
                  exact ⟨RL.out, BL.out⟩
                · obtain ⟨u, hu⟩ := ex_cell OX.out (o := i * 18 + 9) (by omega)
                  have fu := OX.out.frozenAt (i * 18 + 9)
                  have RL := Lib.hid (KC.row_get (n := 4) (l := exL 2 i n) (show (w2.setCell ⟨g, i * 18 + 9, none⟩ (.int .i64 n)).ownsRow _ KC.E KC.sz (.slice (some ⟨g, 0, none⟩) 4 4) 4 (KC.flat (exL 2 i n)) from by rw [← row_set2 hi4 n]; exact (OX.out.stored _ _).1))
                  have BL := Lib.hid (B2.out.setCell (p := ⟨g, i * 18 + 9, none⟩) hg (.int .i64 n))
                  clear OX B2
                  go_wp2_with fail
                  go_meet
                  exact ⟨RL.out, BL.out⟩
                · obtain ⟨u, hu⟩ := ex_cell OX.out (o := i * 18 + 10) (by omega)
                  have fu := OX.out.frozenAt (i * 18 + 10)
                  have RL := Lib.hid (KC.row_get (n := 4) (l := exL 3 i n) (show (w2.setCell ⟨g, i * 18 + 10, none⟩ (.int .i64 n)).ownsRow _ KC.E KC.sz (.slice (some ⟨g, 0, none⟩) 4 4) 4 (KC.flat (exL 3 i n)) from by rw [← row_set3 hi4 n]; exact (OX.out.stored _ _).1))
                  have BL := Lib.hid (B2.out.setCell (p := ⟨g, i * 18 + 10, none⟩) hg (.int .i64 n))
                  clear OX B2
                  go_wp2_with fail
                  go_meet
                  exact ⟨RL.out, BL.out⟩
                · obtain ⟨u, hu⟩ := ex_cell OX.out (o := i * 18 + 11) (by omega)
                  have fu := OX.out.frozenAt (i * 18 + 11)
                  have RL := Lib.hid (KC.row_get (n := 4) (l := exL 4 i n) (show (w2.setCell ⟨g, i * 18 + 11, none⟩ (.int .i64 n)).ownsRow _ KC.E KC.sz (.slice (some ⟨g, 0, none⟩) 4 4) 4 (KC.flat (exL 4 i n)) from by rw [← row_set4 hi4 n]; exact (OX.out.stored _ _).1))
                  have BL := Lib.hid (B2.out.setCell (p := ⟨g, i * 18 + 11, none⟩) hg (.int .i64 n))
                  clear OX B2
                  go_wp2_with fail
                  go_meet
                  exact ⟨RL.out, BL.out⟩
                · obtain ⟨u, hu⟩ := ex_cell OX.out (o := i * 18 + 12) (by omega)
                  have fu := OX.out.frozenAt (i * 18 + 12)
                  have RL := Lib.hid (KC.row_get (n := 4) (l := exL 5 i n) (show (w2.setCell ⟨g, i * 18 + 12, none⟩ (.int .i64 n)).ownsRow _ KC.E KC.sz (.slice (some ⟨g, 0, none⟩) 4 4) 4 (KC.flat (exL 5 i n)) from by rw [← row_set5 hi4 n]; exact (OX.out.stored _ _).1))
                  have BL := Lib.hid (B2.out.setCell (p := ⟨g, i * 18 + 12, none⟩) hg (.int .i64 n))
                  clear OX B2
                  go_wp2_with fail
                  go_meet
                  exact ⟨RL.out, BL.out⟩
                · obtain ⟨u, hu⟩ := ex_cell OX.out (o := i * 18 + 13 + 4) (by omega)
                  have fu := OX.out.frozenAt (i * 18 + 13 + 4)
                  have RL := Lib.hid (KC.row_get (n := 4) (l := exL 6 i n) (show (w2.setCell ⟨g, i * 18 + 13 + 4, none⟩ (.int .i64 n)).ownsRow _ KC.E KC.sz (.slice (some ⟨g, 0, none⟩) 4 4) 4 (KC.flat (exL 6 i n)) from by rw [← row_set6 hi4 n]; exact (OX.out.stored _ _).1))
                  have BL := Lib.hid (B2.out.setCell (p := ⟨g, i * 18 + 13 + 4, none⟩) hg (.int .i64 n))
                  clear OX B2
                  go_wp2_with fail
                  go_meet
                  exact ⟨RL.out, BL.out⟩
              case rest =>
                obtain ⟨rl, bl⟩ := hcut
                obtain ⟨wx, rfl⟩ : ∃ wx : World, wx = wc := ⟨_, rfl⟩
                have RL := Lib.hid rl
                have BX := Lib.hid (bel_bel BE.out bl)
                have hbL := exL_bd (f := f) (i := i) hnI hi4
                have hlL := exL_len f i n
                obtain ⟨L, hL⟩ : ∃ L, exL f i n = L := ⟨_, rfl⟩
                rw [hL] at RL hbL hlL
                clear rl bl hL OX B2 BE
                go_wp2_with fail
                refine (match_call (some ⟨g, 0, none⟩) 4 4 L n n _ hlL (by omega) ⟨by omega, by omega⟩ RL.out hbL (fun e => by cases e) hnI hnI).mono ?_
                rintro e w3 ⟨rfl, b3⟩
                have RL3 := Lib.hid (RL.out.below b3)
                have BX3 := Lib.hid (bel_bel BX.out b3)
                have LT := Lib.hid (KI.lit_rd w3 [0, 1, 2] #[.int .i64 0, .int .i64 1, .int .i64 2] rfl (by simp))
                have BA := Lib.hid (bel_alloc (Below.refl w3.heap.size w3) (.cells #[.int .i64 0, .int .i64 1, .int .i64 2] KI.E))
                have RL4 := Lib.hid (RL3.out.below BA.out)
                clear b3 RL BX
                go_wp2_with fail
                refine (agree_call _ 3 3 [0, 1, 2] _ 4 4 L _ rfl (by omega) ⟨by omega, by omega⟩ LT.out (fun x hx => by simp at hx; rcases hx with rfl | rfl | rfl <;> exact i64_of (by omega) (by omega)) (fun e => by cases e) hlL (by omega) ⟨by omega, by omega⟩ RL4.out hbL (fun e => by cases e)).mono ?_
                rintro e w5 ⟨rfl, b5⟩
                have RL5 := Lib.hid (RL4.out.below b5)
                have BX5 := Lib.hid (bel_bel BX3.out (bel_bel BA.out b5))
                have LU := Lib.hid (KI.lit_rd w5 [3, n] #[.int .i64 3, .int .i64 n] rfl (by simp))
                have BU := Lib.hid (bel_alloc (Below.refl w5.heap.size w5) (.cells #[.int .i64 3, .int .i64 n] KI.E))
                have RL6 := Lib.hid (RL5.out.below BU.out)
                clear b5 RL3 RL4 LT BA BX3
                go_wp2_with fail
                refine (agree_call _ 2 2 [3, n] _ 4 4 L _ rfl (by omega) ⟨by omega, by omega⟩ LU.out (fun x hx => by simp at hx; rcases hx with rfl | rfl; exact i64_of (by omega) (by omega); exact hnI) (fun e => by cases e) hlL (by omega) ⟨by omega, by omega⟩ RL6.out hbL (fun e => by cases e)).mono ?_
                rintro e w7 ⟨rfl, b7⟩
                have BX7 := Lib.hid (bel_bel BX5.out (bel_bel BU.out b7))
                clear b7 RL5 RL6 LU BU BX5
                go_wp2_with fail
                go_roundw
                case rel => exact ⟨f + 1, by omega, by go_num, BX7.out⟩
                case measure => simp [intOf]; omega
            · obtain rfl : f = 7 := by omega
              have d2 : decide (((7 : Nat) : Int) < 7) = false := by decide
              go_wp2_with fail
              go_roundw
              case rel => exact ⟨n + 1, by omega, by omega, by first | rfl | (rw [hnw]), bel⟩
              case measure => simp [intOf]; omega
        · obtain rfl : n = 13 := by omega
          have d1 : decide ((13 : Int) < 13) = false := by decide
          go_wp2_with fail
          go_roundw
          case rel => exact ⟨i + 1, by omega, by go_num, bel⟩
          case measure => simp [intOf]; omega
    · obtain rfl : i = 4 := by omega
      have d0 : decide (((4 : Nat) : Int) < 4) = false := by decide
      go_wp2_with fail
      refine (ex_call _).mono ?_
      rintro e w1 ⟨g0, rfl, _, _, _, b1⟩
      have B1 := Lib.hid (bel_bel bel b1)
      clear b1 bel
      go_upto_region 28 with (refine st_new rfl (.tmp 5) (.tmp 89) rfl w1 _ rfl rfl rfl xLong rfl ?_)
      have AL0 := Lib.hid (KC.at_new w1 xLong)
      have BA := Lib.hid (bel_alloc (Below.refl w1.heap.size w1) (.cells #[.int .i64 xLong.t, .int .i64 xLong.i, .int .u8 xLong.k, .int .u64 xLong.p0, .int .u64 xLong.p1, .int .u64 xLong.p2, .int .u64 xLong.p3, .int .u64 xLong.p4, .int .u64 xLong.p5, .int .i64 xLong.v, .int .i64 xLong.u, .int .i64 xLong.a, .int .i64 xLong.s, .int .i64 xLong.re, .bool xLong.rf, .int .u64 xLong.rk, .int .u64 xLong.rv, .int .i64 xLong.rc] 47))
      obtain ⟨wa, hwa⟩ : ∃ wa : World, wa = w1.alloc (.cells #[.int .i64 xLong.t, .int .i64 xLong.i, .int .u8 xLong.k, .int .u64 xLong.p0, .int .u64 xLong.p1, .int .u64 xLong.p2, .int .u64 xLong.p3, .int .u64 xLong.p4, .int .u64 xLong.p5, .int .i64 xLong.v, .int .i64 xLong.u, .int .i64 xLong.a, .int .i64 xLong.s, .int .i64 xLong.re, .bool xLong.rf, .int .u64 xLong.rk, .int .u64 xLong.rv, .int .i64 xLong.rc] 47) := ⟨_, rfl⟩
      rw [← hwa] at AL0 BA ⊢
      clear hwa
      go_upto_region 29 with (refine st_new rfl (.tmp 6) (.tmp 90) rfl wa _ rfl rfl rfl xLate rfl ?_)
      have AL := Lib.hid (AL0.out.alloc (.cells #[.int .i64 xLate.t, .int .i64 xLate.i, .int .u8 xLate.k, .int .u64 xLate.p0, .int .u64 xLate.p1, .int .u64 xLate.p2, .int .u64 xLate.p3, .int .u64 xLate.p4, .int .u64 xLate.p5, .int .i64 xLate.v, .int .i64 xLate.u, .int .i64 xLate.a, .int .i64 xLate.s, .int .i64 xLate.re, .bool xLate.rf, .int .u64 xLate.rk, .int .u64 xLate.rv, .int .i64 xLate.rc] 47))
      have AE := Lib.hid (KC.at_new wa xLate)
      have BZ := Lib.hid (bel_alloc BA.out (.cells #[.int .i64 xLate.t, .int .i64 xLate.i, .int .u8 xLate.k, .int .u64 xLate.p0, .int .u64 xLate.p1, .int .u64 xLate.p2, .int .u64 xLate.p3, .int .u64 xLate.p4, .int .u64 xLate.p5, .int .i64 xLate.v, .int .i64 xLate.u, .int .i64 xLate.a, .int .i64 xLate.s, .int .i64 xLate.re, .bool xLate.rf, .int .u64 xLate.rk, .int .u64 xLate.rv, .int .i64 xLate.rc] 47))
      obtain ⟨wb, hwb⟩ : ∃ wb : World, wb = wa.alloc (.cells #[.int .i64 xLate.t, .int .i64 xLate.i, .int .u8 xLate.k, .int .u64 xLate.p0, .int .u64 xLate.p1, .int .u64 xLate.p2, .int .u64 xLate.p3, .int .u64 xLate.p4, .int .u64 xLate.p5, .int .i64 xLate.v, .int .i64 xLate.u, .int .i64 xLate.a, .int .i64 xLate.s, .int .i64 xLate.re, .bool xLate.rf, .int .u64 xLate.rk, .int .u64 xLate.rv, .int .i64 xLate.rc] 47) := ⟨_, rfl⟩
      rw [← hwb] at AL AE BZ ⊢
      clear hwb AL0 BA
      go_wp2_with (first | (refine ld rfl (.tmp 5) rfl _ _ rfl xLong AL.out ?_))
      refine (match_call _ 1 1 [xLong] 63 9223372036854775807 _ rfl (by omega) ⟨by omega, by omega⟩ (KC.lit_rd wb [xLong] #[.int .i64 xLong.t, .int .i64 xLong.i, .int .u8 xLong.k, .int .u64 xLong.p0, .int .u64 xLong.p1, .int .u64 xLong.p2, .int .u64 xLong.p3, .int .u64 xLong.p4, .int .u64 xLong.p5, .int .i64 xLong.v, .int .i64 xLong.u, .int .i64 xLong.a, .int .i64 xLong.s, .int .i64 xLong.re, .bool xLong.rf, .int .u64 xLong.rk, .int .u64 xLong.rv, .int .i64 xLong.rc] rfl (by simp)) bdLong (fun e => by cases e) (i64_of (by omega) (by omega)) ⟨by omega, by omega⟩).mono ?_
      rintro e w2 ⟨rfl, b2⟩
      have B2 := Lib.hid (bel_bel (bel_alloc BZ.out _) b2)
      have AL2 := Lib.hid (((AL.out.alloc _).bel b2 (AL.out.alloc _).lt))
      have AE2 := Lib.hid (((AE.out.alloc _).bel b2 (AE.out.alloc _).lt))
      clear b2 BZ AL AE
      go_wp2_with (first | (refine ldG rfl (.tmp 6) rfl _ _ rfl xLate AE2.out ?_))
      refine (match_call _ 1 1 [xLate] 64 (-1) _ rfl (by omega) ⟨by omega, by omega⟩ (KC.lit_rd w2 [xLate] #[.int .i64 xLate.t, .int .i64 xLate.i, .int .u8 xLate.k, .int .u64 xLate.p0, .int .u64 xLate.p1, .int .u64 xLate.p2, .int .u64 xLate.p3, .int .u64 xLate.p4, .int .u64 xLate.p5, .int .i64 xLate.v, .int .i64 xLate.u, .int .i64 xLate.a, .int .i64 xLate.s, .int .i64 xLate.re, .bool xLate.rf, .int .u64 xLate.rk, .int .u64 xLate.rv, .int .i64 xLate.rc] rfl (by simp)) bdLate (fun e => by cases e) (i64_of (by omega) (by omega)) (i64_of (by omega) (by omega))).mono ?_
      rintro e w3 ⟨rfl, b3⟩
      have B3 := Lib.hid (bel_bel (bel_alloc B2.out _) b3)
      have AL3 := Lib.hid (((AL2.out.alloc _).bel b3 (AL2.out.alloc _).lt))
      have AE3 := Lib.hid (((AE2.out.alloc _).bel b3 (AE2.out.alloc _).lt))
      clear b3 B2 AL2 AE2
      go_wp2_with fail
      refine (match_call none 0 0 [] 0 (-2) _ rfl (by omega) ⟨by omega, by omega⟩ (nilC _) (fun x hx => by cases hx) (fun _ => rfl) (i64_of (by omega) (by omega)) (i64_of (by omega) (by omega))).mono ?_
      rintro e w4 ⟨rfl, b4⟩
      have B4 := Lib.hid (bel_bel B3.out b4)
      have AL4 := Lib.hid (AL3.out.bel b4 AL3.out.lt)
      have AE4 := Lib.hid (AE3.out.bel b4 AE3.out.lt)
      clear b4 B3 AL3 AE3
      go_wp2_with fail
      refine (agree_call none 0 0 [] none 0 0 [] _ rfl (by omega) ⟨by omega, by omega⟩ (nilI _) (fun x hx => by cases hx) (fun _ => rfl) rfl (by omega) ⟨by omega, by omega⟩ (nilC _) (fun x hx => by cases hx) (fun _ => rfl)).mono ?_
      rintro e w5 ⟨rfl, b5⟩
      have B5 := Lib.hid (bel_bel B4.out b5)
      have AL5 := Lib.hid (AL4.out.bel b5 AL4.out.lt)
      have AE5 := Lib.hid (AE4.out.bel b5 AE4.out.lt)
      have LT := Lib.hid (KI.lit_rd w5 [0] #[.int .i64 0] rfl (by simp))
      clear b5 B4 AL4 AE4
      go_wp2_with fail
      refine (agree_call _ 1 1 [0] none 0 0 [] _ rfl (by omega) ⟨by omega, by omega⟩ LT.out (fun x hx => by simp at hx; subst hx; exact i64_of (by omega) (by omega)) (fun e => by cases e) rfl (by omega) ⟨by omega, by omega⟩ (nilC _) (fun x hx => by cases hx) (fun _ => rfl)).mono ?_
      rintro e w6 ⟨rfl, b6⟩
      have B6 := Lib.hid (bel_bel (bel_alloc B5.out _) b6)
      have AL6 := Lib.hid (((AL5.out.alloc _).bel b6 (AL5.out.alloc _).lt))
      have AE6 := Lib.hid (((AE5.out.alloc _).bel b6 (AE5.out.alloc _).lt))
      clear b6 B5 AL5 AE5 LT
      go_wp2_with (first | (refine ldG rfl (.tmp 5) rfl _ _ rfl xLong AL6.out ?_) | (refine ldG rfl (.tmp 6) rfl _ _ rfl xLate AE6.out ?_))
      refine (pairs_any xLong xLate _).mono ?_
      rintro e w7 ⟨rfl, b7⟩
      have B7 := Lib.hid (bel_bel B6.out b7)
      clear b7 B6
      go_wp2_with fail
      refine (awake_any _).mono ?_
      rintro e w9 ⟨rfl, b9⟩
      go_wp2
      go_ret
      exact ⟨rfl, bel_bel B1.out (bel_bel B7.out b9)⟩
end Wk
end Go.Proofs.Ytgfhfcjjodcgdaa
