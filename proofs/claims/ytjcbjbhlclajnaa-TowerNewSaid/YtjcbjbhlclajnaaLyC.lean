/- Package layout: within, isEngine, areTowers, isConfig, Check: contracts of the translated code. No conditions beside those of each lemma. -/
import Derived.Test.YtjcbjbhlclajnaaLyO
import Derived.Test.YtjcbjbhlclajnaaDomQ
namespace Go.Proofs.Ytjcbjbhlclajnaa
open Go.RowKit Go.Sort
set_option linter.unusedVariables false
set_option linter.unusedSimpArgs false
set_option maxRecDepth 100000
namespace Ly
open Dm (RdK BdU dmB dmE dmN bel_alloc bel_trans cell_lt)
theorem within_any (x lo hi : Int) (w : World) : Calls Try.prog 55 #[.int .i64 x, .int .i64 lo, .int .i64 hi] w fun e w' => e = .returned (.bool (decide (lo ≤ x) && decide (x ≤ hi))) ∧ w' = w := by
  by_cases h0 : lo ≤ x <;> by_cases h1 : x ≤ hi
  all_goals
    go_enter Try.func55, Try.ntmps55
    go_wp2
    go_ret
    simp [h0, h1]
/-- there is an engine with that many buckets -/
def engB (en bu : Int) : Bool := if en = 1 ∨ en = 2 then decide (bu = 0) else if en = 3 then decide (1 ≤ bu) && decide (bu ≤ 16) else false
theorem isEngine_any (en bu : Int) (w : World) : Calls Try.prog 105 #[.int .u8 en, .int .i64 bu] w fun e w' => e = .returned (.bool (engB en bu)) ∧ w' = w := by
  by_cases h1 : en = 1
  · subst h1
    have HE := Lib.hid (show engB 1 bu = (bu == 0) by simp [engB]; rfl)
    go_enter Try.func105, Try.ntmps105
    go_wp2
    go_ret
    exact ⟨by rw [HE.out]; rfl, rfl⟩
  by_cases h2 : en = 2
  · subst h2
    have HE := Lib.hid (show engB 2 bu = (bu == 0) by simp [engB]; rfl)
    go_enter Try.func105, Try.ntmps105
    go_wp2
    go_ret
    exact ⟨by rw [HE.out]; rfl, rfl⟩
  by_cases h3 : en = 3
  · subst h3
    have HE := Lib.hid (show engB 3 bu = (decide (1 ≤ bu) && decide (bu ≤ 16)) by simp [engB])
    go_enter Try.func105, Try.ntmps105
    go_wp2_with fail
    refine (within_any _ _ _ _).mono ?_
    rintro r w1 ⟨rfl, rfl⟩
    go_wp2
    go_ret
    exact ⟨by rw [HE.out]; rfl, rfl⟩
  · have HE := Lib.hid (show engB en bu = false by simp [engB, h1, h2, h3])
    have t1 : (en == 1) = false := beq_eq_false_iff_ne.2 h1
    have t2 : (en == 2) = false := beq_eq_false_iff_ne.2 h2
    have t3 : (en == 3) = false := beq_eq_false_iff_ne.2 h3
    go_enter Try.func105, Try.ntmps105
    go_wp2
    go_ret
    exact ⟨by rw [HE.out]; rfl, rfl⟩
/-- the sum of the first i numbers -/
def sm (t : Nat → Int) : Nat → Int
  | 0 => 0
  | i + 1 => sm t i + t i
/-- the first n numbers can be those of towers -/
def twB (t : Nat → Int) : Nat → Bool
  | 0 => true
  | i + 1 => twB t i && (decide (0 ≤ t i) && decide (t i ≤ 1024 - sm t i))
theorem twB_down {t : Nat → Int} {i : Nat} (d : Nat) (h : twB t i = false) : twB t (i + d) = false := by
  induction d with
  | zero => exact h
  | succ d ih => rw [← Nat.add_assoc, twB, ih]; rfl
theorem twB_sm {t : Nat → Int} : ∀ {i : Nat}, twB t i = true → 0 ≤ sm t i ∧ sm t i ≤ 1024
  | 0, _ => by simp [sm]
  | i + 1, h => by
    rw [twB, Bool.and_eq_true, Bool.and_eq_true, decide_eq_true_iff, decide_eq_true_iff] at h
    have := twB_sm h.1
    rw [sm]; omega
theorem info_int : ∃ i, Try.prog.info? 3 = some i := Option.isSome_iff_exists.1 (by kernel_rfl)
theorem info_grp : ∃ i, Try.prog.info? 138 = some i := Option.isSome_iff_exists.1 (by kernel_rfl)
theorem cells_grp : Try.prog.cellsOf 138 = 5 := by kernel_rfl
theorem run_index {t e : TypeId} {n : Nat} (hu : Try.prog.underlying t = some (.array n e)) {i : TypeInfo} (hi : Try.prog.info? e = some i) {cs : Array Value} {j : Nat} (hj : j < n) (w : World) :
    (Instr.index t (.agg cs) (.int .i64 (j : Int))).run Try.prog w = (part e cs (j * Try.prog.cellsOf e)).run Try.prog w := by
  have h1 : (0 : Int) ≤ (j : Int) ∧ (j : Int) < (n : Int) := by omega
  simp [Instr.index, run_underlying hu, asIntOf, hj, run_sizeOf w hi]
theorem index_int {cs : Array Value} {j : Nat} {v : Value} (hj : j < 6) (hv : cs[j]? = some v) (w : World) : (Instr.index 85 (.agg cs) (.int .i64 (j : Int))).run Try.prog w = .ok v w := by
  obtain ⟨i, hi⟩ := info_int
  rw [run_index Try.underlying85 hi hj, cells_int, Nat.mul_one]
  exact run_part_plain w (by kernel_rfl) hv
theorem index_grp {cs : Array Value} {j : Nat} (hj : j < 6) (w : World) : (Instr.index 139 (.agg cs) (.int .i64 (j : Int))).run Try.prog w = .ok (.agg (cs.extract (j * 5) (j * 5 + 5))) w := by
  obtain ⟨i, hi⟩ := info_grp
  rw [run_index Try.underlying139 hi hj, cells_grp]
  simp [part, isAgg, run_underlying Try.underlying138, run_sizeOf w hi, cells_grp]
theorem six {t : Nat → Int} {j : Nat} (hj : j < 6) : (#[Value.int .i64 (t 0), .int .i64 (t 1), .int .i64 (t 2), .int .i64 (t 3), .int .i64 (t 4), .int .i64 (t 5)] : Array Value)[j]? = some (.int .i64 (t j)) := by
  rcases (show j = 0 ∨ j = 1 ∨ j = 2 ∨ j = 3 ∨ j = 4 ∨ j = 5 by omega) with rfl | rfl | rfl | rfl | rfl | rfl <;> rfl
theorem areTowers_any (t : Nat → Int) (w : World) :
    Calls Try.prog 106 #[.agg #[.int .i64 (t 0), .int .i64 (t 1), .int .i64 (t 2), .int .i64 (t 3), .int .i64 (t 4), .int .i64 (t 5)]] w fun e w' => e = .returned (.bool (twB t 6)) ∧ Below w.heap.size w w' := by
  go_enter Try.func106, Try.ntmps106
  go_wp2
  have BX := bel_alloc (Below.refl w.heap.size w) (.cells #[.int .i64 (t 0), .int .i64 (t 1), .int .i64 (t 2), .int .i64 (t 3), .int .i64 (t 4), .int .i64 (t 5)] 85)
  have HBX := Lib.hid BX
  clear BX
  generalize w.alloc (.cells #[.int .i64 (t 0), .int .i64 (t 1), .int .i64 (t 2), .int .i64 (t 3), .int .i64 (t 4), .int .i64 (t 5)] 85) = w1 at *
  go_loop [3, 7] (fun q i => ∃ j : Nat, j ≤ 6 ∧ i = .int .i64 j ∧ q = .int .i64 (1024 - sm t j) ∧ twB t j = true) (fun q i => (6 - intOf i).toNat)
  case atStart => exact ⟨0, Nat.zero_le _, rfl, rfl, rfl⟩
  case round =>
    obtain ⟨j, hj, rfl, rfl, hB⟩ := hrel
    have hs := twB_sm hB
    by_cases h6 : j = 6
    · subst h6
      have HE := Lib.hid hB
      clear hB
      go_wp2
      go_ret
      exact ⟨by rw [HE.out]; rfl, HBX.out⟩
    · have hN : twB t (j + 1) = (decide (0 ≤ t j) && decide (t j ≤ 1024 - sm t j)) := by rw [twB, hB]; rfl
      have hL : sm t (j + 1) = sm t j + t j := rfl
      have HB := Lib.hid hB
      clear hB
      by_cases hok : 0 ≤ t j ∧ t j ≤ 1024 - sm t j
      · have q0 := decide_eq_true hok.1
        have q1 := decide_eq_true hok.2
        rw [q0, q1] at hN
        have HN := Lib.hid hN
        have HL := Lib.hid hL
        clear hN hL
        have d0 : decide ((j : Int) < 6) = true := decide_eq_true (by omega)
        have hV := index_int (by omega) (six (t := t) (j := j) (by omega))
        go_wp2_with fail
        refine (within_any _ _ _ _).mono ?_
        rintro r w2 ⟨rfl, rfl⟩
        rw [q0, q1]
        go_wp2_with fail
        go_round
        case rel => exact ⟨j + 1, by omega, by go_num, by rw [HL.out]; congr 1; omega, HN.out⟩
        case measure => simp [intOf]; omega
      · have q1 : (decide (0 ≤ t j) && decide (t j ≤ 1024 - sm t j)) = false := by
          rw [Bool.and_eq_false_iff, decide_eq_false_iff_not, decide_eq_false_iff_not]; omega
        rw [q1] at hN
        have HN := Lib.hid (show twB t 6 = false by have := twB_down (6 - (j + 1)) hN; rwa [show j + 1 + (6 - (j + 1)) = 6 by omega] at this)
        clear hN hL
        have d0 : decide ((j : Int) < 6) = true := decide_eq_true (by omega)
        have hV := index_int (by omega) (six (t := t) (j := j) (by omega))
        go_wp2_with fail
        refine (within_any _ _ _ _).mono ?_
        rintro r w2 ⟨rfl, rfl⟩
        rw [q1]
        go_wp2_with fail
        go_ret
        exact ⟨by rw [HN.out]; rfl, HBX.out⟩
/-- a configuration in the cells of the block b, from 0 on -/
structure CfB (w : World) (b : Nat) (f : Cf) : Prop where
  c0 : w.cell? ⟨b, 0, none⟩ = some (.int .i64 f.th)
  c1 : w.cell? ⟨b, 1, none⟩ = some (.int .i64 f.sl)
  c2 : w.cell? ⟨b, 2, none⟩ = some (.int .u8 f.en)
  c3 : w.cell? ⟨b, 3, none⟩ = some (.int .i64 f.bu)
  c4 : w.cell? ⟨b, 4, none⟩ = some (.int .u8 f.k)
  c5 : w.cell? ⟨b, 5, none⟩ = some (.int .i64 f.n)
  c6 : w.cell? ⟨b, 6, none⟩ = some (.slice f.A f.m f.c)
  c7 : w.cell? ⟨b, 7, none⟩ = some (.int .i64 (f.t 0))
  c8 : w.cell? ⟨b, 8, none⟩ = some (.int .i64 (f.t 1))
  c9 : w.cell? ⟨b, 9, none⟩ = some (.int .i64 (f.t 2))
  c10 : w.cell? ⟨b, 10, none⟩ = some (.int .i64 (f.t 3))
  c11 : w.cell? ⟨b, 11, none⟩ = some (.int .i64 (f.t 4))
  c12 : w.cell? ⟨b, 12, none⟩ = some (.int .i64 (f.t 5))
  c13 : w.cell? ⟨b, 13, none⟩ = some (.int .i64 f.lo)
  c14 : w.cell? ⟨b, 14, none⟩ = some (.int .i64 f.tr)
  c15 : w.cell? ⟨b, 15, none⟩ = some (.int .i64 f.ba)
theorem CfB.below {w w' : World} {b : Nat} {f : Cf} (h : CfB w b f) (hb : Below w.heap.size w w') : CfB w' b f := by
  have lt := cell_lt h.c0
  have k : ∀ j, w'.cell? ⟨b, j, none⟩ = w.cell? ⟨b, j, none⟩ := fun j => hb.cell (p := ⟨b, j, none⟩) lt
  exact ⟨(k _).trans h.c0, (k _).trans h.c1, (k _).trans h.c2, (k _).trans h.c3, (k _).trans h.c4, (k _).trans h.c5, (k _).trans h.c6, (k _).trans h.c7, (k _).trans h.c8, (k _).trans h.c9, (k _).trans h.c10, (k _).trans h.c11, (k _).trans h.c12, (k _).trans h.c13, (k _).trans h.c14, (k _).trans h.c15⟩
theorem CfB.made (w : World) (f : Cf) (t : TypeId) : CfB (w.alloc (.cells #[.int .i64 f.th, .int .i64 f.sl, .int .u8 f.en, .int .i64 f.bu, .int .u8 f.k, .int .i64 f.n, .slice f.A f.m f.c, .int .i64 (f.t 0), .int .i64 (f.t 1), .int .i64 (f.t 2), .int .i64 (f.t 3), .int .i64 (f.t 4), .int .i64 (f.t 5), .int .i64 f.lo, .int .i64 f.tr, .int .i64 f.ba] t)) w.heap.size f := by
  constructor <;> simp
/-- a valid configuration -/
def okB (f : Cf) (l : List Int) : Bool :=
  (decide (1 ≤ f.th) && decide (f.th ≤ 64)) && (decide (1 ≤ f.sl) && decide (f.sl ≤ 64)) && engB f.en f.bu && dmB f.k f.n l && twB f.t 6 && (decide (1 ≤ f.lo) && decide (f.lo ≤ 16)) && (decide (1 ≤ f.tr) && decide (f.tr ≤ 255)) && (decide (0 ≤ f.ba) && decide (f.ba ≤ 64))
def ckE (f : Cf) (l : List Int) : Int := if okB f l = true then 0 else 2
set_option maxRecDepth 20000 in
theorem isConfig_any (f : Cf) (l : List Int) (w : World) (hB : f.Bd l) (hr : RdK .u64 w f.A l) :
    Calls Try.prog 92 #[.agg #[.int .i64 f.th, .int .i64 f.sl, .int .u8 f.en, .int .i64 f.bu, .int .u8 f.k, .int .i64 f.n, .slice f.A f.m f.c, .int .i64 (f.t 0), .int .i64 (f.t 1), .int .i64 (f.t 2), .int .i64 (f.t 3), .int .i64 (f.t 4), .int .i64 (f.t 5), .int .i64 f.lo, .int .i64 f.tr, .int .i64 f.ba]] w fun e w' => e = .returned (.bool (okB f l)) ∧ Below w.heap.size w w' := by
  have CD := fun W (h : RdK .u64 W f.A l) => Lib.hid (Dm.check_any f.k f.n f.A f.m f.c l W hB.k.1 hB.k.2 hB.n.1 hB.n.2 hB.e hB.mx h hB.b)
  have HR := Lib.hid hr
  have HE := Lib.hid (show okB f l = ((decide (1 ≤ f.th) && decide (f.th ≤ 64)) && (decide (1 ≤ f.sl) && decide (f.sl ≤ 64)) && engB f.en f.bu && dmB f.k f.n l && twB f.t 6 && (decide (1 ≤ f.lo) && decide (f.lo ≤ 16)) && (decide (1 ≤ f.tr) && decide (f.tr ≤ 255)) && (decide (0 ≤ f.ba) && decide (f.ba ≤ 64))) from rfl)
  have HD := Lib.hid (show dmE f.k f.n l = if dmB f.k f.n l = true then 0 else 2 from rfl)
  clear hB hr
  have C1 := fun W => Lib.hid (within_any f.th 1 64 W)
  have C2 := fun W => Lib.hid (within_any f.sl 1 64 W)
  have C3 := fun W => Lib.hid (isEngine_any f.en f.bu W)
  have C5 := fun W => Lib.hid (areTowers_any f.t W)
  have C6 := fun W => Lib.hid (within_any f.lo 1 16 W)
  have C7 := fun W => Lib.hid (within_any f.tr 1 255 W)
  have C8 := fun W => Lib.hid (within_any f.ba 0 64 W)
  generalize (decide (1 ≤ f.th) && decide (f.th ≤ 64)) = b1 at C1 HE
  generalize (decide (1 ≤ f.sl) && decide (f.sl ≤ 64)) = b2 at C2 HE
  generalize engB f.en f.bu = b3 at C3 HE
  generalize dmB f.k f.n l = b4 at HD HE
  generalize twB f.t 6 = b5 at C5 HE
  generalize (decide (1 ≤ f.lo) && decide (f.lo ≤ 16)) = b6 at C6 HE
  generalize (decide (1 ≤ f.tr) && decide (f.tr ≤ 255)) = b7 at C7 HE
  generalize (decide (0 ≤ f.ba) && decide (f.ba ≤ 64)) = b8 at C8 HE
  go_enter Try.func92, Try.ntmps92
  go_wp2_with fail
  refine (C1 _).out.mono ?_
  rintro r w1 ⟨rfl, rfl⟩
  cases b1
  · go_wp2
    go_ret
    exact ⟨by rw [HE.out]; rfl, bel_alloc (Below.refl w.heap.size w) _⟩
  go_wp2_with fail
  refine (C2 _).out.mono ?_
  rintro r w1 ⟨rfl, rfl⟩
  cases b2
  · go_wp2
    go_ret
    exact ⟨by rw [HE.out]; rfl, bel_alloc (Below.refl w.heap.size w) _⟩
  go_wp2_with fail
  refine (C3 _).out.mono ?_
  rintro r w1 ⟨rfl, rfl⟩
  cases b3
  · go_wp2
    go_ret
    exact ⟨by rw [HE.out]; rfl, bel_alloc (Below.refl w.heap.size w) _⟩
  go_wp2_with fail
  refine (CD _ (HR.out.below (bel_alloc (Below.refl w.heap.size w) _))).out.mono ?_
  rw [HD.out]
  rintro r w1 ⟨rfl, bb⟩
  cases b4
  · go_wp2
    go_ret
    exact ⟨by rw [HE.out]; rfl, bel_trans (bel_alloc (Below.refl w.heap.size w) _) bb⟩
  have cf := (CfB.made w f 87).below bb
  have CF := Lib.hid cf
  obtain ⟨-, -, -, -, -, -, -, c7, c8, c9, d0, d1, d2, -, -, -⟩ := cf
  have BB := bel_trans (bel_alloc (Below.refl w.heap.size w) _) bb
  clear bb
  go_wp2_with fail
  refine (C5 _).out.mono ?_
  rintro r w2 ⟨rfl, bb⟩
  have BB2 := bel_trans BB bb
  cases b5
  · go_wp2
    go_ret
    exact ⟨by rw [HE.out]; rfl, BB2⟩
  have cf := CF.out.below bb
  clear c7 c8 c9 d0 d1 d2 BB bb CF
  obtain ⟨-, -, -, -, -, -, -, -, -, -, -, -, -, c0, c1, c2⟩ := cf
  go_wp2_with fail
  refine (C6 _).out.mono ?_
  rintro r w3 ⟨rfl, rfl⟩
  cases b6
  · go_wp2
    go_ret
    exact ⟨by rw [HE.out]; rfl, BB2⟩
  go_wp2_with fail
  refine (C7 _).out.mono ?_
  rintro r w3 ⟨rfl, rfl⟩
  cases b7
  · go_wp2
    go_ret
    exact ⟨by rw [HE.out]; rfl, BB2⟩
  go_wp2_with fail
  refine (C8 _).out.mono ?_
  rintro r w3 ⟨rfl, rfl⟩
  go_wp2
  go_ret
  exact ⟨by rw [HE.out]; cases b8 <;> rfl, BB2⟩
theorem check_any (f : Cf) (l : List Int) (w : World) (hB : f.Bd l) (hr : RdK .u64 w f.A l) :
    Calls Try.prog 64 #[.agg #[.int .i64 f.th, .int .i64 f.sl, .int .u8 f.en, .int .i64 f.bu, .int .u8 f.k, .int .i64 f.n, .slice f.A f.m f.c, .int .i64 (f.t 0), .int .i64 (f.t 1), .int .i64 (f.t 2), .int .i64 (f.t 3), .int .i64 (f.t 4), .int .i64 (f.t 5), .int .i64 f.lo, .int .i64 f.tr, .int .i64 f.ba]] w fun e w' => e = .returned (.int .i64 (ckE f l)) ∧ Below w.heap.size w w' := by
  have CM := fun W h => Lib.hid (isConfig_any f l W hB h)
  have HR := Lib.hid hr
  have HE := Lib.hid (show ckE f l = if okB f l = true then 0 else 2 from rfl)
  generalize okB f l = q at CM HE
  clear hB hr
  have b0 : Below w.heap.size w (w.alloc (Obj.cells #[.int .i64 f.th, .int .i64 f.sl, .int .u8 f.en, .int .i64 f.bu, .int .u8 f.k, .int .i64 f.n, .slice f.A f.m f.c, .int .i64 (f.t 0), .int .i64 (f.t 1), .int .i64 (f.t 2), .int .i64 (f.t 3), .int .i64 (f.t 4), .int .i64 (f.t 5), .int .i64 f.lo, .int .i64 f.tr, .int .i64 f.ba] 87)) := bel_alloc (Below.refl _ _) _
  cases q
  all_goals
    go_enter Try.func64, Try.ntmps64
    go_wp2_with fail
    refine (CM _ (by first | exact HR.out.below b0 | exact HR.out)).out.mono ?_
    rintro r w1 ⟨rfl, b1⟩
    go_wp2
    go_ret
    exact ⟨by rw [HE.out]; rfl, by first | exact bel_trans b0 b1 | exact b1⟩
end Ly
end Go.Proofs.Ytjcbjbhlclajnaa
