/- The small functions of packages span and leapfrogref02, each as a plain function on integers: contracts of the translated code. Conditions: the bounds of each argument's kind. -/
import Derived.Test.YtmnoljnjnmcgpaaRows
import Derived.Test.YtmnoljnjnmcgpaaSpanM
import Derived.WalkKit
import Derived.ProofKit
import Derived.OpenShut
import Derived.Outline
import Derived.WalkLawsBesides
import Derived.Deep.QuietTactic
import Derived.BigQuiet
import Derived.Lib.QuietBelow
import Derived.Lib.Hide
namespace Go.Proofs.Ytmnoljnjnmcgpaa
open Go.RowKit Go.Sort
set_option linter.unusedVariables false
set_option linter.unusedSimpArgs false
namespace Sp
def ckE (a b : Int) : Int := if a ≤ b then 0 else 13
def hasB (a b k : Int) : Bool := decide (a ≤ k ∧ k ≤ b)
def mtB (a b c d : Int) : Bool := decide (a ≤ b ∧ c ≤ d ∧ a ≤ d ∧ c ≤ b)
def mtL (a b c d : Int) : Int := if mtB a b c d = true then max a c else 0
def mtH (a b c d : Int) : Int := if mtB a b c d = true then min b d else 0
def huB (a b c d : Int) : Bool := decide (a ≤ b ∧ c ≤ d)
def huL (a b c d : Int) : Int := if huB a b c d = true then min a c else 0
def huH (a b c d : Int) : Int := if huB a b c d = true then max b d else 0
def huE (a b c d : Int) : Int := if huB a b c d = true then 0 else 13
def shB (a b n : Int) : Bool := decide (a ≤ b ∧ n + b ≤ 18446744073709551615)
def shL (a b n : Int) : Int := if shB a b n = true then a + n else 0
def shH (a b n : Int) : Int := if shB a b n = true then b + n else 0
def shE (a b n : Int) : Int := if shB a b n = true then 0 else if a ≤ b then 12 else 13
def szA (a b : Int) : Bool := decide (a = 0 ∧ b = 18446744073709551615)
def szN (a b : Int) : Int := if a ≤ b then if szA a b = true then 0 else b - a + 1 else 0
def toB (a b c d : Int) : Bool := decide (c ≤ b + 1 ∧ a ≤ d + 1)
def cmpI (a b : Int) : Int := if a < b then -1 else if b < a then 1 else 0

theorem ret_eq {a b : Value} (h : a = b) : Ending.returned a = Ending.returned b := by rw [h]
theorem bcell {W w1 : World} (hb : Below W.heap.size W w1) : (∀ b o, b < W.heap.size → w1.cell? ⟨b, o, none⟩ = W.cell? ⟨b, o, none⟩) ∧ (∀ b o, b < W.heap.size → w1.frozen? ⟨b, o, none⟩ = W.frozen? ⟨b, o, none⟩) :=
  ⟨fun b o h => hb.cell (p := ⟨b, o, none⟩) h, fun b o h => hb.frozen (p := ⟨b, o, none⟩) h⟩

theorem bel_alloc {W w : World} (h : Below W.heap.size W w) (o : Obj) : Below W.heap.size W (w.alloc o) := h.alloc h.size o
theorem bel_trans {W w w1 : World} (h : Below W.heap.size W w) (h1 : Below w.heap.size w w1) : Below W.heap.size W w1 := h.trans (h1.mono h.size)
theorem wrap_top : IntKind.u64.wrap 18446744073709551616 = 0 := by decide +kernel
theorem bel_set {W w : World} {p : Addr} (h : Below W.heap.size W w) (hp : W.heap.size ≤ p.block) (v : Value) : Below W.heap.size W (w.setCell p v) := h.setCell hp v

theorem check_any (a b : Int) (al : 0 ≤ a) (ah : a ≤ 18446744073709551615) (bl : 0 ≤ b) (bh : b ≤ 18446744073709551615) (w : World) :
    Calls Try.prog 14 #[.agg #[.int .u64 a, .int .u64 b]] w fun e w' => e = .returned (.int .i64 (ckE a b)) ∧ Below w.heap.size w w' := by
  unfold ckE
  go_enter Try.func14, Try.ntmps14
  go_wp2
  all_goals (go_ret; exact ⟨rfl, (bel_alloc (Below.refl _ _) _)⟩)

theorem checkR_any (a b : Int) (al : 0 ≤ a) (ah : a ≤ 18446744073709551615) (bl : 0 ≤ b) (bh : b ≤ 18446744073709551615) (w : World) :
    Calls Try.prog 15 #[.agg #[.int .u64 a, .int .u64 b]] w fun e w' => e = .returned (.int .i64 (ckE a b)) ∧ Below w.heap.size w w' := by
  unfold ckE
  go_enter Try.func15, Try.ntmps15
  go_wp2
  all_goals (go_ret; exact ⟨rfl, (bel_alloc (Below.refl _ _) _)⟩)

theorem has_any (a b k : Int) (al : 0 ≤ a) (ah : a ≤ 18446744073709551615) (bl : 0 ≤ b) (bh : b ≤ 18446744073709551615) (kl : 0 ≤ k) (kh : k ≤ 18446744073709551615) (w : World) :
    Calls Try.prog 16 #[.agg #[.int .u64 a, .int .u64 b], .int .u64 k] w fun e w' => e = .returned (.bool (hasB a b k)) ∧ Below w.heap.size w w' := by
  go_enter Try.func16, Try.ntmps16
  go_wp2
  all_goals (go_ret; refine ⟨ret_eq ?_, (bel_alloc (Below.refl _ _) _)⟩; simp [hasB]; try omega)

theorem hasR_any (a b k : Int) (al : 0 ≤ a) (ah : a ≤ 18446744073709551615) (bl : 0 ≤ b) (bh : b ≤ 18446744073709551615) (kl : 0 ≤ k) (kh : k ≤ 18446744073709551615) (w : World) :
    Calls Try.prog 17 #[.agg #[.int .u64 a, .int .u64 b], .int .u64 k] w fun e w' => e = .returned (.bool (hasB a b k)) ∧ Below w.heap.size w w' := by
  go_enter Try.func17, Try.ntmps17
  go_wp2
  all_goals (go_ret; refine ⟨ret_eq ?_, (bel_alloc (Below.refl _ _) _)⟩; simp [hasB]; try omega)

theorem meet_any (a b c d : Int) (al : 0 ≤ a) (ah : a ≤ 18446744073709551615) (bl : 0 ≤ b) (bh : b ≤ 18446744073709551615) (cl : 0 ≤ c) (ch : c ≤ 18446744073709551615) (dl : 0 ≤ d) (dh : d ≤ 18446744073709551615) (w : World) :
    Calls Try.prog 18 #[.agg #[.int .u64 a, .int .u64 b], .agg #[.int .u64 c, .int .u64 d]] w fun e w' => e = .returned (.tuple #[.agg #[.int .u64 (mtL a b c d), .int .u64 (mtH a b c d)], .bool (mtB a b c d)]) ∧ Below w.heap.size w w' := by
  go_enter Try.func18, Try.ntmps18
  go_wp2
  all_goals (refine bodyPost_ret ?_ rfl ⟨rfl, ?_⟩)
  all_goals (first | exact (bel_alloc (bel_alloc (bel_alloc (bel_alloc (Below.refl _ _) _) _) _) _) | (simp [results, Try.results18, go_sem] <;> (try and_intros) <;> (try simp only [mtL, mtH, mtB]) <;> (try simp only [decide_eq_true_eq]) <;> (repeat split) <;> (first | omega | (symm; rw [decide_eq_false_iff_not]; omega) | (symm; rw [decide_eq_true_eq]; omega) | (rw [decide_eq_false_iff_not]; omega) | (rw [decide_eq_true_eq]; omega) | (rw [decide_eq_decide]; omega))))

theorem meetR_any (a b c d : Int) (al : 0 ≤ a) (ah : a ≤ 18446744073709551615) (bl : 0 ≤ b) (bh : b ≤ 18446744073709551615) (cl : 0 ≤ c) (ch : c ≤ 18446744073709551615) (dl : 0 ≤ d) (dh : d ≤ 18446744073709551615) (w : World) :
    Calls Try.prog 19 #[.agg #[.int .u64 a, .int .u64 b], .agg #[.int .u64 c, .int .u64 d]] w fun e w' => e = .returned (.tuple #[.agg #[.int .u64 (mtL a b c d), .int .u64 (mtH a b c d)], .bool (mtB a b c d)]) ∧ Below w.heap.size w w' := by
  go_enter Try.func19, Try.ntmps19
  go_wp2
  all_goals (refine bodyPost_ret ?_ rfl ⟨rfl, ?_⟩)
  all_goals (first | exact (bel_alloc (bel_alloc (bel_alloc (bel_alloc (Below.refl _ _) _) _) _) _) | (simp [results, Try.results19, go_sem] <;> (try and_intros) <;> (try simp only [mtL, mtH, mtB]) <;> (try simp only [decide_eq_true_eq]) <;> (repeat split) <;> (first | omega | (symm; rw [decide_eq_false_iff_not]; omega) | (symm; rw [decide_eq_true_eq]; omega) | (rw [decide_eq_false_iff_not]; omega) | (rw [decide_eq_true_eq]; omega) | (rw [decide_eq_decide]; omega))))

theorem hullR_any (a b c d : Int) (al : 0 ≤ a) (ah : a ≤ 18446744073709551615) (bl : 0 ≤ b) (bh : b ≤ 18446744073709551615) (cl : 0 ≤ c) (ch : c ≤ 18446744073709551615) (dl : 0 ≤ d) (dh : d ≤ 18446744073709551615) (w : World) :
    Calls Try.prog 21 #[.agg #[.int .u64 a, .int .u64 b], .agg #[.int .u64 c, .int .u64 d]] w fun e w' => e = .returned (.tuple #[.agg #[.int .u64 (huL a b c d), .int .u64 (huH a b c d)], .int .i64 (huE a b c d)]) ∧ Below w.heap.size w w' := by
  go_enter Try.func21, Try.ntmps21
  go_wp2
  all_goals (refine bodyPost_ret ?_ rfl ⟨rfl, ?_⟩)
  all_goals (first | exact (bel_alloc (bel_alloc (bel_alloc (Below.refl _ _) _) _) _) | (simp [results, Try.results21, go_sem] <;> (try and_intros) <;> (try simp only [huL, huH, huE, huB]) <;> (try simp only [decide_eq_true_eq]) <;> (repeat split) <;> (first | omega | (symm; rw [decide_eq_false_iff_not]; omega) | (symm; rw [decide_eq_true_eq]; omega) | (rw [decide_eq_false_iff_not]; omega) | (rw [decide_eq_true_eq]; omega) | (rw [decide_eq_decide]; omega))))

theorem shiftR_any (a b n : Int) (al : 0 ≤ a) (ah : a ≤ 18446744073709551615) (bl : 0 ≤ b) (bh : b ≤ 18446744073709551615) (nl : 0 ≤ n) (nh : n ≤ 18446744073709551615) (w : World) :
    Calls Try.prog 23 #[.agg #[.int .u64 a, .int .u64 b], .int .u64 n] w fun e w' => e = .returned (.tuple #[.agg #[.int .u64 (shL a b n), .int .u64 (shH a b n)], .int .i64 (shE a b n)]) ∧ Below w.heap.size w w' := by
  go_enter Try.func23, Try.ntmps23
  go_wp2
  all_goals (refine bodyPost_ret ?_ rfl ⟨rfl, ?_⟩)
  all_goals (first | exact (bel_alloc (bel_alloc (Below.refl _ _) _) _) | (simp [results, Try.results23, go_sem] <;> (try and_intros) <;> (try simp only [shL, shH, shE, shB]) <;> (try simp only [decide_eq_true_eq]) <;> (repeat split) <;> (first | omega | (symm; rw [decide_eq_false_iff_not]; omega) | (symm; rw [decide_eq_true_eq]; omega) | (rw [decide_eq_false_iff_not]; omega) | (rw [decide_eq_true_eq]; omega) | (rw [decide_eq_decide]; omega))))

theorem sizeR_any (a b : Int) (al : 0 ≤ a) (ah : a ≤ 18446744073709551615) (bl : 0 ≤ b) (bh : b ≤ 18446744073709551615) (w : World) :
    Calls Try.prog 13 #[.agg #[.int .u64 a, .int .u64 b]] w fun e w' => e = .returned (.tuple #[.int .u64 (szN a b), .bool (szA a b), .int .i64 (ckE a b)]) ∧ Below w.heap.size w w' := by
  by_cases hab : a ≤ b
  · by_cases hz : a = 0 ∧ b = 18446744073709551615
    · obtain ⟨rfl, rfl⟩ := hz
      have HN := Lib.hid (show szN 0 18446744073709551615 = 0 by decide +kernel)
      have HA := Lib.hid (show szA 0 18446744073709551615 = true by decide +kernel)
      have HE := Lib.hid (show ckE 0 18446744073709551615 = 0 by decide +kernel)
      go_enter Try.func13, Try.ntmps13
      go_wp2
      all_goals (refine bodyPost_ret (v := .tuple #[.int .u64 (szN 0 18446744073709551615), .bool (szA 0 18446744073709551615), .int .i64 (ckE 0 18446744073709551615)]) (by rw [HN.out, HA.out, HE.out]; (simp [results, Try.results13, wrap_top] <;> omega)) rfl ⟨rfl, ?_⟩)
      all_goals (first | exact (bel_alloc (Below.refl _ _) _) | exact bel_trans (bel_alloc (Below.refl _ _) _) b1)
    · have HN := Lib.hid (show szN a b = b - a + 1 by simp only [szN, szA, if_pos hab, decide_eq_true_eq, if_neg hz])
      have HA := Lib.hid (show szA a b = false by simp only [szA, decide_eq_false_iff_not]; exact hz)
      have HE := Lib.hid (show ckE a b = 0 by rw [ckE, if_pos hab])
      have hn : 0 ≤ b - a + 1 := by omega
      have hm : b - a + 1 ≤ 18446744073709551615 := by omega
      have hq : (b - a + 1 == 0) = false := by simp; omega
      go_enter Try.func13, Try.ntmps13
      go_wp2
      all_goals (refine bodyPost_ret (v := .tuple #[.int .u64 (szN a b), .bool (szA a b), .int .i64 (ckE a b)]) (by rw [HN.out, HA.out, HE.out]; (simp [results, Try.results13, wrap_top] <;> omega)) rfl ⟨rfl, ?_⟩)
      all_goals (first | exact (bel_alloc (Below.refl _ _) _) | exact bel_trans (bel_alloc (Below.refl _ _) _) b1)
  · have HN := Lib.hid (show szN a b = 0 by rw [szN, if_neg hab])
    have HA := Lib.hid (show szA a b = false by simp only [szA, decide_eq_false_iff_not]; omega)
    have HE := Lib.hid (show ckE a b = 13 by rw [ckE, if_neg hab])
    go_enter Try.func13, Try.ntmps13
    go_wp2
    all_goals (refine bodyPost_ret (v := .tuple #[.int .u64 (szN a b), .bool (szA a b), .int .i64 (ckE a b)]) (by rw [HN.out, HA.out, HE.out]; (simp [results, Try.results13, wrap_top] <;> omega)) rfl ⟨rfl, ?_⟩)
    all_goals (first | exact (bel_alloc (Below.refl _ _) _) | exact bel_trans (bel_alloc (Below.refl _ _) _) b1)


theorem size_any (a b : Int) (al : 0 ≤ a) (ah : a ≤ 18446744073709551615) (bl : 0 ≤ b) (bh : b ≤ 18446744073709551615) (w : World) :
    Calls Try.prog 12 #[.agg #[.int .u64 a, .int .u64 b]] w fun e w' => e = .returned (.tuple #[.int .u64 (szN a b), .bool (szA a b), .int .i64 (ckE a b)]) ∧ Below w.heap.size w w' := by
  by_cases hab : a ≤ b
  · by_cases hz : a = 0 ∧ b = 18446744073709551615
    · obtain ⟨rfl, rfl⟩ := hz
      have HN := Lib.hid (show szN 0 18446744073709551615 = 0 by decide +kernel)
      have HA := Lib.hid (show szA 0 18446744073709551615 = true by decide +kernel)
      have HE := Lib.hid (show ckE 0 18446744073709551615 = 0 by decide +kernel)
      go_enter Try.func12, Try.ntmps12
      go_wp2_with (go_at_call 14; refine (check_any _ _ (by omega) (by omega) (by omega) (by omega) _).mono ?_; rw [HE.out]; rintro r w1 ⟨rfl, b1⟩; obtain ⟨kc, kf⟩ := bcell b1)
      all_goals (refine bodyPost_ret (v := .tuple #[.int .u64 (szN 0 18446744073709551615), .bool (szA 0 18446744073709551615), .int .i64 (ckE 0 18446744073709551615)]) (by rw [HN.out, HA.out, HE.out]; (simp [results, Try.results12, wrap_top] <;> omega)) rfl ⟨rfl, ?_⟩)
      all_goals (first | exact (bel_alloc (Below.refl _ _) _) | exact bel_trans (bel_alloc (Below.refl _ _) _) b1)
    · have HN := Lib.hid (show szN a b = b - a + 1 by simp only [szN, szA, if_pos hab, decide_eq_true_eq, if_neg hz])
      have HA := Lib.hid (show szA a b = false by simp only [szA, decide_eq_false_iff_not]; exact hz)
      have HE := Lib.hid (show ckE a b = 0 by rw [ckE, if_pos hab])
      have hn : 0 ≤ b - a + 1 := by omega
      have hm : b - a + 1 ≤ 18446744073709551615 := by omega
      have hq : (b - a + 1 == 0) = false := by simp; omega
      go_enter Try.func12, Try.ntmps12
      go_wp2_with (go_at_call 14; refine (check_any _ _ (by omega) (by omega) (by omega) (by omega) _).mono ?_; rw [HE.out]; rintro r w1 ⟨rfl, b1⟩; obtain ⟨kc, kf⟩ := bcell b1)
      all_goals (refine bodyPost_ret (v := .tuple #[.int .u64 (szN a b), .bool (szA a b), .int .i64 (ckE a b)]) (by rw [HN.out, HA.out, HE.out]; (simp [results, Try.results12, wrap_top] <;> omega)) rfl ⟨rfl, ?_⟩)
      all_goals (first | exact (bel_alloc (Below.refl _ _) _) | exact bel_trans (bel_alloc (Below.refl _ _) _) b1)
  · have HN := Lib.hid (show szN a b = 0 by rw [szN, if_neg hab])
    have HA := Lib.hid (show szA a b = false by simp only [szA, decide_eq_false_iff_not]; omega)
    have HE := Lib.hid (show ckE a b = 13 by rw [ckE, if_neg hab])
    go_enter Try.func12, Try.ntmps12
    go_wp2_with (go_at_call 14; refine (check_any _ _ (by omega) (by omega) (by omega) (by omega) _).mono ?_; rw [HE.out]; rintro r w1 ⟨rfl, b1⟩; obtain ⟨kc, kf⟩ := bcell b1)
    all_goals (refine bodyPost_ret (v := .tuple #[.int .u64 (szN a b), .bool (szA a b), .int .i64 (ckE a b)]) (by rw [HN.out, HA.out, HE.out]; (simp [results, Try.results12, wrap_top] <;> omega)) rfl ⟨rfl, ?_⟩)
    all_goals (first | exact (bel_alloc (Below.refl _ _) _) | exact bel_trans (bel_alloc (Below.refl _ _) _) b1)


theorem shift_any (a b n : Int) (al : 0 ≤ a) (ah : a ≤ 18446744073709551615) (bl : 0 ≤ b) (bh : b ≤ 18446744073709551615) (nl : 0 ≤ n) (nh : n ≤ 18446744073709551615) (w : World) :
    Calls Try.prog 22 #[.agg #[.int .u64 a, .int .u64 b], .int .u64 n] w fun e w' => e = .returned (.tuple #[.agg #[.int .u64 (shL a b n), .int .u64 (shH a b n)], .int .i64 (shE a b n)]) ∧ Below w.heap.size w w' := by
  by_cases hab : a ≤ b
  · have HE := Lib.hid (show ckE a b = 0 by rw [ckE, if_pos hab])
    go_enter Try.func22, Try.ntmps22
    go_wp2_with (go_at_call 14; refine (check_any _ _ (by omega) (by omega) (by omega) (by omega) _).mono ?_; rw [HE.out]; rintro r w1 ⟨rfl, b1⟩; obtain ⟨kc, kf⟩ := bcell b1; have hz := b1.size; simp at hz)
    all_goals (refine bodyPost_ret ?_ rfl ⟨rfl, ?_⟩)
    all_goals (first | exact (bel_set (bel_set (bel_trans (bel_alloc (bel_alloc (Below.refl _ _) _) _) b1) (by simp) _) (by simp) _) | (simp [results, Try.results22, go_sem, kc, hz] <;> (try and_intros) <;> (try simp only [shL, shH, shE, shB]) <;> (try simp only [decide_eq_true_eq]) <;> (repeat split) <;> (first | omega | (symm; rw [decide_eq_false_iff_not]; omega) | (symm; rw [decide_eq_true_eq]; omega) | (rw [decide_eq_false_iff_not]; omega) | (rw [decide_eq_true_eq]; omega) | (rw [decide_eq_decide]; omega))))
  · have HE := Lib.hid (show ckE a b = 13 by rw [ckE, if_neg hab])
    go_enter Try.func22, Try.ntmps22
    go_wp2_with (go_at_call 14; refine (check_any _ _ (by omega) (by omega) (by omega) (by omega) _).mono ?_; rw [HE.out]; rintro r w1 ⟨rfl, b1⟩; obtain ⟨kc, kf⟩ := bcell b1; have hz := b1.size; simp at hz)
    all_goals (refine bodyPost_ret ?_ rfl ⟨rfl, ?_⟩)
    all_goals (first | exact (bel_set (bel_set (bel_trans (bel_alloc (bel_alloc (Below.refl _ _) _) _) b1) (by simp) _) (by simp) _) | (simp [results, Try.results22, go_sem, kc, hz] <;> (try and_intros) <;> (try simp only [shL, shH, shE, shB]) <;> (try simp only [decide_eq_true_eq]) <;> (repeat split) <;> (first | omega | (symm; rw [decide_eq_false_iff_not]; omega) | (symm; rw [decide_eq_true_eq]; omega) | (rw [decide_eq_false_iff_not]; omega) | (rw [decide_eq_true_eq]; omega) | (rw [decide_eq_decide]; omega))))


theorem overlap_any (a b c d : Int) (al : 0 ≤ a) (ah : a ≤ 18446744073709551615) (bl : 0 ≤ b) (bh : b ≤ 18446744073709551615) (cl : 0 ≤ c) (ch : c ≤ 18446744073709551615) (dl : 0 ≤ d) (dh : d ≤ 18446744073709551615) (w : World) :
    Calls Try.prog 24 #[.agg #[.int .u64 a, .int .u64 b], .agg #[.int .u64 c, .int .u64 d]] w fun e w' => e = .returned (.bool (mtB a b c d)) ∧ Below w.heap.size w w' := by
  go_enter Try.func24, Try.ntmps24
  go_wp2_with (go_at_call 18; refine (meet_any _ _ _ _ (by omega) (by omega) (by omega) (by omega) (by omega) (by omega) (by omega) (by omega) _).mono ?_; rintro r w1 ⟨rfl, b1⟩; obtain ⟨kc, kf⟩ := bcell b1; have hz := b1.size; simp at hz)
  go_ret
  exact ⟨rfl, bel_alloc (bel_trans (bel_alloc (bel_alloc (Below.refl _ _) _) _) b1) _⟩

theorem overlapR_any (a b c d : Int) (al : 0 ≤ a) (ah : a ≤ 18446744073709551615) (bl : 0 ≤ b) (bh : b ≤ 18446744073709551615) (cl : 0 ≤ c) (ch : c ≤ 18446744073709551615) (dl : 0 ≤ d) (dh : d ≤ 18446744073709551615) (w : World) :
    Calls Try.prog 25 #[.agg #[.int .u64 a, .int .u64 b], .agg #[.int .u64 c, .int .u64 d]] w fun e w' => e = .returned (.bool (mtB a b c d)) ∧ Below w.heap.size w w' := by
  go_enter Try.func25, Try.ntmps25
  go_wp2_with (go_at_call 19; refine (meetR_any _ _ _ _ (by omega) (by omega) (by omega) (by omega) (by omega) (by omega) (by omega) (by omega) _).mono ?_; rintro r w1 ⟨rfl, b1⟩; obtain ⟨kc, kf⟩ := bcell b1; have hz := b1.size; simp at hz)
  go_ret
  exact ⟨rfl, bel_alloc (bel_trans (bel_alloc (bel_alloc (Below.refl _ _) _) _) b1) _⟩

theorem reaches_any (a b c d : Int) (al : 0 ≤ a) (ah : a ≤ 18446744073709551615) (bl : 0 ≤ b) (bh : b ≤ 18446744073709551615) (cl : 0 ≤ c) (ch : c ≤ 18446744073709551615) (dl : 0 ≤ d) (dh : d ≤ 18446744073709551615) (w : World) :
    Calls Try.prog 47 #[.agg #[.int .u64 a, .int .u64 b], .agg #[.int .u64 c, .int .u64 d]] w fun e w' => e = .returned (.bool (reach (a, b) (c, d))) ∧ Below w.heap.size w w' := by
  go_enter Try.func47, Try.ntmps47
  go_wp2
  all_goals (go_ret; refine ⟨ret_eq ?_, (bel_alloc (bel_alloc (Below.refl _ _) _) _)⟩)
  all_goals (first | rfl | exact congrArg Value.bool (by simp only [reach]; rw [Bool.eq_iff_iff]; simp; omega) | exact congrArg Value.bool (by simp only [reach]; rw [Bool.eq_iff_iff]; simp) | exact congrArg Value.bool (by simp only [reach]; symm; rw [decide_eq_true_eq]; omega) | exact congrArg Value.bool (by simp only [reach]; symm; rw [decide_eq_false_iff_not]; omega))

theorem touchR_any (a b c d : Int) (al : 0 ≤ a) (ah : a ≤ 18446744073709551615) (bl : 0 ≤ b) (bh : b ≤ 18446744073709551615) (cl : 0 ≤ c) (ch : c ≤ 18446744073709551615) (dl : 0 ≤ d) (dh : d ≤ 18446744073709551615) (hab : a ≤ b) (hcd : c ≤ d) (w : World) :
    Calls Try.prog 42 #[.agg #[.int .u64 a, .int .u64 b], .agg #[.int .u64 c, .int .u64 d]] w fun e w' => e = .returned (.bool (touch (a, b) (c, d))) ∧ Below w.heap.size w w' := by
  cases hm : mtB a b c d with
  | true =>
    have hm2 : a ≤ d ∧ c ≤ b := by simp [mtB] at hm; omega
    have HM := Lib.hid hm; clear hm
    go_enter Try.func42, Try.ntmps42
    go_wp2_with (go_at_call 25; refine (overlapR_any _ _ _ _ (by omega) (by omega) (by omega) (by omega) (by omega) (by omega) (by omega) (by omega) _).mono ?_; rw [HM.out]; rintro r w1 ⟨rfl, b1⟩; obtain ⟨kc, kf⟩ := bcell b1; have hz := b1.size; simp at hz)
    go_ret
    exact ⟨ret_eq (congrArg Value.bool (by simp only [touch]; symm; rw [decide_eq_true_eq]; omega)), bel_trans (bel_alloc (bel_alloc (Below.refl _ _) _) _) b1⟩
  | false =>
    have hm2 : ¬ (a ≤ d ∧ c ≤ b) := by simp [mtB] at hm; omega
    have HM := Lib.hid hm; clear hm
    by_cases hb : b = 18446744073709551615
    · by_cases hd : d = 18446744073709551615
      · exfalso; omega
      · have qb : (b != 18446744073709551615) = false := by rw [hb]; rfl
        have zb : 18446744073709551615 ≤ b + 0 := by omega
        have qd : (d != 18446744073709551615) = true := by rw [bne_iff_ne]; exact hd
        have zd : d + 1 ≤ 18446744073709551615 := by omega
        clear hb hd
        go_enter Try.func42, Try.ntmps42
        go_wp2_with (go_at_call 25; refine (overlapR_any _ _ _ _ (by omega) (by omega) (by omega) (by omega) (by omega) (by omega) (by omega) (by omega) _).mono ?_; rw [HM.out]; rintro r w1 ⟨rfl, b1⟩; obtain ⟨kc, kf⟩ := bcell b1; have hz := b1.size; simp at hz)
        all_goals (go_ret; refine ⟨ret_eq ?_, bel_trans (bel_alloc (bel_alloc (Below.refl _ _) _) _) b1⟩)
        all_goals (first | rfl | exact congrArg Value.bool (by simp only [touch]; rw [Bool.eq_iff_iff]; simp; omega) | exact congrArg Value.bool (by simp only [touch]; rw [Bool.eq_iff_iff]; simp) | exact congrArg Value.bool (by simp only [touch]; symm; rw [decide_eq_true_eq]; omega) | exact congrArg Value.bool (by simp only [touch]; symm; rw [decide_eq_false_iff_not]; omega))
    · by_cases hd : d = 18446744073709551615
      · have qb : (b != 18446744073709551615) = true := by rw [bne_iff_ne]; exact hb
        have zb : b + 1 ≤ 18446744073709551615 := by omega
        have qd : (d != 18446744073709551615) = false := by rw [hd]; rfl
        have zd : 18446744073709551615 ≤ d + 0 := by omega
        clear hb hd
        go_enter Try.func42, Try.ntmps42
        go_wp2_with (go_at_call 25; refine (overlapR_any _ _ _ _ (by omega) (by omega) (by omega) (by omega) (by omega) (by omega) (by omega) (by omega) _).mono ?_; rw [HM.out]; rintro r w1 ⟨rfl, b1⟩; obtain ⟨kc, kf⟩ := bcell b1; have hz := b1.size; simp at hz)
        all_goals (go_ret; refine ⟨ret_eq ?_, bel_trans (bel_alloc (bel_alloc (Below.refl _ _) _) _) b1⟩)
        all_goals (first | rfl | exact congrArg Value.bool (by simp only [touch]; rw [Bool.eq_iff_iff]; simp; omega) | exact congrArg Value.bool (by simp only [touch]; rw [Bool.eq_iff_iff]; simp) | exact congrArg Value.bool (by simp only [touch]; symm; rw [decide_eq_true_eq]; omega) | exact congrArg Value.bool (by simp only [touch]; symm; rw [decide_eq_false_iff_not]; omega))
      · have qb : (b != 18446744073709551615) = true := by rw [bne_iff_ne]; exact hb
        have zb : b + 1 ≤ 18446744073709551615 := by omega
        have qd : (d != 18446744073709551615) = true := by rw [bne_iff_ne]; exact hd
        have zd : d + 1 ≤ 18446744073709551615 := by omega
        clear hb hd
        go_enter Try.func42, Try.ntmps42
        go_wp2_with (go_at_call 25; refine (overlapR_any _ _ _ _ (by omega) (by omega) (by omega) (by omega) (by omega) (by omega) (by omega) (by omega) _).mono ?_; rw [HM.out]; rintro r w1 ⟨rfl, b1⟩; obtain ⟨kc, kf⟩ := bcell b1; have hz := b1.size; simp at hz)
        all_goals (go_ret; refine ⟨ret_eq ?_, bel_trans (bel_alloc (bel_alloc (Below.refl _ _) _) _) b1⟩)
        all_goals (first | rfl | exact congrArg Value.bool (by simp only [touch]; rw [Bool.eq_iff_iff]; simp; omega) | exact congrArg Value.bool (by simp only [touch]; rw [Bool.eq_iff_iff]; simp) | exact congrArg Value.bool (by simp only [touch]; symm; rw [decide_eq_true_eq]; omega) | exact congrArg Value.bool (by simp only [touch]; symm; rw [decide_eq_false_iff_not]; omega))


theorem nan_any (a : Int) (al : 0 ≤ a) (ah : a ≤ 18446744073709551615) (w : World) :
    Calls Try.prog 46 #[.int .u64 a] w fun e w' => e = .returned (.bool false) ∧ Below w.heap.size w w' := by
  go_enter Try.func46, Try.ntmps46
  go_wp2
  go_ret
  exact ⟨ret_eq (by simp), Below.refl _ _⟩

end Sp
end Go.Proofs.Ytmnoljnjnmcgpaa
