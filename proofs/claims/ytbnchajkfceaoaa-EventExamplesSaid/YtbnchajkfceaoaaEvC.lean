/- Package event: the small functions (isThread, isEvent, follows, the methods of state): contracts of the translated code. No conditions beside those of each lemma. -/
import Derived.Test.YtbnchajkfceaoaaEvN
namespace Go.Proofs.Ytbnchajkfceaoaa
open Go.RowKit Go.Sort
set_option linter.unusedVariables false
set_option linter.unusedSimpArgs false
namespace Ev
/-- the value of an event -/
def ev (x : E) : Value := .agg #[.int .i64 x.s, .int .i64 x.t, .int .u8 x.k, .int .u64 x.v]
def thB (t : Int) : Bool := decide (0 ≤ t) && decide (t < 64)
theorem isThread_any (t : Int) (w : World) : Calls Try.prog 40 #[.int .i64 t] w fun e w' => e = .returned (.bool (thB t)) ∧ w = w' := by
  obtain ⟨r, hr⟩ : ∃ r, thB t = r := ⟨_, rfl⟩
  rw [hr]
  have HR := Lib.hid hr
  clear hr
  by_cases h0 : 0 ≤ t
  · have d0 := decide_eq_true h0
    by_cases h1 : t < 64
    all_goals
      first | (have d1 := decide_eq_false h1) | (have d1 := decide_eq_true h1)
      have HV := Lib.hid (show r = decide (t < 64) by rw [← HR.out, thB, d0]; rfl)
      rw [d1] at HV
      clear h0 h1 HR
      go_enter Try.func40, Try.ntmps40
      go_wp2
      go_ret
      exact ⟨by rw [HV.out]; first | done | rfl, rfl⟩
  · have d0 := decide_eq_false h0
    have HV := Lib.hid (show r = false by rw [← HR.out, thB, d0]; rfl)
    clear h0 HR
    go_enter Try.func40, Try.ntmps40
    go_wp2
    go_ret
    exact ⟨by rw [HV.out]; first | done | rfl, rfl⟩
theorem isEvent_any (s t k v : Int) (w : World) : Calls Try.prog 31 #[.agg #[.int .i64 s, .int .i64 t, .int .u8 k, .int .u64 v]] w fun e w' =>
    e = .returned (.bool (rangeB ⟨s, t, k, v⟩)) ∧ Below w.heap.size w w' := by
  obtain ⟨r, hr⟩ : ∃ r, rangeB ⟨s, t, k, v⟩ = r := ⟨_, rfl⟩
  rw [hr]
  have HR := Lib.hid hr
  clear hr
  have CT := fun (W : World) => Lib.hid (isThread_any t W)
  by_cases h0 : 0 ≤ s
  · have d0 := decide_eq_true h0
    by_cases h1 : thB t = true
    · rw [h1] at CT
      by_cases h2 : 1 ≤ k
      · have d2 := decide_eq_true h2
        by_cases h3 : k ≤ 4
        all_goals
          first | (have d3 := decide_eq_false h3) | (have d3 := decide_eq_true h3)
          have HV := Lib.hid (show r = decide (k ≤ 4) by rw [← HR.out]; simp only [rangeB, thB, Bool.and_eq_true, decide_eq_true_eq] at h1 ⊢; simp [h0, h1.1, h1.2, h2])
          rw [d3] at HV
          clear h0 h1 h2 h3 HR
          go_enter Try.func31, Try.ntmps31
          go_wp2_with (go_at_call 40; refine (CT _).out.mono ?_; rintro e w' ⟨rfl, rfl⟩)
          go_ret
          exact ⟨by rw [HV.out]; first | done | rfl, bel_alloc (Below.refl _ _) _⟩
      · have d2 := decide_eq_false h2
        have HV := Lib.hid (show r = false by rw [← HR.out]; simp [rangeB, h2])
        clear h0 h1 h2 HR
        go_enter Try.func31, Try.ntmps31
        go_wp2_with (go_at_call 40; refine (CT _).out.mono ?_; rintro e w' ⟨rfl, rfl⟩)
        go_ret
        exact ⟨by rw [HV.out]; first | done | rfl, bel_alloc (Below.refl _ _) _⟩
    · rw [Bool.not_eq_true] at h1
      rw [h1] at CT
      have HV := Lib.hid (show r = false by
        rw [← HR.out]
        simp only [thB, Bool.and_eq_false_iff, decide_eq_false_iff_not] at h1
        simp [rangeB]; omega)
      clear h0 h1 HR
      go_enter Try.func31, Try.ntmps31
      go_wp2_with (go_at_call 40; refine (CT _).out.mono ?_; rintro e w' ⟨rfl, rfl⟩)
      go_ret
      exact ⟨by rw [HV.out]; first | done | rfl, bel_alloc (Below.refl _ _) _⟩
  · have d0 := decide_eq_false h0
    have HV := Lib.hid (show r = false by rw [← HR.out]; simp [rangeB, h0])
    clear h0 HR
    go_enter Try.func31, Try.ntmps31
    go_wp2
    go_ret
    exact ⟨by rw [HV.out]; first | done | rfl, bel_alloc (Below.refl _ _) _⟩
theorem follows_any (s t k v s2 t2 k2 v2 : Int) (w : World) : Calls Try.prog 32 #[.agg #[.int .i64 s, .int .i64 t, .int .u8 k, .int .u64 v], .agg #[.int .i64 s2, .int .i64 t2, .int .u8 k2, .int .u64 v2]] w fun e w' =>
    e = .returned (.bool (stepB ⟨s, t, k, v⟩ ⟨s2, t2, k2, v2⟩)) ∧ Below w.heap.size w w' := by
  obtain ⟨r, hr⟩ : ∃ r, stepB ⟨s, t, k, v⟩ ⟨s2, t2, k2, v2⟩ = r := ⟨_, rfl⟩
  rw [hr]
  have HR := Lib.hid hr
  clear hr
  by_cases h0 : s2 = s
  · subst h0
    have d0 : (s2 != s2) = false := by simp
    by_cases h1 : k = 3
    · have d1 : (k == 3) = true := by simpa using h1
      by_cases h2 : k2 = 4
      · have d2 : (k2 == 4) = true := by simpa using h2
        by_cases h3 : t2 = t
        all_goals
          first | (have d3 : (t2 == t) = true := by simpa using h3) | (have d3 : (t2 == t) = false := by simpa using h3)
          have HV := Lib.hid (show r = (t2 == t) by rw [← HR.out]; simp [stepB, h1, h2]; rfl)
          rw [d3] at HV
          clear h1 h2 h3 HR
          go_enter Try.func32, Try.ntmps32
          go_wp2
          go_ret
          exact ⟨by rw [HV.out]; first | done | rfl, bel_alloc (bel_alloc (Below.refl _ _) _) _⟩
      · have d2 : (k2 == 4) = false := by simpa using h2
        have HV := Lib.hid (show r = false by rw [← HR.out]; simp [stepB, h2])
        clear h1 h2 HR
        go_enter Try.func32, Try.ntmps32
        go_wp2
        go_ret
        exact ⟨by rw [HV.out]; first | done | rfl, bel_alloc (bel_alloc (Below.refl _ _) _) _⟩
    · have d1 : (k == 3) = false := by simpa using h1
      have HV := Lib.hid (show r = false by rw [← HR.out]; simp [stepB, h1])
      clear h1 HR
      go_enter Try.func32, Try.ntmps32
      go_wp2
      go_ret
      exact ⟨by rw [HV.out]; first | done | rfl, bel_alloc (bel_alloc (Below.refl _ _) _) _⟩
  · have d0 : (s2 != s) = true := by simpa using h0
    have HV := Lib.hid (show r = decide (s < s2) by rw [← HR.out]; simp [stepB, h0])
    by_cases h1 : s < s2
    all_goals
      first | (have d1 := decide_eq_false h1) | (have d1 := decide_eq_true h1)
      rw [d1] at HV
      clear h0 h1 HR
      go_enter Try.func32, Try.ntmps32
      go_wp2
      go_ret
      exact ⟨by rw [HV.out]; first | done | rfl, bel_alloc (bel_alloc (Below.refl _ _) _) _⟩
/-- what the state of a thread allows -/
def sB (n : Int) (k v : Int) (e : E) : Bool := if n = 1 then decide (k = 0) && decide (e.v < 64) else if n = 2 then decide (k = 1) && decide (e.v = v) else if n = 3 then decide (k = 0) && decide (e.v ≠ 0) else decide (k = 3) && decide (e.v = v)
def sF (n : Int) : FuncId := if n = 1 then 44 else if n = 2 then 45 else if n = 3 then 46 else 47
theorem enters_any (k v s2 t2 k2 v2 : Int) (w : World) : Calls Try.prog 44 #[.agg #[.int .u8 k, .int .u64 v], .agg #[.int .i64 s2, .int .i64 t2, .int .u8 k2, .int .u64 v2]] w fun e w' =>
    e = .returned (.bool (sB 1 k v ⟨s2, t2, k2, v2⟩)) ∧ Below w.heap.size w w' := by
  obtain ⟨r, hr⟩ : ∃ r, sB 1 k v ⟨s2, t2, k2, v2⟩ = r := ⟨_, rfl⟩
  rw [hr]
  have HR := Lib.hid hr
  clear hr
  by_cases h0 : k = 0
  · have d0 : (k == 0) = true := by simpa using h0
    by_cases h1 : v2 < 64
    all_goals
      first | (have d1 := decide_eq_false h1) | (have d1 := decide_eq_true h1)
      have HV := Lib.hid (show r = decide (v2 < 64) by rw [← HR.out]; simp [sB, h0])
      rw [d1] at HV
      clear h0 h1 HR
      go_enter Try.func44, Try.ntmps44
      go_wp2
      go_ret
      exact ⟨by rw [HV.out]; first | done | rfl, bel_alloc (bel_alloc (Below.refl _ _) _) _⟩
  · have d0 : (k == 0) = false := by simpa using h0
    have HV := Lib.hid (show r = false by rw [← HR.out]; simp [sB, h0])
    clear h0 HR
    go_enter Try.func44, Try.ntmps44
    go_wp2
    go_ret
    exact ⟨by rw [HV.out]; first | done | rfl, bel_alloc (bel_alloc (Below.refl _ _) _) _⟩
theorem waits_any (k v s2 t2 k2 v2 : Int) (w : World) : Calls Try.prog 46 #[.agg #[.int .u8 k, .int .u64 v], .agg #[.int .i64 s2, .int .i64 t2, .int .u8 k2, .int .u64 v2]] w fun e w' =>
    e = .returned (.bool (sB 3 k v ⟨s2, t2, k2, v2⟩)) ∧ Below w.heap.size w w' := by
  obtain ⟨r, hr⟩ : ∃ r, sB 3 k v ⟨s2, t2, k2, v2⟩ = r := ⟨_, rfl⟩
  rw [hr]
  have HR := Lib.hid hr
  clear hr
  by_cases h0 : k = 0
  · have d0 : (k == 0) = true := by simpa using h0
    by_cases h1 : v2 = 0
    all_goals
      first | (have d1 : (v2 != 0) = false := by simpa using h1) | (have d1 : (v2 != 0) = true := by simpa using h1)
      have HV := Lib.hid (show r = (v2 != 0) by rw [← HR.out]; simp [sB, h0, h1])
      rw [d1] at HV
      clear h0 h1 HR
      go_enter Try.func46, Try.ntmps46
      go_wp2
      go_ret
      exact ⟨by rw [HV.out]; first | done | rfl, bel_alloc (bel_alloc (Below.refl _ _) _) _⟩
  · have d0 : (k == 0) = false := by simpa using h0
    have HV := Lib.hid (show r = false by rw [← HR.out]; simp [sB, h0])
    clear h0 HR
    go_enter Try.func46, Try.ntmps46
    go_wp2
    go_ret
    exact ⟨by rw [HV.out]; first | done | rfl, bel_alloc (bel_alloc (Below.refl _ _) _) _⟩
theorem exits_any (k v s2 t2 k2 v2 : Int) (w : World) : Calls Try.prog 45 #[.agg #[.int .u8 k, .int .u64 v], .agg #[.int .i64 s2, .int .i64 t2, .int .u8 k2, .int .u64 v2]] w fun e w' =>
    e = .returned (.bool (sB 2 k v ⟨s2, t2, k2, v2⟩)) ∧ Below w.heap.size w w' := by
  obtain ⟨r, hr⟩ : ∃ r, sB 2 k v ⟨s2, t2, k2, v2⟩ = r := ⟨_, rfl⟩
  rw [hr]
  have HR := Lib.hid hr
  clear hr
  by_cases h0 : k = 1
  · have d0 : (k == 1) = true := by simpa using h0
    by_cases h1 : v2 = v
    all_goals
      first | (have d1 : (v2 == v) = true := by simpa using h1) | (have d1 : (v2 == v) = false := by simpa using h1)
      have HV := Lib.hid (show r = (v2 == v) by rw [← HR.out]; simp [sB, h0]; rfl)
      rw [d1] at HV
      clear h0 h1 HR
      go_enter Try.func45, Try.ntmps45
      go_wp2
      go_ret
      exact ⟨by rw [HV.out]; first | done | rfl, bel_alloc (bel_alloc (Below.refl _ _) _) _⟩
  · have d0 : (k == 1) = false := by simpa using h0
    have HV := Lib.hid (show r = false by rw [← HR.out]; simp [sB, h0])
    clear h0 HR
    go_enter Try.func45, Try.ntmps45
    go_wp2
    go_ret
    exact ⟨by rw [HV.out]; first | done | rfl, bel_alloc (bel_alloc (Below.refl _ _) _) _⟩
theorem ends_any (k v s2 t2 k2 v2 : Int) (w : World) : Calls Try.prog 47 #[.agg #[.int .u8 k, .int .u64 v], .agg #[.int .i64 s2, .int .i64 t2, .int .u8 k2, .int .u64 v2]] w fun e w' =>
    e = .returned (.bool (sB 4 k v ⟨s2, t2, k2, v2⟩)) ∧ Below w.heap.size w w' := by
  obtain ⟨r, hr⟩ : ∃ r, sB 4 k v ⟨s2, t2, k2, v2⟩ = r := ⟨_, rfl⟩
  rw [hr]
  have HR := Lib.hid hr
  clear hr
  by_cases h0 : k = 3
  · have d0 : (k == 3) = true := by simpa using h0
    by_cases h1 : v2 = v
    all_goals
      first | (have d1 : (v2 == v) = true := by simpa using h1) | (have d1 : (v2 == v) = false := by simpa using h1)
      have HV := Lib.hid (show r = (v2 == v) by rw [← HR.out]; simp [sB, h0]; rfl)
      rw [d1] at HV
      clear h0 h1 HR
      go_enter Try.func47, Try.ntmps47
      go_wp2
      go_ret
      exact ⟨by rw [HV.out]; first | done | rfl, bel_alloc (bel_alloc (Below.refl _ _) _) _⟩
  · have d0 : (k == 3) = false := by simpa using h0
    have HV := Lib.hid (show r = false by rw [← HR.out]; simp [sB, h0])
    clear h0 HR
    go_enter Try.func47, Try.ntmps47
    go_wp2
    go_ret
    exact ⟨by rw [HV.out]; first | done | rfl, bel_alloc (bel_alloc (Below.refl _ _) _) _⟩
theorem sF_any {n : Int} (hn : 1 ≤ n ∧ n ≤ 4) (k v s2 t2 k2 v2 : Int) (w : World) : Calls Try.prog (sF n) #[.agg #[.int .u8 k, .int .u64 v], .agg #[.int .i64 s2, .int .i64 t2, .int .u8 k2, .int .u64 v2]] w fun e w' =>
    e = .returned (.bool (sB n k v ⟨s2, t2, k2, v2⟩)) ∧ Below w.heap.size w w' := by
  obtain rfl | rfl | rfl | rfl : n = 1 ∨ n = 2 ∨ n = 3 ∨ n = 4 := by omega
  · exact enters_any k v s2 t2 k2 v2 w
  · exact exits_any k v s2 t2 k2 v2 w
  · exact waits_any k v s2 t2 k2 v2 w
  · exact ends_any k v s2 t2 k2 v2 w
/-- the state behind an event -/
def afS (k v : Int) (e : E) : Int × Int := if k = 0 then (e.k, e.v) else (0, 0)
theorem after_any (k v s2 t2 k2 v2 : Int) (w : World) : Calls Try.prog 33 #[.agg #[.int .u8 k, .int .u64 v], .agg #[.int .i64 s2, .int .i64 t2, .int .u8 k2, .int .u64 v2]] w fun e w' =>
    e = .returned (.agg #[.int .u8 (afS k v ⟨s2, t2, k2, v2⟩).1, .int .u64 (afS k v ⟨s2, t2, k2, v2⟩).2]) ∧ Below w.heap.size w w' := by
  obtain ⟨r, hr⟩ : ∃ r, afS k v ⟨s2, t2, k2, v2⟩ = r := ⟨_, rfl⟩
  rw [hr]
  have HR := Lib.hid hr
  clear hr
  by_cases h0 : k = 0
  · have d0 : (k != 0) = false := by simpa using h0
    have HV := Lib.hid (show r = (k2, v2) by rw [← HR.out]; simp [afS, h0])
    clear h0 HR
    go_enter Try.func33, Try.ntmps33
    go_wp2
    refine bodyPost_ret (v := .agg #[.int .u8 k2, .int .u64 v2]) (by simp [results, Try.results33, go_sem]) rfl ⟨by rw [HV.out]; first | done | rfl, bel_alloc (bel_alloc (bel_alloc (Below.refl _ _) _) _) _⟩
  · have d0 : (k != 0) = true := by simpa using h0
    have HV := Lib.hid (show r = (0, 0) by rw [← HR.out]; simp [afS, h0])
    clear h0 HR
    go_enter Try.func33, Try.ntmps33
    go_wp2
    refine bodyPost_ret (v := .agg #[.int .u8 0, .int .u64 0]) (by simp [results, Try.results33, go_sem]) rfl ⟨by rw [HV.out]; first | done | rfl, bel_alloc (bel_alloc (bel_alloc (Below.refl _ _) _) _) _⟩
end Ev
end Go.Proofs.Ytbnchajkfceaoaa
