/- Same of leapfrogref05, and leapfroglaw05.has and ascending: contracts of the translated code. Conditions: at most 5000 pairs. -/
import Derived.Test.YthinaablldnikaaOmV
import Derived.Laws.StructEq
namespace Go.Proofs.Ythinaablldnikaa
open Go.RowKit Go.Sort
set_option linter.unusedVariables false
set_option linter.unusedSimpArgs false
namespace Om
theorem ext_pairs {l r : List Pr} {n : Nat} (hl : l.length = n) (hr : r.length = n) (h : ∀ t : Nat, t < n → l[t]? = r[t]?) : l = r := by
  refine List.ext_getElem? fun t => ?_
  by_cases ht : t < n
  · exact h t ht
  · rw [List.getElem?_eq_none (by omega), List.getElem?_eq_none (by omega)]
/-- '==' of two pairs -/
theorem eqP (a b c d : Int) (w : World) : (Op.equalIn 10000 45 (.agg #[.int .u64 a, .int .u64 b]) (.agg #[.int .u64 c, .int .u64 d])).run Try.prog w = .ok (a == c && b == d) w := by
  have u3 := Try.underlying33
  have a3 := Try.isAgg33
  have z3 := Try.sizeOf33
  have hS : Try.prog.underlying 45 = some (.struct (Try.prog.fieldsOf 45)) := by kernel_rfl
  have hp : Try.prog.stoodInHeld 45 = false := by kernel_rfl
  rw [show (10000 : Nat) = 9999 + 1 from rfl, run_equalIn_agg w 9999 45 _ _ hS hp]
  simp only [Program.fieldsOf, Try.underlying45]
  go_simp
  by_cases h1 : a = c <;> by_cases h2 : b = d <;> simp [h1, h2]
theorem guardP : Try.prog.eqGuardType Try.prog.depth 45 = false := by kernel_rfl
attribute [local go_sem] eqP guardP
theorem sameR_any (A B : Option Addr) (m c q d : Nat) (l r : List Pr) (w : World) (hm : l.length = m) (hq : r.length = q) (hx : m ≤ 5000) (hy : q ≤ 5000) (hl : Rd w A l) (hr : Rd w B r) :
    Calls Try.prog 15 #[.slice A m c, .slice B q d] w fun e w' => e = .returned (.bool (decide (l = r))) ∧ Below w.heap.size w w' := by
  have HL := Lib.hid hl; clear hl
  have HR := Lib.hid hr; clear hr
  have HM := Lib.hid hm; clear hm
  have HQ := Lib.hid hq; clear hq
  by_cases hmq : m = q
  · subst hmq
    have t0 : ((m : Int) != m) = false := by simp
    go_enter Try.func15, Try.ntmps15
    go_wp2
    go_loopw [5] (fun i wr => ∃ j : Nat, j ≤ m ∧ i = .int .i64 j ∧ (∀ t : Nat, t < j → l[t]? = r[t]?) ∧ Below w.heap.size w wr) (fun i _ => (m - intOf i).toNat)
    case atStart => exact ⟨0, Nat.zero_le _, rfl, fun t h => absurd h (Nat.not_lt_zero _), Below.refl _ _⟩
    case round =>
      obtain ⟨j, hj, rfl, hE, bel⟩ := hrel
      have HE := Lib.hid hE; clear hE
      by_cases hlt : j < m
      · obtain ⟨x, hx, _⟩ := getElem?_lt HM.out hlt
        obtain ⟨y, hy, _⟩ := getElem?_lt HQ.out hlt
        obtain ⟨b, o, rfl, g0, g1⟩ := (HL.out.below bel) j x hx
        obtain ⟨b', o', rfl, g2, g3⟩ := (HR.out.below bel) j y hy
        have t1 : decide ((j : Int) < m) = true := by simp; omega
        have hji : (j : Int) < m := by omega
        by_cases hxy : x = y
        · subst hxy
          have HN := Lib.hid (show ∀ t : Nat, t < j + 1 → l[t]? = r[t]? from fun t ht => by
            by_cases h : t < j
            · exact HE.out t h
            · obtain rfl : t = j := by omega
              rw [hx, hy])
          clear hx hy
          go_wp2
          go_quiet (fail)
          go_wp2
          go_roundw
          case rel => exact ⟨j + 1, by omega, by go_num, HN.out, below_drewN bel _⟩
          case measure => simp [intOf]; omega
        · have HN := Lib.hid (show ¬ l = r from fun h => hxy (by rw [h, hy] at hx; exact (Option.some.inj hx).symm))
          by_cases h1 : x.1 = y.1
          · have t2 : (x.1 == y.1) = true := by simp [h1]
            have t3 : (x.2 == y.2) = false := by
              simp only [beq_eq_false_iff_ne, ne_eq]
              exact fun h2 => hxy (Prod.ext h1 h2)
            clear hx hy hxy h1
            go_wp2
            go_quiet (fail)
            go_wp2
            go_ret
            exact ⟨ret_eq (congrArg Value.bool (decide_eq_false HN.out).symm), below_drewN bel _⟩
          · have t2 : (x.1 == y.1) = false := by simp [h1]
            clear hx hy hxy h1
            go_wp2
            go_quiet (fail)
            go_wp2
            go_ret
            exact ⟨ret_eq (congrArg Value.bool (decide_eq_false HN.out).symm), below_drewN bel _⟩
      · obtain rfl : j = m := by omega
        have HN := Lib.hid (show l = r from ext_pairs HM.out HQ.out HE.out)
        have t1 : decide ((j : Int) < j) = false := by simp
        go_wp2
        go_ret
        exact ⟨ret_eq (congrArg Value.bool (decide_eq_true HN.out).symm), bel⟩
  · have HN := Lib.hid (show ¬ l = r from fun h => hmq (by rw [← HM.out, ← HQ.out, h]))
    have t0 : ((m : Int) != q) = true := by simp; omega
    go_enter Try.func15, Try.ntmps15
    go_wp2
    go_ret
    exact ⟨ret_eq (congrArg Value.bool (decide_eq_false HN.out).symm), Below.refl _ _⟩
theorem has_no (A : Option Addr) (n c : Nat) (l : List Pr) (key : Int) (w : World) (hn : l.length = n) (hs : n ≤ 2 ^ 63 - 1) (hr : Rd w A l) (hno : ∀ x, x ∈ l → x.1 ≠ key) :
    Calls Try.prog 32 #[.slice A n c, .int .u64 key] w fun e w' => e = .returned (gT none) ∧ w = w' := by
  have HR := Lib.hid hr; clear hr
  have HN := Lib.hid hno; clear hno
  have HL := Lib.hid hn; clear hn
  go_enter Try.func32, Try.ntmps32
  go_wp2
  go_loop [6] (fun i => ∃ j : Nat, j ≤ n ∧ i = .int .i64 j) (fun i => (n - intOf i).toNat)
  case atStart => exact ⟨0, Nat.zero_le _, rfl⟩
  case round =>
    obtain ⟨j, hj, rfl⟩ := hrel
    by_cases hlt : j < n
    · obtain ⟨x, hx, hmem⟩ := getElem?_lt HL.out hlt
      obtain ⟨b, o, rfl, g0, g1⟩ := HR.out j x hx
      have hne := HN.out x hmem
      have HX := Lib.hid hx; clear hx hmem
      have t1 : (x.1 == key) = false := by simp [hne]
      have hji : (j : Int) < n := by omega
      clear hne
      go_wp2
      go_round
      case rel => exact ⟨j + 1, by omega, by go_num⟩
      case measure => simp [intOf]; omega
    · obtain rfl : j = n := by omega
      go_wp2
      go_ret2
      exact ⟨rfl, rfl⟩
theorem has_at (A : Option Addr) (n c : Nat) (l : List Pr) (key u : Int) (i : Nat) (w : World) (hn : l.length = n) (hs : n ≤ 2 ^ 63 - 1) (hr : Rd w A l) (hi : l[i]? = some (key, u)) (hf : ∀ (j : Nat) x, j < i → l[j]? = some x → x.1 ≠ key) :
    Calls Try.prog 32 #[.slice A n c, .int .u64 key] w fun e w' => e = .returned (gT (some u)) ∧ w = w' := by
  have HR := Lib.hid hr; clear hr
  have hin : i < l.length := (List.getElem?_eq_some_iff.1 hi).1
  have HN := Lib.hid hf; clear hf
  have HI := Lib.hid hi; clear hi
  have HL := Lib.hid hn
  rw [hn] at hin
  clear hn
  go_enter Try.func32, Try.ntmps32
  go_wp2
  go_loop [6] (fun q => ∃ j : Nat, j ≤ i ∧ q = .int .i64 j) (fun q => (n - intOf q).toNat)
  case atStart => exact ⟨0, Nat.zero_le _, rfl⟩
  case round =>
    obtain ⟨j, hj, rfl⟩ := hrel
    have hlt : j < n := by omega
    have hli : (j : Int) < n := by omega
    by_cases hji : j < i
    · obtain ⟨x, hx, hmem⟩ := getElem?_lt HL.out hlt
      obtain ⟨b, o, rfl, g0, g1⟩ := HR.out j x hx
      have hne := HN.out j x hji hx
      have HX := Lib.hid hx; clear hx hmem
      have t1 : (x.1 == key) = false := by simp [hne]
      clear hne
      go_wp2
      go_round
      case rel => exact ⟨j + 1, by omega, by go_num⟩
      case measure => simp [intOf]; omega
    · obtain rfl : j = i := by omega
      obtain ⟨b, o, rfl, g0, g1⟩ := HR.out j _ HI.out
      go_wp2
      go_ret2
      exact ⟨rfl, rfl⟩
/-- has says what getL says -/
theorem has_any (A : Option Addr) (n c : Nat) (l : List Pr) (key : Int) (w : World) (hn : l.length = n) (hs : n ≤ 2 ^ 63 - 1) (hr : Rd w A l) :
    Calls Try.prog 32 #[.slice A n c, .int .u64 key] w fun e w' => e = .returned (gT (getL l key)) ∧ w = w' := by
  have first : ∀ (l : List Pr) (u : Int), getL l key = some u → ∃ i : Nat, l[i]? = some (key, u) ∧ ∀ (j : Nat) x, j < i → l[j]? = some x → x.1 ≠ key := by
    intro l
    induction l with
    | nil => intro u h; cases h
    | cons y t ih =>
      intro u h
      unfold getL at h
      by_cases hk : y.1 = key
      · rw [if_pos hk] at h
        cases h
        exact ⟨0, by simp [← hk], fun j x hj => absurd hj (Nat.not_lt_zero _)⟩
      · rw [if_neg hk] at h
        obtain ⟨i, h1, h2⟩ := ih u h
        refine ⟨i + 1, by simpa using h1, fun j x hj hx => ?_⟩
        rcases j with _ | j
        · simp at hx; subst hx; exact hk
        · exact h2 j x (by omega) (by simpa using hx)
  cases hg : getL l key with
  | none => exact has_no A n c l key w hn hs hr (getL_none.1 hg)
  | some u =>
    obtain ⟨i, h1, h2⟩ := first l u hg
    exact has_at A n c l key u i w hn hs hr h1 h2
theorem asc_iff {l : List Pr} : Asc l ↔ ∀ (j : Nat) x y, l[j]? = some x → l[j + 1]? = some y → x.1 < y.1 := by
  constructor
  · intro h j x y hx hy
    obtain ⟨h1, e1⟩ := List.getElem?_eq_some_iff.1 hx
    obtain ⟨h2, e2⟩ := List.getElem?_eq_some_iff.1 hy
    have := List.pairwise_iff_getElem.1 h j (j + 1) h1 h2 (by omega)
    rw [e1, e2] at this
    exact this
  · intro h
    refine List.pairwise_iff_getElem.2 fun i j hi hj hij => ?_
    obtain ⟨t, rfl⟩ : ∃ t, j = i + 1 + t := ⟨j - (i + 1), by omega⟩
    clear hij
    induction t with
    | zero => exact h i _ _ (List.getElem?_eq_getElem hi) (List.getElem?_eq_getElem hj)
    | succ t ih =>
      have h1 := ih (by omega)
      have h2 := h (i + 1 + t) _ _ (List.getElem?_eq_getElem (by omega)) (List.getElem?_eq_getElem hj)
      omega
theorem ascending_yes (A : Option Addr) (n c : Nat) (l : List Pr) (w : World) (hn : l.length = n) (hs : n ≤ 5000) (hr : Rd w A l) (ha : Asc l) :
    Calls Try.prog 31 #[.slice A n c] w fun e w' => e = .returned (.bool true) ∧ Below w.heap.size w w' := by
  have HR := Lib.hid hr; clear hr
  have HA := Lib.hid (asc_iff.1 ha); clear ha
  have HL := Lib.hid hn; clear hn
  go_enter Try.func31, Try.ntmps31
  go_wp2
  go_loopw [3] (fun i wr => ∃ j : Nat, (j ≤ n ∨ j = 0) ∧ i = .int .i64 ((j + 1 : Nat) : Int) ∧ Below w.heap.size w wr) (fun i _ => (n + 1 - intOf i).toNat)
  case atStart => exact ⟨0, .inr rfl, rfl, Below.refl _ _⟩
  case round =>
    obtain ⟨j, hj, rfl, bel⟩ := hrel
    by_cases hlt : j + 1 < n
    · obtain ⟨x, hx, _⟩ := getElem?_lt HL.out (show j < n by omega)
      obtain ⟨y, hy, _⟩ := getElem?_lt HL.out hlt
      have hxy := HA.out j x y hx hy
      obtain ⟨b, o, rfl, g0, g1⟩ := (HR.out.below bel) j x hx
      obtain ⟨b', o', e', g2, g3⟩ := (HR.out.below bel) (j + 1) y hy
      cases e'
      have t1 : decide (y.1 ≤ x.1) = false := decide_eq_false (by omega)
      have u0 : decide (((j : Int) + 1) < n) = true := decide_eq_true (by omega)
      have hji : (j : Int) + 1 < n := by omega
      have e1 : IntKind.i64.wrap (((j + 1 : Nat) : Int) - 1) = j := by rw [IntWalk.i64_in _ (by omega)]; omega
      clear hx hy hxy
      go_wp2
      go_quiet (fail)
      clear e1
      go_wp2
      go_roundw
      case rel => exact ⟨j + 1, .inl (by omega), by go_num, below_drewN bel _⟩
      case measure => simp [intOf]; omega
    · have u0 : decide (((j : Int) + 1) < n) = false := decide_eq_false (by omega)
      go_wp2
      go_ret
      exact ⟨rfl, bel⟩
end Om
end Go.Proofs.Ythinaablldnikaa
