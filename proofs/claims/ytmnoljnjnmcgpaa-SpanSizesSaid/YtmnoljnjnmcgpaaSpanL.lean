/- The functions of packages span, leapfrogref02 and leapfroglaw02 that only read a list of ranges: contracts of the translated code. 'Rd w A l': at the address A lie the ranges l. Conditions: the list is no longer than the model lets a slice be; the bounds of each key's kind. -/
import Derived.Test.YtmnoljnjnmcgpaaSpan
import Derived.LoopTactic
namespace Go.Proofs.Ytmnoljnjnmcgpaa
open Go.RowKit Go.Sort
set_option linter.unusedVariables false
set_option linter.unusedSimpArgs false
namespace Sp
/-- from the address A on lie the ranges l -/
def Rd (w : World) (A : Option Addr) (l : List Sp) : Prop :=
  ∀ (k : Nat) (x : Sp), l[k]? = some x → ∃ b o, A = some ⟨b, o, none⟩ ∧ w.cell? ⟨b, o + k * 2, none⟩ = some (.int .u64 x.1) ∧ w.cell? ⟨b, o + k * 2 + 1, none⟩ = some (.int .u64 x.2)
def Bd (l : List Sp) : Prop := ∀ x, x ∈ l → 0 ≤ x.1 ∧ x.1 ≤ 18446744073709551615 ∧ 0 ≤ x.2 ∧ x.2 ≤ 18446744073709551615
theorem below_drewN {B : Nat} {a w : World} (h : Below B a w) (n : Nat) : Below B a (w.drewN n) := ⟨h.os, h.tape, h.output, h.size, h.block⟩
theorem Rd.below {w w' : World} {A : Option Addr} {l : List Sp} (h : Rd w A l) (hb : Below w.heap.size w w') : Rd w' A l := by
  intro k x hk
  obtain ⟨b, o, e, c0, c1⟩ := h k x hk
  exact ⟨b, o, e, (hb.cell (World.block_lt_of_cell? w _ c0)).trans c0, (hb.cell (World.block_lt_of_cell? w _ c1)).trans c1⟩
theorem Rd.drewN {w : World} {A : Option Addr} {l : List Sp} (h : Rd w A l) (n : Nat) : Rd (w.drewN n) A l := h
theorem getElem?_lt {l : List Sp} {k n : Nat} (hn : l.length = n) (h : k < n) : ∃ x, l[k]? = some x ∧ x ∈ l := ⟨l[k]'(by omega), List.getElem?_eq_getElem (by omega), List.getElem_mem _⟩
theorem take_succ' {l : List Sp} {k : Nat} {x : Sp} (h : l[k]? = some x) : l.take (k + 1) = l.take k ++ [x] := by
  rw [List.take_add_one, h]; rfl

def okB (l : List Sp) : Bool := l.all fun x => decide (x.1 ≤ x.2)
theorem okB_iff (l : List Sp) : okB l = true ↔ Ok l := by simp [okB, Ok]
theorem okB_no {l : List Sp} {k : Nat} {x : Sp} (h : l[k]? = some x) (hx : x.2 < x.1) : okB l = false := by
  cases e : okB l with
  | false => rfl
  | true => have := (okB_iff l).1 e x (List.mem_of_getElem? h); omega
theorem okB_step {l : List Sp} {k : Nat} {x : Sp} (h : l[k]? = some x) (hk : okB (l.take k) = true) (hx : x.1 ≤ x.2) : okB (l.take (k + 1)) = true := by
  rw [take_succ' h, okB, List.all_append, Bool.and_eq_true]
  exact ⟨hk, by simpa using hx⟩

theorem okB_all {l : List Sp} {k n : Nat} (hn : l.length = n) (hk : n ≤ k) (h : okB (l.take k) = true) : okB l = true := by
  rwa [List.take_of_length_le (by omega)] at h
def caE (l : List Sp) : Int := if okB l = true then 0 else 13
def inB (l : List Sp) (k : Int) : Bool := l.any fun x => decide (x.1 ≤ k ∧ k ≤ x.2)
theorem inB_iff (l : List Sp) (k : Int) : inB l k = true ↔ In l k := by simp [inB, In]
theorem inB_yes {l : List Sp} {k : Nat} {x : Sp} {j : Int} (h : l[k]? = some x) (h1 : x.1 ≤ j) (h2 : j ≤ x.2) : inB l j = true :=
  (inB_iff l j).2 ⟨x, List.mem_of_getElem? h, h1, h2⟩
theorem inB_step {l : List Sp} {k : Nat} {x : Sp} {j : Int} (h : l[k]? = some x) (hk : inB (l.take k) j = false) (hx : ¬ (x.1 ≤ j ∧ j ≤ x.2)) : inB (l.take (k + 1)) j = false := by
  rw [take_succ' h, inB, List.any_append, Bool.or_eq_false_iff]
  exact ⟨hk, by simpa using hx⟩
theorem inB_all {l : List Sp} {k n : Nat} {j : Int} (hn : l.length = n) (hk : n ≤ k) (h : inB (l.take k) j = false) : inB l j = false := by
  rwa [List.take_of_length_le (by omega)] at h
def sameB (l m : List Sp) : Bool := decide (l = m)
theorem sameB_len {l m : List Sp} {n n' : Nat} (hn : l.length = n) (hm : m.length = n') (h : n ≠ n') : sameB l m = false := by
  rw [sameB, decide_eq_false_iff_not]; rintro rfl; omega
theorem sameB_no {l m : List Sp} {k : Nat} {x y : Sp} (hx : l[k]? = some x) (hy : m[k]? = some y) (h : ¬ (x.1 = y.1 ∧ x.2 = y.2)) : sameB l m = false := by
  rw [sameB, decide_eq_false_iff_not]
  rintro rfl
  rw [hx] at hy
  injection hy with hy
  exact h ⟨by rw [hy], by rw [hy]⟩
theorem same_step {l m : List Sp} {k : Nat} {x y : Sp} (hx : l[k]? = some x) (hy : m[k]? = some y) (h1 : x.1 = y.1) (h2 : x.2 = y.2) (hk : l.take k = m.take k) : l.take (k + 1) = m.take (k + 1) := by
  rw [take_succ' hx, take_succ' hy, hk, show x = y from Prod.ext h1 h2]
theorem sameB_all {l m : List Sp} {k n : Nat} (hn : l.length = n) (hm : m.length = n) (hk : n ≤ k) (h : l.take k = m.take k) : sameB l m = true := by
  rw [List.take_of_length_le (by omega), List.take_of_length_le (by omega)] at h
  rw [sameB, decide_eq_true_eq]; exact h

theorem all_any (A : Option Addr) (n c : Nat) (l : List Sp) (w : World) (hn : l.length = n) (hb : n ≤ maxLen) (hr : Rd w A l) :
    Calls Try.prog 41 #[.slice A n c] w fun e w' => e = .returned (.bool (okB l)) ∧ Below w.heap.size w w' := by
  unfold maxLen at hb
  have HR := Lib.hid hr; clear hr
  have HN := Lib.hid hn; clear hn
  go_enter Try.func41, Try.ntmps41
  go_wp2
  go_loopw [3] (fun i wr => ∃ k : Nat, k ≤ n ∧ i = .int .i64 k ∧ okB (l.take k) = true ∧ Below w.heap.size w wr) (fun i _ => n - (intOf i).toNat)
  case atStart => exact ⟨0, Nat.zero_le _, rfl, rfl, Below.refl _ _⟩
  case round =>
    obtain ⟨k, hk, rfl, hq, bel⟩ := hrel
    have HQ := Lib.hid hq; clear hq
    by_cases hlt : k < n
    · obtain ⟨x, hx, hm⟩ := getElem?_lt HN.out hlt
      have HX := Lib.hid hx; clear hx hm
      obtain ⟨b, o, rfl, c0, c1⟩ := (HR.out.below bel) k x HX.out
      by_cases hle : x.1 ≤ x.2
      · go_wp2
        go_quiet (fail)
        go_wp2
        go_roundw
        case rel => exact ⟨k + 1, by omega, by go_num, okB_step HX.out HQ.out hle, below_drewN bel _⟩
        case measure => simp [intOf]; omega
      · have hgt : x.2 < x.1 := by omega
        go_wp2
        go_quiet (fail)
        go_wp2
        go_ret
        exact ⟨ret_eq (congrArg Value.bool (okB_no HX.out hgt).symm), below_drewN bel _⟩
    · go_wp2
      go_ret
      exact ⟨ret_eq (congrArg Value.bool (okB_all HN.out (by omega) HQ.out).symm), bel⟩
theorem bad_any (A : Option Addr) (n c : Nat) (l : List Sp) (w : World) (hn : l.length = n) (hb : n ≤ maxLen) (hr : Rd w A l) :
    Calls Try.prog 32 #[.slice A n c] w fun e w' => e = .returned (.bool (!okB l || decide (60 < n))) ∧ Below w.heap.size w w' := by
  unfold maxLen at hb
  have HR := Lib.hid hr; clear hr
  have HN := Lib.hid hn; clear hn
  go_enter Try.func32, Try.ntmps32
  go_wp2
  go_loopw [3] (fun i wr => ∃ k : Nat, k ≤ n ∧ i = .int .i64 k ∧ okB (l.take k) = true ∧ Below w.heap.size w wr) (fun i _ => n - (intOf i).toNat)
  case atStart => exact ⟨0, Nat.zero_le _, rfl, rfl, Below.refl _ _⟩
  case round =>
    obtain ⟨k, hk, rfl, hq, bel⟩ := hrel
    have HQ := Lib.hid hq; clear hq
    by_cases hlt : k < n
    · obtain ⟨x, hx, hm⟩ := getElem?_lt HN.out hlt
      have HX := Lib.hid hx; clear hx hm
      obtain ⟨b, o, rfl, c0, c1⟩ := (HR.out.below bel) k x HX.out
      by_cases hle : x.1 ≤ x.2
      · go_wp2
        go_quiet (fail)
        go_wp2
        go_roundw
        case rel => exact ⟨k + 1, by omega, by go_num, okB_step HX.out HQ.out hle, below_drewN bel _⟩
        case measure => simp [intOf]; omega
      · have hgt : x.2 < x.1 := by omega
        go_wp2
        go_quiet (fail)
        go_wp2
        go_ret
        exact ⟨ret_eq (congrArg Value.bool (by rw [okB_no HX.out hgt]; rfl)), below_drewN bel _⟩
    · go_wp2
      go_ret
      exact ⟨ret_eq (congrArg Value.bool (by rw [okB_all HN.out (by omega) HQ.out]; simp; omega)), bel⟩
theorem in_any (A : Option Addr) (n c : Nat) (j : Int) (l : List Sp) (w : World) (hn : l.length = n) (hb : n ≤ maxLen) (hr : Rd w A l) :
    Calls Try.prog 33 #[.int .u64 j, .slice A n c] w fun e w' => e = .returned (.bool (inB l j)) ∧ Below w.heap.size w w' := by
  unfold maxLen at hb
  have HR := Lib.hid hr; clear hr
  have HN := Lib.hid hn; clear hn
  go_enter Try.func33, Try.ntmps33
  go_wp2
  go_loopw [5] (fun i wr => ∃ k : Nat, k ≤ n ∧ i = .int .i64 k ∧ inB (l.take k) j = false ∧ Below w.heap.size w wr) (fun i _ => n - (intOf i).toNat)
  case atStart => exact ⟨0, Nat.zero_le _, rfl, rfl, Below.refl _ _⟩
  case round =>
    obtain ⟨k, hk, rfl, hq, bel⟩ := hrel
    have HQ := Lib.hid hq; clear hq
    by_cases hlt : k < n
    · obtain ⟨x, hx, hm⟩ := getElem?_lt HN.out hlt
      have HX := Lib.hid hx; clear hx hm
      obtain ⟨b, o, rfl, c0, c1⟩ := (HR.out.below bel) k x HX.out
      by_cases h1 : x.1 ≤ j
      · by_cases h2 : j ≤ x.2
        · go_wp2
          go_ret
          exact ⟨ret_eq (congrArg Value.bool (inB_yes HX.out h1 h2).symm), bel⟩
        · have h2' : x.2 < j := by omega
          go_wp2
          go_roundw
          case rel => exact ⟨k + 1, by omega, by go_num, inB_step HX.out HQ.out (by omega), bel⟩
          case measure => simp [intOf]; omega
      · have h1' : j < x.1 := by omega
        go_wp2
        go_roundw
        case rel => exact ⟨k + 1, by omega, by go_num, inB_step HX.out HQ.out (by omega), bel⟩
        case measure => simp [intOf]; omega
    · go_wp2
      go_ret
      exact ⟨ret_eq (congrArg Value.bool (inB_all HN.out (by omega) HQ.out).symm), bel⟩
theorem same_any (A A' : Option Addr) (n n' c c' : Nat) (l m : List Sp) (w : World) (hn : l.length = n) (hm : m.length = n') (hb : n ≤ maxLen) (hb' : n' ≤ maxLen) (hr : Rd w A l) (hr' : Rd w A' m) :
    Calls Try.prog 34 #[.slice A n c, .slice A' n' c'] w fun e w' => e = .returned (.bool (sameB l m)) ∧ Below w.heap.size w w' := by
  unfold maxLen at hb hb'
  have HR := Lib.hid hr; clear hr
  have HR' := Lib.hid hr'; clear hr'
  have HN := Lib.hid hn; clear hn
  have HM := Lib.hid hm; clear hm
  by_cases hnn : n = n'
  · subst hnn
    go_enter Try.func34, Try.ntmps34
    go_wp2
    go_loopw [5] (fun i wr => ∃ k : Nat, k ≤ n ∧ i = .int .i64 k ∧ l.take k = m.take k ∧ Below w.heap.size w wr) (fun i _ => n - (intOf i).toNat)
    case atStart => exact ⟨0, Nat.zero_le _, rfl, rfl, Below.refl _ _⟩
    case round =>
      obtain ⟨k, hk, rfl, hq, bel⟩ := hrel
      have HQ := Lib.hid hq; clear hq
      by_cases hlt : k < n
      · obtain ⟨x, hx, hx'⟩ := getElem?_lt HN.out hlt
        obtain ⟨y, hy, hy'⟩ := getElem?_lt HM.out hlt
        have HX := Lib.hid hx; clear hx hx'
        have HY := Lib.hid hy; clear hy hy'
        obtain ⟨b, o, rfl, c0, c1⟩ := (HR.out.below bel) k x HX.out
        obtain ⟨b', o', rfl, d0, d1⟩ := (HR'.out.below bel) k y HY.out
        by_cases h1 : x.1 = y.1
        · by_cases h2 : x.2 = y.2
          · have q1 : (x.1 == y.1) = true := by rw [beq_iff_eq]; exact h1
            have q2 : (x.2 == y.2) = true := by rw [beq_iff_eq]; exact h2
            have G := Lib.hid (same_step HX.out HY.out h1 h2 HQ.out)
            rw [← h1] at d0
            rw [← h2] at d1
            clear h1 h2 q1 q2
            go_wp2
            go_quiet (fail)
            go_wp2
            go_roundw
            case rel => exact ⟨k + 1, by omega, by go_num, G.out, below_drewN bel _⟩
            case measure => simp [intOf]; omega
          · have q1 : (x.1 == y.1) = true := by rw [beq_iff_eq]; exact h1
            have q2 : (x.2 == y.2) = false := by rw [beq_eq_false_iff_ne]; exact h2
            have G := Lib.hid (sameB_no HX.out HY.out (by omega))
            clear h1 h2
            go_wp2
            go_quiet (fail)
            go_wp2
            go_ret
            exact ⟨ret_eq (congrArg Value.bool G.out.symm), below_drewN bel _⟩
        · have q1 : (x.1 == y.1) = false := by rw [beq_eq_false_iff_ne]; exact h1
          have G := Lib.hid (sameB_no HX.out HY.out (by omega))
          clear h1
          go_wp2
          go_quiet (fail)
          go_wp2
          go_ret
          exact ⟨ret_eq (congrArg Value.bool G.out.symm), below_drewN bel _⟩
      · have G := Lib.hid (sameB_all HN.out HM.out (by omega) HQ.out)
        go_wp2
        go_ret
        exact ⟨ret_eq (congrArg Value.bool G.out.symm), bel⟩
  · have q : ((n : Int) == (n' : Int)) = false := by rw [beq_eq_false_iff_ne]; omega
    have q' : ((n : Int) != (n' : Int)) = true := by rw [bne_iff_ne]; omega
    have G := Lib.hid (sameB_len HN.out HM.out hnn)
    go_enter Try.func34, Try.ntmps34
    go_wp2
    go_ret
    exact ⟨ret_eq (congrArg Value.bool G.out.symm), Below.refl _ _⟩
theorem sameR_any (A A' : Option Addr) (n n' c c' : Nat) (l m : List Sp) (w : World) (hn : l.length = n) (hm : m.length = n') (hb : n ≤ maxLen) (hb' : n' ≤ maxLen) (hr : Rd w A l) (hr' : Rd w A' m) :
    Calls Try.prog 29 #[.slice A n c, .slice A' n' c'] w fun e w' => e = .returned (.bool (sameB l m)) ∧ Below w.heap.size w w' := by
  unfold maxLen at hb hb'
  have HR := Lib.hid hr; clear hr
  have HR' := Lib.hid hr'; clear hr'
  have HN := Lib.hid hn; clear hn
  have HM := Lib.hid hm; clear hm
  by_cases hnn : n = n'
  · subst hnn
    go_enter Try.func29, Try.ntmps29
    go_wp2
    go_loopw [5] (fun i wr => ∃ k : Nat, k ≤ n ∧ i = .int .i64 k ∧ l.take k = m.take k ∧ Below w.heap.size w wr) (fun i _ => n - (intOf i).toNat)
    case atStart => exact ⟨0, Nat.zero_le _, rfl, rfl, Below.refl _ _⟩
    case round =>
      obtain ⟨k, hk, rfl, hq, bel⟩ := hrel
      have HQ := Lib.hid hq; clear hq
      by_cases hlt : k < n
      · obtain ⟨x, hx, hx'⟩ := getElem?_lt HN.out hlt
        obtain ⟨y, hy, hy'⟩ := getElem?_lt HM.out hlt
        have HX := Lib.hid hx; clear hx hx'
        have HY := Lib.hid hy; clear hy hy'
        obtain ⟨b, o, rfl, c0, c1⟩ := (HR.out.below bel) k x HX.out
        obtain ⟨b', o', rfl, d0, d1⟩ := (HR'.out.below bel) k y HY.out
        by_cases h1 : x.1 = y.1
        · by_cases h2 : x.2 = y.2
          · have q1 : (x.1 == y.1) = true := by rw [beq_iff_eq]; exact h1
            have q2 : (x.2 == y.2) = true := by rw [beq_iff_eq]; exact h2
            have G := Lib.hid (same_step HX.out HY.out h1 h2 HQ.out)
            rw [← h1] at d0
            rw [← h2] at d1
            clear h1 h2 q1 q2
            go_wp2
            go_quiet (fail)
            go_wp2
            go_roundw
            case rel => exact ⟨k + 1, by omega, by go_num, G.out, below_drewN bel _⟩
            case measure => simp [intOf]; omega
          · have q1 : (x.1 == y.1) = true := by rw [beq_iff_eq]; exact h1
            have q2 : (x.2 == y.2) = false := by rw [beq_eq_false_iff_ne]; exact h2
            have G := Lib.hid (sameB_no HX.out HY.out (by omega))
            clear h1 h2
            go_wp2
            go_quiet (fail)
            go_wp2
            go_ret
            exact ⟨ret_eq (congrArg Value.bool G.out.symm), below_drewN bel _⟩
        · have q1 : (x.1 == y.1) = false := by rw [beq_eq_false_iff_ne]; exact h1
          have G := Lib.hid (sameB_no HX.out HY.out (by omega))
          clear h1
          go_wp2
          go_quiet (fail)
          go_wp2
          go_ret
          exact ⟨ret_eq (congrArg Value.bool G.out.symm), below_drewN bel _⟩
      · have G := Lib.hid (sameB_all HN.out HM.out (by omega) HQ.out)
        go_wp2
        go_ret
        exact ⟨ret_eq (congrArg Value.bool G.out.symm), bel⟩
  · have q : ((n : Int) == (n' : Int)) = false := by rw [beq_eq_false_iff_ne]; omega
    have q' : ((n : Int) != (n' : Int)) = true := by rw [bne_iff_ne]; omega
    have G := Lib.hid (sameB_len HN.out HM.out hnn)
    go_enter Try.func29, Try.ntmps29
    go_wp2
    go_ret
    exact ⟨ret_eq (congrArg Value.bool G.out.symm), Below.refl _ _⟩
theorem checkAll_any (A : Option Addr) (n c : Nat) (l : List Sp) (w : World) (hn : l.length = n) (hb : n ≤ maxLen) (hr : Rd w A l) (hd : Bd l) :
    Calls Try.prog 35 #[.slice A n c] w fun e w' => e = .returned (.int .i64 (caE l)) ∧ Below w.heap.size w w' := by
  unfold maxLen at hb
  have HR := Lib.hid hr; clear hr
  have HD := Lib.hid hd; clear hd
  have HN := Lib.hid hn; clear hn
  go_enter Try.func35, Try.ntmps35
  go_wp2
  go_loopw [8] (fun i wr => ∃ k : Nat, k ≤ n ∧ i = .int .i64 k ∧ okB (l.take k) = true ∧ Below w.heap.size w wr) (fun i _ => n - (intOf i).toNat)
  case atStart => exact ⟨0, Nat.zero_le _, rfl, rfl, Below.refl _ _⟩
  case round =>
    obtain ⟨k, hk, rfl, hq, bel⟩ := hrel
    have HQ := Lib.hid hq; clear hq
    by_cases hlt : k < n
    · obtain ⟨x, hx, hm⟩ := getElem?_lt HN.out hlt
      have HX := Lib.hid hx; clear hx
      obtain ⟨d0, d1, d2, d3⟩ := HD.out x hm
      obtain ⟨b, o, rfl, c0, c1⟩ := (HR.out.below bel) k x HX.out
      by_cases hle : x.1 ≤ x.2
      · have HE := Lib.hid (show ckE x.1 x.2 = 0 by rw [ckE, if_pos hle])
        go_wp2_with (go_at_call 14; refine (check_any _ _ d0 d1 d2 d3 _).mono ?_; rw [HE.out]; rintro r w1 ⟨rfl, b1⟩)
        go_roundw
        case rel => exact ⟨k + 1, by omega, by go_num, okB_step HX.out HQ.out hle, bel_trans (bel_alloc bel _) b1⟩
        case measure => simp [intOf]; omega
      · have HE := Lib.hid (show ckE x.1 x.2 = 13 by rw [ckE, if_neg hle])
        go_wp2_with (go_at_call 14; refine (check_any _ _ d0 d1 d2 d3 _).mono ?_; rw [HE.out]; rintro r w1 ⟨rfl, b1⟩)
        go_ret
        exact ⟨ret_eq (congrArg (Value.int .i64) (show 13 = caE l by rw [caE, okB_no HX.out (by omega)]; rfl)), bel_trans (bel_alloc bel _) b1⟩
    · go_wp2
      go_ret
      exact ⟨ret_eq (congrArg (Value.int .i64) (show 0 = caE l by rw [caE, okB_all HN.out (by omega) HQ.out]; rfl)), bel⟩
end Sp
end Go.Proofs.Ytmnoljnjnmcgpaa
