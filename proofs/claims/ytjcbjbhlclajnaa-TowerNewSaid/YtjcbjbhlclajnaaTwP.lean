/- Pairs in ascending order: the comparison of Pairs, the library's insertion sort and CompactFunc on what is sorted already: contracts of the translated code. Conditions: those of each contract. -/
import Derived.Test.YtjcbjbhlclajnaaTwB
import Derived.Test.YtjcbjbhlclajnaaLyN
import Derived.Test.YtjcbjbhlclajnaaLyD
namespace Go.Proofs.Ytjcbjbhlclajnaa
open Go.RowKit Go.Sort
set_option linter.unusedVariables false
set_option linter.unusedSimpArgs false
set_option maxRecDepth 100000
namespace Tw
open Wd
open Ly (Kd I64)
open Dm (addr_lit info_parts spot_none RdK flatU infoU bel_alloc bel_trans own_keep below_drewN)
abbrev Pq := Int × Int
def KQ : Kd Pq where
  E := 38
  S := 51
  sz := 2
  bt := 16
  enc := fun x => [.int .u64 x.1, .int .u64 x.2]
  len := fun _ => rfl
  pos := by decide
  bpos := by decide
  one := fun x u hu => by simp at hu; rcases hu with rfl | rfl <;> rfl
  und := Try.underlying51
  info := Ly.info_parts (z := .agg #[.int .u64 0, .int .u64 0]) (by kernel_rfl) rfl
/-- ascending keys -/
def As (l : List Pq) : Prop := l.Pairwise fun x y => x.1 < y.1
theorem As.lt {l : List Pq} (h : As l) {i j : Nat} {x y : Pq} (hij : i < j) (hx : l[i]? = some x) (hy : l[j]? = some y) : x.1 < y.1 := by
  obtain ⟨hi, rfl⟩ := List.getElem?_eq_some_iff.1 hx
  obtain ⟨hj, rfl⟩ := List.getElem?_eq_some_iff.1 hy
  exact List.pairwise_iff_getElem.1 h i j hi hj hij
theorem kq_at {w : World} {b o : Nat} {l : List Pq} (h : KQ.Rd w (some ⟨b, o, none⟩) l) {i : Nat} {x : Pq} (hx : l[i]? = some x) : w.cell? ⟨b, o + i * 2, none⟩ = some (.int .u64 x.1) ∧ w.cell? ⟨b, o + i * 2 + 1, none⟩ = some (.int .u64 x.2) := by
  obtain ⟨b', o', e, hat⟩ := h i x hx
  injection e with e
  injection e with e1 e2
  subst e1 e2
  exact ⟨hat 0 _ rfl, hat 1 _ rfl⟩
def cmpV (a b : Int) : Int := if a < b then -1 else if b < a then 1 else 0
theorem nan_any (a : Int) (w : World) : Calls Try.prog 83 #[.int .u64 a] w fun e w' => e = .returned (.bool false) ∧ w' = w := by
  have h : (a != a) = false := by simp
  go_enter Try.func83, Try.ntmps83
  go_wp2
  go_ret
  exact ⟨by first | rfl | rw [h], rfl⟩
theorem compare_any (a b : Int) (w : World) : Calls Try.prog 48 #[.int .u64 a, .int .u64 b] w fun e w' => e = .returned (.int .i64 (cmpV a b)) ∧ w' = w := by
  have C := fun x W => Lib.hid (nan_any x W)
  unfold cmpV
  by_cases h1 : a < b
  · rw [if_pos h1]
    have d1 : decide (a < b) = true := decide_eq_true h1
    clear h1
    go_enter Try.func48, Try.ntmps48
    go_wp2_with (go_at_call 83; refine (C _ _).out.mono ?_; rintro r1 W2 ⟨rfl, e⟩; obtain rfl := e.symm)
    go_ret
    exact ⟨rfl, rfl⟩
  · rw [if_neg h1]
    have d1 : decide (a < b) = false := decide_eq_false h1
    by_cases h2 : b < a
    · rw [if_pos h2]
      have d2 : decide (b < a) = true := decide_eq_true h2
      have d3 : decide (a > b) = true := decide_eq_true h2
      clear h1 h2
      go_enter Try.func48, Try.ntmps48
      go_wp2_with (go_at_call 83; refine (C _ _).out.mono ?_; rintro r1 W2 ⟨rfl, e⟩; obtain rfl := e.symm)
      go_ret
      exact ⟨rfl, rfl⟩
    · rw [if_neg h2]
      have d2 : decide (b < a) = false := decide_eq_false h2
      have d3 : decide (a > b) = false := decide_eq_false h2
      clear h1 h2
      go_enter Try.func48, Try.ntmps48
      go_wp2_with (go_at_call 83; refine (C _ _).out.mono ?_; rintro r1 W2 ⟨rfl, e⟩; obtain rfl := e.symm)
      go_ret
      exact ⟨rfl, rfl⟩
theorem cmp_any (a v b u : Int) (w : World) : Calls Try.prog 47 #[.agg #[.int .u64 a, .int .u64 v], .agg #[.int .u64 b, .int .u64 u]] w fun e w' => e = .returned (.int .i64 (cmpV a b)) ∧ Below w.heap.size w w' := by
  have C := fun W => Lib.hid (compare_any a b W)
  generalize cmpV a b = r at *
  go_enter Try.func47, Try.ntmps47
  go_wp2_with fail
  refine (C _).out.mono ?_
  rintro r1 W2 ⟨rfl, e⟩
  obtain rfl := e.symm
  go_wp2
  go_ret
  exact ⟨rfl, bel_alloc (bel_alloc (Below.refl _ _) _) _⟩
theorem eq_any (a v b u : Int) (w : World) : Calls Try.prog 50 #[.agg #[.int .u64 a, .int .u64 v], .agg #[.int .u64 b, .int .u64 u]] w fun e w' => e = .returned (.bool (decide (a = b))) ∧ Below w.heap.size w w' := by
  go_enter Try.func50, Try.ntmps50
  go_wp2
  go_ret
  exact ⟨rfl, bel_alloc (bel_alloc (Below.refl _ _) _) _⟩
/-- the comparison, as the library is handed it -/
def fC : Value := .func (.func 47) #[] #[]
def fE : Value := .func (.func 50) #[] #[]
set_option maxHeartbeats 4000000 in
/-- the insertion sort, of what is ascending -/
theorem insert_any {w : World} {A : Option Addr} {n c : Nat} {l : List Pq} (hr : KQ.Rd w A l) (hl : l.length = n) (hn : n ≤ 100000) (hs : As l) (a b : Nat) (hb : b ≤ n) (ha : a ≤ 100000) : Calls Try.prog 101 #[.slice A n c, .int .i64 (a : Int), .int .i64 (b : Int), fC] w fun e w' => e = .returned (.tuple #[]) ∧ Below w.heap.size w w' := by
  have HR := Lib.hid hr
  have HL := Lib.hid hl
  have HS := Lib.hid hs
  have CC := fun a v b u W => Lib.hid (cmp_any a v b u W)
  have w0 : IntKind.i64.wrap ((a : Int) + 1) = ((a + 1 : Nat) : Int) := by rw [IntWalk.i64_in _ (by omega)]; omega
  obtain ⟨a1, ha1⟩ : ∃ a1, a1 = a + 1 := ⟨_, rfl⟩
  rw [← ha1] at w0
  have HA1 := Lib.hid ha1
  clear hr hl hs ha1
  unfold fC
  go_enter Try.func101, Try.ntmps101
  go_wp2_with fail
  go_loopw [8] (fun vi wr => ∃ i : Nat, vi = .int .i64 (i : Int) ∧ a1 ≤ i ∧ Below w.heap.size w wr) (fun vi _ => ((b : Int) - intOf vi).toNat)
  case atStart => exact ⟨a1, rfl, Nat.le_refl _, Below.refl _ _⟩
  case round =>
    obtain ⟨i, rfl, hi, hbel⟩ := hrel
    have ha1 := HA1.out
    by_cases hlt : i < b
    · have e0 : decide ((i : Int) < (b : Int)) = true := decide_eq_true (by omega)
      have e0' : decide (i < b) = true := decide_eq_true hlt
      obtain ⟨k, hk⟩ : ∃ k, i = k + 1 := ⟨i - 1, by omega⟩
      have hw1 : IntKind.i64.wrap ((i : Int) + 1) = ((i + 1 : Nat) : Int) := by rw [IntWalk.i64_in _ (by omega)]; omega
      obtain ⟨i', hi'⟩ : ∃ i', i' = i + 1 := ⟨_, rfl⟩
      rw [← hi'] at hw1
      have hw2 : IntKind.i64.wrap ((i : Int) - 1) = (k : Int) := by rw [IntWalk.i64_in _ (by omega)]; omega
      have e1 : decide ((i : Int) > (a : Int)) = true := decide_eq_true (by omega)
      have e1' : decide ((a : Int) < (i : Int)) = true := decide_eq_true (by omega)
      have e1'' : decide (a < i) = true := decide_eq_true (by omega)
      obtain ⟨x, hx⟩ : ∃ x, l[i]? = some x := ⟨_, List.getElem?_eq_getElem (by rw [HL.out]; omega)⟩
      obtain ⟨y, hy⟩ : ∃ y, l[k]? = some y := ⟨_, List.getElem?_eq_getElem (by rw [HL.out]; omega)⟩
      have hxy := HS.out.lt (by omega) hy hx
      obtain ⟨g, o, rfl, _⟩ := HR.out i x hx
      have hrd := HR.out.below hbel
      obtain ⟨q0, q1⟩ := kq_at hrd hx
      obtain ⟨q2, q3⟩ := kq_at hrd hy
      have hcv : cmpV x.1 y.1 = 1 := by unfold cmpV; rw [if_neg (by omega), if_pos hxy]
      have CQ := cmp_any x.1 x.2 y.1 y.2 wr.drew
      rw [hcv] at CQ
      replace CQ := Lib.hid CQ
      have il : (i : Int) < n := by omega
      have kl : (k : Int) < n := by omega
      have gl : g < wr.heap.size := World.block_lt_of_cell? wr _ q0
      have HBE := Lib.hid hbel
      have HI := Lib.hid hi'
      have HAI := Lib.hid hi
      obtain ⟨x0, x1⟩ := x
      obtain ⟨y0, y1⟩ := y
      dsimp only at q0 q1 q2 q3 CQ
      clear hx hy hxy hrd hcv hbel hi' hk hi ha1
      go_wp2_with fail
      go_loopw [9] (fun vj wr2 => vj = .int .i64 (i : Int) ∧ wr2 = wr) (fun _ _ => 0)
      case atStart => exact ⟨rfl, by first | rfl | trivial⟩
      case round =>
        obtain ⟨rfl, rfl⟩ := hrel
        go_wp2_with fail
        go_region_held3 (fun w' => w'.cell? ⟨g, o + i * 2, none⟩ = some (.int .u64 x0) ∧ w'.cell? ⟨g, o + i * 2 + 1, none⟩ = some (.int .u64 x1) ∧ w'.cell? ⟨g, o + k * 2, none⟩ = some (.int .u64 y0) ∧ w'.cell? ⟨g, o + k * 2 + 1, none⟩ = some (.int .u64 y1)) (first | exact ⟨q0, q1, q2, q3⟩ | with_reducible exact mm) (first | (go_at_call 47; refine CQ.out.mono ?_; rintro r1 W3 ⟨rfl, hb3⟩; have mm := And.intro ((hb3.cell (p := ⟨g, o + i * 2, none⟩) gl).trans q0) (And.intro ((hb3.cell (p := ⟨g, o + i * 2 + 1, none⟩) gl).trans q1) (And.intro ((hb3.cell (p := ⟨g, o + k * 2, none⟩) gl).trans q2) ((hb3.cell (p := ⟨g, o + k * 2 + 1, none⟩) gl).trans q3)))))
        all_goals
          have HB3 := Lib.hid (HBE.out.trans ((show Below wr.heap.size wr W3 from ⟨hb3.os, hb3.tape, hb3.output, hb3.size, hb3.block⟩).mono HBE.out.size))
          clear hb3 mm
          go_wp2
          go_roundw
          case rel =>
            exact ⟨i', rfl, by have := HI.out; have := HAI.out; omega, HB3.out⟩
          case measure => have := HI.out; simp [intOf]; omega
    · have e0 : decide ((i : Int) < (b : Int)) = false := decide_eq_false (by omega)
      have e0' : decide (i < b) = false := decide_eq_false hlt
      have HBE := Lib.hid hbel
      clear hbel hi ha1
      go_wp2
      go_end0
      exact ⟨rfl, HBE.out⟩
set_option maxHeartbeats 4000000 in
/-- CompactFunc, of what is ascending -/
theorem compact_any {w : World} {A : Option Addr} {n c : Nat} {l : List Pq} (hr : KQ.Rd w A l) (hl : l.length = n) (hn : n ≤ 100000) (hs : As l) : Calls Try.prog 49 #[.slice A n c, fE] w fun e w' => e = .returned (.slice A n c) ∧ Below w.heap.size w w' := by
  have HR := Lib.hid hr
  have HL := Lib.hid hl
  have HS := Lib.hid hs
  clear hr hl hs
  unfold fE
  by_cases h2 : n < 2
  · have d0 : decide ((n : Int) < 2) = true := decide_eq_true (by omega)
    have d1 : decide (n < 2) = true := decide_eq_true h2
    clear h2
    go_enter Try.func49, Try.ntmps49
    go_wp2
    go_ret
    exact ⟨rfl, Below.refl _ _⟩
  have d0 : decide ((n : Int) < 2) = false := decide_eq_false (by omega)
  have d1 : decide (n < 2) = false := decide_eq_false h2
  clear h2
  go_enter Try.func49, Try.ntmps49
  go_wp2_with fail
  go_loopw [5] (fun vi wr => ∃ i : Nat, vi = .int .i64 (i : Int) ∧ 1 ≤ i ∧ i ≤ n + 1 ∧ Below w.heap.size w wr) (fun vi _ => ((n : Int) - intOf vi).toNat)
  case atStart => exact ⟨1, rfl, Nat.le_refl _, by omega, Below.refl _ _⟩
  case round =>
    obtain ⟨i, rfl, hi, hin, hbel⟩ := hrel
    by_cases hlt : i < n
    · have e0 : decide ((i : Int) < (n : Int)) = true := decide_eq_true (by omega)
      have e0' : decide (i < n) = true := decide_eq_true hlt
      obtain ⟨k, hk⟩ : ∃ k, i = k + 1 := ⟨i - 1, by omega⟩
      have hw1 : IntKind.i64.wrap ((i : Int) + 1) = ((i + 1 : Nat) : Int) := by rw [IntWalk.i64_in _ (by omega)]; omega
      obtain ⟨i', hi'⟩ : ∃ i', i' = i + 1 := ⟨_, rfl⟩
      rw [← hi'] at hw1
      have hw2 : IntKind.i64.wrap ((i : Int) - 1) = (k : Int) := by rw [IntWalk.i64_in _ (by omega)]; omega
      obtain ⟨x, hx⟩ : ∃ x, l[i]? = some x := ⟨_, List.getElem?_eq_getElem (by rw [HL.out]; omega)⟩
      obtain ⟨y, hy⟩ : ∃ y, l[k]? = some y := ⟨_, List.getElem?_eq_getElem (by rw [HL.out]; omega)⟩
      have hxy := HS.out.lt (by omega) hy hx
      obtain ⟨g, o, rfl, _⟩ := HR.out i x hx
      have hrd := HR.out.below hbel
      obtain ⟨q0, q1⟩ := kq_at hrd hx
      obtain ⟨q2, q3⟩ := kq_at hrd hy
      have CQ := eq_any x.1 x.2 y.1 y.2 wr.drew
      rw [decide_eq_false (show ¬ x.1 = y.1 by omega)] at CQ
      replace CQ := Lib.hid CQ
      have il : (i : Int) < n := by omega
      have kl : (k : Int) < n := by omega
      have gl : g < wr.heap.size := World.block_lt_of_cell? wr _ q0
      have HBE := Lib.hid hbel
      have HI := Lib.hid hi'
      have HAI := Lib.hid hi
      have HIN := Lib.hid hlt
      obtain ⟨x0, x1⟩ := x
      obtain ⟨y0, y1⟩ := y
      dsimp only at q0 q1 q2 q3 CQ
      clear hx hy hxy hrd hbel hi' hk hi hin
      go_wp2_with fail
      go_region_held3 (fun w' => w'.cell? ⟨g, o + i * 2, none⟩ = some (.int .u64 x0) ∧ w'.cell? ⟨g, o + i * 2 + 1, none⟩ = some (.int .u64 x1) ∧ w'.cell? ⟨g, o + k * 2, none⟩ = some (.int .u64 y0) ∧ w'.cell? ⟨g, o + k * 2 + 1, none⟩ = some (.int .u64 y1)) (first | exact ⟨q0, q1, q2, q3⟩ | with_reducible exact mm) (first | (go_at_call 50; refine CQ.out.mono ?_; rintro r1 W3 ⟨rfl, hb3⟩; have mm := And.intro ((hb3.cell (p := ⟨g, o + i * 2, none⟩) gl).trans q0) (And.intro ((hb3.cell (p := ⟨g, o + i * 2 + 1, none⟩) gl).trans q1) (And.intro ((hb3.cell (p := ⟨g, o + k * 2, none⟩) gl).trans q2) ((hb3.cell (p := ⟨g, o + k * 2 + 1, none⟩) gl).trans q3)))))
      all_goals
        have HB3 := Lib.hid (HBE.out.trans ((show Below wr.heap.size wr W3 from ⟨hb3.os, hb3.tape, hb3.output, hb3.size, hb3.block⟩).mono HBE.out.size))
        clear hb3 mm
        go_wp2
        go_roundw
        case rel => exact ⟨i', rfl, by have := HI.out; have := HAI.out; omega, by have := HI.out; have := HIN.out; omega, HB3.out⟩
        case measure => have := HI.out; have := HIN.out; simp [intOf]; omega
    · have e0 : decide ((i : Int) < (n : Int)) = false := decide_eq_false (by omega)
      have e0' : decide (i < n) = false := decide_eq_false hlt
      have HBE := Lib.hid hbel
      clear hbel hi hin
      go_wp2
      go_ret
      exact ⟨rfl, HBE.out⟩
set_option maxHeartbeats 4000000 in
/-- the stable sort, of less than 20 that are ascending -/
theorem stable_few {w : World} {A : Option Addr} {n c : Nat} {l : List Pq} (hr : KQ.Rd w A l) (hl : l.length = n) (hn : n < 20) (hs : As l) : Calls Try.prog 82 #[.slice A n c, .int .i64 (n : Int), fC] w fun e w' => e = .returned (.tuple #[]) ∧ Below w.heap.size w w' := by
  have CI := Lib.hid (insert_any (c := c) hr hl (by omega) hs 0 n (Nat.le_refl _) (by omega))
  have d0 : decide ((20 : Int) ≤ (n : Int)) = false := decide_eq_false (by omega)
  have d1 : decide (20 ≤ n) = false := decide_eq_false (by omega)
  have d2 : decide ((20 : Int) < (n : Int)) = false := decide_eq_false (by omega)
  have d3 : decide (20 < n) = false := decide_eq_false (by omega)
  clear hr hl hs
  unfold fC at *
  go_enter Try.func82, Try.ntmps82
  go_wp2_with fail
  go_loopw [7, 8] (fun va vb wr => va = .int .i64 0 ∧ vb = .int .i64 20 ∧ wr = w) (fun _ _ _ => 0)
  case atStart => exact ⟨rfl, rfl, by first | rfl | trivial⟩
  case round =>
    obtain ⟨rfl, rfl, e⟩ := hrel
    subst e
    go_wp2_with fail
    refine CI.out.mono ?_
    rintro r1 W2 ⟨rfl, hb2⟩
    have HB2 := Lib.hid hb2
    clear hb2 CI
    go_wp2_with fail
    go_loopw [6, 7, 8, 9] (fun v6 v7 v8 v9 wr => v6 = .int .i64 20 ∧ wr = W2) (fun _ _ _ _ _ => 0)
    case atStart => exact ⟨rfl, by first | rfl | trivial⟩
    case round =>
      obtain ⟨rfl, e⟩ := hrel
      subst e
      go_wp2
      go_end0
      exact ⟨rfl, HB2.out⟩
end Tw
end Go.Proofs.Ytjcbjbhlclajnaa
