/- leapfrogref12: Of, Pending, steps, last, place: contracts of the translated code. Conditions: those of each lemma. -/
import Derived.Test.YtgfhfcjjodcgdaaHiU
import Derived.BigQuiet
import Derived.Lib.QuietBelow
namespace Go.Proofs.Ytgfhfcjjodcgdaa
open Go.RowKit Go.Shelf Go.Sort
set_option linter.unusedVariables false
set_option linter.unusedSimpArgs false
namespace Hi
theorem ofT_snoc (t : Int) (l : List C) (x : C) : ofT t (l ++ [x]) = if x.t = t then ofT t l ++ [x] else ofT t l := by
  unfold ofT
  rw [List.filter_append]
  by_cases h : x.t = t
  · rw [if_pos h, List.filter_cons_of_pos (by simpa using h)]; simp
  · rw [if_neg h, List.filter_cons_of_neg (by simpa using h)]; simp
theorem ofT_len (t : Int) (l : List C) : (ofT t l).length ≤ l.length := List.length_filter_le _ _
theorem at_cell {w : World} {b o : Nat} {x : C} (h : KC.At w b o x) {j : Nat} {u : Value} (hj : (KC.enc x)[j]? = some u) : w.cell? ⟨b, o + j, none⟩ = some u := h j u hj
set_option maxRecDepth 100000 in
set_option maxHeartbeats 1000000 in
theorem rof_any (t : Int) (A : Option Addr) (n c : Nat) (l : List C) (w : World) (hl : l.length = n) (hx : n ≤ 1000) (hr : KC.Rd w A l) :
    Calls Try.prog 14 #[.int .i64 t, .slice A n c] w (RoPost KC (ofT t l) w) := by
  have HL := Lib.hid hl
  have HR := Lib.hid hr
  clear hl hr
  go_enter Try.func14, Try.ntmps14
  go_wp2_with fail
  go_loopw [5, 6] (fun q i wr => ∃ (k : Nat), k ≤ n ∧ i = .int .i64 k ∧ wr.ownsRow w.heap.size KC.E KC.sz q (ofT t (l.take k)).length (KC.flat (ofT t (l.take k))) ∧ Below w.heap.size w wr) (fun q i _ => n - (intOf i).toNat)
  case atStart => exact ⟨0, Nat.zero_le _, rfl, KC.nil _ _, Below.refl _ _⟩
  case round =>
    obtain ⟨j, hj, rfl, ow, bel⟩ := hrel
    obtain ⟨wq, rfl⟩ : ∃ wq : World, wq = wr := ⟨_, rfl⟩
    by_cases hlt : j < n
    · have hjl : j < l.length := by have := HL.out; omega
      have d0 : decide ((j : Int) < n) = true := decide_eq_true (by omega)
      have j1 : (j : Int) < n := by omega
      obtain ⟨b, o, rfl, at0⟩ := KC.at_ (HR.out.below bel) hjl
      have HN := Lib.hid (show ofT t (l.take (j + 1)) = _ by rw [take_get (d := c0) hjl, ofT_snoc])
      have hlen := ofT_len t (l.take j)
      rw [List.length_take] at hlen
      obtain ⟨x, hx0⟩ : ∃ x, l.getD j c0 = x := ⟨_, rfl⟩
      rw [hx0] at at0 HN
      obtain ⟨L, hL⟩ : ∃ L, ofT t (l.take j) = L := ⟨_, rfl⟩
      rw [hL] at ow HN hlen
      have OW := Lib.hid ow
      have AT := Lib.hid at0
      have ct : wq.cell? ⟨b, o + j * 18, none⟩ = some (.int .i64 x.t) := at0 0 _ rfl
      clear hL ow at0 hx0
      by_cases hv : x.t = t
      · have d2 : (x.t == t) = true := by simpa using hv
        rw [if_pos hv] at HN
        clear hv
        go_wp2_with (first | (refine ld rfl (.tmp 23) rfl b (o + j * 18) rfl x AT.out ?_) | (at_builtin; refine KC.app rfl (.tmp 20) (.tmp 25) rfl wq w.heap.size _ L x #[.int .i64 x.t, .int .i64 x.i, .int .u8 x.k, .int .u64 x.p0, .int .u64 x.p1, .int .u64 x.p2, .int .u64 x.p3, .int .u64 x.p4, .int .u64 x.p5, .int .i64 x.v, .int .i64 x.u, .int .i64 x.a, .int .i64 x.s, .int .i64 x.re, .bool x.rf, .int .u64 x.rk, .int .u64 x.rv, .int .i64 x.rc] rfl rfl rfl OW.out (by omega) bel.size ?_; intro v4 w4 h1 b4 _))
        go_roundw
        case rel => exact ⟨j + 1, by omega, by go_num, by rw [HN.out]; exact h1, bel.trans b4⟩
        case measure => simp [intOf]; omega
      · have d2 : (x.t == t) = false := by simpa using hv
        rw [if_neg hv] at HN
        clear hv
        go_wp2_with fail
        go_roundw
        case rel => exact ⟨j + 1, by omega, by go_num, by rw [HN.out]; exact OW.out, bel⟩
        case measure => simp [intOf]; omega
    · obtain rfl : j = n := by omega
      have d0 : decide ((j : Int) < j) = false := by simp
      have HT := Lib.hid (show l.take j = l from List.take_of_length_le (by rw [HL.out]; omega))
      rw [HT.out] at ow
      have OW := Lib.hid ow
      clear ow
      go_wp2
      go_ret
      exact ⟨_, rfl, OW.out, bel⟩
set_option maxRecDepth 100000 in
set_option maxHeartbeats 1000000 in
theorem rpending_any (A : Option Addr) (n c : Nat) (l : List C) (w : World) (hl : l.length = n) (hx : n ≤ 1000) (hr : KC.Rd w A l) :
    Calls Try.prog 16 #[.slice A n c] w (RoPost KI (peL l) w) := by
  have HL := Lib.hid hl
  have HR := Lib.hid hr
  have HPE := Lib.hid (show peL l = idx (fun c => !ansB c) l n by unfold peL; rw [hl])
  clear hl hr
  go_enter Try.func16, Try.ntmps16
  go_wp2_with fail
  go_loopw [3, 4] (fun q i wr => ∃ (k : Nat), k ≤ n ∧ i = .int .i64 k ∧ wr.ownsRow w.heap.size KI.E KI.sz q (idx (fun c => !ansB c) l k).length (KI.flat (idx (fun c => !ansB c) l k)) ∧ Below w.heap.size w wr) (fun q i _ => n - (intOf i).toNat)
  case atStart => exact ⟨0, Nat.zero_le _, rfl, KI.nil _ _, Below.refl _ _⟩
  case round =>
    obtain ⟨j, hj, rfl, ow, bel⟩ := hrel
    obtain ⟨wq, rfl⟩ : ∃ wq : World, wq = wr := ⟨_, rfl⟩
    by_cases hlt : j < n
    · have hjl : j < l.length := by have := HL.out; omega
      have d0 : decide ((j : Int) < n) = true := decide_eq_true (by omega)
      have j1 : (j : Int) < n := by omega
      obtain ⟨b, o, rfl, at0⟩ := KC.at_ (HR.out.below bel) hjl
      have HN := Lib.hid (idx_succ (fun c => !ansB c) l j)
      have hlen := idx_len (fun c => !ansB c) l j
      obtain ⟨x, hx0⟩ : ∃ x, l.getD j c0 = x := ⟨_, rfl⟩
      rw [hx0] at at0 HN
      obtain ⟨L, hL⟩ : ∃ L, idx (fun c => !ansB c) l j = L := ⟨_, rfl⟩
      rw [hL] at ow HN hlen
      have OW := Lib.hid ow
      have ct : wq.cell? ⟨b, o + j * 18 + 11, none⟩ = some (.int .i64 x.a) := at0 11 _ rfl
      clear hL ow at0 hx0
      by_cases hv : x.a < 0
      · have d2 : decide (x.a < 0) = true := decide_eq_true hv
        rw [if_pos (by unfold ansB; simp; omega)] at HN
        clear hv
        go_wp2_with (at_builtin; refine KI.app rfl (.tmp 17) (.tmp 19) rfl wq w.heap.size _ L (j : Int) #[.int .i64 (j : Int)] rfl rfl rfl OW.out (by omega) bel.size ?_; intro v4 w4 h1 b4 _)
        go_roundw
        case rel => exact ⟨j + 1, by omega, by go_num, by rw [HN.out]; exact h1, bel.trans b4⟩
        case measure => simp [intOf]; omega
      · have d2 : decide (x.a < 0) = false := decide_eq_false hv
        rw [if_neg (by unfold ansB; simp; omega)] at HN
        clear hv
        go_wp2_with fail
        go_roundw
        case rel => exact ⟨j + 1, by omega, by go_num, by rw [HN.out]; exact OW.out, bel⟩
        case measure => simp [intOf]; omega
    · obtain rfl : j = n := by omega
      have d0 : decide ((j : Int) < j) = false := by simp
      rw [← HPE.out] at ow
      have OW := Lib.hid ow
      clear ow
      go_wp2
      go_ret
      exact ⟨_, rfl, OW.out, bel⟩
end Hi
end Go.Proofs.Ytgfhfcjjodcgdaa
