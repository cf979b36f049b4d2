/- The walk of the law DrawCounts, from the contracts of XDrwT. Conditions: those of the contracts. -/
import Derived.Test.YtfogcapgadfbfaaDoorWkDr1
import Derived.Test.YtfogcapgadfbfaaDoorHelp
import Derived.IntWalk
namespace Go.Proofs.YtfogcapgadfbfaaDoor
open Go.RowKit Go.Sort
set_option linter.unusedVariables false
set_option linter.unusedSimpArgs false
namespace Dr
open Dm
/-- the six numbers of a tally, and its error -/
def tq (l : List Int) (k : Nat) : Int := if okT l l.length = true then (cn l ((k + 1 : Nat) : Int) l.length : Nat) else 0
def tE (l : List Int) : Int := if okT l l.length = true then 0 else 3
theorem tlV_eq (l : List Int) : tlV l = .tuple #[.agg #[.int .i64 (tq l 0), .int .i64 (tq l 1), .int .i64 (tq l 2), .int .i64 (tq l 3), .int .i64 (tq l 4), .int .i64 (tq l 5)], .int .i64 (tE l)] := by
  unfold tlV tq tE
  by_cases h : okT l l.length = true
  · simp only [if_pos h]; rfl
  · simp only [if_neg h]
theorem ar_tq (w : World) (t : TypeId) (l : List Int) : Ar (w.alloc (.cells #[.int .i64 (tq l 0), .int .i64 (tq l 1), .int .i64 (tq l 2), .int .i64 (tq l 3), .int .i64 (tq l 4), .int .i64 (tq l 5)] t)) w.heap.size (tq l) := ar_new w t _ _ _ _ _ _ _ rfl rfl rfl rfl rfl rfl
theorem tE_ok {l : List Int} (h : tE l = 0) : okT l l.length = true := by
  unfold tE at h
  by_cases h' : okT l l.length = true
  · exact h'
  · rw [if_neg h'] at h; omega
theorem tE_app {a b : List Int} (ha : tE a = 0) (hb : tE b = 0) : tE (b ++ a) = 0 := by
  have h : okT (b ++ a) (b ++ a).length = true := by rw [List.length_append, okT_app, tE_ok ha, tE_ok hb]; rfl
  unfold tE; rw [if_pos h]
theorem tq_app {a b : List Int} (ha : tE a = 0) (hb : tE b = 0) (k : Nat) : tq (b ++ a) k = tq a k + tq b k := by
  have h : okT (b ++ a) (b ++ a).length = true := tE_ok (tE_app ha hb)
  unfold tq
  rw [if_pos h, if_pos (tE_ok ha), if_pos (tE_ok hb), List.length_append, cn_app]
  omega
theorem tq_bd (l : List Int) (k : Nat) : 0 ≤ tq l k ∧ tq l k ≤ l.length := by
  unfold tq
  have := cn_le l ((k + 1 : Nat) : Int) l.length
  split <;> omega
/-- the sum of the first n numbers of a tally -/
def tS (l : List Int) : Nat → Int
  | 0 => 0
  | n + 1 => tS l n + tq l n
theorem tS_all {l : List Int} (h : tE l = 0) : tS l 6 = l.length := by
  have h' := tE_ok h
  have := cn_sum l l.length h'
  simp only [tS, tq, if_pos h']
  rw [show ((0 + 1 : Nat) : Int) = 1 from rfl, show ((1 + 1 : Nat) : Int) = 2 from rfl, show ((2 + 1 : Nat) : Int) = 3 from rfl, show ((3 + 1 : Nat) : Int) = 4 from rfl, show ((4 + 1 : Nat) : Int) = 5 from rfl, show ((5 + 1 : Nat) : Int) = 6 from rfl]
  omega
theorem tS_bd (l : List Int) : ∀ n, 0 ≤ tS l n ∧ tS l n ≤ n * l.length
  | 0 => by simp [tS]
  | n + 1 => by
    obtain ⟨h1, h2⟩ := tS_bd l n
    obtain ⟨h3, h4⟩ := tq_bd l n
    have e : ((n + 1 : Nat) : Int) * l.length = n * l.length + l.length := by rw [Int.natCast_add, Int.add_mul]; omega
    rw [e, tS]
    generalize (n : Int) * l.length = x at *
    omega
theorem bd_app {a b : List Int} (ha : BdI a) (hb : BdI b) : BdI (b ++ a) := fun k hk => by
  by_cases h : k < b.length
  · rw [getD_left _ _ _ h]; exact hb k h
  · obtain ⟨t, rfl⟩ : ∃ t, k = b.length + t := ⟨k - b.length, by omega⟩
    rw [getD_right]
    rw [List.length_append] at hk
    exact ha t (by omega)
end Dr
namespace Wk
open Dm Dr
set_option maxRecDepth 100000 in
set_option maxHeartbeats 4000000 in
theorem walk_drawCounts (a0 : Option Addr) (a0n a0c : Nat) (a0v : List Int) (a1 : Option Addr) (a1n a1c : Nat) (a1v : List Int) (w : World) (a0e : a0v.length = a0n) (a0m : a0n ≤ maxLen) (a0r : Dm.RdK .i64 w a0 a0v) (a0b : Dm.BdI a0v) (a0z : a0 = none → a0c = 0) (a1e : a1v.length = a1n) (a1m : a1n ≤ maxLen) (a1r : Dm.RdK .i64 w a1 a1v) (a1b : Dm.BdI a1v) (a1z : a1 = none → a1c = 0) (hT : Dm.Tz w) :
    Calls Tryd.prog 9 #[.slice a0 a0n a0c, .slice a1 a1n a1c] w fun e w' => e = .returned (.bool true) ∧ Below w.heap.size w w' := by
  have HT := Lib.hid hT; clear hT
  have HR0 := Lib.hid a0r; clear a0r
  have HR1 := Lib.hid a1r; clear a1r
  have HZ0 := Lib.hid a0z; clear a0z
  have HZ1 := Lib.hid a1z; clear a1z
  have C0 := fun W h => Lib.hid (tally_any a0 a0n a0c a0v W a0e a0m h a0b)
  have C1 := fun W h => Lib.hid (tally_any a1 a1n a1c a1v W a1e a1m h a1b)
  rw [tlV_eq] at C0 C1
  have HE0 := Lib.hid a0e; clear a0e
  have HE1 := Lib.hid a1e; clear a1e
  have HB0 := Lib.hid a0b; clear a0b
  have HB1 := Lib.hid a1b; clear a1b
  have A0 := fun w => Lib.hid (ar_tq w 32 a0v)
  have A1 := fun w => Lib.hid (ar_tq w 32 a1v)
  have hx0 : a0n ≤ 2 ^ 63 - 1 := a0m
  have hx1 : a1n ≤ 2 ^ 63 - 1 := a1m
  by_cases h1 : 500 < a0n
  · have t1 : decide (500 < (a0n : Int)) = true := decide_eq_true (by omega)
    generalize tE a0v = E0 at *
    generalize tE a1v = E1 at *
    go_enter Tryd.func9, Tryd.ntmps9
    go_wp2_with fail
    refine (C0 _ HR0.out).out.mono ?_
    rintro r w1 ⟨rfl, b1⟩
    have b2 := bel_alloc b1 (.cells #[.int .i64 (tq a0v 0), .int .i64 (tq a0v 1), .int .i64 (tq a0v 2), .int .i64 (tq a0v 3), .int .i64 (tq a0v 4), .int .i64 (tq a0v 5)] 32)
    go_wp2_with fail
    refine (C1 _ (HR1.out.below b2)).out.mono ?_
    rintro r w2 ⟨rfl, b3⟩
    have b4 := bel_trans b2 (bel_alloc b3 (.cells #[.int .i64 (tq a1v 0), .int .i64 (tq a1v 1), .int .i64 (tq a1v 2), .int .i64 (tq a1v 3), .int .i64 (tq a1v 4), .int .i64 (tq a1v 5)] 32))
    go_wp2_with fail
    refine (known_any _ (HT.out.below b4)).mono ?_
    rintro r w5 ⟨rfl, b5⟩
    go_wp2
    go_ret
    exact ⟨rfl, bel_trans b4 b5⟩
  have t1 : decide (500 < (a0n : Int)) = false := decide_eq_false (by omega)
  by_cases h2 : 500 < a1n
  · have t2 : decide (500 < (a1n : Int)) = true := decide_eq_true (by omega)
    generalize tE a0v = E0 at *
    generalize tE a1v = E1 at *
    go_enter Tryd.func9, Tryd.ntmps9
    go_wp2_with fail
    refine (C0 _ HR0.out).out.mono ?_
    rintro r w1 ⟨rfl, b1⟩
    have b2 := bel_alloc b1 (.cells #[.int .i64 (tq a0v 0), .int .i64 (tq a0v 1), .int .i64 (tq a0v 2), .int .i64 (tq a0v 3), .int .i64 (tq a0v 4), .int .i64 (tq a0v 5)] 32)
    go_wp2_with fail
    refine (C1 _ (HR1.out.below b2)).out.mono ?_
    rintro r w2 ⟨rfl, b3⟩
    have b4 := bel_trans b2 (bel_alloc b3 (.cells #[.int .i64 (tq a1v 0), .int .i64 (tq a1v 1), .int .i64 (tq a1v 2), .int .i64 (tq a1v 3), .int .i64 (tq a1v 4), .int .i64 (tq a1v 5)] 32))
    go_wp2_with fail
    refine (known_any _ (HT.out.below b4)).mono ?_
    rintro r w5 ⟨rfl, b5⟩
    go_wp2
    go_ret
    exact ⟨rfl, bel_trans b4 b5⟩
  have t2 : decide (500 < (a1n : Int)) = false := decide_eq_false (by omega)
  by_cases h3 : tE a0v = 0
  rotate_left
  · generalize tE a0v = E0 at *
    generalize tE a1v = E1 at *
    have t3 : (E0 != 0) = true := by simp [h3]
    go_enter Tryd.func9, Tryd.ntmps9
    go_wp2_with fail
    refine (C0 _ HR0.out).out.mono ?_
    rintro r w1 ⟨rfl, b1⟩
    have b2 := bel_alloc b1 (.cells #[.int .i64 (tq a0v 0), .int .i64 (tq a0v 1), .int .i64 (tq a0v 2), .int .i64 (tq a0v 3), .int .i64 (tq a0v 4), .int .i64 (tq a0v 5)] 32)
    go_wp2_with fail
    refine (C1 _ (HR1.out.below b2)).out.mono ?_
    rintro r w2 ⟨rfl, b3⟩
    have b4 := bel_trans b2 (bel_alloc b3 (.cells #[.int .i64 (tq a1v 0), .int .i64 (tq a1v 1), .int .i64 (tq a1v 2), .int .i64 (tq a1v 3), .int .i64 (tq a1v 4), .int .i64 (tq a1v 5)] 32))
    go_wp2_with fail
    refine (known_any _ (HT.out.below b4)).mono ?_
    rintro r w5 ⟨rfl, b5⟩
    go_wp2
    go_ret
    exact ⟨rfl, bel_trans b4 b5⟩
  by_cases h4 : tE a1v = 0
  rotate_left
  · rw [h3] at C0
    generalize tE a1v = E1 at *
    have t4 : (E1 != 0) = true := by simp [h4]
    go_enter Tryd.func9, Tryd.ntmps9
    go_wp2_with fail
    refine (C0 _ HR0.out).out.mono ?_
    rintro r w1 ⟨rfl, b1⟩
    have b2 := bel_alloc b1 (.cells #[.int .i64 (tq a0v 0), .int .i64 (tq a0v 1), .int .i64 (tq a0v 2), .int .i64 (tq a0v 3), .int .i64 (tq a0v 4), .int .i64 (tq a0v 5)] 32)
    go_wp2_with fail
    refine (C1 _ (HR1.out.below b2)).out.mono ?_
    rintro r w2 ⟨rfl, b3⟩
    have b4 := bel_trans b2 (bel_alloc b3 (.cells #[.int .i64 (tq a1v 0), .int .i64 (tq a1v 1), .int .i64 (tq a1v 2), .int .i64 (tq a1v 3), .int .i64 (tq a1v 4), .int .i64 (tq a1v 5)] 32))
    go_wp2_with fail
    refine (known_any _ (HT.out.below b4)).mono ?_
    rintro r w5 ⟨rfl, b5⟩
    go_wp2
    go_ret
    exact ⟨rfl, bel_trans b4 b5⟩
  rw [h3] at C0
  rw [h4] at C1
  have HQ := fun k => Lib.hid (tq_app h3 h4 k)
  have HS6 := Lib.hid (tS_all (tE_app h3 h4))
  have hlen : (a1v ++ a0v).length = a1n + a0n := by rw [List.length_append, HE1.out, HE0.out]
  have AZ := fun w => Lib.hid (ar_tq w 32 (a1v ++ a0v))
  have HBS := fun n => Lib.hid (tS_bd (a1v ++ a0v) n)
  have HB := fun l k => Lib.hid (tq_bd l k)
  have CZ := fun A c W h => Lib.hid (tally_any A (a1n + a0n) c (a1v ++ a0v) W hlen (by unfold maxLen; omega) h (bd_app HB0.out HB1.out))
  rw [tlV_eq, tE_app h3 h4] at CZ
  have HL := Lib.hid hlen
  clear hlen h3 h4
  have hn0 : a0n ≤ 500 := by omega
  have hn1 : a1n ≤ 500 := by omega
  go_enter Tryd.func9, Tryd.ntmps9
  go_wp2_with fail
  refine (C0 _ HR0.out).out.mono ?_
  rintro r w1 ⟨rfl, b1⟩
  have b2 := bel_alloc b1 (.cells #[.int .i64 (tq a0v 0), .int .i64 (tq a0v 1), .int .i64 (tq a0v 2), .int .i64 (tq a0v 3), .int .i64 (tq a0v 4), .int .i64 (tq a0v 5)] 32)
  go_wp2_with fail
  refine (C1 _ (HR1.out.below b2)).out.mono ?_
  rintro r w2 ⟨rfl, b3⟩
  have b4 := bel_trans b2 (bel_alloc b3 (.cells #[.int .i64 (tq a1v 0), .int .i64 (tq a1v 1), .int .i64 (tq a1v 2), .int .i64 (tq a1v 3), .int .i64 (tq a1v 4), .int .i64 (tq a1v 5)] 32))
  have hs1 : w1.heap.size < w2.heap.size := by have := b3.size; simp at this; omega
  have Y0 := Lib.hid (show Ar (w2.alloc (.cells #[.int .i64 (tq a1v 0), .int .i64 (tq a1v 1), .int .i64 (tq a1v 2), .int .i64 (tq a1v 3), .int .i64 (tq a1v 4), .int .i64 (tq a1v 5)] 32)) w1.heap.size (tq a0v) from ((A0 w1).out.below b3 (by simp)).below (bel_alloc (Below.refl _ _) _) hs1)
  have Y1 := A1 w2
  have b5 : Below w.heap.size w ((w2.alloc (.cells #[.int .i64 (tq a1v 0), .int .i64 (tq a1v 1), .int .i64 (tq a1v 2), .int .i64 (tq a1v 3), .int .i64 (tq a1v 4), .int .i64 (tq a1v 5)] 32)).alloc (.cells #[] 3)) := bel_alloc b4 _
  have bb5 : Below (w2.heap.size + 1) (w2.alloc (.cells #[.int .i64 (tq a1v 0), .int .i64 (tq a1v 1), .int .i64 (tq a1v 2), .int .i64 (tq a1v 3), .int .i64 (tq a1v 4), .int .i64 (tq a1v 5)] 32)) ((w2.alloc (.cells #[.int .i64 (tq a1v 0), .int .i64 (tq a1v 1), .int .i64 (tq a1v 2), .int .i64 (tq a1v 3), .int .i64 (tq a1v 4), .int .i64 (tq a1v 5)] 32)).alloc (.cells #[] 3)) := (Below.refl _ _).alloc (by simp) _
  have R0 := Lib.hid (HR0.out.below b5)
  have R1 := Lib.hid (HR1.out.below b5)
  have MADE := Lib.hid (show ((w2.alloc (.cells #[.int .i64 (tq a1v 0), .int .i64 (tq a1v 1), .int .i64 (tq a1v 2), .int .i64 (tq a1v 3), .int .i64 (tq a1v 4), .int .i64 (tq a1v 5)] 32)).alloc (.cells #[] 3)).ownsRow (w2.heap.size + 1) 3 1 (.slice (some ⟨w2.heap.size + 1, 0, none⟩) 0 0) 0 (flatI []) by
    have := World.ownsRow_made (e := 3) (size := 1) (base := (w2.alloc (.cells #[.int .i64 (tq a1v 0), .int .i64 (tq a1v 1), .int .i64 (tq a1v 2), .int .i64 (tq a1v 3), .int .i64 (tq a1v 4), .int .i64 (tq a1v 5)] 32)).heap.size) (w2.alloc (.cells #[.int .i64 (tq a1v 0), .int .i64 (tq a1v 1), .int .i64 (tq a1v 2), .int .i64 (tq a1v 3), .int .i64 (tq a1v 4), .int .i64 (tq a1v 5)] 32)) #[] 0 (Nat.le_refl _) (Nat.zero_le _) (by simp)
    rw [World.size_alloc] at this
    exact this)
  go_wp2_with (at_builtin; first
    | (refine appAll rfl (.tmp 40) (.tmp 41) rfl _ (w2.heap.size + 1) 0 _ [] a1 a1n a1c a1v rfl rfl MADE.out HE1.out (by omega) (by omega) (by simp) R1.out HZ1.out ?_; intro v1 w4 ow1 c1; have OW1 := Lib.hid ow1; clear ow1; have R4 := Lib.hid (HR0.out.below (b5.trans (c1.mono (by have := b4.size; simp at this; omega)))))
    | (refine appAll rfl (.tmp 42) (.tmp 43) rfl _ (w2.heap.size + 1) (0 + a1n) _ ([] ++ a1v) a0 a0n a0c a0v rfl rfl OW1.out HE0.out (by omega) (by omega) (by have := c1.size; simp at this; omega) R4.out HZ0.out ?_; intro v2 w5 ow2 c2; have OW2 := Lib.hid ow2; clear ow2))
  obtain ⟨_, A, c, rfl, rd⟩ := row_rd OW2.out
  rw [Nat.zero_add] at OW2 ⊢
  have b6 : Below w.heap.size w w5 := (b5.trans (c1.mono (by have := b4.size; simp at this; omega))).trans (c2.mono (by have := b4.size; simp at this; omega))
  have d6 : Below (w2.heap.size + 1) (w2.alloc (.cells #[.int .i64 (tq a1v 0), .int .i64 (tq a1v 1), .int .i64 (tq a1v 2), .int .i64 (tq a1v 3), .int .i64 (tq a1v 4), .int .i64 (tq a1v 5)] 32)) w5 := (bb5.trans c1).trans c2
  have RZ := Lib.hid rd
  clear rd c1 c2 bb5 R0 R1 R4 MADE OW1 OW2
  refine (CZ A c w5 RZ.out).out.mono ?_
  rintro r w6 ⟨rfl, b7⟩
  have b8 := bel_alloc (bel_trans b6 b7) (.cells #[.int .i64 (tq (a1v ++ a0v) 0), .int .i64 (tq (a1v ++ a0v) 1), .int .i64 (tq (a1v ++ a0v) 2), .int .i64 (tq (a1v ++ a0v) 3), .int .i64 (tq (a1v ++ a0v) 4), .int .i64 (tq (a1v ++ a0v) 5)] 32)
  have hs6 : w2.heap.size < w6.heap.size := by have := d6.size; have := b7.size; simp at *; omega
  have d7 : Below (w2.heap.size + 1) (w2.alloc (.cells #[.int .i64 (tq a1v 0), .int .i64 (tq a1v 1), .int .i64 (tq a1v 2), .int .i64 (tq a1v 3), .int .i64 (tq a1v 4), .int .i64 (tq a1v 5)] 32)) (w6.alloc (.cells #[.int .i64 (tq (a1v ++ a0v) 0), .int .i64 (tq (a1v ++ a0v) 1), .int .i64 (tq (a1v ++ a0v) 2), .int .i64 (tq (a1v ++ a0v) 3), .int .i64 (tq (a1v ++ a0v) 4), .int .i64 (tq (a1v ++ a0v) 5)] 32)) :=
    (d6.trans (b7.mono (by have := d6.size; simp at this; omega))).alloc (by omega) _
  have Z0 := Lib.hid (Y0.out.below d7 (by omega))
  have Z1 := Lib.hid (Y1.out.below d7 (by omega))
  have Z2 := AZ w6
  clear Y0 Y1 d6 d7
  go_wp2
  generalize w6.alloc (.cells #[.int .i64 (tq (a1v ++ a0v) 0), .int .i64 (tq (a1v ++ a0v) 1), .int .i64 (tq (a1v ++ a0v) 2), .int .i64 (tq (a1v ++ a0v) 3), .int .i64 (tq (a1v ++ a0v) 4), .int .i64 (tq (a1v ++ a0v) 5)] 32) = w7 at *
  have hw1 : w1.heap.size < w7.heap.size := cell_lt (Z0.out 0 (by omega)).1
  have hw2 : w2.heap.size < w7.heap.size := cell_lt (Z1.out 0 (by omega)).1
  have hw6 : w6.heap.size < w7.heap.size := cell_lt (Z2.out 0 (by omega)).1
  go_loopw [10, 11] (fun q i wr => ∃ j : Nat, j ≤ 6 ∧ q = .int .i64 (tS (a1v ++ a0v) j) ∧ i = .int .i64 j ∧ Below w7.heap.size w7 wr) (fun q i _ => (6 - intOf i).toNat)
  case atStart => exact ⟨0, Nat.zero_le _, rfl, rfl, Below.refl _ _⟩
  case round =>
    obtain ⟨j, hj, rfl, rfl, bel⟩ := hrel
    by_cases hlt : j < 6
    · have u0 : decide ((j : Int) < 6) = true := decide_eq_true (by omega)
      have j6 : (j : Int) < 6 := by omega
      have cx : wr.cell? ⟨w1.heap.size, j, none⟩ = some (.int .i64 (tq a0v j)) := ((Z0.out.below bel hw1) j hlt).1
      have cy : wr.cell? ⟨w2.heap.size, j, none⟩ = some (.int .i64 (tq a1v j)) := ((Z1.out.below bel hw2) j hlt).1
      have cz : wr.cell? ⟨w6.heap.size, j, none⟩ = some (.int .i64 (tq (a1v ++ a0v) j)) := ((Z2.out.below bel hw6) j hlt).1
      have HN := Lib.hid (show tS (a1v ++ a0v) (j + 1) = tS (a1v ++ a0v) j + tq (a1v ++ a0v) j from rfl)
      obtain ⟨x0, x1⟩ := (HB a0v j).out
      obtain ⟨y0, y1⟩ := (HB a1v j).out
      obtain ⟨s0, s1⟩ := (HBS j).out
      have s2 : tS (a1v ++ a0v) j ≤ 6000 := by
        have e : (a1v ++ a0v).length = a1n + a0n := HL.out
        have h6 : (j : Int) * ((a1v ++ a0v).length : Int) ≤ 6 * ((a1v ++ a0v).length : Int) := Int.mul_le_mul_of_nonneg_right (by omega) (by omega)
        omega
      have x2 : tq a0v j ≤ 500 := by have := HE0.out; omega
      have y2 : tq a1v j ≤ 500 := by have := HE1.out; omega
      rw [(HQ j).out] at cz HN
      clear s1 x1 y1
      generalize tS (a1v ++ a0v) j = sj at *
      generalize tq a0v j = x at *
      generalize tq a1v j = y at *
      have e1 : IntKind.i64.wrap (x + y) = x + y := IntWalk.i64_in _ (by omega)
      go_wp2
      go_quiet (fail)
      clear e1
      go_wp2
      go_roundw
      case rel => exact ⟨j + 1, by omega, by rw [HN.out], by go_num, below_drewN bel _⟩
      case measure => simp [intOf]; omega
    · obtain rfl : j = 6 := by omega
      have u0 : decide (((6 : Nat) : Int) < 6) = false := decide_eq_false (by omega)
      have HS := Lib.hid (show tS (a1v ++ a0v) 6 = (a0n : Int) + a1n by rw [HS6.out]; have := HL.out; omega)
      have bt := bel_trans b8 bel
      rw [HS.out]
      go_wp2_with fail
      refine (known_any _ (HT.out.below bt)).mono ?_
      rintro r w9 ⟨rfl, b9⟩
      go_wp2
      go_ret
      exact ⟨rfl, bel_trans bt b9⟩
end Wk
end Go.Proofs.YtfogcapgadfbfaaDoor
