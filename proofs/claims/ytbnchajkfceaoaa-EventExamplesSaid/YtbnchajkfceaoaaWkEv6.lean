/- EventExamples: the walk. No conditions. Written by tools/mk11w6.py. -/
import Derived.Test.YtbnchajkfceaoaaWkEv2
import Derived.IntWalk
import Derived.Deep.RegionHeld3
namespace Go.Proofs.Ytbnchajkfceaoaa
open Go.RowKit Go.Sort
set_option linter.unusedVariables false
set_option linter.unusedSimpArgs false
namespace Wk
open Ev
/-- the example with one field of one event stored -/
def fE (f : Nat) (e : E) (x : Int) : E := match f with
  | 0 => ⟨x, e.t, e.k, e.v⟩
  | 1 => ⟨e.s, x, e.k, e.v⟩
  | 2 => ⟨e.s, e.t, x, e.v⟩
  | _ => ⟨e.s, e.t, e.k, x⟩
def xL (f p : Nat) (x : Int) : List E := xE.set p (fE f (xE.getD p e0) x)
theorem xL_len (f p : Nat) (x : Int) : (xL f p x).length = 6 := by unfold xL; rw [List.length_set]; rfl
theorem xE_bd : BdV xE := by
  intro x hx
  simp only [xE, List.mem_cons, List.not_mem_nil, or_false] at hx
  rcases hx with rfl | rfl | rfl | rfl | rfl | rfl <;> constructor <;> decide
theorem xL_bd (f p : Nat) (x : Int) (hp : p < 6) (h0 : f = 0 ∨ f = 1 → -9223372036854775808 ≤ x ∧ x ≤ 9223372036854775807) (h2 : f = 2 → 0 ≤ x ∧ x ≤ 255) (h3 : f = 3 → 0 ≤ x ∧ x ≤ 18446744073709551615) (hf : f ≤ 3) : BdV (xL f p x) := by
  intro y hy
  rcases List.mem_or_eq_of_mem_set hy with h | rfl
  · exact xE_bd y h
  · have hb := Bd.get xE_bd (i := p) (by exact hp)
    obtain ⟨c0, c1, c2, c3, c4, c5, c6, c7⟩ := hb
    have : f = 0 ∨ f = 1 ∨ f = 2 ∨ f = 3 := by omega
    rcases this with rfl | rfl | rfl | rfl
    · have := h0 (by omega); exact ⟨this.1, this.2, c2, c3, c4, c5, c6, c7⟩
    · have := h0 (by omega); exact ⟨c0, c1, this.1, this.2, c4, c5, c6, c7⟩
    · have := h2 rfl; exact ⟨c0, c1, c2, c3, this.1, this.2, c6, c7⟩
    · have := h3 rfl; exact ⟨c0, c1, c2, c3, c4, c5, this.1, this.2⟩
theorem Bd.drop {l : List E} (h : BdV l) (k : Nat) : BdV (l.drop k) := fun x hx => h x (List.mem_of_mem_drop hx)
def fV (f : Nat) (x : Int) : Value := match f with
  | 0 => .int .i64 x
  | 1 => .int .i64 x
  | 2 => .int .u8 x
  | _ => .int .u64 x
theorem xL_flat (f p : Nat) (x : Int) (hp : p < 6) (hf : f ≤ 3) : (KE.flat xE).set (p * 4 + f) (fV f x) = KE.flat (xL f p x) := by
  have h1 : f = 0 ∨ f = 1 ∨ f = 2 ∨ f = 3 := by omega
  have h2 : p = 0 ∨ p = 1 ∨ p = 2 ∨ p = 3 ∨ p = 4 ∨ p = 5 := by omega
  rcases h1 with rfl | rfl | rfl | rfl <;> rcases h2 with rfl | rfl | rfl | rfl | rfl | rfl <;> rfl
theorem ex_put {w : World} {b : Nat} {A : Addr} (hA : A = ⟨b, 0, none⟩) (h : w.ownsRow b KE.E KE.sz (.slice (some A) 6 6) 6 (KE.flat xE)) (f p : Nat) (hp : p < 6) (hf : f ≤ 3) (x : Int) :
    (∃ u, w.cell? ⟨b, p * 4 + f, none⟩ = some u) ∧ w.frozen? ⟨b, p * 4 + f, none⟩ = false ∧ KE.Rd (w.setCell ⟨b, p * 4 + f, none⟩ (fV f x)) (some ⟨b, 0, none⟩) (xL f p x) := by
  subst hA
  refine ⟨?_, h.frozenAt _, ?_⟩
  · rw [h.cellAt (p * 4 + f) (by show p * 4 + f < 6 * 4; omega)]
    exact ⟨_, List.getElem?_eq_getElem (by show p * 4 + f < 24; omega)⟩
  · have := (h.stored (p * 4 + f) (fV f x)).1
    rw [xL_flat f p x hp hf] at this
    exact KE.row_get (n := 6) this
theorem u8_wr (x : Int) : 0 ≤ IntKind.u8.wrap x ∧ IntKind.u8.wrap x ≤ 255 := by rw [IntKind.wrap_u8]; omega
theorem u64_wr (x : Int) : 0 ≤ IntKind.u64.wrap x ∧ IntKind.u64.wrap x ≤ 18446744073709551615 := by rw [IntKind.wrap_u64]; omega
theorem tm_wr (x : Int) : -9223372036854775808 ≤ x.tmod 2 ∧ x.tmod 2 ≤ 9223372036854775807 := by
  have h1 := Int.tmod_lt_of_pos x (show (0 : Int) < 2 by decide)
  have h2 := Int.lt_tmod_of_pos x (show (0 : Int) < 2 by decide)
  omega
def eu : List Int := [0, 1, 63, 64, 9223372036854775808, 18446744073709551615]
def ei : List Int := [-9223372036854775808, -1, 0, 63, 64, 9223372036854775807]
theorem eu_bd (i : Nat) : 0 ≤ eu.getD i 0 ∧ eu.getD i 0 ≤ 18446744073709551615 := by
  by_cases h : i < 6
  · have : i = 0 ∨ i = 1 ∨ i = 2 ∨ i = 3 ∨ i = 4 ∨ i = 5 := by omega
    rcases this with rfl | rfl | rfl | rfl | rfl | rfl <;> decide
  · rw [List.getD_eq_getElem?_getD, List.getElem?_eq_none (by show 6 ≤ i; omega)]; decide
theorem ei_bd (i : Nat) : -9223372036854775808 ≤ ei.getD i 0 ∧ ei.getD i 0 ≤ 9223372036854775807 := by
  by_cases h : i < 6
  · have : i = 0 ∨ i = 1 ∨ i = 2 ∨ i = 3 ∨ i = 4 ∨ i = 5 := by omega
    rcases this with rfl | rfl | rfl | rfl | rfl | rfl <;> decide
  · rw [List.getD_eq_getElem?_getD, List.getElem?_eq_none (by show 6 ≤ i; omega)]; decide
theorem mt (A : Option Addr) (n c : Nat) (l : List E) (W : World) (hl : l.length = n) (hn : n ≤ 6) (hc : n ≤ c ∧ c ≤ 6) (hr : KE.Rd W A l) (hb : BdV l) (hz : A = none → c = 0) :
    Calls Try.prog 3 #[.slice A n c] W fun e w' => e = .returned (.bool true) ∧ Below W.heap.size W w' :=
  walk_eventMatches A n c l W hl (by unfold maxLen; omega) hr hb hz ⟨hc.1, by unfold maxLen; omega⟩
theorem lk (t x : Int) (A : Option Addr) (n c : Nat) (l : List E) (W : World) (ht : -9223372036854775808 ≤ t ∧ t ≤ 9223372036854775807) (hx : -9223372036854775808 ≤ x ∧ x ≤ 9223372036854775807) (hl : l.length = n) (hn : n ≤ 6) (hc : n ≤ c ∧ c ≤ 6) (hr : KE.Rd W A l) (hb : BdV l) (hz : A = none → c = 0) :
    Calls Try.prog 4 #[.int .i64 t, .int .i64 x, .slice A n c] W fun e w' => e = .returned (.bool true) ∧ Below W.heap.size W w' :=
  walk_eventLooks t x A n c l W ht.1 ht.2 hx.1 hx.2 hl (by unfold maxLen; omega) hr hb hz ⟨hc.1, by unfold maxLen; omega⟩
theorem nil_rd (W : World) : KE.Rd W none [] := fun i x h => by simp at h
theorem nil_bd : BdV [] := fun x h => by cases h
theorem bel_alloc2 {w W : World} (h : Below w.heap.size w W) (a b : Obj) : Below w.heap.size w ((W.alloc a).alloc b) := bel_alloc (bel_alloc h a) b
set_option maxRecDepth 100000 in
set_option maxHeartbeats 4000000 in
theorem walk_eventExamples (w : World) :
    Calls Try.prog 5 #[] w fun e w' => e = .returned (.bool true) ∧ Below w.heap.size w w' := by
  have EX := fun (W : World) => Lib.hid (ex_call W)
  go_enter Try.func5, Try.ntmps5
  go_wp2_with fail
  go_loopw [1] (fun v wr => ∃ p : Nat, p ≤ 6 ∧ v = .int .i64 p ∧ Below w.heap.size w wr) (fun v _ => 6 - (intOf v).toNat)
  case atStart => exact ⟨0, by omega, rfl, Below.refl _ _⟩
  case round =>
    obtain ⟨p, hp, rfl, bel⟩ := hrel
    obtain ⟨w0, rfl⟩ : ∃ w0 : World, w0 = wr := ⟨_, rfl⟩
    by_cases hp6 : p < 6
    · have d0 : decide ((p : Int) < 6) = true := decide_eq_true (by omega)
      have p6 : (p : Int) < 6 := by omega
      go_wp2_with fail
      refine ((EX _).out).mono ?_
      rintro e w1 ⟨rfl, _, _, b1⟩
      have bel1 := bel_trans bel b1
      clear bel b1
      go_wp2
      go_loopw [2] (fun v wr => ∃ x : Int, -2 ≤ x ∧ x ≤ 10 ∧ v = .int .i64 x ∧ Below w.heap.size w wr) (fun v _ => (10 - intOf v).toNat)
      case atStart => exact ⟨-2, by omega, by omega, rfl, bel1⟩
      case round =>
        clear bel1
        obtain ⟨x, hx0, hx1, rfl, bel⟩ := hrel
        by_cases hx : x < 10
        · have d1 : decide (x < 10) = true := decide_eq_true hx
          go_wp2
          go_loopw [3] (fun v wr => ∃ k : Nat, k ≤ 4 ∧ v = .int .i64 k ∧ Below w.heap.size w wr) (fun v _ => 4 - (intOf v).toNat)
          case atStart => exact ⟨0, by omega, rfl, bel⟩
          case round =>
            clear bel
            obtain ⟨k, hk, rfl, bel⟩ := hrel
            obtain ⟨wq, rfl⟩ : ∃ wq : World, wq = wr := ⟨_, rfl⟩
            by_cases hk4 : k < 4
            · have hk5 : k = 0 ∨ k = 1 ∨ k = 2 ∨ k = 3 := by omega
              rcases hk5 with rfl | rfl | rfl | rfl
              · go_wp2_with fail
                refine ((EX _).out).mono ?_
                rintro e w3 ⟨rfl, _, O3, b3⟩
                have z3 := b3.size
                have B3 := Lib.hid (bel_trans bel b3)
                obtain ⟨⟨u, hu⟩, hf, hr⟩ := ex_put rfl O3 0 p hp6 (by omega) x
                simp only [Nat.add_zero] at hu hf
                have BS := Lib.hid (B3.out.setCell (p := ⟨wq.heap.size, p * 4, none⟩) (by exact bel.size) (.int .i64 x))
                have RS := Lib.hid (show KE.Rd (w3.setCell ⟨wq.heap.size, p * 4, none⟩ (.int .i64 x)) (some ⟨wq.heap.size, 0, none⟩) (xL 0 p x) from hr)
                have BD := Lib.hid (xL_bd 0 p x hp6 (fun h => by omega) (fun h => by omega) (fun h => by omega) (by omega))
                have HLL := xL_len 0 p x
                obtain ⟨L, hL⟩ : ∃ L, xL 0 p x = L := ⟨_, rfl⟩
                rw [hL] at RS BD HLL
                skip
                clear hr hL B3 b3 O3 bel
                go_wp2_with fail
                refine (mt _ 6 6 L _ HLL (by omega) (by omega) RS.out BD.out (fun h => by cases h)).mono ?_
                rintro e w4 ⟨rfl, b4⟩
                have RS4 := Lib.hid (RS.out.below b4)
                have B4 := Lib.hid (bel_trans BS.out b4)
                clear RS BS b4 hu hf
                go_wp2_with fail
                refine (lk _ x _ 6 6 L _ (tm_wr _) (by omega) HLL (by omega) (by omega) RS4.out BD.out (fun h => by cases h)).mono ?_
                rintro e w5 ⟨rfl, b5⟩
                have RS5 := Lib.hid (RS4.out.below b5)
                have B5 := Lib.hid (bel_trans B4.out b5)
                clear RS4 B4 b5
                have rd := rd_drop (k := p) RS5.out
                rw [Nat.zero_add] at rd
                have RD := Lib.hid rd
                clear rd
                go_wp2_with fail
                refine (mt _ (6 - p) (6 - p) (L.drop p) _ (by rw [List.length_drop, HLL]) (by omega) (by omega) RD.out (Bd.drop BD.out p) (fun h => by cases h)).mono ?_
                rintro e w6 ⟨rfl, b6⟩
                go_wp2
                go_roundw
                case rel => exact ⟨1, by omega, by go_num, bel_trans B5.out b6⟩
                case measure => simp [intOf] <;> omega
              · go_wp2_with fail
                refine ((EX _).out).mono ?_
                rintro e w3 ⟨rfl, _, O3, b3⟩
                have z3 := b3.size
                have B3 := Lib.hid (bel_trans bel b3)
                obtain ⟨⟨u, hu⟩, hf, hr⟩ := ex_put rfl O3 1 p hp6 (by omega) x
                skip
                have BS := Lib.hid (B3.out.setCell (p := ⟨wq.heap.size, p * 4 + 1, none⟩) (by exact bel.size) (.int .i64 x))
                have RS := Lib.hid (show KE.Rd (w3.setCell ⟨wq.heap.size, p * 4 + 1, none⟩ (.int .i64 x)) (some ⟨wq.heap.size, 0, none⟩) (xL 1 p x) from hr)
                have BD := Lib.hid (xL_bd 1 p x hp6 (fun h => by omega) (fun h => by omega) (fun h => by omega) (by omega))
                have HLL := xL_len 1 p x
                obtain ⟨L, hL⟩ : ∃ L, xL 1 p x = L := ⟨_, rfl⟩
                rw [hL] at RS BD HLL
                skip
                clear hr hL B3 b3 O3 bel
                go_wp2_with fail
                refine (mt _ 6 6 L _ HLL (by omega) (by omega) RS.out BD.out (fun h => by cases h)).mono ?_
                rintro e w4 ⟨rfl, b4⟩
                have RS4 := Lib.hid (RS.out.below b4)
                have B4 := Lib.hid (bel_trans BS.out b4)
                clear RS BS b4 hu hf
                go_wp2_with fail
                refine (lk _ x _ 6 6 L _ (tm_wr _) (by omega) HLL (by omega) (by omega) RS4.out BD.out (fun h => by cases h)).mono ?_
                rintro e w5 ⟨rfl, b5⟩
                have RS5 := Lib.hid (RS4.out.below b5)
                have B5 := Lib.hid (bel_trans B4.out b5)
                clear RS4 B4 b5
                have rd := rd_drop (k := p) RS5.out
                rw [Nat.zero_add] at rd
                have RD := Lib.hid rd
                clear rd
                go_wp2_with fail
                refine (mt _ (6 - p) (6 - p) (L.drop p) _ (by rw [List.length_drop, HLL]) (by omega) (by omega) RD.out (Bd.drop BD.out p) (fun h => by cases h)).mono ?_
                rintro e w6 ⟨rfl, b6⟩
                go_wp2
                go_roundw
                case rel => exact ⟨2, by omega, by go_num, bel_trans B5.out b6⟩
                case measure => simp [intOf] <;> omega
              · go_wp2_with fail
                refine ((EX _).out).mono ?_
                rintro e w3 ⟨rfl, _, O3, b3⟩
                have z3 := b3.size
                have B3 := Lib.hid (bel_trans bel b3)
                obtain ⟨⟨u, hu⟩, hf, hr⟩ := ex_put rfl O3 2 p hp6 (by omega) (IntKind.u8.wrap (x + 1))
                skip
                have BS := Lib.hid (B3.out.setCell (p := ⟨wq.heap.size, p * 4 + 2, none⟩) (by exact bel.size) (.int .u8 (IntKind.u8.wrap (x + 1))))
                have RS := Lib.hid (show KE.Rd (w3.setCell ⟨wq.heap.size, p * 4 + 2, none⟩ (.int .u8 (IntKind.u8.wrap (x + 1)))) (some ⟨wq.heap.size, 0, none⟩) (xL 2 p (IntKind.u8.wrap (x + 1))) from hr)
                have BD := Lib.hid (xL_bd 2 p (IntKind.u8.wrap (x + 1)) hp6 (fun h => by omega) (fun _ => u8_wr _) (fun h => by omega) (by omega))
                have HLL := xL_len 2 p (IntKind.u8.wrap (x + 1))
                obtain ⟨L, hL⟩ : ∃ L, xL 2 p (IntKind.u8.wrap (x + 1)) = L := ⟨_, rfl⟩
                rw [hL] at RS BD HLL
                skip
                clear hr hL B3 b3 O3 bel
                go_wp2_with fail
                refine (mt _ 6 6 L _ HLL (by omega) (by omega) RS.out BD.out (fun h => by cases h)).mono ?_
                rintro e w4 ⟨rfl, b4⟩
                have RS4 := Lib.hid (RS.out.below b4)
                have B4 := Lib.hid (bel_trans BS.out b4)
                clear RS BS b4 hu hf
                go_wp2_with fail
                refine (lk _ x _ 6 6 L _ (tm_wr _) (by omega) HLL (by omega) (by omega) RS4.out BD.out (fun h => by cases h)).mono ?_
                rintro e w5 ⟨rfl, b5⟩
                have RS5 := Lib.hid (RS4.out.below b5)
                have B5 := Lib.hid (bel_trans B4.out b5)
                clear RS4 B4 b5
                have rd := rd_drop (k := p) RS5.out
                rw [Nat.zero_add] at rd
                have RD := Lib.hid rd
                clear rd
                go_wp2_with fail
                refine (mt _ (6 - p) (6 - p) (L.drop p) _ (by rw [List.length_drop, HLL]) (by omega) (by omega) RD.out (Bd.drop BD.out p) (fun h => by cases h)).mono ?_
                rintro e w6 ⟨rfl, b6⟩
                go_wp2
                go_roundw
                case rel => exact ⟨3, by omega, by go_num, bel_trans B5.out b6⟩
                case measure => simp [intOf] <;> omega
              · go_wp2_with fail
                refine ((EX _).out).mono ?_
                rintro e w3 ⟨rfl, _, O3, b3⟩
                have z3 := b3.size
                have B3 := Lib.hid (bel_trans bel b3)
                obtain ⟨⟨u, hu⟩, hf, hr⟩ := ex_put rfl O3 3 p hp6 (by omega) (IntKind.u64.wrap x)
                skip
                have BS := Lib.hid (B3.out.setCell (p := ⟨wq.heap.size, p * 4 + 3, none⟩) (by exact bel.size) (.int .u64 (IntKind.u64.wrap x)))
                have RS := Lib.hid (show KE.Rd (w3.setCell ⟨wq.heap.size, p * 4 + 3, none⟩ (.int .u64 (IntKind.u64.wrap x))) (some ⟨wq.heap.size, 0, none⟩) (xL 3 p (IntKind.u64.wrap x)) from hr)
                have BD := Lib.hid (xL_bd 3 p (IntKind.u64.wrap x) hp6 (fun h => by omega) (fun h => by omega) (fun _ => u64_wr _) (by omega))
                have HLL := xL_len 3 p (IntKind.u64.wrap x)
                obtain ⟨L, hL⟩ : ∃ L, xL 3 p (IntKind.u64.wrap x) = L := ⟨_, rfl⟩
                rw [hL] at RS BD HLL
                skip
                clear hr hL B3 b3 O3 bel
                go_wp2_with fail
                refine (mt _ 6 6 L _ HLL (by omega) (by omega) RS.out BD.out (fun h => by cases h)).mono ?_
                rintro e w4 ⟨rfl, b4⟩
                have RS4 := Lib.hid (RS.out.below b4)
                have B4 := Lib.hid (bel_trans BS.out b4)
                clear RS BS b4 hu hf
                go_wp2_with fail
                refine (lk _ x _ 6 6 L _ (tm_wr _) (by omega) HLL (by omega) (by omega) RS4.out BD.out (fun h => by cases h)).mono ?_
                rintro e w5 ⟨rfl, b5⟩
                have RS5 := Lib.hid (RS4.out.below b5)
                have B5 := Lib.hid (bel_trans B4.out b5)
                clear RS4 B4 b5
                have rd := rd_drop (k := p) RS5.out
                rw [Nat.zero_add] at rd
                have RD := Lib.hid rd
                clear rd
                go_wp2_with fail
                refine (mt _ (6 - p) (6 - p) (L.drop p) _ (by rw [List.length_drop, HLL]) (by omega) (by omega) RD.out (Bd.drop BD.out p) (fun h => by cases h)).mono ?_
                rintro e w6 ⟨rfl, b6⟩
                go_wp2
                go_roundw
                case rel => exact ⟨4, by omega, by go_num, bel_trans B5.out b6⟩
                case measure => simp [intOf] <;> omega
            · obtain rfl : k = 4 := by omega
              go_wp2
              go_roundw
              case rel => exact ⟨x + 1, by omega, by omega, by go_num, bel⟩
              case measure => simp [intOf] <;> omega
        · obtain rfl : x = 10 := by omega
          go_wp2
          go_roundw
          case rel => exact ⟨p + 1, by omega, by go_num, bel⟩
          case measure => simp [intOf] <;> omega
    · obtain rfl : p = 6 := by omega
      go_wp2_with fail
      refine ((EX _).out).mono ?_
      rintro e w1 ⟨rfl, _, _, b1⟩
      have B1 := Lib.hid (bel_trans bel b1)
      clear bel b1
      obtain ⟨wL, hwL⟩ : ∃ wL : World, wL = (w1.alloc (.cells #[.int .u64 0, .int .u64 1, .int .u64 63, .int .u64 64, .int .u64 9223372036854775808, .int .u64 18446744073709551615] 39)).alloc (.cells #[.int .i64 (-9223372036854775808), .int .i64 (-1), .int .i64 0, .int .i64 63, .int .i64 64, .int .i64 9223372036854775807] 3) := ⟨_, rfl⟩
      have hsz : wL.heap.size = w1.heap.size + 2 := by rw [hwL]; simp
      have BL := Lib.hid (show Below w.heap.size w wL by rw [hwL]; exact bel_alloc2 B1.out _ _)
      have CU := Lib.hid (show ∀ W i, Below wL.heap.size wL W → i < 6 → W.cell? ⟨w1.heap.size, i, none⟩ = some (.int .u64 (eu.getD i 0)) from fun W i hb hi => by
        refine (hb.cell (p := ⟨w1.heap.size, i, none⟩) (by show w1.heap.size < wL.heap.size; omega)).trans ?_
        rw [hwL]
        have : i = 0 ∨ i = 1 ∨ i = 2 ∨ i = 3 ∨ i = 4 ∨ i = 5 := by omega
        rcases this with rfl | rfl | rfl | rfl | rfl | rfl <;> simp [eu])
      have CI := Lib.hid (show ∀ W i, Below wL.heap.size wL W → i < 6 → W.cell? ⟨w1.heap.size + 1, i, none⟩ = some (.int .i64 (ei.getD i 0)) from fun W i hb hi => by
        refine (hb.cell (p := ⟨w1.heap.size + 1, i, none⟩) (by show w1.heap.size + 1 < wL.heap.size; omega)).trans ?_
        rw [hwL]
        have : i = 0 ∨ i = 1 ∨ i = 2 ∨ i = 3 ∨ i = 4 ∨ i = 5 := by omega
        rcases this with rfl | rfl | rfl | rfl | rfl | rfl <;> simp [ei])
      have HWL := Lib.hid hwL.symm
      clear hwL B1
      go_wp2
      rw [HWL.out]
      clear HWL hsz
      go_loopw [7] (fun v wr => ∃ i : Nat, i ≤ 6 ∧ v = .int .i64 i ∧ Below wL.heap.size wL wr) (fun v _ => 6 - (intOf v).toNat)
      case atStart => exact ⟨0, by omega, rfl, Below.refl _ _⟩
      case round =>
        obtain ⟨i, hi, rfl, bel⟩ := hrel
        by_cases hi6 : i < 6
        · have d0 : decide ((i : Int) < 6) = true := decide_eq_true (by omega)
          have i6 : (i : Int) < 6 := by omega
          go_wp2
          go_loopw [8] (fun v wr => ∃ j : Nat, j ≤ 6 ∧ v = .int .i64 j ∧ Below wL.heap.size wL wr) (fun v _ => 6 - (intOf v).toNat)
          case atStart => exact ⟨0, by omega, rfl, bel⟩
          case round =>
            clear bel
            obtain ⟨j, hj, rfl, bel⟩ := hrel
            by_cases hj6 : j < 6
            · have d1 : decide ((j : Int) < 6) = true := decide_eq_true (by omega)
              have j6 : (j : Int) < 6 := by omega
              have KU := Lib.hid (fun W (hb : Below wL.heap.size wL W) => CU.out W i hb hi6)
              have KI := Lib.hid (fun W (hb : Below wL.heap.size wL W) => CI.out W j hb hj6)
              have hub := eu_bd i
              have hib := ei_bd j
              go_wp2
              go_loopw [9] (fun v wr => ∃ k : Nat, k ≤ 6 ∧ v = .int .u8 k ∧ Below wL.heap.size wL wr) (fun v _ => 6 - (intOf v).toNat)
              case atStart => exact ⟨0, by omega, rfl, bel⟩
              case round =>
                clear bel
                obtain ⟨k, hk, rfl, bel⟩ := hrel
                obtain ⟨wq, rfl⟩ : ∃ wq : World, wq = wr := ⟨_, rfl⟩
                by_cases hk6 : k < 6
                · have d2 : decide ((k : Int) < 6) = true := decide_eq_true (by omega)
                  have k6 : (k : Int) < 6 := by omega
                  have u0 := KU.out _ bel
                  have u1 := KI.out _ bel
                  have KI2 := KI
                  generalize eu.getD i 0 = u at *
                  generalize ei.getD j 0 = x at *
                  go_wp2
                  go_cut [10] from 92 to 102 (fun s wx => ∃ g, s = .slice (some ⟨g, 0, none⟩) 1 1 ∧ KE.Rd wx (some ⟨g, 0, none⟩) [⟨3, x, (k : Int), u⟩] ∧ Below wL.heap.size wL wx)
                  case first =>
                    go_region
                    all_goals (go_wp2_with fail)
                    all_goals (go_meet)
                    all_goals (exact ⟨wq.heap.size, rfl, (KE.lit_rd wq [⟨3, x, (k : Int), u⟩] #[.int .i64 3, .int .i64 x, .int .u8 k, .int .u64 u] rfl (by simp)).below (below_drewN (Below.refl _ _) 1), below_drewN (bel_alloc bel _) 1⟩)
                  case rest =>
                    obtain ⟨g, rfl, hrd, bw⟩ := hcut
                    clear u0 u1 bel
                    obtain ⟨wv, hwv⟩ : ∃ wv : World, wv = wc := ⟨_, rfl⟩
                    rw [← hwv] at hrd bw ⊢
                    clear hwv
                    have hbd : BdV [⟨3, x, (k : Int), u⟩] := fun y hy => by
                      rw [List.mem_singleton.1 hy]
                      exact ⟨by show (-9223372036854775808 : Int) ≤ 3; decide, by show (3 : Int) ≤ 9223372036854775807; decide, hib.1, hib.2, by show (0 : Int) ≤ k; omega, by show (k : Int) ≤ 255; omega, hub.1, hub.2⟩
                    have KC := Lib.hid (fun W (h : Below wv.heap.size wv W) => KI2.out W (bel_trans bw h))
                    have MT := Lib.hid (fun W (h : Below wv.heap.size wv W) => (mt (some ⟨g, 0, none⟩) 1 1 _ W rfl (by omega) (by omega) (hrd.below h) hbd (fun h => by cases h)).mono (R' := fun e w' => e = .returned (.bool true) ∧ Below wv.heap.size wv w') fun e w' ⟨h1, h2⟩ => ⟨h1, bel_trans h h2⟩)
                    have LK := Lib.hid (fun W (t : Int) (A : Option Addr) (n c : Nat) (hA : (t = 3 ∧ A = some ⟨g, 0, none⟩ ∧ n = 1 ∧ c = 1) ∨ (t = x ∧ n = 6 ∧ c = 6 ∧ A ≠ none ∧ KE.Rd W A xE)) (h : Below wv.heap.size wv W) => show Calls Try.prog 4 #[.int .i64 x, .int .i64 t, .slice A n c] W fun e w' => e = .returned (.bool true) ∧ Below wv.heap.size wv w' from by
                      rcases hA with ⟨rfl, rfl, rfl, rfl⟩ | ⟨rfl, rfl, rfl, hz, hr⟩
                      · exact (lk x 3 (some ⟨g, 0, none⟩) 1 1 _ W hib (by omega) rfl (by omega) (by omega) (hrd.below h) hbd (fun h => by cases h)).mono fun e w' ⟨h1, h2⟩ => ⟨h1, bel_trans h h2⟩
                      · exact (lk t t A 6 6 _ W hib hib rfl (by omega) (by omega) hr xE_bd (fun h => absurd h hz)).mono fun e w' ⟨h1, h2⟩ => ⟨h1, bel_trans h h2⟩)
                    have BW := Lib.hid bw
                    clear hrd bw hbd KI2
                    go_wp2_with fail
                    go_cut [127] from 103 to 126 (fun s wx => s = .bool false ∧ Below wv.heap.size wv wx)
                    case first =>
                      have BB := Below.refl wv.heap.size wv
                      go_region_held3 (fun w' => w'.cell? ⟨w1.heap.size + 1, j, none⟩ = some (.int .i64 x)) (first | exact KC.out _ BB | exact KC.out _ (below_drewN BB 1)) (first | (go_at_call 3; refine (MT.out _ (by first | exact BB | exact below_drewN BB 1)).mono ?_; rintro r wd ⟨rfl, BB⟩) | (go_at_call 28; refine ((EX _).out).mono ?_; rintro r wd ⟨rfl, RX, _, bx⟩; replace BB := bel_trans (by first | exact BB | exact below_drewN BB 1) bx) | (go_at_call 4; refine (LK.out _ _ _ _ _ (by first | exact Or.inl ⟨rfl, rfl, rfl, rfl⟩ | exact Or.inr ⟨rfl, rfl, rfl, (fun h => by cases h), (by first | assumption | exact Kd.Rd.below (K := KE) (l := xE) ‹_› (below_drewN (Below.refl _ _) 1))⟩) (by first | exact BB | exact below_drewN BB 1)).mono ?_; rintro r wd ⟨rfl, BB⟩))
                      all_goals (go_wp2_with fail)
                      all_goals (go_meet)
                      all_goals (exact ⟨rfl, BB⟩)
                    case rest =>
                      obtain ⟨rfl, b6⟩ := hcut
                      go_wp2
                      go_roundw
                      case rel => exact ⟨k + 1, by omega, by go_num, bel_trans BW.out b6⟩
                      case measure => simp [intOf] <;> omega
                · obtain rfl : k = 6 := by omega
                  go_wp2
                  go_roundw
                  case rel => exact ⟨j + 1, by omega, by go_num, bel⟩
                  case measure => simp [intOf] <;> omega
            · obtain rfl : j = 6 := by omega
              go_wp2
              go_roundw
              case rel => exact ⟨i + 1, by omega, by go_num, bel⟩
              case measure => simp [intOf] <;> omega
        · obtain rfl : i = 6 := by omega
          have BQ := Lib.hid (bel_trans BL.out bel)
          clear bel BL CU CI
          go_wp2_with fail
          refine (mt none 0 0 [] _ rfl (by omega) (by omega) (nil_rd _) nil_bd (fun _ => rfl)).mono ?_
          rintro e w7 ⟨rfl, b7⟩
          replace BQ := Lib.hid (bel_trans BQ.out b7)
          clear b7
          go_wp2_with fail
          refine (lk 0 (-1) none 0 0 [] _ (by omega) (by omega) rfl (by omega) (by omega) (nil_rd _) nil_bd (fun _ => rfl)).mono ?_
          rintro e w8 ⟨rfl, b7⟩
          replace BQ := Lib.hid (bel_trans BQ.out b7)
          clear b7
          go_wp2_with fail
          refine ((EX _).out).mono ?_
          rintro e w9 ⟨rfl, R9, _, b7⟩
          replace BQ := Lib.hid (bel_trans BQ.out b7)
          clear b7
          go_wp2_with fail
          refine (lk 0 9223372036854775807 _ 6 6 xE _ (by omega) (by omega) rfl (by omega) (by omega) R9 xE_bd (fun h => by cases h)).mono ?_
          rintro e w10 ⟨rfl, b7⟩
          replace BQ := Lib.hid (bel_trans BQ.out b7)
          clear b7 R9
          go_wp2_with fail
          refine (awake_any _).mono ?_
          rintro e w90 ⟨rfl, b90⟩
          go_wp2
          go_ret
          exact ⟨rfl, bel_trans BQ.out b90⟩
end Wk
end Go.Proofs.Ytbnchajkfceaoaa
