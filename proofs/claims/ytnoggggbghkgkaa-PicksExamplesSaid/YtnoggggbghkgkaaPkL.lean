/- EqualInts and CopyInts of leapfrogkit, Thread of package picks, mod of leapfroglaw10: contracts of the translated code; lists in memory. Conditions: those of each lemma. -/
import Derived.Test.YtnoggggbghkgkaaPkX
namespace Go.Proofs.Ytnoggggbghkgkaa
open Go.RowKit Go.Shelf Go.Sort
set_option linter.unusedVariables false
set_option linter.unusedSimpArgs false
namespace Pk
open Dm (RdK BdI bel_alloc bel_trans cell_lt flatI info info_parts row_rd app1 appAll addr_lit ret_eq)
theorem ext_getD {l r : List Int} {n : Nat} (hl : l.length = n) (hr : r.length = n) (h : ∀ t, t < n → l.getD t 0 = r.getD t 0) : l = r := by
  refine List.ext_getElem (by omega) fun t h1 h2 => ?_
  have := h t (by omega)
  rw [List.getD_eq_getElem?_getD, List.getD_eq_getElem?_getD, List.getElem?_eq_getElem h1, List.getElem?_eq_getElem h2] at this
  simpa using this
theorem below_drewN {B : Nat} {a w : World} (h : Below B a w) (n : Nat) : Below B a (w.drewN n) := ⟨h.os, h.tape, h.output, h.size, h.block⟩
set_option maxRecDepth 100000 in
set_option maxHeartbeats 1000000 in
theorem equ_any (A B : Option Addr) (m c q d : Nat) (l r : List Int) (w : World) (hm : l.length = m) (hq : r.length = q) (hx : m ≤ maxLen) (hy : q ≤ maxLen) (hl : RdK .i64 w A l) (hr : RdK .i64 w B r) :
    Calls Try.prog 20 #[.slice A m c, .slice B q d] w fun e w' => e = .returned (.bool (decide (l = r))) ∧ Below w.heap.size w w' := by
  unfold maxLen at hx hy
  have HL := Lib.hid hl; clear hl
  have HR := Lib.hid hr; clear hr
  have HM := Lib.hid hm; clear hm
  have HQ := Lib.hid hq; clear hq
  by_cases hmq : m = q
  · subst hmq
    have t0 : ((m : Int) != m) = false := by simp
    go_enter Try.func20, Try.ntmps20
    go_wp2
    go_loopw [5] (fun i wr => ∃ j : Nat, j ≤ m ∧ i = .int .i64 j ∧ (∀ t : Nat, t < j → l.getD t 0 = r.getD t 0) ∧ Below w.heap.size w wr) (fun i _ => (m - intOf i).toNat)
    case atStart => exact ⟨0, Nat.zero_le _, rfl, fun t h => absurd h (Nat.not_lt_zero _), Below.refl _ _⟩
    case round =>
      obtain ⟨j, hj, rfl, hE, bel⟩ := hrel
      have HE := Lib.hid hE; clear hE
      by_cases hlt : j < m
      · obtain ⟨b, o, rfl, g0⟩ := (HL.out.below bel) j (by rw [HM.out]; exact hlt)
        obtain ⟨b', o', rfl, k0⟩ := (HR.out.below bel) j (by rw [HQ.out]; exact hlt)
        obtain ⟨x, hx⟩ : ∃ x, l.getD j 0 = x := ⟨_, rfl⟩
        obtain ⟨y, hy⟩ : ∃ y, r.getD j 0 = y := ⟨_, rfl⟩
        rw [hx] at g0
        rw [hy] at k0
        have t1 : decide ((j : Int) < m) = true := by simp; omega
        have hji : (j : Int) < m := by omega
        by_cases hxy : x = y
        · have HN := Lib.hid (show ∀ t : Nat, t < j + 1 → l.getD t 0 = r.getD t 0 from fun t ht => by
            by_cases h : t < j
            · exact HE.out t h
            · obtain rfl : t = j := by omega
              rw [hx, hy, hxy])
          have t2 : (x != y) = false := by simp [hxy]
          have t3 : (x == y) = true := by simp [hxy]
          clear hx hy hxy
          go_wp2
          go_quiet (fail)
          go_wp2
          go_roundw
          case rel => exact ⟨j + 1, by omega, by go_num, HN.out, below_drewN bel _⟩
          case measure => simp [intOf]; omega
        · have HN := Lib.hid (show ¬ l = r from fun h => hxy (by rw [← hx, ← hy, h]))
          have t2 : (x != y) = true := by simp [hxy]
          have t3 : (x == y) = false := by simp [hxy]
          clear hx hy hxy
          go_wp2
          go_quiet (fail)
          go_wp2
          go_ret
          exact ⟨ret_eq (congrArg Value.bool (decide_eq_false HN.out).symm), below_drewN bel _⟩
      · obtain rfl : j = m := by omega
        have HN := Lib.hid (show l = r from ext_getD HM.out HQ.out HE.out)
        have t1 : decide ((j : Int) < j) = false := by simp
        go_wp2
        go_ret
        exact ⟨ret_eq (congrArg Value.bool (decide_eq_true HN.out).symm), bel⟩
  · have HN := Lib.hid (show ¬ l = r from fun h => hmq (by rw [← HM.out, ← HQ.out, h]))
    have t0 : ((m : Int) != q) = true := by simp; omega
    go_enter Try.func20, Try.ntmps20
    go_wp2
    go_ret
    exact ⟨ret_eq (congrArg Value.bool (decide_eq_false HN.out).symm), Below.refl _ _⟩
/-- the list l in memory: a slice of n elements at A -/
structure Li (w : World) (A : Option Addr) (n : Nat) (l : List Int) : Prop where
  rd : RdK .i64 w A l
  ln : l.length = n
  mx : n ≤ 100000
theorem Li.below {w w' : World} {A : Option Addr} {n : Nat} {l : List Int} (h : Li w A n l) (hb : Below w.heap.size w w') : Li w' A n l :=
  ⟨h.rd.below hb, h.ln, h.mx⟩
theorem row_li {w : World} {base n : Nat} {v : Value} {l : List Int} (h : w.ownsRow base 3 1 v n (flatI l)) (hn : n ≤ 100000) : ∃ A c, v = .slice A n c ∧ n ≤ c ∧ c ≤ 9223372036854775807 ∧ (A = none → c = 0) ∧ Li w A n l := by
  obtain ⟨hl, A, c, rfl, rd⟩ := row_rd h
  have h0 := h
  rcases h.2 with ⟨e, h2⟩ | ⟨g, cap, cur, e, h1, h2, h3, h4, h5, h6⟩
  · injection e with e1 e2 e3
    subst e1 e3
    exact ⟨none, 0, rfl, by omega, by omega, fun _ => rfl, ⟨rd, hl, hn⟩⟩
  · injection e with e1 e2 e3
    subst e1 e3
    unfold maxLen at h4
    exact ⟨_, _, rfl, h3, by omega, (fun e => by cases e), ⟨rd, hl, hn⟩⟩
/-- a literal list in memory -/
theorem lit_li (w : World) (l : List Int) (t : TypeId) (h : l.length ≤ 100000) : Li (w.alloc (.cells (flatI l).toArray t)) (some ⟨w.heap.size, 0, none⟩) l.length l := by
  refine ⟨fun k hk => ⟨w.heap.size, 0, rfl, ?_⟩, rfl, h⟩
  rw [Nat.zero_add, World.cell?_alloc_new]
  simp [flatI, hk, List.getD_eq_getElem?_getD]
theorem equ_li {w : World} {A B : Option Addr} {n q c d : Nat} {l r : List Int} (h : Li w A n l) (k : Li w B q r) :
    Calls Try.prog 20 #[.slice A n c, .slice B q d] w fun e w' => e = .returned (.bool (decide (l = r))) ∧ Below w.heap.size w w' :=
  equ_any A B n c q d l r w h.ln k.ln (by have := h.mx; unfold maxLen; omega) (by have := k.mx; unfold maxLen; omega) h.rd k.rd
theorem equ_same {w : World} {A B : Option Addr} {n q c d : Nat} {l r : List Int} (h : Li w A n l) (k : Li w B q r) (e : l = r) :
    Calls Try.prog 20 #[.slice A n c, .slice B q d] w fun e w' => e = .returned (.bool true) ∧ Below w.heap.size w w' :=
  (equ_li h k).mono fun _ _ ⟨h1, h2⟩ => ⟨by rw [h1, decide_eq_true e], h2⟩
section
open Go.Deep Go.ChangeShapes Go.WideShapes Go.Joins
variable {H : Type} {enc : TypeId × Value → H} {w : World} {base : Nat} {spare : Nat → Bool} {held : Bool}
theorem cap_ints {A : Option Addr} {n c : Nat} {d : DataW H} {p : List MemPlace} (h : DataW.Trod enc Try.prog w base spare held 22 (.slice A n c) d p) : n ≤ c ∧ c ≤ maxLen := by
  obtain ⟨fuel, hf⟩ := h
  rcases open_slice1 Try.underlying22 (by kernel_rfl) (by simpa [Value.cells] using hf) with ⟨hcs, hx⟩ | ⟨a, len, cap, m, q, V, D, Pl, hcs, hb, hl, hm, hmm, hx, hi⟩
  · simp at hcs
    obtain ⟨rfl, rfl, rfl⟩ := hcs
    exact ⟨Nat.le_refl _, Nat.zero_le _⟩
  · simp at hcs
    obtain ⟨rfl, rfl, rfl⟩ := hcs
    exact ⟨hl, hm⟩
end
theorem mod_any (n : Int) (m : Nat) (h1 : 1 ≤ m) (h2 : m ≤ 1000) (w : World) : Calls Try.prog 31 #[.int .i64 n, .int .i64 (m : Int)] w fun e w' => e = .returned (.int .i64 (n % (m : Int))) ∧ w = w' := by
  have b1 : -(m : Int) < n.tmod m := Int.lt_tmod_of_pos n (by omega)
  have b2 : n.tmod m < m := Int.tmod_lt_of_pos n (by omega)
  have HV := Lib.hid (tmod_two (p := n) (show (0 : Int) < m by omega))
  have e1 : wrap64 (n.tmod m) = n.tmod m := by unfold wrap64; omega
  have z0 : ((m : Int) == 0) = false := by simp; omega
  have z1 : ¬ (m : Int) = 0 := by omega
  have c1 := Int.emod_nonneg n (show (m : Int) ≠ 0 by omega)
  have c2 := Int.emod_lt_of_pos n (show (0 : Int) < m by omega)
  have e3 : (n.tmod m + m) % (m : Int) = n % (m : Int) := by
    have := HV.out
    rw [Int.tmod_eq_emod_of_nonneg (by omega)] at this
    exact this
  have E3 := Lib.hid e3
  have b3 : 0 ≤ n.tmod m + m := by omega
  have b4 : n.tmod m + m ≤ 3000 := by omega
  have m1 : (1 : Int) ≤ m := by omega
  have m2 : (m : Int) ≤ 1000 := by omega
  clear e3
  go_enter Try.func31, Try.ntmps31
  go_wp2
  go_ret
  refine ⟨?_, rfl⟩
  rw [← E3.out]
  rfl
/-- what Thread returns -/
def thV (t p : Int) : Value := if fitE t 1 = 0 then .tuple #[.int .i64 (p % t), .int .i64 0] else .tuple #[.int .i64 0, .int .i64 (fitE t 1)]
theorem thread_any (t p : Int) (w : World) : Calls Try.prog 21 #[.int .i64 t, .int .i64 p] w fun e w' => e = .returned (thV t p) ∧ w = w' := by
  have CF := fun W => Lib.hid (fits_any t 1 W)
  by_cases h0 : fitE t 1 = 0
  · obtain ⟨a1, a2, _, _⟩ := fitE_ok h0
    have HV := Lib.hid (show thV t p = .tuple #[.int .i64 (p % t), .int .i64 0] by unfold thV; rw [if_pos h0])
    rw [h0] at CF
    obtain ⟨T, rfl⟩ := Int.eq_ofNat_of_zero_le (show 0 ≤ t by omega)
    have CC := fun W => Lib.hid (choice_any T p (by omega) (by omega) W)
    clear h0
    go_enter Try.func21, Try.ntmps21
    go_wp2_with fail
    refine (CF _).out.mono ?_
    rintro e w' ⟨rfl, rfl⟩
    go_wp2_with fail
    refine (CC _).out.mono ?_
    rintro e w' ⟨rfl, rfl⟩
    go_wp2
    go_ret2
    exact ⟨by rw [HV.out]; rfl, rfl⟩
  · obtain ⟨r, hr⟩ : ∃ r, fitE t 1 = r := ⟨_, rfl⟩
    have HV := Lib.hid (show thV t p = .tuple #[.int .i64 0, .int .i64 r] by unfold thV; rw [if_neg h0, hr])
    rw [hr] at CF h0
    have z0 : (r == 0) = false := by simp; exact h0
    have z1 : (r != 0) = true := by simp; exact h0
    clear h0 hr
    go_enter Try.func21, Try.ntmps21
    go_wp2_with fail
    refine (CF _).out.mono ?_
    rintro e w' ⟨rfl, rfl⟩
    go_wp2
    go_ret2
    exact ⟨by rw [HV.out]; rfl, rfl⟩
/-- what the functions that make lists return, where there is no error -/
def LiPost (l : List Int) (w : World) (e : Ending) (w' : World) : Prop := ∃ A c, e = .returned (.tuple #[.slice A l.length c, .int .i64 0]) ∧ l.length ≤ c ∧ (A = none → c = 0) ∧ Li w' A l.length l ∧ Below w.heap.size w w' ∧ w'.ownsRow w.heap.size 3 1 (.slice A l.length c) l.length (flatI l)
theorem li_of {l : List Int} {n : Nat} {w w' : World} {e : Ending} (h : ∃ v, e = .returned (.tuple #[v, .int .i64 0]) ∧ w'.ownsRow w.heap.size 3 1 v n (flatI l)) (hn : l.length = n) (hm : n ≤ 100000) (hb : Below w.heap.size w w') : LiPost l w e w' := by
  obtain ⟨v, rfl, ow⟩ := h
  subst hn
  have ow' := ow
  obtain ⟨A, c, rfl, h1, _, h2, h3⟩ := row_li ow hm
  exact ⟨A, c, rfl, h1, h2, h3, hb, ow'⟩
theorem chosen_ok {t : Int} {A : Option Addr} {n c : Nat} {l : List Int} {w : World} (h : Li w A n l) (t1 : 1 ≤ t) (t2 : t ≤ 64) (hn : n ≤ 65536) : Calls Try.prog 12 #[.int .i64 t, .slice A n c] w (LiPost (chI t.toNat l) w) :=
  (chosen_any t A n c l h.ln (by unfold maxLen; omega) w h.rd).mono fun e w' ⟨h1, h2⟩ => by
    rw [if_pos (by unfold fitE; rw [if_neg (by omega), if_neg (by have := h.ln; omega)])] at h1
    exact li_of h1 (by simp [chI]) (by have := h.ln; omega) h2
theorem counts_ok {t : Int} {A : Option Addr} {n c : Nat} {l : List Int} {w : World} (h : Li w A n l) (t1 : 1 ≤ t) (t2 : t ≤ 64) (hn : n ≤ 65536) : Calls Try.prog 14 #[.int .i64 t, .slice A n c] w (LiPost (cntL t.toNat l) w) :=
  (counts_any t A n c l h.ln (by unfold maxLen; omega) w h.rd).mono fun e w' ⟨h1, h2⟩ => by
    rw [if_pos (by unfold fitE; rw [if_neg (by omega), if_neg (by have := h.ln; omega)])] at h1
    exact li_of h1 (by simp [cntL]) (by omega) h2
theorem without_ok {t k : Int} {A : Option Addr} {n c : Nat} {l : List Int} {w : World} (h : Li w A n l) (t1 : 1 ≤ t) (t2 : t ≤ 64) (k1 : 0 ≤ k) (k2 : k < t) (hn : n ≤ 65536) : Calls Try.prog 16 #[.int .i64 t, .int .i64 k, .slice A n c] w (LiPost (woL t k l) w) :=
  (without_any t k A n c l h.ln (by unfold maxLen; omega) w h.rd).mono fun e w' ⟨h1, h2⟩ => by
    rw [if_pos (by unfold fitT fitE; rw [if_neg (by omega), if_neg (by omega), if_neg (by have := h.ln; omega)])] at h1
    exact li_of h1 rfl (by have := woL_len t k l; have := h.ln; omega) h2
theorem gap_ok {t k : Int} {A : Option Addr} {n c : Nat} {l : List Int} {w : World} (h : Li w A n l) (t1 : 1 ≤ t) (t2 : t ≤ 64) (k1 : 0 ≤ k) (k2 : k < t) (hn : n ≤ 65536) : Calls Try.prog 18 #[.int .i64 t, .int .i64 k, .slice A n c] w fun e w' => e = .returned (.tuple #[.int .i64 ((gapF k (chL t.toNat l)).1 : Nat), .int .i64 0]) ∧ Below w.heap.size w w' :=
  (gap_any t k A n c l h.ln (by unfold maxLen; omega) w h.rd).mono fun e w' ⟨h1, h2⟩ => by
    rw [if_pos (by unfold fitT fitE; rw [if_neg (by omega), if_neg (by omega), if_neg (by have := h.ln; omega)])] at h1
    exact ⟨h1, h2⟩
theorem round_ok {t n : Int} {w : World} (t1 : 1 ≤ t) (t2 : t ≤ 64) (n1 : 0 ≤ n) (n2 : n ≤ 65536) : Calls Try.prog 24 #[.int .i64 t, .int .i64 n] w (LiPost (rdL t n.toNat) w) :=
  (round_any t n w).mono fun e w' ⟨h1, h2⟩ => by
    rw [if_pos (by unfold fitE; rw [if_neg (by omega), if_neg (by omega)])] at h1
    exact li_of h1 (by simp [rdL]) (by omega) h2
theorem mixed_ok {s : Nat} {t n : Int} {w : World} (hs : s < 18446744073709551616) (t1 : 1 ≤ t) (t2 : t ≤ 64) (n1 : 0 ≤ n) (n2 : n ≤ 65536) : Calls Try.prog 26 #[.int .u64 s, .int .i64 t, .int .i64 n] w (LiPost (mxL s t n.toNat) w) :=
  (mixed_any s hs t n w).mono fun e w' ⟨h1, h2⟩ => by
    rw [if_pos (by unfold fitE; rw [if_neg (by omega), if_neg (by omega)])] at h1
    exact li_of h1 (by simp [mxL]) (by omega) h2
theorem expand_ok {A : Option Addr} {n c : Nat} {l : List Int} {w : World} (h : Li w A n l) (hn : n ≤ 2000) (hc : n ≤ c) (hc2 : c ≤ 9223372036854775807) (hb : BdI l) (hz : fcE l = 0) (hx : (exN l (l.length / 2)).length ≤ 100000) : Calls Try.prog 29 #[.slice A n c] w (LiPost (exN l (l.length / 2)) w) :=
  (expand_any A n c l h.ln hn hc hc2 hb w h.rd).mono fun e w' ⟨h1, h2⟩ => by
    rw [if_pos hz] at h1
    exact li_of h1 rfl hx h2
end Pk
end Go.Proofs.Ytnoggggbghkgkaa
