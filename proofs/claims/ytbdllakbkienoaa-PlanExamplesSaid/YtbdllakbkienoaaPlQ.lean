/- Get of leapfrogref05 over pairs that are only read (written by tools/mk6get.py out of XOmR and XOmG). Conditions: at most 1000 pairs with increasing keys. -/
import Derived.Test.YtbdllakbkienoaaPlC
namespace Go.Proofs.Ytbdllakbkienoaa
open Go.RowKit Go.Sort
set_option linter.unusedVariables false
set_option linter.unusedSimpArgs false
namespace Om
/-- a map at bm whose pairs lie somewhere -/
def MapRd (w : World) (bm : Nat) (v : Value) (l : List Pr) : Prop := w.cell? ⟨bm, 0, none⟩ = some v ∧ ∃ A c, v = .slice A l.length c ∧ True ∧ Rd w A l ∧ True
theorem MapRd.rd {w : World} {bm : Nat} {v : Value} {l : List Pr} (h : MapRd w bm v l) : ∃ A c, v = .slice A l.length c ∧ True ∧ Rd w A l ∧ True := h.2
theorem MapRd.drewN {w : World} {bm : Nat} {v : Value} {l : List Pr} (h : MapRd w bm v l) (n : Nat) : MapRd (w.drewN n) bm v l := h
theorem MapRd.below {w w' : World} {bm : Nat} {v : Value} {l : List Pr} (h : MapRd w bm v l) (b : Below w.heap.size w w') : MapRd w' bm v l := by
  obtain ⟨c0, A, c, e, _, rd, _⟩ := h
  exact ⟨(b.cell (p := ⟨bm, 0, none⟩) (World.block_lt_of_cell? w ⟨bm, 0, none⟩ c0)).trans c0, A, c, e, trivial, rd.below b, trivial⟩
theorem MapRd.lt {w : World} {bm : Nat} {v : Value} {l : List Pr} (h : MapRd w bm v l) : bm < w.heap.size := World.block_lt_of_cell? w ⟨bm, 0, none⟩ h.1
theorem placeQ_no (bm : Nat) (v : Value) (l : List Pr) (key : Int) (w : World) (hm : MapRd w bm v l) (hlen : l.length ≤ 1000) (hno : ∀ x, x ∈ l → x.1 ≠ key) :
    Calls Try.prog 82 #[.pointer (some ⟨bm, 0, none⟩), .int .u64 key] w fun e w' => e = .returned (.int .i64 (-1)) ∧ w = w' := by
  obtain ⟨A, c, rfl, hc, rd, hz⟩ := hm.rd
  have c0 := hm.1
  have HR := Lib.hid rd; clear rd hm
  have HN := Lib.hid hno; clear hno
  have hl1 : (l.length : Int) ≤ 1000 := by omega
  generalize hn : l.length = n at *
  have HL := Lib.hid hn; clear hn
  go_enter Try.func82, Try.ntmps82
  go_wp2
  go_loop [5] (fun i => ∃ j : Nat, j ≤ n ∧ i = .int .i64 j) (fun i => (n - intOf i).toNat)
  case atStart => exact ⟨0, Nat.zero_le _, rfl⟩
  case round =>
    obtain ⟨j, hj, rfl⟩ := hrel
    by_cases hlt : j < n
    · obtain ⟨x, hx, hmem⟩ := getElem?_lt HL.out hlt
      obtain ⟨b, o, rfl, g0, g1⟩ := HR.out j x hx
      have hne := HN.out x hmem
      have HX := Lib.hid hx; clear hx hmem
      have t1 : (x.1 == key) = false := by simp [hne]
      clear hne
      go_wp2
      go_round
      case rel => exact ⟨j + 1, by omega, by go_num⟩
      case measure => simp [intOf]; omega
    · obtain rfl : j = n := by omega
      go_wp2
      go_ret
      exact ⟨rfl, rfl⟩
theorem placeQ_at (bm : Nat) (v : Value) (l : List Pr) (key u : Int) (i : Nat) (w : World) (hm : MapRd w bm v l) (ha : Asc l) (hlen : l.length ≤ 1000) (hi : l[i]? = some (key, u)) :
    Calls Try.prog 82 #[.pointer (some ⟨bm, 0, none⟩), .int .u64 key] w fun e w' => e = .returned (.int .i64 i) ∧ w = w' := by
  obtain ⟨A, c, rfl, hc, rd, hz⟩ := hm.rd
  have c0 := hm.1
  have HR := Lib.hid rd; clear rd hm
  have hin : i < l.length := (List.getElem?_eq_some_iff.1 hi).1
  have HN := Lib.hid (show ∀ j x, j < i → l[j]? = some x → x.1 ≠ key from fun j x hj hx => by
    have h1 := List.pairwise_iff_getElem.1 ha j i (by omega) hin hj
    have e1 := (List.getElem?_eq_some_iff.1 hx).2
    have e2 := (List.getElem?_eq_some_iff.1 hi).2
    rw [e1, e2] at h1
    simp at h1; omega)
  have HI := Lib.hid hi; clear hi
  have HA := Lib.hid ha; clear ha
  have hl1 : (l.length : Int) ≤ 1000 := by omega
  generalize hn : l.length = n at *
  have HL := Lib.hid hn; clear hn
  go_enter Try.func82, Try.ntmps82
  go_wp2
  go_loop [5] (fun q => ∃ j : Nat, j ≤ i ∧ q = .int .i64 j) (fun q => (n - intOf q).toNat)
  case atStart => exact ⟨0, Nat.zero_le _, rfl⟩
  case round =>
    obtain ⟨j, hj, rfl⟩ := hrel
    have hlt : j < n := by omega
    have hli : (j : Int) < n := by omega
    by_cases hji : j < i
    · obtain ⟨x, hx, hmem⟩ := getElem?_lt HL.out hlt
      obtain ⟨b, o, rfl, g0, g1⟩ := HR.out j x hx
      have hne := HN.out j x hji hx
      have HX := Lib.hid hx; clear hx hmem
      have t1 : (x.1 == key) = false := by simp [hne]
      clear hne
      go_wp2
      go_round
      case rel => exact ⟨j + 1, by omega, by go_num⟩
      case measure => simp [intOf]; omega
    · obtain rfl : j = i := by omega
      obtain ⟨b, o, rfl, g0, g1⟩ := HR.out j _ HI.out
      go_wp2
      go_ret
      exact ⟨rfl, rfl⟩
theorem getRQ_any (bm : Nat) (v : Value) (l : List Pr) (key : Int) (w : World) (hm : MapRd w bm v l) (ha : Asc l) (hs : l.length ≤ 1000) :
    Calls Try.prog 69 #[.pointer (some ⟨bm, 0, none⟩), .int .u64 key] w fun e w' => e = .returned (gT (getL l key)) ∧ Below w.heap.size w w' := by
  cases hg : getL l key with
  | none =>
    have C := Lib.hid (placeQ_no bm v l key w hm hs (getL_none.1 hg))
    clear hg hm
    go_enter Try.func69, Try.ntmps69
    go_wp2_with fail
    refine C.out.mono ?_
    rintro r w1 ⟨rfl, rfl⟩
    go_wp2
    go_ret2
    exact ⟨rfl, Below.refl _ _⟩
  | some u =>
    obtain ⟨i, hi⟩ := getL_at ha hg
    have C := fun W h => Lib.hid (placeQ_at bm v l key u i W h ha hs hi)
    obtain ⟨A, c, rfl, hc, rd, hz⟩ := hm.rd
    have c0 := hm.1
    have HM := Lib.hid hm; clear hm
    have hil : i < l.length := (List.getElem?_eq_some_iff.1 hi).1
    obtain ⟨b, o, rfl, g0, g1⟩ := rd i _ hi
    clear rd hg hi ha
    have hii : (i : Int) < l.length := by omega
    have hl1 : (l.length : Int) ≤ 1000 := by omega
    generalize l.length = n at *
    go_enter Try.func69, Try.ntmps69
    go_wp2_with fail
    refine (C _ HM.out).out.mono ?_
    rintro r w1 ⟨rfl, rfl⟩
    go_wp2
    go_quiet ((go_at_call 82; apply quiet_left; exact (C _ (HM.out.drewN _)).out))
    go_wp2
    go_ret2
    exact ⟨rfl, below_drewN (Below.refl _ _) _⟩
end Om
end Go.Proofs.Ytbdllakbkienoaa
