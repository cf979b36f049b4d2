/- Fits and between of leapfrogref06: contracts of the translated code. Conditions: at most 1000 pairs with increasing keys, 1000 changes or keys. -/
import Derived.Test.YtbdllakbkienoaaPlQ
import Derived.Test.YtbdllakbkienoaaPlG
import Derived.Deep.CutBlock
import Derived.Deep.CutRange
namespace Go.Proofs.Ytbdllakbkienoaa
open Go.RowKit Go.Sort
set_option linter.unusedVariables false
set_option linter.unusedSimpArgs false
namespace Pl
open Om (addr_lit bel_alloc bel_trans below_drewN ret_eq Asc MapRd getL gT getRQ_any)
/-- what a change says of pairs before -/
def fit1 (p : List Om.Pr) (x : Rc) : Prop := (getL p x.k).getD 0 = x.o ∧ (getL p x.k).isSome = x.w
theorem boxRd {w : World} {A : Option Addr} {c : Nat} {p : List Om.Pr} (h : Om.Rd w A p) : MapRd (w.alloc (.cells #[.slice A p.length c] 72)) w.heap.size (.slice A p.length c) p :=
  ⟨by simp, A, c, rfl, trivial, h.below (bel_alloc (Below.refl _ _) _), trivial⟩
set_option maxHeartbeats 1000000 in
theorem fitsR_any (A B : Option Addr) (n c m d : Nat) (p : List Om.Pr) (l : List Rc) (w : World) (hn : p.length = n) (hm : l.length = m) (hs : n ≤ 1000) (hs2 : m ≤ 1000) (hr : Om.Rd w A p) (ha : Asc p) (hr2 : Rd w B l) (b : Bool) (hb : b = true ↔ ∀ x, x ∈ l → fit1 p x) :
    Calls Try.prog 51 #[.slice A n c, .slice B m d] w fun e w' => e = .returned (.bool b) ∧ Below w.heap.size w w' := by
  subst hn
  have M0 := boxRd (c := c) hr
  have b0 : Below w.heap.size w (w.alloc (.cells #[.slice A p.length c] 72)) := bel_alloc (Below.refl _ _) _
  have HR2 := Lib.hid hr2; clear hr2
  have HM := Lib.hid hm; clear hm
  have HB := Lib.hid hb; clear hb
  have HA := Lib.hid ha; clear ha
  have HS := Lib.hid hs; clear hs
  clear hr
  have M0 := Lib.hid M0
  go_enter Try.func51, Try.ntmps51
  go_wp2
  go_loopw [6] (fun i wr => ∃ j : Nat, j ≤ m ∧ i = .int .i64 j ∧ (∀ t x, t < j → l[t]? = some x → fit1 p x) ∧ MapRd wr w.heap.size (.slice A p.length c) p ∧ Below w.heap.size w wr) (fun i _ => (m - intOf i).toNat)
  case atStart => exact ⟨0, Nat.zero_le _, rfl, fun t x h => absurd h (Nat.not_lt_zero _), M0.out, b0⟩
  case round =>
    clear M0 b0
    obtain ⟨j, hj, rfl, hE, hMM, bel⟩ := hrel
    have HE := Lib.hid hE; clear hE
    have MM := Lib.hid hMM; clear hMM
    by_cases hlt : j < m
    · obtain ⟨x, hx, hmem⟩ := getElem?_lt HM.out hlt
      have u0 : decide ((j : Int) < m) = true := decide_eq_true (by omega)
      have hji : (j : Int) < m := by omega
      obtain ⟨b1, o, rfl, g0, g1, g2, g3, g4⟩ := (HR2.out.below bel) j x hx
      obtain ⟨gv, hgv⟩ : ∃ gv, (getL p x.k).getD 0 = gv := ⟨_, rfl⟩
      obtain ⟨gs, hgs⟩ : ∃ gs, (getL p x.k).isSome = gs := ⟨_, rfl⟩
      have GV := Lib.hid hgv; have GS := Lib.hid hgs; clear hgv hgs
      have HX := Lib.hid hx; have HMEM := Lib.hid hmem; clear hx hmem
      go_wp2_with fail
      refine (getRQ_any _ _ p x.k _ MM.out HA.out HS.out).mono ?_
      unfold gT
      rw [GV.out, GS.out]
      rintro r w2 ⟨rfl, b2⟩
      replace g1 := (b2.cell (p := ⟨b1, _, none⟩) (World.block_lt_of_cell? _ _ g1)).trans g1
      replace g2 := (b2.cell (p := ⟨b1, _, none⟩) (World.block_lt_of_cell? _ _ g2)).trans g2
      clear g0 g3 g4
      have bel2 := bel_trans bel b2
      have MM := Lib.hid (MM.out.below b2)
      clear b2
      by_cases h1 : gv = x.o
      · have t1 : (gv != x.o) = false := by simp [h1]
        by_cases h2 : gs = x.w
        · have t2 : (gs != x.w) = false := by simp [h2]
          have t3 : (gs == x.w) = true := by simp [h2]
          have t4 : (gs ^^ x.w) = false := by simp [h2]
          have HN := Lib.hid (show ∀ t z, t < j + 1 → l[t]? = some z → fit1 p z from fun t z ht hz => by
            by_cases h : t < j
            · exact HE.out t z h hz
            · obtain rfl : t = j := by omega
              rw [HX.out] at hz; cases hz; exact ⟨GV.out.trans h1, GS.out.trans h2⟩)
          clear h1 h2
          go_wp2
          go_roundw
          case rel => exact ⟨j + 1, by omega, by go_num, HN.out, MM.out, bel2⟩
          case measure => simp [intOf]; omega
        · have t2 : (gs != x.w) = true := by simp [h2]
          have t3 : (gs == x.w) = false := by simp [h2]
          have t4 : (gs ^^ x.w) = true := by cases gs <;> cases hw : x.w <;> simp_all
          have HN := Lib.hid (show b = false from by
            cases b with
            | false => rfl
            | true => exact absurd (GS.out.symm.trans (HB.out.1 rfl x HMEM.out).2) h2)
          clear h1 h2
          go_wp2
          go_ret
          exact ⟨by rw [HN.out]; rfl, bel2⟩
      · have t1 : (gv != x.o) = true := by simp [h1]
        have HN := Lib.hid (show b = false from by
          cases b with
          | false => rfl
          | true => exact absurd (GV.out.symm.trans (HB.out.1 rfl x HMEM.out).1) h1)
        clear h1
        go_wp2
        go_ret
        exact ⟨by rw [HN.out]; rfl, bel2⟩
    · obtain rfl : j = m := by omega
      have u0 : decide ((j : Int) < j) = false := decide_eq_false (by omega)
      have HN := Lib.hid (show b = true from HB.out.2 fun x hx => by
        obtain ⟨t, ht⟩ := List.mem_iff_getElem?.1 hx
        exact HE.out t x (by have := (List.getElem?_eq_some_iff.1 ht).1; have := HM.out; omega) ht)
      go_wp2
      go_ret
      exact ⟨by rw [HN.out]; rfl, bel⟩
end Pl
end Go.Proofs.Ytbdllakbkienoaa
