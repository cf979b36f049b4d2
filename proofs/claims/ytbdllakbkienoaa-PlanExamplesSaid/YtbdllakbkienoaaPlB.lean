/- between of leapfrogref06: contract of the translated code. Conditions: at most 1000 pairs with increasing keys each, 1000 keys. -/
import Derived.Test.YtbdllakbkienoaaPlF
namespace Go.Proofs.Ytbdllakbkienoaa
open Go.RowKit Go.Sort
set_option linter.unusedVariables false
set_option linter.unusedSimpArgs false
namespace Pl
open Om (addr_lit bel_alloc bel_trans below_drewN ret_eq Asc MapRd getL gT getRQ_any)
def btw1 (f g : Int → Option Int) (k : Int) : Rc := ⟨k, (f k).isSome, (f k).getD 0, (g k).isSome, (g k).getD 0⟩
def btw (f g : Int → Option Int) (ks : List Int) : List Rc := ks.map (btw1 f g)
theorem btw_take {f g : Int → Option Int} {ks : List Int} {j : Nat} {k : Int} (h : ks[j]? = some k) : btw f g (ks.take (j + 1)) = btw f g (ks.take j) ++ [btw1 f g k] := by
  unfold btw
  rw [List.take_add_one, h]; simp
/-- a change of the call's own at block p -/
structure B5 (W : World) (p : Nat) (x : Rc) : Prop where
  c0 : W.cell? ⟨p, 0, none⟩ = some (.int .u64 x.k)
  c1 : W.cell? ⟨p, 1, none⟩ = some (.bool x.w)
  c2 : W.cell? ⟨p, 2, none⟩ = some (.int .u64 x.o)
  c3 : W.cell? ⟨p, 3, none⟩ = some (.bool x.i)
  c4 : W.cell? ⟨p, 4, none⟩ = some (.int .u64 x.n)
  f1 : W.frozen? ⟨p, 1, none⟩ = false
  f2 : W.frozen? ⟨p, 2, none⟩ = false
  f3 : W.frozen? ⟨p, 3, none⟩ = false
  f4 : W.frozen? ⟨p, 4, none⟩ = false
theorem B5.lt {W : World} {p : Nat} {x : Rc} (h : B5 W p x) : p < W.heap.size := World.block_lt_of_cell? W ⟨p, 0, none⟩ h.c0
theorem B5.below {W W' : World} {p : Nat} {x : Rc} (h : B5 W p x) (b : Below W.heap.size W W') : B5 W' p x := by
  have lt := h.lt
  have k : ∀ j, W'.cell? ⟨p, j, none⟩ = W.cell? ⟨p, j, none⟩ := fun j => b.cell (p := ⟨p, j, none⟩) lt
  have f : ∀ j, W'.frozen? ⟨p, j, none⟩ = W.frozen? ⟨p, j, none⟩ := fun j => b.frozen (p := ⟨p, j, none⟩) lt
  exact ⟨(k _).trans h.c0, (k _).trans h.c1, (k _).trans h.c2, (k _).trans h.c3, (k _).trans h.c4, (f _).trans h.f1, (f _).trans h.f2, (f _).trans h.f3, (f _).trans h.f4⟩
theorem B5.new (W : World) (k : Int) : B5 (W.alloc (.cells #[.int .u64 k, .bool false, .int .u64 0, .bool false, .int .u64 0] 45)) W.heap.size ⟨k, false, 0, false, 0⟩ :=
  ⟨by simp, by simp, by simp, by simp, by simp, by simp, by simp, by simp, by simp⟩
theorem B5.set21 {W : World} {p : Nat} {x : Rc} (h : B5 W p x) (o : Int) (w : Bool) : B5 ((W.setCell ⟨p, 2, none⟩ (.int .u64 o)).setCell ⟨p, 1, none⟩ (.bool w)) p ⟨x.k, w, o, x.i, x.n⟩ := by
  refine ⟨?_, ?_, ?_, ?_, ?_, ?_, ?_, ?_, ?_⟩
  · rw [World.cell?_setCell_other _ _ _ _ (by simp), World.cell?_setCell_other _ _ _ _ (by simp)]; exact h.c0
  · exact World.cell?_setCell_same _ _ _ (by rw [World.cell?_setCell_other _ _ _ _ (by simp)]; exact h.c1)
  · rw [World.cell?_setCell_other _ _ _ _ (by simp)]; exact World.cell?_setCell_same _ _ _ h.c2
  · rw [World.cell?_setCell_other _ _ _ _ (by simp), World.cell?_setCell_other _ _ _ _ (by simp)]; exact h.c3
  · rw [World.cell?_setCell_other _ _ _ _ (by simp), World.cell?_setCell_other _ _ _ _ (by simp)]; exact h.c4
  · rw [World.frozen?_setCell, World.frozen?_setCell]; exact h.f1
  · rw [World.frozen?_setCell, World.frozen?_setCell]; exact h.f2
  · rw [World.frozen?_setCell, World.frozen?_setCell]; exact h.f3
  · rw [World.frozen?_setCell, World.frozen?_setCell]; exact h.f4
theorem B5.set43 {W : World} {p : Nat} {x : Rc} (h : B5 W p x) (n : Int) (i : Bool) : B5 ((W.setCell ⟨p, 4, none⟩ (.int .u64 n)).setCell ⟨p, 3, none⟩ (.bool i)) p ⟨x.k, x.w, x.o, i, n⟩ := by
  refine ⟨?_, ?_, ?_, ?_, ?_, ?_, ?_, ?_, ?_⟩
  · rw [World.cell?_setCell_other _ _ _ _ (by simp), World.cell?_setCell_other _ _ _ _ (by simp)]; exact h.c0
  · rw [World.cell?_setCell_other _ _ _ _ (by simp), World.cell?_setCell_other _ _ _ _ (by simp)]; exact h.c1
  · rw [World.cell?_setCell_other _ _ _ _ (by simp), World.cell?_setCell_other _ _ _ _ (by simp)]; exact h.c2
  · exact World.cell?_setCell_same _ _ _ (by rw [World.cell?_setCell_other _ _ _ _ (by simp)]; exact h.c3)
  · rw [World.cell?_setCell_other _ _ _ _ (by simp)]; exact World.cell?_setCell_same _ _ _ h.c4
  · rw [World.frozen?_setCell, World.frozen?_setCell]; exact h.f1
  · rw [World.frozen?_setCell, World.frozen?_setCell]; exact h.f2
  · rw [World.frozen?_setCell, World.frozen?_setCell]; exact h.f3
  · rw [World.frozen?_setCell, World.frozen?_setCell]; exact h.f4
set_option maxRecDepth 100000 in
set_option maxHeartbeats 2000000 in
theorem betweenR_any (A B D : Option Addr) (n c n2 c2 m d : Nat) (p q : List Om.Pr) (ks : List Int) (w : World) (hn : p.length = n) (hn2 : q.length = n2) (hm : ks.length = m) (hs : n ≤ 1000) (hs2 : n2 ≤ 1000) (hs3 : m ≤ 1000) (hr : Om.Rd w A p) (hr2 : Om.Rd w B q) (hr3 : RdU w D ks) (ha : Asc p) (ha2 : Asc q) :
    Calls Try.prog 44 #[.slice A n c, .slice B n2 c2, .slice D m d] w fun e w' => ∃ v, e = .returned v ∧ w'.ownsRow w.heap.size 45 5 v m (flat (btw (getL p) (getL q) ks)) ∧ Below w.heap.size w w' := by
  subst hn hn2
  have M1 := boxRd (c := c) hr
  have b1 : Below w.heap.size w (w.alloc (.cells #[.slice A p.length c] 72)) := bel_alloc (Below.refl _ _) _
  have M2 := boxRd (c := c2) (hr2.below b1)
  have b2 : Below (w.alloc (.cells #[.slice A p.length c] 72)).heap.size (w.alloc (.cells #[.slice A p.length c] 72)) ((w.alloc (.cells #[.slice A p.length c] 72)).alloc (.cells #[.slice B q.length c2] 72)) := bel_alloc (Below.refl _ _) _
  have M1 := Lib.hid (M1.below b2)
  have hsz : (w.alloc (.cells #[.slice A p.length c] 72)).heap.size = w.heap.size + 1 := by simp
  rw [hsz] at M2
  have M2 := Lib.hid M2
  have b0 := bel_trans b1 b2
  have HD := Lib.hid (hr3.below b0)
  have HM := Lib.hid hm; clear hm
  have HA := Lib.hid ha; have HA2 := Lib.hid ha2; clear ha ha2
  have HS := Lib.hid hs; have HS2 := Lib.hid hs2; clear hs hs2
  clear hr hr2 hr3 b1 b2 hsz
  have B0 := Lib.hid b0; clear b0
  go_enter Try.func44, Try.ntmps44
  go_upto_region 3 with fail
  obtain ⟨W2, hW2⟩ : ∃ W2, W2 = (w.alloc (.cells #[.slice A p.length c] 72)).alloc (.cells #[.slice B q.length c2] 72) := ⟨_, rfl⟩
  rw [← hW2] at M1 M2 HD B0
  rw [← hW2]
  clear hW2
  go_wp2
  go_loopw [9, 10] (fun r i wr => ∃ j : Nat, j ≤ m ∧ i = .int .i64 j ∧ wr.ownsRow W2.heap.size 45 5 r j (flat (btw (getL p) (getL q) (ks.take j))) ∧ Below W2.heap.size W2 wr) (fun r i _ => (m - intOf i).toNat)
  case atStart => exact ⟨0, Nat.zero_le _, rfl, World.ownsRow_nil _ _ _ _, Below.refl _ _⟩
  case round =>
    obtain ⟨j, hj, rfl, hq, bel⟩ := hrel
    have HQ := Lib.hid hq
    obtain ⟨_, A', c', rfl, _⟩ := row_form hq
    clear hq
    by_cases hlt : j < m
    · obtain ⟨k, hk⟩ := getI_lt HM.out hlt
      obtain ⟨b1, o1, rfl, k0⟩ := (HD.out.below bel) j k hk
      have HK := Lib.hid (btw_take (f := getL p) (g := getL q) hk)
      have kl := World.block_lt_of_cell? _ _ k0
      have u0 : decide ((j : Int) < m) = true := decide_eq_true (by omega)
      have hji : (j : Int) < m := by omega
      clear hk
      go_upto_region 8 with fail
      have X := Lib.hid (B5.new wr k)
      have ba := bel_alloc (Below.refl wr.heap.size wr) (.cells #[.int .u64 k, .bool false, .int .u64 0, .bool false, .int .u64 0] 45)
      have k1 := (ba.cell (p := ⟨b1, o1 + j, none⟩) kl).trans k0
      have BA := Lib.hid ba
      generalize wr.alloc (.cells #[.int .u64 k, .bool false, .int .u64 0, .bool false, .int .u64 0] 45) = W3 at *
      clear ba
      go_wp2_with fail
      refine (getRQ_any _ _ p k _ (M1.out.below (bel_trans bel BA.out)) HA.out HS.out).mono ?_
      unfold gT
      rintro r W4 ⟨rfl, b4⟩
      have X := Lib.hid (X.out.below b4)
      replace k1 := (b4.cell (p := ⟨b1, o1 + j, none⟩) (World.block_lt_of_cell? _ _ k1)).trans k1
      have BB := Lib.hid (bel_trans BA.out b4)
      clear b4 BA
      have x1 := X.out.c1; have x2 := X.out.c2; have f1 := X.out.f1; have f2 := X.out.f2
      go_upto_region 9 with fail
      have X := Lib.hid (X.out.set21 ((getL p k).getD 0) (getL p k).isSome)
      have BB := Lib.hid ((BB.out.setCell (p := ⟨wr.heap.size, 2, none⟩) (Nat.le_refl _) (.int .u64 ((getL p k).getD 0))).setCell (p := ⟨wr.heap.size, 1, none⟩) (Nat.le_refl _) (.bool (getL p k).isSome))
      have k2 := (BB.out.cell (p := ⟨b1, o1 + j, none⟩) kl).trans k0
      clear x1 x2 f1 f2 k1
      generalize (W4.setCell ⟨wr.heap.size, 2, none⟩ (.int .u64 ((getL p k).getD 0))).setCell ⟨wr.heap.size, 1, none⟩ (.bool (getL p k).isSome) = W5 at *
      go_wp2_with fail
      refine (getRQ_any _ _ q k _ (M2.out.below (bel_trans bel BB.out)) HA2.out HS2.out).mono ?_
      unfold gT
      rintro r W6 ⟨rfl, b6⟩
      have X := Lib.hid (X.out.below b6)
      have BB := Lib.hid (bel_trans BB.out b6)
      clear b6 k2
      have x3 := X.out.c3; have x4 := X.out.c4; have f3 := X.out.f3; have f4 := X.out.f4
      go_upto_region 10 with fail
      have X := Lib.hid (X.out.set43 ((getL q k).getD 0) (getL q k).isSome)
      have BB := Lib.hid ((BB.out.setCell (p := ⟨wr.heap.size, 4, none⟩) (Nat.le_refl _) (.int .u64 ((getL q k).getD 0))).setCell (p := ⟨wr.heap.size, 3, none⟩) (Nat.le_refl _) (.bool (getL q k).isSome))
      clear x3 x4 f3 f4
      generalize (W6.setCell ⟨wr.heap.size, 4, none⟩ (.int .u64 ((getL q k).getD 0))).setCell ⟨wr.heap.size, 3, none⟩ (.bool (getL q k).isSome) = W7 at *
      have x0 := X.out.c0; have x1 := X.out.c1; have x2 := X.out.c2; have x3 := X.out.c3; have x4 := X.out.c4
      simp only at x0 x1 x2 x3 x4
      have HQ7 := Lib.hid (row_below HQ.out BB.out)
      have bel7 := bel_trans bel BB.out
      go_wp2_with (at_builtin; refine app1 rfl (.tmp 51) (.tmp 53) rfl _ W2.heap.size _ _ (btw (getL p) (getL q) (ks.take j)) (btw1 (getL p) (getL q) k) rfl rfl HQ7.out (by omega) bel7.size ?_; intro v8 w8 h1 b8; have HW8 := Lib.hid h1; clear h1)
      go_roundw
      case rel => exact ⟨j + 1, by omega, by go_num, by rw [HK.out]; exact HW8.out, bel7.trans b8⟩
      case measure => simp [intOf]; omega
    · obtain rfl : j = m := by omega
      have u0 : decide ((j : Int) < j) = false := decide_eq_false (by omega)
      have HT := Lib.hid (show ks.take j = ks from List.take_of_length_le (by rw [HM.out]; omega))
      go_wp2
      go_ret
      exact ⟨_, rfl, row_base (by have h := HQ.out; rw [HT.out] at h; exact h) B0.out.size, bel_trans B0.out bel⟩
end Pl
end Go.Proofs.Ytbdllakbkienoaa
