/- The queue's least and Pop, heap.Push and heap.Pop, take of package merge: contracts of the translated code. Conditions: those of XQhA. -/
import Derived.Test.YtbndgbjenmknmaaDoorQhC
namespace Go.Proofs.YtbndgbjenmknmaaDoor
open Go.RowKit Go.Sort
set_option linter.unusedVariables false
set_option linter.unusedSimpArgs false
namespace Hq
open Om (bel_alloc below_drewN)
theorem Qu.cut {w : World} {b q n c : Nat} {a : Nat → Cd} (h : Qu w b q (n + 1) c a) : Qu (w.setCell ⟨b, 2, none⟩ (.slice (some ⟨q, 0, none⟩) n c)) b q n c a :=
  Qu.head h.hd h.fz h.shp (fun k hk => h.cs k (by omega)) (by have := h.nc; omega) h.ne (by have := h.n64; omega)
def PoP (b q n c : Nat) (a : Nat → Cd) (w w' : World) : Prop := Qu w' b q n c a ∧ Ch b (Two b q) w w'
set_option maxRecDepth 100000 in
set_option maxHeartbeats 1000000 in
theorem pop_x (b q n c : Nat) (a : Nat → Cd) (w : World) (h : Qu w b q (n + 1) c a) :
    Calls Tryd.prog 101 #[.pointer (some ⟨b, 2, none⟩)] w fun e w' => e = .returned (.iface 73 (agg (a n))) ∧ PoP b q n c a w w' := by
  have HH := Lib.hid h
  have hd := h.hd
  have fz := h.fz
  have hbl := h.lt
  have n64 := h.n64
  have hnc := h.nc
  obtain ⟨c0, c1, c2⟩ := h.cs n (by omega)
  clear h
  unfold agg
  go_enter Tryd.func101, Tryd.ntmps101
  go_wp2
  go_ret
  exact ⟨rfl, HH.out.cut.below (bel_alloc (Below.refl _ _) _), ((Ch.refl b (Two b q) w).set ⟨b, 2, none⟩ _ (.inl ⟨.inl rfl, fun _ => rfl⟩)).alloc _⟩
set_option maxRecDepth 100000 in
set_option maxHeartbeats 1000000 in
theorem least_no (A : Option Addr) (c : Nat) (w : World) :
    Calls Tryd.prog 100 #[.slice A 0 c] w fun e w' => e = .returned (.tuple #[agg ⟨0, 0, 0⟩, .bool false]) ∧ Below w.heap.size w w' := by
  go_enter Tryd.func100, Tryd.ntmps100
  go_wp2
  exact bodyPost_ret (v := .tuple #[agg ⟨0, 0, 0⟩, .bool false]) (by simp [agg, results, Tryd.results100, go_sem]) rfl ⟨rfl, bel_alloc (Below.refl _ _) _⟩
set_option maxRecDepth 100000 in
set_option maxHeartbeats 1000000 in
theorem least_yes (b q n c : Nat) (a : Nat → Cd) (w : World) (h : Qu w b q n c a) (hn : 0 < n) :
    Calls Tryd.prog 100 #[.slice (some ⟨q, 0, none⟩) n c] w fun e w' => e = .returned (.tuple #[agg (a 0), .bool true]) ∧ Below w.heap.size w w' := by
  obtain ⟨c0, c1, c2⟩ := h.cs 0 hn
  have hlt := h.lt
  have n64 := h.n64
  have hnc := h.nc
  simp only [Nat.zero_mul, Nat.zero_add] at c0 c1 c2
  have t0 : ((n : Int) == 0) = false := beq_eq_false_iff_ne.2 (by omega)
  go_enter Tryd.func100, Tryd.ntmps100
  go_wp2
  exact bodyPost_ret (v := .tuple #[agg (a 0), .bool true]) (by simp [agg, results, Tryd.results100, go_sem]) rfl ⟨rfl, bel_alloc (Below.refl _ _) _⟩
/-- one more in its place, sifted up -/
def HPu (b n : Nat) (v : Value) (a : Nat → Cd) (x : Cd) (w w' : World) : Prop := ∃ q c a', Qu w' b q (n + 1) c a' ∧ Hp.Ok key a' (n + 1) ∧ Pm (n + 1) (fun k => if k = n then x else a k) a' ∧ (v.ownBlock = some q ∨ w.heap.size ≤ q) ∧ Ch b (Own b v) w w'
theorem two_own {b q : Nat} {v : Value} {w : World} (h : v.ownBlock = some q ∨ w.heap.size ≤ q) : ∀ k, k < w.heap.size → Two b q k → Own b v k := fun k hk e => by
  rcases e with rfl | rfl
  · exact .inl rfl
  · rcases h with h | h
    · exact .inr h
    · omega
set_option maxRecDepth 100000 in
set_option maxHeartbeats 1000000 in
theorem hpush_any (b n : Nat) (v : Value) (a : Nat → Cd) (x : Cd) (w : World) (h : Q0 w b n v a) (hn : n < 64) (ho : Hp.Ok key a n) :
    Calls Tryd.prog 38 #[iq b, .iface 73 (agg x)] w fun e w' => e = .returned (.tuple #[]) ∧ HPu b n v a x w w' := by
  have m1 := fun g => via_push g ⟨b, 2, none⟩ w
  have m0 := fun g => nil_any g ⟨b, 2, none⟩ w "Push" (by simp)
  have CP := Lib.hid (push_any b n v a x w h hn)
  have HU := Lib.hid (show Hp.Up key (fun k => if k = n then x else a k) (n + 1) n from Hp.Ok.push key fun k k0 kn => by
    simp only [key] at ho ⊢
    rw [if_neg (by omega), if_neg (by omega)]; exact ho k k0 kn)
  clear h ho
  unfold iq
  go_enter Tryd.func38, Tryd.ntmps38
  go_wp2_with fail
  refine CP.out.mono ?_
  rintro r w1 ⟨rfl, q, c, hq, hat, hch⟩
  clear m0 m1
  have m1 := fun g => via_len g b _ (n + 1) c w1 hq.hd
  have m0 := fun g => nil_any g ⟨b, 2, none⟩ w1 "Len" (by simp)
  have CU := Lib.hid (up_any b q (n + 1) c n _ w1 hq HU.out)
  have HA := Lib.hid hat
  have HQ := Lib.hid hq
  clear hat hq
  unfold iq at CU
  go_wp2_with fail
  refine (len_x _ _ _ _).mono ?_
  rintro r w2 ⟨rfl, rfl⟩
  clear m0 m1
  go_wp2_with fail
  refine CU.out.mono ?_
  rintro r w3 ⟨rfl, a', hq', ho', hp', hc'⟩
  go_wp2
  go_end0
  exact ⟨rfl, q, c, a', hq', ho', hp', HA.out, hch.trans (hc'.mono fun _ h => h) fun k hk e => two_own HA.out k hk e⟩
def HPo (b q n c : Nat) (a : Nat → Cd) (w w' : World) : Prop := ∃ a', Qu w' b q n c a' ∧ Hp.Ok key a' n ∧ Pm n (Hp.sw a 0 n) a' ∧ Ch b (Two b q) w w'
set_option maxRecDepth 100000 in
set_option maxHeartbeats 1000000 in
theorem hpop_any (b q n c : Nat) (a : Nat → Cd) (w : World) (h : Qu w b q (n + 1) c a) (ho : Hp.Ok key a (n + 1)) :
    Calls Tryd.prog 49 #[iq b] w fun e w' => e = .returned (.iface 73 (agg (a 0))) ∧ HPo b q n c a w w' := by
  have m1 := fun g => via_len g b _ (n + 1) c w h.hd
  have m0 := fun g => nil_any g ⟨b, 2, none⟩ w "Len" (by simp)
  have m2 := fun g => via_swap g b _ (n + 1) c w h.hd
  have m3 := fun g => nil_any g ⟨b, 2, none⟩ w "Swap" (by simp)
  have n64 := h.n64
  have CS := Lib.hid (swap_q (i := 0) (j := n) h (by omega) (by omega))
  have HD := Lib.hid ho.pop
  clear h ho
  unfold iq
  go_enter Tryd.func49, Tryd.ntmps49
  go_wp2_with fail
  refine (len_x _ _ _ _).mono ?_
  rintro r w2 ⟨rfl, rfl⟩
  clear m0 m1
  go_wp2_with fail
  refine CS.out.mono ?_
  rintro r w1 ⟨rfl, hq1, hc1⟩
  clear m2 m3
  have CD := Lib.hid (down_any b q (n + 1) n c _ w1 hq1 (by omega) HD.out)
  unfold iq at CD
  go_wp2_with fail
  refine CD.out.mono ?_
  rintro r w2 ⟨x, a', rfl, hq2, ho2, hp2, hc2⟩
  have m1 := fun g => via_pop g ⟨b, 2, none⟩ w2
  have m0 := fun g => nil_any g ⟨b, 2, none⟩ w2 "Pop" (by simp)
  have CP := pop_x b q n c a' w2 hq2
  rw [show a' n = a 0 from (hp2.far n (Nat.le_refl n)).trans (Hp.sw_r a 0 n)] at CP
  have CP := Lib.hid CP
  go_wp2_with fail
  refine CP.out.mono ?_
  rintro r w3 ⟨rfl, hq3, hc3⟩
  go_wp2
  go_ret
  exact ⟨rfl, a', hq3, ho2, hp2, hc1.trans (hc2.trans hc3 fun _ _ h => h) fun _ _ h => h⟩
end Hq
end Go.Proofs.YtbndgbjenmknmaaDoor
