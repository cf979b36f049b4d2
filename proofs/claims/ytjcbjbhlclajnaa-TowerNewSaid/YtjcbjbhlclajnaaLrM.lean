/- leapfrogref09: its lists of heights and of places as mathematics. No conditions besides those of each lemma. -/
import Derived.Test.YtjcbjbhlclajnaaLrG
import Derived.Test.YtjcbjbhlclajnaaLyH1
namespace Go.Proofs.Ytjcbjbhlclajnaa
open Go.RowKit Go.Sort
set_option linter.unusedVariables false
set_option linter.unusedSimpArgs false
set_option maxRecDepth 100000
namespace Ly
/-- the heights of the towers -/
def hL (t : Nat → Nat) : Nat → List Int
  | 0 => []
  | n + 1 => hL t n ++ List.replicate (t n) ((n + 1 : Nat) : Int)
theorem hL_len (t : Nat → Nat) : ∀ n, (hL t n).length = tot t n
  | 0 => rfl
  | n + 1 => by rw [hL, tot, List.length_append, List.length_replicate, hL_len t n]
theorem rep_snoc {α : Type} (n : Nat) (x : α) : List.replicate (n + 1) x = List.replicate n x ++ [x] := by
  rw [List.replicate_succ']
/-- the words of towers, from the tower i on -/
def twL : Nat → List Int → List Pl
  | _, [] => []
  | i, h :: r => grp 9 i (5 + h.toNat) (5 + h.toNat) ++ twL (i + 1) r
theorem twL_app : ∀ (a b : List Int) (i : Nat), twL i (a ++ b) = twL i a ++ twL (i + a.length) b
  | [], b, i => rfl
  | h :: r, b, i => by
    rw [List.cons_append, twL, twL, twL_app r b (i + 1), List.append_assoc, List.length_cons, show i + 1 + r.length = i + (r.length + 1) by omega]
theorem twL_one (i : Nat) (h : Int) : twL i [h] = grp 9 i (5 + h.toNat) (5 + h.toNat) := by rw [twL, twL, List.append_nil]
theorem twL_rep (j : Nat) : ∀ (n i : Nat), twL i (List.replicate n ((j + 1 : Nat) : Int)) = whatL (ones 9 (6 + j) i n)
  | 0, i => rfl
  | n + 1, i => by
    rw [List.replicate_succ, twL, ones, whatL_cons, twL_rep j n (i + 1)]
    congr 1
    rw [show 5 + (((j + 1 : Nat) : Int)).toNat = 6 + j by omega, ← grp_what, Nat.one_mul]
theorem twL_hL (t : Nat → Nat) : ∀ n, twL 1 (hL t n) = whatL (tgs t n)
  | 0 => rfl
  | n + 1 => by
    rw [hL, twL_app, twL_hL t n, hL_len, twL_rep, what_ones, tgs_succ, whatL_app]
    congr 1
    rw [whatL_cons, whatL_nil, List.append_nil]
    rfl
theorem hL_get (t : Nat → Nat) : ∀ (n k : Nat), k < tot t n → ∃ j, j < n ∧ (hL t n)[k]? = some ((j + 1 : Nat) : Int)
  | 0, k, h => by simp [tot] at h
  | n + 1, k, h => by
    rw [tot] at h
    rw [hL]
    by_cases hk : k < tot t n
    · obtain ⟨j, h1, h2⟩ := hL_get t n k hk
      exact ⟨j, by omega, by rw [List.getElem?_append_left (by rw [hL_len]; exact hk)]; exact h2⟩
    · refine ⟨n, by omega, ?_⟩
      rw [List.getElem?_append_right (by rw [hL_len]; omega), hL_len, List.getElem?_replicate, if_pos (by omega)]
/-- the words in front of the towers -/
theorem what_g0 (g : Ge) : whatL (g0 g) = grp 1 0 1 g.S ++ grp 2 0 g.E g.E ++ grp 3 0 1 1 ++ grp 4 0 3 (3 * g.L) ++ grp 5 0 1 g.L ++ grp 6 0 1 6 ++ grp 7 1 1 (tot g.t 6) ++ grp 8 0 7 (g.D * 7) := by
  have e1 : ∀ (k : Int) (i n : Nat), grp k i 1 n = (G.mk k i n 1).what := fun k i n => by rw [← grp_what, Nat.mul_one]
  have e2 : grp 2 0 g.E g.E = (G.mk 2 0 1 g.E).what := by rw [← grp_what, Nat.one_mul]
  have e4 : grp 4 0 3 (3 * g.L) = (G.mk 4 0 g.L 3).what := by rw [← grp_what, Nat.mul_comm]
  have e8 : grp 8 0 7 (g.D * 7) = (G.mk 8 0 g.D 7).what := by rw [← grp_what]
  rw [e1, e1, e1, e1, e1, e2, e4, e8]
  simp only [g0, whatL, List.flatMap_cons, List.flatMap_nil, List.append_nil, List.append_assoc]
theorem what_gs (g : Ge) : whatL (gs g) = whatL (g0 g) ++ twL 1 (hL g.t 6) := by rw [gs, whatL_app, twL_hL]
theorem what_g0_len (g : Ge) : (whatL (g0 g)).length = pT g := by rw [whatL_len, total_g0]
theorem what_gs_len (g : Ge) : (whatL (gs g)).length = pW g := by rw [whatL_len, total_gs]
theorem pW_20 {g : Ge} (ok : g.ok) : pW g ≤ 20000 := by
  have := wds_tot g.t 6 (Nat.le_refl _)
  have := ok.s2; have := ok.e2; have := ok.l2; have := ok.d2; have := ok.tt
  unfold pW pT; omega
theorem twL_len_le (g : Ge) (k : Nat) : (whatL (g0 g) ++ twL 1 ((hL g.t 6).take k)).length ≤ pW g := by
  rw [← what_gs_len, what_gs]
  conv => rhs; rw [← List.take_append_drop k (hL g.t 6), twL_app]
  simp only [List.length_append]
  omega
/-- a layout of the specification in memory -/
structure RAt (w : World) (b : Nat) (g : Ge) : Prop where
  lt : b < w.heap.size
  pl : ∀ i, i < 10 → w.cell? ⟨b, 16 + i, none⟩ = some (.int .i64 (plN g i : Nat))
  hr : ∃ A c, w.cell? ⟨b, 26, none⟩ = some (.slice A (tot g.t 6) c) ∧ KI.Rd w A (hL g.t 6)
  pr : ∃ A c, w.cell? ⟨b, 27, none⟩ = some (.slice A (pW g) c) ∧ KP.Rd w A (whatL (gs g))
theorem RAt.below {w w' : World} {b : Nat} {g : Ge} (h : RAt w b g) (hb : Below w.heap.size w w') : RAt w' b g := by
  have k : ∀ j, w'.cell? ⟨b, j, none⟩ = w.cell? ⟨b, j, none⟩ := fun j => hb.cell (p := ⟨b, j, none⟩) h.lt
  refine ⟨Nat.lt_of_lt_of_le h.lt hb.size, fun i hi => (k _).trans (h.pl i hi), ?_, ?_⟩
  · obtain ⟨A, c, h1, h2⟩ := h.hr
    exact ⟨A, c, (k _).trans h1, h2.below hb⟩
  · obtain ⟨A, c, h1, h2⟩ := h.pr
    exact ⟨A, c, (k _).trans h1, h2.below hb⟩
theorem Rs.at {w00 w : World} {N0 b bc base : Nat} {f f0 : Cf} {p : Nat → Int} {g : Ge} (h : Rs w00 N0 b bc base f f0 w p (hL g.t 6) (whatL (gs g))) (hp : ∀ i, i < 10 → p i = (plN g i : Nat)) : RAt w b g := by
  obtain ⟨hv, pv, h1, h2, h3, h4, _⟩ := h.rows
  obtain ⟨_, A, c, rfl, _, r1, _⟩ := KI.row h3
  obtain ⟨_, A2, c2, rfl, _, r2, _⟩ := KP.row h4
  rw [hL_len] at h1
  rw [what_gs_len] at h2
  exact ⟨h.lt, fun i hi => by rw [← hp i hi]; exact h.pl i hi, ⟨A, c, h1, r1⟩, ⟨A2, c2, h2, r2⟩⟩
theorem Rs.at_ {w00 w : World} {N0 b bc base : Nat} {f f0 : Cf} {p : Nat → Int} {g : Ge} {hs : List Int} (h : Rs w00 N0 b bc base f f0 w p hs (whatL (gs g))) (hh : hL g.t 6 = hs) (hp : ∀ i, i < 10 → p i = (plN g i : Nat)) : RAt w b g := by
  subst hh; exact h.at hp
section
variable {w00 w : World} {N0 b bc base : Nat} {f f0 : Cf} {p : Nat → Int} {hs : List Int} {ps : List Pl}
/-- a height is appended -/
theorem Rs.pushH {W w1 : World} {h : Int} {hv pv v' : Value} (H : Rs w00 N0 b bc base f f0 w p hs ps)
    (ch : w.cell? ⟨b, 26, none⟩ = some hv) (cp : w.cell? ⟨b, 27, none⟩ = some pv) (rp : w.ownsRow base KP.E KP.sz pv ps.length (KP.flat ps)) (ne : ∀ g, hv.ownBlock = some g → pv.ownBlock ≠ some g)
    (BB : Below w.heap.size w W) (hb : ∀ q, hv.ownBlock = some q → base ≤ q ∧ q < w.heap.size)
    (own1 : w1.ownsRow base KI.E KI.sz v' (hs.length + 1) (KI.flat (hs ++ [h]))) (kp : Kp W hv w1 v') :
    Rs w00 N0 b bc base f f0 (w1.setCell ⟨b, 26, none⟩ v') p (hs ++ [h]) ps := by
  have ob := H.o1
  have o6 := H.o6
  have oc := H.oc
  have hsz := BB.size
  have hbW : Below base W w1 := kp.bel (by omega) fun k hk => (hb k hk).1
  have hb1 : Below base w w1 := (BB.mono o6).trans hbW
  have hw1 : ∀ j, w1.cell? ⟨b, j, none⟩ = w.cell? ⟨b, j, none⟩ := fun j => hb1.cell (p := ⟨b, j, none⟩) ob
  refine H.remade (fun j hj => by rw [cell_set (by omega)]; exact hw1 j) ⟨v', pv, World.cell?_setCell_same _ _ _ ((hw1 26).trans ch), by rw [cell_set (by omega), hw1]; exact cp, ?_, ?_, ?_⟩ (fun j => by rw [World.frozen?_setCell]; exact hb1.frozen (p := ⟨b, j, none⟩) ob) ?_ (fun j => by rw [cell_set_b H.oc2]; exact hb1.cell (p := ⟨bc, j, none⟩) oc)
  · rw [show (hs ++ [h]).length = hs.length + 1 by simp]
    exact KI.own_keep own1 fun q hq => Below.heap_setCell _ _ _ _ (by have := (own1.lt q hq).1; show q ≠ b; omega)
  · refine KP.own_keep (KP.own_keep rp fun q hq => ?_) fun q hq => Below.heap_setCell _ _ _ _ (by have := (rp.lt q hq).1; show q ≠ b; omega)
    have hq2 := rp.lt q hq
    rw [kp.blk q (by omega) (fun e => ne q e hq)]
    exact BB.block q hq2.2
  · intro q hq e
    have h1 := rp.lt q e
    rcases kp.own q hq with h | h
    · exact ne q h e
    · omega
  · exact (hb1.mono (Nat.le_trans H.o7 (Nat.le_of_lt ob))).setCell (p := ⟨b, 26, none⟩) H.o7 _
end
end Ly
end Go.Proofs.Ytjcbjbhlclajnaa
