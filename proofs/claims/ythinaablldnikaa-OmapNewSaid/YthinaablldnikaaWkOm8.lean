/- The walk of the law OmapNew (written by tools/mk9om.py), from the contracts of package omap and of leapfrogref05. Conditions: those of the contracts. -/
import Derived.Test.YthinaablldnikaaWkOm6
import Derived.Test.YthinaablldnikaaOmJ
namespace Go.Proofs.Ythinaablldnikaa
open Go.RowKit Go.Sort
set_option linter.unusedVariables false
set_option linter.unusedSimpArgs false
namespace Om
/-- a row of m pairs of the call's own that may be written over -/
def Wq (B : Nat) (Z : Nat → Prop) (W : World) (A : Option Addr) (m : Nat) : Prop := ∀ i, i < m → ∃ g, A = some ⟨g, 0, none⟩ ∧ B ≤ g ∧ Z g ∧ ∃ x y : Int, W.cell? ⟨g, i * 2, none⟩ = some (.int .u64 x) ∧ W.cell? ⟨g, i * 2 + 1, none⟩ = some (.int .u64 y) ∧ W.frozen? ⟨g, i * 2, none⟩ = false ∧ W.frozen? ⟨g, i * 2 + 1, none⟩ = false
theorem Wq.of {B C m c : Nat} {Z : Nat → Prop} {W : World} {A : Option Addr} {l : List Pr} (hr : W.ownsRow C 45 2 (.slice A m c) m (flat l)) (hB : B ≤ C) (hZ : ∀ g, C ≤ g → g < W.heap.size → Z g) : Wq B Z W A m := by
  obtain ⟨hl, A', c', e, _, rd, own⟩ := row_form hr
  cases e
  intro i hi
  obtain ⟨x, hx, _⟩ := getElem?_lt hl hi
  obtain ⟨b, o, ea, _, _⟩ := rd i x hx
  obtain ⟨h1, h2, g, eg, ow⟩ := own _ ea
  cases eg
  obtain ⟨c0, c1, f0, f1⟩ := ow i x hx
  rw [Nat.zero_add] at c0 c1 f0 f1
  exact ⟨b, ea, Nat.le_trans hB h1, hZ b h1 h2, x.1, x.2, c0, c1, f0, f1⟩
theorem Wq.below {B m : Nat} {Z : Nat → Prop} {W W' : World} {A : Option Addr} (h : Wq B Z W A m) (b : Below W.heap.size W W') : Wq B Z W' A m := fun i hi => by
  obtain ⟨g, e, hB, hZ, x, y, c0, c1, f0, f1⟩ := h i hi
  have hlt : g < W.heap.size := World.block_lt_of_cell? W _ c0
  exact ⟨g, e, hB, hZ, x, y, (b.cell (p := ⟨g, _, none⟩) hlt).trans c0, (b.cell (p := ⟨g, _, none⟩) hlt).trans c1, (b.frozen (p := ⟨g, _, none⟩) hlt).trans f0, (b.frozen (p := ⟨g, _, none⟩) hlt).trans f1⟩
theorem cell_set (W : World) (p : Addr) (z x : Int) (a : Addr) (h : W.cell? a = some (.int .u64 x)) : ∃ y : Int, (W.setCell p (.int .u64 z)).cell? a = some (.int .u64 y) := by
  by_cases e : a = p
  · subst e; exact ⟨z, World.cell?_setCell_same W a (.int .u64 z) h⟩
  · exact ⟨x, (World.cell?_setCell_other _ _ _ _ (by first | exact e | exact fun h => e h.symm)).trans h⟩
theorem Wq.set {B m : Nat} {Z : Nat → Prop} {W : World} {A : Option Addr} (h : Wq B Z W A m) (p : Addr) (z : Int) : Wq B Z (W.setCell p (.int .u64 z)) A m := fun i hi => by
  obtain ⟨g, e, hB, hZ, x, y, c0, c1, f0, f1⟩ := h i hi
  obtain ⟨x', c0'⟩ := cell_set W p z x _ c0
  obtain ⟨y', c1'⟩ := cell_set W p z y _ c1
  exact ⟨g, e, hB, hZ, x', y', c0', c1', by rw [World.frozen?_setCell]; exact f0, by rw [World.frozen?_setCell]; exact f1⟩
theorem Sta.set {B g : Nat} {w1 W : World} {bm bn : Nat} {v u : Value} {l r : List Pr} (h : Sta B w1 W bm v l bn u r) (o : Off g bm v bn u) (hB : B ≤ g) (i : Nat) (z : Value) : Sta B w1 (W.setCell ⟨g, i, none⟩ z) bm v l bn u r := by
  have hk : ∀ k, k ≠ g → (W.setCell ⟨g, i, none⟩ z).heap[k]? = W.heap[k]? := fun k hk => Below.heap_setCell W ⟨g, i, none⟩ z k hk
  exact ⟨h.m.keep (hk _ o.m.symm) fun k e => hk k fun e2 => o.v (e2 ▸ e), h.c.keep (hk _ o.n.symm) fun k e => hk k fun e2 => o.u (e2 ▸ e), h.two, h.hm, h.hn, h.fv, h.fu, h.hw, h.bel.setCell hB z⟩
theorem appAllN {ops : Array Oper} {rest : List Oper} {o : Oper} {a : Act} {Q : Exit → Act → World → Prop} (hgd : o.guard = none) (s x : Operand)
    (ho : o.op = .call { callee := .builtin .append, args := #[s, x], argTypes := #[22, 22] }) (w : World) (N : Nat) (hN : w.heap.size = N) (A : Option Addr) (n c : Nat) (l : List Pr)
    (hs : a.eval s = .slice (some ⟨N, 0, none⟩) 0 0) (hx : a.eval x = .slice A n c) (hl : l.length = n) (hn : n ≤ 2000) (hr : Rd w A l) (hnil : A = none → c = 0)
    (h : ∀ v' w', w'.ownsRow w.heap.size 45 2 v' n (flat l) → Below w.heap.size w w' → wpList Try.prog ops Q rest (a.put o.dst v') w') :
    wpList Try.prog ops Q (o :: rest) a (w.alloc (.cells #[] 45)) := by
  subst hN
  exact appAll hgd s x ho w A n c l hs hx hl hn hr hnil h
theorem Sta.off {B g : Nat} {w1 W : World} {bm bn : Nat} {v u : Value} {l r : List Pr} (h : Sta B w1 W bm v l bn u r) (hg : W.heap.size ≤ g) : Off g bm v bn u := by
  have h1 := h.m.lt
  have h2 := h.c.lt
  exact ⟨by omega, by omega, fun e => by have := h.m.row_lt _ e; omega, fun e => by have := h.c.row_lt _ e; omega⟩
end Om
namespace Wk
open Om
set_option maxRecDepth 100000 in
set_option maxHeartbeats 2000000 in
theorem new_ok (a0 : Option Addr) (a0n a0c : Nat) (a0v : List Om.Pr) (a1Lo : Int) (a1Hi : Int) (w : World) (a0e : a0v.length = a0n) (a0m : a0n ≤ maxLen) (a0r : Om.Rd w a0 a0v) (a0b : Om.Bd a0v) (a0z : a0 = none → a0c = 0) (a0s : a0n * 16 ≤ 140737488351232) (a1Lol : 0 ≤ a1Lo) (a1Loh : a1Lo ≤ 18446744073709551615) (a1Hil : 0 ≤ a1Hi) (a1Hih : a1Hi ≤ 18446744073709551615) (h1 : ¬ 60 < a0n) (ok : okN a0v a0v.length = true) :
    Calls Try.prog 4 #[.slice a0 a0n a0c, .agg #[.int .u64 a1Lo, .int .u64 a1Hi]] w fun e w' => e = .returned (.bool true) ∧ Below w.heap.size w w' := by
  have HE := Lib.hid a0e; clear a0e
  have HR := Lib.hid a0r; clear a0r
  have HZ := Lib.hid a0z; clear a0z
  have HB0 := Lib.hid a0b; clear a0b
  clear a0m a0s
  have b0 : Below w.heap.size w (w.alloc (.cells #[.int .u64 a1Lo, .int .u64 a1Hi] 41)) := bel_alloc (Below.refl _ _) _
  have t1 : decide (60 < (a0n : Int)) = false := decide_eq_false (by omega)
  have HN := Lib.hid (show a0n ≤ 60 by omega)
  have hz1 : (a0n : Int) ≤ 60 := by omega
  have e0 : (w.alloc (.cells #[.int .u64 a1Lo, .int .u64 a1Hi] 41)).cell? ⟨w.heap.size, 0, none⟩ = some (.int .u64 a1Lo) := by simp
  have e1 : (w.alloc (.cells #[.int .u64 a1Lo, .int .u64 a1Hi] 41)).cell? ⟨w.heap.size, 1, none⟩ = some (.int .u64 a1Hi) := by simp
  have el : w.heap.size < (w.alloc (.cells #[.int .u64 a1Lo, .int .u64 a1Hi] 41)).heap.size := by simp
  go_enter Try.func4, Try.ntmps4
  go_wp2_with (at_builtin; refine appAllN rfl (.tmp 20) (.tmp 21) rfl (w.alloc (.cells #[.int .u64 a1Lo, .int .u64 a1Hi] 41)) (w.heap.size + 1) (by simp) a0 a0n a0c a0v rfl rfl HE.out (by omega) (HR.out.below b0) HZ.out ?_; intro v1 w1 h1 b1; obtain ⟨_, A1, d1, e1, _⟩ := row_form h1; subst e1; have H1 := Lib.hid h1; clear h1)
  replace e0 := (b1.cell (p := ⟨w.heap.size, 0, none⟩) el).trans e0
  replace e1 := (b1.cell (p := ⟨w.heap.size, 1, none⟩) el).trans e1
  have hlt0 : w.heap.size + 1 ≤ (w.alloc (.cells #[.int .u64 a1Lo, .int .u64 a1Hi] 41)).heap.size := by simp
  replace el := Nat.lt_of_lt_of_le el b1.size
  have B1 := Lib.hid (bel_trans b0 b1)
  have HR := Lib.hid (HR.out.below B1.out)
  have H1 := Lib.hid (row_base H1.out (show w.heap.size ≤ (w.alloc (.cells #[.int .u64 a1Lo, .int .u64 a1Hi] 41)).heap.size by omega))
  clear b0 b1 hlt0 t1
  have RG := Lib.hid (row_form H1.out)
  obtain ⟨_, A1', d1', eA, _, rd1, _⟩ := RG.out
  cases eA
  have RD1 := Lib.hid rd1; clear rd1 RG
  refine (newC_any A1 a0n d1 a0v w1 HE.out (by omega) RD1.out).mono ?_
  intro r W1 h
  unfold NPost at h
  rw [if_pos ok] at h
  obtain ⟨bm, v, rfl, hm, hb, hf, b⟩ := h
  have hsz1 := B1.out.size
  have HS := Lib.hid (show Stb w.heap.size w W1 bm v (nwL a0v) from ⟨hm, by omega, fun k hk => by have := hf k hk; omega, Nat.le_refl _, bel_trans B1.out b⟩)
  have FM := Lib.hid (show w1.heap.size ≤ bm ∧ Fresh w1.heap.size v from ⟨hb, hf⟩)
  replace e0 := (b.cell (p := ⟨w.heap.size, 0, none⟩) el).trans e0
  replace e1 := (b.cell (p := ⟨w.heap.size, 1, none⟩) el).trans e1
  replace el := Nat.lt_of_lt_of_le el b.size
  have HR := Lib.hid (HR.out.below b)
  have RD1 := Lib.hid (RD1.out.below b)
  have H1 := Lib.hid (show w1.heap.size ≤ W1.heap.size ∧ W1.ownsRow w.heap.size 45 2 (.slice A1 a0n d1) a0n (flat a0v) ∧ ∀ g, (Value.slice A1 a0n d1).ownBlock = some g → g < w1.heap.size from ⟨b.size, row_below H1.out b, fun g hg => (H1.out.lt g hg).2⟩)
  clear hm hb hf
  go_wp2_with fail
  refine (newR_any a0 a0n a0c a0v W1 HE.out (by have := HN.out; omega) HR.out).mono ?_
  intro r W2 h
  unfold NPost at h
  rw [if_pos ok] at h
  obtain ⟨bn, u, rfl, hm', hb', hf', b'⟩ := h
  obtain ⟨bn', u', e, hs⟩ := HS.out.more (e := .returned (.pointer (some ⟨bn, 0, none⟩))) ⟨bn, u, rfl, hm', hb', hf', b'⟩
  cases e
  have hu : u = u' := by have q := hs.c.1; rw [hm'.1] at q; exact Option.some.inj q
  subst hu
  replace e0 := (b'.cell (p := ⟨w.heap.size, 0, none⟩) el).trans e0
  replace e1 := (b'.cell (p := ⟨w.heap.size, 1, none⟩) el).trans e1
  replace el := Nat.lt_of_lt_of_le el b'.size
  have HR := Lib.hid (HR.out.below b')
  have RD1 := Lib.hid (RD1.out.below b')
  have HS := Lib.hid hs; clear hs
  have HW1 := Lib.hid (show Wq w.heap.size (fun g => Off g bm v bn u) W2 A1 a0n from by
    obtain ⟨h1, h2, h3⟩ := H1.out
    have h4 := row_below h2 b'
    intro i hi
    obtain ⟨g, e, hB, _, r⟩ := (Wq.of (Z := fun _ => True) h4 (Nat.le_refl _) (fun _ _ _ => trivial)) i hi
    have hg := h3 g (by rw [e]; rfl)
    have q1 := FM.out.1
    exact ⟨g, e, hB, ⟨by omega, by omega, fun e => by have := FM.out.2 _ e; omega, fun e => by have := hf' _ e; omega⟩, r⟩)
  clear hm' hb' hf' b b' H1 FM hsz1
  have HL := Lib.hid (show (nwL a0v).length ≤ 60 by have := nwL_len a0v; have := HE.out; have := HN.out; omega)
  have HL2 := Lib.hid (show (nwL a0v).length ≤ 1000 by have := HL.out; omega)
  have HB := Lib.hid (show Bd (nwL a0v) from fun x hx => by rcases mem_setA a0v [] x hx with h | h; cases h; exact HB0.out x h)
  have HA := Lib.hid (nwL_asc a0v)
  have BD := Lib.hid (show (0 ≤ a1Lo ∧ a1Lo ≤ 18446744073709551615) ∧ (0 ≤ a1Hi ∧ a1Hi ≤ 18446744073709551615) from ⟨⟨a1Lol, a1Loh⟩, a1Hil, a1Hih⟩)
  have HE2 := Lib.hid (show a0n ≤ 5000 by have := HN.out; omega)
  clear HB0 ok
  go_wp2_with fail
  refine (sameR_any A1 a0 a0n d1 a0n a0c a0v a0v _ HE.out HE.out HE2.out HE2.out RD1.out HR.out).mono ?_
  rw [show decide (a0v = a0v) = true from decide_eq_true rfl]
  rintro r W3 ⟨rfl, b⟩
  replace e0 := (b.cell (p := ⟨w.heap.size, 0, none⟩) el).trans e0
  replace e1 := (b.cell (p := ⟨w.heap.size, 1, none⟩) el).trans e1
  replace el := Nat.lt_of_lt_of_le el b.size
  have HS := Lib.hid (HS.out.below b)
  have HW1 := Lib.hid (HW1.out.below b)
  clear b HR RD1 HE
  generalize nwL a0v = l at *
  obtain ⟨ml, hml⟩ : ∃ n, (rgL l a1Lo a1Hi).length = n := ⟨_, rfl⟩
  have HML := Lib.hid (show ml ≤ 5000 by have := HL.out; have := inL_len l a1Lo a1Hi; rw [← hml]; unfold rgL; split <;> first | omega | simp)
  go_wp2_with fail
  refine (rangeC_any bm v l a1Lo a1Hi _ HS.out.m HA.out HL2.out HB.out BD.out.1.1 BD.out.1.2 BD.out.2.1 BD.out.2.2).mono ?_
  rintro r W4 ⟨p, rfl, hv, b⟩
  obtain ⟨_, Ap, dp, rfl, _, rd, _⟩ := row_form hv
  have RP := Lib.hid rd; have HWP := Lib.hid (Wq.of (B := w.heap.size) (Z := fun g => Off g bm v bn u) hv HS.out.size (fun g h _ => HS.out.off h))
  replace e0 := (b.cell (p := ⟨w.heap.size, 0, none⟩) el).trans e0
  replace e1 := (b.cell (p := ⟨w.heap.size, 1, none⟩) el).trans e1
  replace el := Nat.lt_of_lt_of_le el b.size
  have HS := Lib.hid (HS.out.below b)
  have HW1 := Lib.hid (HW1.out.below b)
  clear b hv rd
  go_wp2_with fail
  refine (rangeR_any bn u l a1Lo a1Hi _ HS.out.c HL2.out HB.out BD.out.1.1 BD.out.1.2 BD.out.2.1 BD.out.2.2).mono ?_
  rintro r W5 ⟨q, rfl, hv, b⟩
  obtain ⟨_, Aq, dq, rfl, _, rd, _⟩ := row_form hv
  have RQ := Lib.hid rd
  replace e0 := (b.cell (p := ⟨w.heap.size, 0, none⟩) el).trans e0
  replace e1 := (b.cell (p := ⟨w.heap.size, 1, none⟩) el).trans e1
  replace el := Nat.lt_of_lt_of_le el b.size
  have HS := Lib.hid (HS.out.below b)
  have HW1 := Lib.hid (HW1.out.below b)
  have RP := Lib.hid (RP.out.below b)
  have HWP := Lib.hid (HWP.out.below b)
  clear b hv rd
  go_wp2_with fail
  refine (pairsC_any bm v l _ HS.out.m HL2.out).mono ?_
  rintro r W6 ⟨s, rfl, hv, b⟩
  obtain ⟨_, As, ds, rfl, _, rd, _⟩ := row_form hv
  have RS := Lib.hid rd; have HWS := Lib.hid (Wq.of (B := w.heap.size) (Z := fun g => Off g bm v bn u) hv HS.out.size (fun g h _ => HS.out.off h))
  replace e0 := (b.cell (p := ⟨w.heap.size, 0, none⟩) el).trans e0
  replace e1 := (b.cell (p := ⟨w.heap.size, 1, none⟩) el).trans e1
  replace el := Nat.lt_of_lt_of_le el b.size
  have HS := Lib.hid (HS.out.below b)
  have HW1 := Lib.hid (HW1.out.below b)
  have RP := Lib.hid (RP.out.below b)
  have RQ := Lib.hid (RQ.out.below b)
  have HWP := Lib.hid (HWP.out.below b)
  clear b hv rd
  try rw [hml]
  try rw [hml] at HWP
  go_wp2_with fail
  refine (sameR_any Ap Aq ml dp ml dq (rgL l a1Lo a1Hi) (rgL l a1Lo a1Hi) _ hml hml HML.out HML.out RP.out RQ.out).mono ?_
  rw [show decide (rgL l a1Lo a1Hi = rgL l a1Lo a1Hi) = true from decide_eq_true rfl]
  rintro r W7 ⟨rfl, b⟩
  have HS := Lib.hid (HS.out.below b); have HW1 := Lib.hid (HW1.out.below b); have HWP := Lib.hid (HWP.out.below b); have HWS := Lib.hid (HWS.out.below b); have RS := Lib.hid (RS.out.below b); clear b RP RQ e0 e1 el
  go_wp2_with fail
  refine (pairsR_any bn u l _ HS.out.c HL2.out).mono ?_
  rintro r W8 ⟨t, rfl, hv, b⟩
  obtain ⟨_, At, dt, rfl, _, rd, _⟩ := row_form hv
  have RT := Lib.hid rd; have RS := Lib.hid (RS.out.below b)
  have HS := Lib.hid (HS.out.below b); have HW1 := Lib.hid (HW1.out.below b); have HWP := Lib.hid (HWP.out.below b); have HWS := Lib.hid (HWS.out.below b); clear b rd hv
  obtain ⟨nl, hnl⟩ : ∃ n, l.length = n := ⟨_, rfl⟩
  try rw [hnl]
  try rw [hnl] at HWS
  have HNL := Lib.hid (show nl ≤ 5000 by have := HL.out; omega)
  go_wp2_with fail
  refine (sameR_any As At nl ds nl dt l l _ hnl hnl HNL.out HNL.out RS.out RT.out).mono ?_
  rw [show decide (l = l) = true from decide_eq_true rfl]
  rintro r W9 ⟨rfl, b⟩
  have HS := Lib.hid (HS.out.below b); have HW1 := Lib.hid (HW1.out.below b); have HWP := Lib.hid (HWP.out.below b); have HWS := Lib.hid (HWS.out.below b); clear b RS RT
  have hz2 : (ml : Int) ≤ 5000 := by have := HML.out; omega
  have hz3 : (nl : Int) ≤ 5000 := by have := HNL.out; omega
  clear BD a1Lol a1Loh a1Hil a1Hih hml
  go_wp2
  go_loopw [13] (fun i wr => ∃ k : Nat, k ≤ ml ∧ i = .int .i64 (k : Int) ∧ Sta w.heap.size w wr bm v l bn u l ∧ Wq w.heap.size (fun g => Off g bm v bn u) wr Ap ml ∧ Wq w.heap.size (fun g => Off g bm v bn u) wr As nl ∧ Wq w.heap.size (fun g => Off g bm v bn u) wr A1 a0n) (fun i _ => ml - (intOf i).toNat)
  case atStart => exact ⟨0, Nat.zero_le _, rfl, HS.out, HWP.out, HWS.out, HW1.out⟩
  case round =>
    clear HS HWP HWS HW1
    obtain ⟨k, hk, rfl, hs, hHWP, hHWS, hHW1⟩ := hrel
    have HS := Lib.hid hs; clear hs
    have HWP := Lib.hid hHWP; clear hHWP
    have HWS := Lib.hid hHWS; clear hHWS
    have HW1 := Lib.hid hHW1; clear hHW1
    by_cases hlt : k < ml
    · have u0 : decide ((k : Int) < ml) = true := decide_eq_true (by omega)
      have hki : (k : Int) < ml := by omega
      obtain ⟨g, rfl, hg, hoff, x, y, c0, c1, f0, f1⟩ := HWP.out k hlt
      have hs := Lib.hid ((HS.out.set hoff hg (k * 2) (.int .u64 0)).set hoff hg (k * 2 + 1) (.int .u64 0))
      have hHWP := Lib.hid ((HWP.out.set ⟨g, k * 2, none⟩ 0).set ⟨g, k * 2 + 1, none⟩ 0)
      have hHWS := Lib.hid ((HWS.out.set ⟨g, k * 2, none⟩ 0).set ⟨g, k * 2 + 1, none⟩ 0)
      have hHW1 := Lib.hid ((HW1.out.set ⟨g, k * 2, none⟩ 0).set ⟨g, k * 2 + 1, none⟩ 0)
      clear HS HWP HWS HW1 hoff
      go_wp2
      go_roundw
      case rel => exact ⟨k + 1, by omega, by go_num, hs.out, hHWP.out, hHWS.out, hHW1.out⟩
      case measure => simp [intOf]; omega
    · obtain rfl : k = ml := by omega
      have u0 : decide ((k : Int) < k) = false := decide_eq_false (by omega)
      obtain ⟨W', rfl⟩ : ∃ W' : World, W' = wr := ⟨_, rfl⟩
      clear u0 hk hlt
      clear HWP
      go_wp2
      go_loopw [14] (fun i wr => ∃ k : Nat, k ≤ nl ∧ i = .int .i64 (k : Int) ∧ Sta w.heap.size w wr bm v l bn u l ∧ Wq w.heap.size (fun g => Off g bm v bn u) wr As nl ∧ Wq w.heap.size (fun g => Off g bm v bn u) wr A1 a0n) (fun i _ => nl - (intOf i).toNat)
      case atStart => exact ⟨0, Nat.zero_le _, rfl, HS.out, HWS.out, HW1.out⟩
      case round =>
        clear HS HWS HW1
        obtain ⟨k, hk, rfl, hs, hHWS, hHW1⟩ := hrel
        have HS := Lib.hid hs; clear hs
        have HWS := Lib.hid hHWS; clear hHWS
        have HW1 := Lib.hid hHW1; clear hHW1
        by_cases hlt : k < nl
        · have u0 : decide ((k : Int) < nl) = true := decide_eq_true (by omega)
          have hki : (k : Int) < nl := by omega
          obtain ⟨g, rfl, hg, hoff, x, y, c0, c1, f0, f1⟩ := HWS.out k hlt
          have hs := Lib.hid ((HS.out.set hoff hg (k * 2) (.int .u64 0)).set hoff hg (k * 2 + 1) (.int .u64 0))
          have hHWS := Lib.hid ((HWS.out.set ⟨g, k * 2, none⟩ 0).set ⟨g, k * 2 + 1, none⟩ 0)
          have hHW1 := Lib.hid ((HW1.out.set ⟨g, k * 2, none⟩ 0).set ⟨g, k * 2 + 1, none⟩ 0)
          clear HS HWS HW1 hoff
          go_wp2
          go_roundw
          case rel => exact ⟨k + 1, by omega, by go_num, hs.out, hHWS.out, hHW1.out⟩
          case measure => simp [intOf]; omega
        · obtain rfl : k = nl := by omega
          have u0 : decide ((k : Int) < k) = false := decide_eq_false (by omega)
          obtain ⟨W', rfl⟩ : ∃ W' : World, W' = wr := ⟨_, rfl⟩
          clear u0 hk hlt
          clear HWS
          go_wp2
          go_loopw [15] (fun i wr => ∃ k : Nat, k ≤ a0n ∧ i = .int .i64 (k : Int) ∧ Sta w.heap.size w wr bm v l bn u l ∧ Wq w.heap.size (fun g => Off g bm v bn u) wr A1 a0n) (fun i _ => a0n - (intOf i).toNat)
          case atStart => exact ⟨0, Nat.zero_le _, rfl, HS.out, HW1.out⟩
          case round =>
            clear HS HW1
            obtain ⟨k, hk, rfl, hs, hHW1⟩ := hrel
            have HS := Lib.hid hs; clear hs
            have HW1 := Lib.hid hHW1; clear hHW1
            by_cases hlt : k < a0n
            · have u0 : decide ((k : Int) < a0n) = true := decide_eq_true (by omega)
              have hki : (k : Int) < a0n := by omega
              obtain ⟨g, rfl, hg, hoff, x, y, c0, c1, f0, f1⟩ := HW1.out k hlt
              have hs := Lib.hid ((HS.out.set hoff hg (k * 2) (.int .u64 0)).set hoff hg (k * 2 + 1) (.int .u64 0))
              have hHW1 := Lib.hid ((HW1.out.set ⟨g, k * 2, none⟩ 0).set ⟨g, k * 2 + 1, none⟩ 0)
              clear HS HW1 hoff
              go_wp2
              go_roundw
              case rel => exact ⟨k + 1, by omega, by go_num, hs.out, hHW1.out⟩
              case measure => simp [intOf]; omega
            · obtain rfl : k = a0n := by omega
              have u0 : decide ((k : Int) < k) = false := decide_eq_false (by omega)
              obtain ⟨W', rfl⟩ : ∃ W' : World, W' = wr := ⟨_, rfl⟩
              clear u0 hk hlt
              go_wp2_with fail
              refine (pairsC_any bm v l _ HS.out.m HL2.out).mono ?_
              rintro r W10 ⟨s, rfl, hv, b⟩
              obtain ⟨_, As, ds, rfl, _, rd, _⟩ := row_form hv
              have RS := Lib.hid rd
              have HS := Lib.hid (HS.out.below b); clear b hv rd
              go_wp2_with fail
              refine (pairsR_any bn u l _ HS.out.c HL2.out).mono ?_
              rintro r W11 ⟨t, rfl, hv, b⟩
              obtain ⟨_, At, dt, rfl, _, rd, _⟩ := row_form hv
              have RT := Lib.hid rd; have RS := Lib.hid (RS.out.below b)
              have HS := Lib.hid (HS.out.below b); clear b rd hv
              go_wp2_with fail
              refine (sameR_any As At _ ds _ dt l l _ (by assumption) (by assumption) (by have := HL.out; omega) (by have := HL.out; omega) RS.out RT.out).mono ?_
              rw [show decide (l = l) = true from decide_eq_true rfl]
              rintro r W12 ⟨rfl, b⟩
              have HS := Lib.hid (HS.out.below b); clear b RS RT
              go_wp2
              go_ret
              exact ⟨rfl, HS.out.bel⟩
set_option maxRecDepth 100000 in
set_option maxHeartbeats 2000000 in
theorem new_nil (a0 : Option Addr) (a0n a0c : Nat) (a0v : List Om.Pr) (a1Lo : Int) (a1Hi : Int) (w : World) (a0e : a0v.length = a0n) (a0m : a0n ≤ maxLen) (a0r : Om.Rd w a0 a0v) (a0b : Om.Bd a0v) (a0z : a0 = none → a0c = 0) (a0s : a0n * 16 ≤ 140737488351232) (a1Lol : 0 ≤ a1Lo) (a1Loh : a1Lo ≤ 18446744073709551615) (a1Hil : 0 ≤ a1Hi) (a1Hih : a1Hi ≤ 18446744073709551615) (h1 : ¬ 60 < a0n) (ok : ¬ okN a0v a0v.length = true) :
    Calls Try.prog 4 #[.slice a0 a0n a0c, .agg #[.int .u64 a1Lo, .int .u64 a1Hi]] w fun e w' => e = .returned (.bool true) ∧ Below w.heap.size w w' := by
  have HE := Lib.hid a0e; clear a0e
  have HR := Lib.hid a0r; clear a0r
  have HZ := Lib.hid a0z; clear a0z
  have HB0 := Lib.hid a0b; clear a0b
  clear a0m a0s
  have b0 : Below w.heap.size w (w.alloc (.cells #[.int .u64 a1Lo, .int .u64 a1Hi] 41)) := bel_alloc (Below.refl _ _) _
  have t1 : decide (60 < (a0n : Int)) = false := decide_eq_false (by omega)
  have HN := Lib.hid (show a0n ≤ 60 by omega)
  have hz1 : (a0n : Int) ≤ 60 := by omega
  have e0 : (w.alloc (.cells #[.int .u64 a1Lo, .int .u64 a1Hi] 41)).cell? ⟨w.heap.size, 0, none⟩ = some (.int .u64 a1Lo) := by simp
  have e1 : (w.alloc (.cells #[.int .u64 a1Lo, .int .u64 a1Hi] 41)).cell? ⟨w.heap.size, 1, none⟩ = some (.int .u64 a1Hi) := by simp
  have el : w.heap.size < (w.alloc (.cells #[.int .u64 a1Lo, .int .u64 a1Hi] 41)).heap.size := by simp
  go_enter Try.func4, Try.ntmps4
  go_wp2_with (at_builtin; refine appAllN rfl (.tmp 20) (.tmp 21) rfl (w.alloc (.cells #[.int .u64 a1Lo, .int .u64 a1Hi] 41)) (w.heap.size + 1) (by simp) a0 a0n a0c a0v rfl rfl HE.out (by omega) (HR.out.below b0) HZ.out ?_; intro v1 w1 h1 b1; obtain ⟨_, A1, d1, e1, _⟩ := row_form h1; subst e1; have H1 := Lib.hid h1; clear h1)
  replace e0 := (b1.cell (p := ⟨w.heap.size, 0, none⟩) el).trans e0
  replace e1 := (b1.cell (p := ⟨w.heap.size, 1, none⟩) el).trans e1
  have hlt0 : w.heap.size + 1 ≤ (w.alloc (.cells #[.int .u64 a1Lo, .int .u64 a1Hi] 41)).heap.size := by simp
  replace el := Nat.lt_of_lt_of_le el b1.size
  have B1 := Lib.hid (bel_trans b0 b1)
  have HR := Lib.hid (HR.out.below B1.out)
  have H1 := Lib.hid (row_base H1.out (show w.heap.size ≤ (w.alloc (.cells #[.int .u64 a1Lo, .int .u64 a1Hi] 41)).heap.size by omega))
  clear b0 b1 hlt0 t1
  have RG := Lib.hid (row_form H1.out)
  obtain ⟨_, A1', d1', eA, _, rd1, _⟩ := RG.out
  cases eA
  have RD1 := Lib.hid rd1; clear rd1 RG
  refine (newC_any A1 a0n d1 a0v w1 HE.out (by omega) RD1.out).mono ?_
  intro r W1 h
  unfold NPost at h
  rw [if_neg ok] at h
  obtain ⟨rfl, b⟩ := h
  have HS := Lib.hid (bel_trans B1.out b)
  have HW1 := Lib.hid ((Wq.of (B := w.heap.size) (Z := fun _ => True) H1.out (Nat.le_refl _) (fun _ _ _ => trivial)).below b)
  replace e0 := (b.cell (p := ⟨w.heap.size, 0, none⟩) el).trans e0
  replace e1 := (b.cell (p := ⟨w.heap.size, 1, none⟩) el).trans e1
  replace el := Nat.lt_of_lt_of_le el b.size
  have HR := Lib.hid (HR.out.below b)
  have RD1 := Lib.hid (RD1.out.below b)
  clear b H1 B1
  go_wp2_with fail
  refine (newR_any a0 a0n a0c a0v W1 HE.out (by have := HN.out; omega) HR.out).mono ?_
  intro r W2 h
  unfold NPost at h
  rw [if_neg ok] at h
  obtain ⟨rfl, b⟩ := h
  replace e0 := (b.cell (p := ⟨w.heap.size, 0, none⟩) el).trans e0
  replace e1 := (b.cell (p := ⟨w.heap.size, 1, none⟩) el).trans e1
  replace el := Nat.lt_of_lt_of_le el b.size
  have HR := Lib.hid (HR.out.below b)
  have RD1 := Lib.hid (RD1.out.below b)
  have HW1 := Lib.hid (HW1.out.below b)
  have HS := Lib.hid (bel_trans HS.out b)
  clear b ok HB0
  have HE2 := Lib.hid (show a0n ≤ 5000 by have := HN.out; omega)
  go_wp2_with fail
  refine (sameR_any A1 a0 a0n d1 a0n a0c a0v a0v _ HE.out HE.out HE2.out HE2.out RD1.out HR.out).mono ?_
  rw [show decide (a0v = a0v) = true from decide_eq_true rfl]
  rintro r W3 ⟨rfl, b⟩
  replace e0 := (b.cell (p := ⟨w.heap.size, 0, none⟩) el).trans e0
  replace e1 := (b.cell (p := ⟨w.heap.size, 1, none⟩) el).trans e1
  replace el := Nat.lt_of_lt_of_le el b.size
  have HW1 := Lib.hid (HW1.out.below b)
  have HS := Lib.hid (bel_trans HS.out b)
  clear b HR RD1
  go_wp2_with fail
  refine (rangeC_nil a1Lo a1Hi _).mono ?_
  rintro r W4 ⟨p, rfl, hv, b⟩
  obtain ⟨_, Ap, dp, rfl, _, rd, _⟩ := row_form hv
  have RP := Lib.hid rd
  replace e0 := (b.cell (p := ⟨w.heap.size, 0, none⟩) el).trans e0
  replace e1 := (b.cell (p := ⟨w.heap.size, 1, none⟩) el).trans e1
  replace el := Nat.lt_of_lt_of_le el b.size
  have HW1 := Lib.hid (HW1.out.below b)
  have HS := Lib.hid (bel_trans HS.out b)
  clear b hv rd
  go_wp2_with fail
  refine (rangeR_nil a1Lo a1Hi _).mono ?_
  rintro r W5 ⟨q, rfl, hv, b⟩
  obtain ⟨_, Aq, dq, rfl, _, rd, _⟩ := row_form hv
  have RQ := Lib.hid rd
  replace e0 := (b.cell (p := ⟨w.heap.size, 0, none⟩) el).trans e0
  replace e1 := (b.cell (p := ⟨w.heap.size, 1, none⟩) el).trans e1
  replace el := Nat.lt_of_lt_of_le el b.size
  have HW1 := Lib.hid (HW1.out.below b)
  have RP := Lib.hid (RP.out.below b)
  have HS := Lib.hid (bel_trans HS.out b)
  have RP := Lib.hid RP.out
  clear b hv rd
  go_wp2_with fail
  refine (pairsC_nil _).mono ?_
  rintro r W6 ⟨rfl, rfl⟩
  go_wp2_with fail
  refine (sameR_any Ap Aq 0 dp 0 dq [] [] _ rfl rfl (by simp) (by simp) RP.out RQ.out).mono ?_
  rw [show decide (([] : List Pr) = []) = true from decide_eq_true rfl]
  rintro r W7 ⟨rfl, b⟩
  replace e0 := (b.cell (p := ⟨w.heap.size, 0, none⟩) el).trans e0
  replace e1 := (b.cell (p := ⟨w.heap.size, 1, none⟩) el).trans e1
  replace el := Nat.lt_of_lt_of_le el b.size
  have HW1 := Lib.hid (HW1.out.below b)
  have HS := Lib.hid (bel_trans HS.out b)
  clear b RP RQ
  go_wp2_with fail
  refine (pairsR_nil _).mono ?_
  rintro r W8 ⟨rfl, rfl⟩
  go_wp2_with fail
  refine (sameR_any none none 0 0 0 0 [] [] _ rfl rfl (by simp) (by simp) (rd_nil _ _) (rd_nil _ _)).mono ?_
  rw [show decide (([] : List Pr) = []) = true from decide_eq_true rfl]
  rintro r W9 ⟨rfl, b⟩
  replace e0 := (b.cell (p := ⟨w.heap.size, 0, none⟩) el).trans e0
  replace e1 := (b.cell (p := ⟨w.heap.size, 1, none⟩) el).trans e1
  replace el := Nat.lt_of_lt_of_le el b.size
  have HW1 := Lib.hid (HW1.out.below b)
  have HS := Lib.hid (bel_trans HS.out b)
  clear b e0 e1 el a1Lol a1Loh a1Hil a1Hih
  have HWP := Lib.hid (show Wq w.heap.size (fun _ => True) W9 Ap 0 from fun i hi => by omega)
  have HWS := Lib.hid (show Wq w.heap.size (fun _ => True) W9 none 0 from fun i hi => by omega)
  have hz2 : (0 : Int) ≤ 0 := by omega
  obtain ⟨ml, hml⟩ : ∃ n : Nat, n = 0 := ⟨_, rfl⟩
  go_wp2
  go_loopw [13] (fun i wr => i = .int .i64 0 ∧ Below w.heap.size w wr ∧ Wq w.heap.size (fun _ => True) wr A1 a0n) (fun i _ => 0)
  case atStart => exact ⟨rfl, HS.out, HW1.out⟩
  case round =>
    clear HS HW1
    obtain ⟨rfl, hs, hw⟩ := hrel
    have HS := Lib.hid hs; have HW1 := Lib.hid hw; clear hs hw
    obtain ⟨W', rfl⟩ : ∃ W' : World, W' = wr := ⟨_, rfl⟩
    go_wp2
    go_loopw [14] (fun i wr => i = .int .i64 0 ∧ Below w.heap.size w wr ∧ Wq w.heap.size (fun _ => True) wr A1 a0n) (fun i _ => 0)
    case atStart => exact ⟨rfl, HS.out, HW1.out⟩
    case round =>
      clear HS HW1
      obtain ⟨rfl, hs, hw⟩ := hrel
      have HS := Lib.hid hs; have HW1 := Lib.hid hw; clear hs hw
      obtain ⟨W', rfl⟩ : ∃ W' : World, W' = wr := ⟨_, rfl⟩
      go_wp2
      go_loopw [15] (fun i wr => ∃ k : Nat, k ≤ a0n ∧ i = .int .i64 (k : Int) ∧ Below w.heap.size w wr ∧ Wq w.heap.size (fun _ => True) wr A1 a0n) (fun i _ => a0n - (intOf i).toNat)
      case atStart => exact ⟨0, Nat.zero_le _, rfl, HS.out, HW1.out⟩
      case round =>
        clear HS HW1
        obtain ⟨k, hk, rfl, hs, hHW1⟩ := hrel
        have HS := Lib.hid hs; clear hs
        have HW1 := Lib.hid hHW1; clear hHW1
        by_cases hlt : k < a0n
        · have u0 : decide ((k : Int) < a0n) = true := decide_eq_true (by omega)
          have hki : (k : Int) < a0n := by omega
          obtain ⟨g, rfl, hg, hoff, x, y, c0, c1, f0, f1⟩ := HW1.out k hlt
          have hs := Lib.hid ((HS.out.setCell (p := ⟨g, k * 2, none⟩) hg (.int .u64 0)).setCell (p := ⟨g, k * 2 + 1, none⟩) hg (.int .u64 0))
          have hHW1 := Lib.hid ((HW1.out.set ⟨g, k * 2, none⟩ 0).set ⟨g, k * 2 + 1, none⟩ 0)
          clear HS HW1 hoff
          go_wp2
          go_roundw
          case rel => exact ⟨k + 1, by omega, by go_num, hs.out, hHW1.out⟩
          case measure => simp [intOf]; omega
        · obtain rfl : k = a0n := by omega
          have u0 : decide ((k : Int) < k) = false := decide_eq_false (by omega)
          obtain ⟨W', rfl⟩ : ∃ W' : World, W' = wr := ⟨_, rfl⟩
          go_wp2_with fail
          refine (pairsC_nil _).mono ?_
          rintro r W10 ⟨rfl, rfl⟩
          go_wp2_with fail
          refine (pairsR_nil _).mono ?_
          rintro r W11 ⟨rfl, rfl⟩
          go_wp2_with fail
          refine (sameR_any none none 0 0 0 0 [] [] _ rfl rfl (by simp) (by simp) (rd_nil _ _) (rd_nil _ _)).mono ?_
          rw [show decide (([] : List Pr) = []) = true from decide_eq_true rfl]
          rintro r W12 ⟨rfl, b⟩
          have HS := Lib.hid (bel_trans HS.out b)
          go_wp2
          go_ret
          exact ⟨rfl, HS.out⟩
set_option maxRecDepth 100000 in
set_option maxHeartbeats 2000000 in
theorem new_many (a0 : Option Addr) (a0n a0c : Nat) (a0v : List Om.Pr) (a1Lo : Int) (a1Hi : Int) (w : World) (a0e : a0v.length = a0n) (a0m : a0n ≤ maxLen) (a0r : Om.Rd w a0 a0v) (a0b : Om.Bd a0v) (a0z : a0 = none → a0c = 0) (a0s : a0n * 16 ≤ 140737488351232) (a1Lol : 0 ≤ a1Lo) (a1Loh : a1Lo ≤ 18446744073709551615) (a1Hil : 0 ≤ a1Hi) (a1Hih : a1Hi ≤ 18446744073709551615) (h1 : 60 < a0n) :
    Calls Try.prog 4 #[.slice a0 a0n a0c, .agg #[.int .u64 a1Lo, .int .u64 a1Hi]] w fun e w' => e = .returned (.bool true) ∧ Below w.heap.size w w' := by
  have HE := Lib.hid a0e; clear a0e
  have HR := Lib.hid a0r; clear a0r
  have HZ := Lib.hid a0z; clear a0z
  have HB0 := Lib.hid a0b; clear a0b
  clear a0m a0s
  have b0 : Below w.heap.size w (w.alloc (.cells #[.int .u64 a1Lo, .int .u64 a1Hi] 41)) := bel_alloc (Below.refl _ _) _
  have t1 : decide (60 < (a0n : Int)) = true := decide_eq_true (by omega)
  go_enter Try.func4, Try.ntmps4
  go_wp2_with fail
  refine (known_any _).mono ?_
  rintro r W1 ⟨rfl, b2⟩
  go_wp2
  go_ret
  exact ⟨rfl, bel_trans b0 b2⟩
theorem walk_omapNew (a0 : Option Addr) (a0n a0c : Nat) (a0v : List Om.Pr) (a1Lo : Int) (a1Hi : Int) (w : World) (a0e : a0v.length = a0n) (a0m : a0n ≤ maxLen) (a0r : Om.Rd w a0 a0v) (a0b : Om.Bd a0v) (a0z : a0 = none → a0c = 0) (a0s : a0n * 16 ≤ 140737488351232) (a1Lol : 0 ≤ a1Lo) (a1Loh : a1Lo ≤ 18446744073709551615) (a1Hil : 0 ≤ a1Hi) (a1Hih : a1Hi ≤ 18446744073709551615) :
    Calls Try.prog 4 #[.slice a0 a0n a0c, .agg #[.int .u64 a1Lo, .int .u64 a1Hi]] w fun e w' => e = .returned (.bool true) ∧ Below w.heap.size w w' := by
  by_cases h1 : 60 < a0n
  · exact new_many a0 a0n a0c a0v a1Lo a1Hi w a0e a0m a0r a0b a0z a0s a1Lol a1Loh a1Hil a1Hih h1
  by_cases ok : okN a0v a0v.length = true
  · exact new_ok a0 a0n a0c a0v a1Lo a1Hi w a0e a0m a0r a0b a0z a0s a1Lol a1Loh a1Hil a1Hih h1 ok
  · exact new_nil a0 a0n a0c a0v a1Lo a1Hi w a0e a0m a0r a0b a0z a0s a1Lol a1Loh a1Hil a1Hih h1 ok
end Wk
end Go.Proofs.Ythinaablldnikaa
