/- Memories and operations that lock, side by side, told apart by the colours of their blocks; the calls of package latch and of the reference on them. Conditions: those of the contracts. -/
import Derived.Test.YtjocbmoelkobaaaLtR
namespace Go.Proofs.Ytjocbmoelkobaaa
open Go.RowKit Go.Sort
set_option linter.unusedVariables false
set_option linter.unusedSimpArgs false
namespace Lt
open Wd
open Dm (addr_lit info_parts spot_none RdK flatU infoU bel_alloc bel_trans own_keep below_drewN)
/-- colours of blocks: all new ones have the colour k -/
def up (c : Nat → Nat) (n k : Nat) : Nat → Nat := fun i => if n ≤ i then k else c i
theorem up_lt {c : Nat → Nat} {n k i : Nat} (h : i < n) : up c n k i = c i := if_neg (by omega)
theorem up_ge {c : Nat → Nat} {n k i : Nat} (h : n ≤ i) : up c n k i = k := if_pos h
/-- only blocks whose colour is in S have changed; old blocks have kept their colours -/
structure Fc (S : Nat → Prop) (w : World) (c : Nat → Nat) (w' : World) (c' : Nat → Nat) : Prop where
  fr : Fr (fun i => S (c i)) w w'
  co : ∀ i, i < w.heap.size → c' i = c i
theorem Fc.of_below {S : Nat → Prop} {w w' : World} {c : Nat → Nat} (h : Below w.heap.size w w') : Fc S w c w' c := ⟨Fr.of_below h, fun _ _ => rfl⟩
theorem Fc.of_below_up {S : Nat → Prop} {w w' : World} {c : Nat → Nat} {k : Nat} (h : Below w.heap.size w w') : Fc S w c w' (up c w.heap.size k) := ⟨Fr.of_below h, fun _ h => up_lt h⟩
theorem Fc.trans {S : Nat → Prop} {w w1 w2 : World} {c c1 c2 : Nat → Nat} (h : Fc S w c w1 c1) (h2 : Fc S w1 c1 w2 c2) : Fc S w c w2 c2 :=
  ⟨h.fr.trans h2.fr fun i hi e => by rw [h.co i hi] at e; exact e, fun i hi => (h2.co i (Nat.lt_of_lt_of_le hi h.fr.size)).trans (h.co i hi)⟩
theorem Fc.mono {S T : Nat → Prop} {w w1 : World} {c c1 : Nat → Nat} (h : Fc S w c w1 c1) (hs : ∀ i, S i → T i) : Fc T w c w1 c1 := ⟨⟨h.fr.os, h.fr.tape, h.fr.output, h.fr.size, fun i hi hn => h.fr.block i hi fun e => hn (hs _ e)⟩, h.co⟩
theorem Fc.below {S : Nat → Prop} {w w1 : World} {c c1 : Nat → Nat} {B : Nat} (h : Fc S w c w1 c1) (hB : B ≤ w.heap.size) (h0 : ∀ i, i < B → c i = 0) (hS : ¬ S 0) : Below B w w1 := h.fr.below hB fun i hi e => hS (by rw [h0 i hi] at e; exact e)
theorem Fc.low {S : Nat → Prop} {w w1 : World} {c c1 : Nat → Nat} {B : Nat} (h : Fc S w c w1 c1) (hB : B ≤ w.heap.size) (h0 : ∀ i, i < B → c i = 0) : ∀ i, i < B → c1 i = 0 := fun i hi => (h.co i (by omega)).trans (h0 i hi)
theorem Fc.keep {S : Nat → Prop} {w w1 : World} {c c1 : Nat → Nat} (h : Fc S w c w1 c1) {i : Nat} (hi : i < w.heap.size) (hn : ¬ S (c i)) : w1.heap[i]? = w.heap[i]? := h.fr.block i hi hn
/-- a memory whose blocks have the colour k -/
def MC (ty : TypeId) (w : World) (c : Nat → Nat) (k b : Nat) (M : Wm) : Prop := ∃ p q, At ty w b p q M ∧ ∀ i, Of b p q i → c i = k
theorem MC.keep {ty : TypeId} {S : Nat → Prop} {w w1 : World} {c c1 : Nat → Nat} {k b : Nat} {M : Wm} (h : MC ty w c k b M) (hf : Fc S w c w1 c1) (hS : ¬ S k) : MC ty w1 c1 k b M := by
  obtain ⟨p, q, h1, h2⟩ := h
  exact ⟨p, q, h1.keep fun i hi ho => hf.keep hi (by rw [h2 i ho]; exact hS), fun i hi => (hf.co i (h1.lt i hi)).trans (h2 i hi)⟩
theorem MC.after {ty : TypeId} {w w1 : World} {c : Nat → Nat} {k b p : Nat} {q : Option Nat} {M' : Wm} (hl : ∀ i, Of b p q i → i < w.heap.size) (hc : ∀ i, Of b p q i → c i = k) {q' : Option Nat} (h : At ty w1 b p q' M') (hq : ∀ g, q' = some g → q = some g ∨ w.heap.size ≤ g) : MC ty w1 (up c w.heap.size k) k b M' := by
  refine ⟨p, q', h, fun i hi => ?_⟩
  have old : ∀ i, Of b p q i → up c w.heap.size k i = k := fun i hi => (up_lt (hl i hi)).trans (hc i hi)
  rcases hi with e | e | e
  · exact old i (.inl e)
  · exact old i (.inr (.inl e))
  · rcases hq i e with h | h
    · exact old i (.inr (.inr h))
    · exact up_ge h
/-- operations of package latch (kind AtL: LAt or RAt) on the memory at b -/
def upd (X : Nat → Option Lk) (x : Nat) (L : Lk) : Nat → Option Lk := fun y => if y = x then some L else X y
theorem upd_same (X : Nat → Option Lk) (x : Nat) (L : Lk) : upd X x L x = some L := if_pos rfl
theorem upd_other {X : Nat → Option Lk} {x y : Nat} {L : Lk} (h : y ≠ x) : upd X x L y = X y := if_neg h
/-- the memory M at b of colour k, and the operations X on it, of colour k + 2, with at most N failures each -/
structure Sy (ty : TypeId) (P : World → Nat → Nat → Lk → Prop) (k : Nat) (w : World) (c : Nat → Nat) (b : Nat) (M : Wm) (X : Nat → Option Lk) (N : Int) : Prop where
  m : MC ty w c k b M
  l : ∀ x L, X x = some L → P w x b L ∧ c x = k + 2 ∧ L.Ok M.W.length N
/-- what P must be -/
structure Pk (P : World → Nat → Nat → Lk → Prop) : Prop where
  lt : ∀ {w x b L}, P w x b L → x < w.heap.size
  keep : ∀ {w w' : World} {x b L}, P w x b L → w'.heap[x]? = w.heap[x]? → P w' x b L
theorem pkL : Pk LAt := ⟨fun h => h.lt, fun h e => h.keep e⟩
theorem pkR : Pk RAt := ⟨fun h => h.lt, fun h e => h.keep e⟩
section
variable {ty : TypeId} {P : World → Nat → Nat → Lk → Prop} {k : Nat} {w : World} {c : Nat → Nat} {b : Nat} {M : Wm} {X : Nat → Option Lk} {N : Int}
theorem Sy.keep (hp : Pk P) {S : Nat → Prop} {w1 : World} {c1 : Nat → Nat} (h : Sy ty P k w c b M X N) (hf : Fc S w c w1 c1) (h1 : ¬ S k) (h2 : ¬ S (k + 2)) : Sy ty P k w1 c1 b M X N :=
  ⟨h.m.keep hf h1, fun x L hx => by
    obtain ⟨a1, a2, a3⟩ := h.l x L hx
    exact ⟨hp.keep a1 (hf.keep (hp.lt a1) (by rw [a2]; exact h2)), (hf.co x (hp.lt a1)).trans a2, a3⟩⟩
theorem Sy.below (hp : Pk P) {w1 : World} (h : Sy ty P k w c b M X N) (hb : Below w.heap.size w w1) : Sy ty P k w1 c b M X N := h.keep hp (Fc.of_below (S := fun _ => False) hb) id id
theorem Sy.more (h : Sy ty P k w c b M X N) {N' : Int} (hN : N ≤ N') : Sy ty P k w c b M X N' := ⟨h.m, fun x L hx => by
    obtain ⟨a1, a2, a3⟩ := h.l x L hx
    exact ⟨a1, a2, a3.mono hN⟩⟩
theorem Sy.fresh (hp : Pk P) (h : Sy ty P k w c b M X N) {x : Nat} (hx : w.heap.size ≤ x) : X x = none := by
  cases e : X x with
  | none => rfl
  | some L => have := hp.lt (h.l x L e).1; omega
/-- a new operation -/
theorem Sy.new (hp : Pk P) {w1 : World} {L : Lk} (h : Sy ty P k w c b M X N) (hb : Below w.heap.size w w1) (hL : P w1 w.heap.size b L) (ok : L.Ok M.W.length N) : Sy ty P k w1 (up c w.heap.size (k + 2)) b M (upd X w.heap.size L) N := by
  have h1 := h.keep hp (Fc.of_below_up (S := fun _ => False) (k := k + 2) hb) id id
  refine ⟨h1.m, fun x L' hx => ?_⟩
  by_cases e : x = w.heap.size
  · subst e
    rw [upd_same] at hx
    cases hx
    exact ⟨hL, up_ge (Nat.le_refl _), ok⟩
  · rw [upd_other e] at hx
    exact h1.l x L' hx
/-- a step of the operation at x -/
theorem Sy.step (hp : Pk P) {w1 : World} {x p : Nat} {q : Option Nat} {L : Lk} (h : Sy ty P k w c b M X N) (hx : X x = some L) (hpq : At ty w b p q M) (hc : ∀ i, Of b p q i → c i = k) (ha : AftL ty (fun w' => P w' x b (L.step M)) b p q x (L.mem M) w w1) :
    Sy ty P k w1 (up c w.heap.size k) b (L.mem M) (upd X x (L.step M)) (N + 1) ∧ Fc (fun i => i = k ∨ i = k + 2) w c w1 (up c w.heap.size k) := by
  obtain ⟨q', h1, h2, h3, h4⟩ := ha
  have hlt := hpq.lt
  obtain ⟨a1, a2, a3⟩ := h.l x L hx
  refine ⟨⟨MC.after hlt hc h1 h3, fun y L' hy => ?_⟩, ⟨h4.os, h4.tape, h4.output, h4.size, fun i hi hn => h4.block i hi fun e => hn ?_⟩, fun i hi => up_lt hi⟩
  · by_cases e : y = x
    · subst e
      rw [upd_same] at hy
      cases hy
      exact ⟨h2, (up_lt (hp.lt a1)).trans a2, by rw [mem_len]; exact a3.step M⟩
    · rw [upd_other e] at hy
      obtain ⟨b1, b2, b3⟩ := h.l y L' hy
      refine ⟨hp.keep b1 (h4.block y (hp.lt b1) fun e2 => ?_), (up_lt (hp.lt b1)).trans b2, by rw [mem_len]; exact b3.mono (by omega)⟩
      rcases e2 with e2 | e2
      · have := hc y e2; omega
      · exact e e2
  · rcases e with e | e
    · exact .inl (hc i e)
    · subst e; exact .inr a2
/-- a change of the memory alone -/
theorem Sy.mem (hp : Pk P) {w1 : World} {p : Nat} {q : Option Nat} {M' : Wm} (h : Sy ty P k w c b M X N) (hlen : M'.W.length = M.W.length) (hpq : At ty w b p q M) (hc : ∀ i, Of b p q i → c i = k) (ha : After ty b p q M' w w1) :
    Sy ty P k w1 (up c w.heap.size k) b M' X N ∧ Fc (fun i => i = k ∨ i = k + 2) w c w1 (up c w.heap.size k) := by
  obtain ⟨q', h1, h3, h4⟩ := ha
  have hlt := hpq.lt
  refine ⟨⟨MC.after hlt hc h1 h3, fun y L' hy => ?_⟩, ⟨h4.os, h4.tape, h4.output, h4.size, fun i hi hn => h4.block i hi fun e => hn (.inl (hc i e))⟩, fun i hi => up_lt hi⟩
  obtain ⟨b1, b2, b3⟩ := h.l y L' hy
  exact ⟨hp.keep b1 (h4.block y (hp.lt b1) fun e2 => by have := hc y e2; omega), (up_lt (hp.lt b1)).trans b2, by rw [hlen]; exact b3⟩
end
/-! ### the calls -/
abbrev SL := Sy 73 LAt
abbrev SR := Sy 55 RAt
section
variable {k : Nat} {w : World} {c : Nat → Nat} {b : Nat} {M : Wm} {X : Nat → Option Lk} {N : Int}
def NewPost (ty : TypeId) (P : World → Nat → Nat → Lk → Prop) (k : Nat) (w : World) (c : Nat → Nat) (b : Nat) (M : Wm) (X : Nat → Option Lk) (N : Int) (t a m : Int) (e : Ending) (w' : World) : Prop :=
  (lkE M t a m ≠ 0 ∧ e = .returned (.tuple #[.pointer none, .int .i64 (lkE M t a m)]) ∧ w' = w) ∨
  (lkE M t a m = 0 ∧ e = .returned (.tuple #[.pointer (some ⟨w.heap.size, 0, none⟩), .int .i64 0]) ∧ Sy ty P k w' (up c w.heap.size (k + 2)) b M (upd X w.heap.size (Lk.new t a m)) N ∧ Below w.heap.size w w')
theorem newS (h : SL k w c b M X N) (hN : 0 ≤ N) (t a m : Int) : Calls Try.prog 9 #[.pointer (some ⟨b, 0, none⟩), .int .i64 t, .int .i64 a, .int .i64 m] w (NewPost 73 LAt k w c b M X N t a m) := by
  obtain ⟨p, q, h1, _⟩ := h.m
  refine (new_any b p q M t a m w h1).mono ?_
  rintro r w1 (⟨e1, rfl, e2⟩ | ⟨e1, rfl, hl, hb⟩)
  · exact .inl ⟨e1, rfl, e2⟩
  · exact .inr ⟨e1, rfl, h.new pkL hb hl (new_ok e1 hN), hb⟩
theorem newRS (h : SR k w c b M X N) (hN : 0 ≤ N) (t a m : Int) : Calls Try.prog 10 #[.pointer (some ⟨b, 0, none⟩), .int .i64 t, .int .i64 a, .int .i64 m] w (NewPost 55 RAt k w c b M X N t a m) := by
  obtain ⟨p, q, h1, _⟩ := h.m
  refine (newR_any b p q M t a m w h1).mono ?_
  rintro r w1 (⟨e1, rfl, e2⟩ | ⟨e1, rfl, hl, hb⟩)
  · exact .inl ⟨e1, rfl, e2⟩
  · exact .inr ⟨e1, rfl, h.new pkR hb hl (new_ok e1 hN), hb⟩
def StepPost (ty : TypeId) (P : World → Nat → Nat → Lk → Prop) (k : Nat) (w : World) (c : Nat → Nat) (b : Nat) (M : Wm) (X : Nat → Option Lk) (N : Int) (x : Nat) (L : Lk) (e : Ending) (w' : World) : Prop :=
  e = .returned (.tuple #[.int .u8 L.pc, .bool (L.fin M)]) ∧ Sy ty P k w' (up c w.heap.size k) b (L.mem M) (upd X x (L.step M)) (N + 1) ∧ Fc (fun i => i = k ∨ i = k + 2) w c w' (up c w.heap.size k)
theorem stepS {x : Nat} {L : Lk} (h : SL k w c b M X N) (hx : X x = some L) (hN : N ≤ 1000000) (hL : M.L.length ≤ 50000) : Calls Try.prog 16 #[.pointer (some ⟨x, 0, none⟩)] w (StepPost 73 LAt k w c b M X N x L) := by
  obtain ⟨p, q, h1, h2⟩ := h.m
  obtain ⟨a1, a2, a3⟩ := h.l x L hx
  refine (step_any x b p q M L N w h1 a1 (fun e => by have := h2 x e; omega) a3 hN hL).mono ?_
  rintro r w1 ⟨rfl, ha⟩
  exact ⟨rfl, h.step pkL hx h1 h2 ha⟩
theorem stepRS {x : Nat} {L : Lk} (h : SR k w c b M X N) (hx : X x = some L) (hN : N ≤ 1000000) (hL : M.L.length ≤ 50000) : Calls Try.prog 17 #[.pointer (some ⟨x, 0, none⟩)] w (StepPost 55 RAt k w c b M X N x L) := by
  obtain ⟨p, q, h1, h2⟩ := h.m
  obtain ⟨a1, a2, a3⟩ := h.l x L hx
  refine (stepR_any x b p q M L N w h1 a1 (fun e => by have := h2 x e; omega) a3 hN hL).mono ?_
  rintro r w1 ⟨rfl, ha⟩
  exact ⟨rfl, h.step pkR hx h1 h2 ha⟩
theorem nextS {x : Nat} {L : Lk} (h : SL k w c b M X N) (hx : X x = some L) : Calls Try.prog 15 #[.pointer (some ⟨x, 0, none⟩)] w fun e w' => e = .returned (.int .u8 L.pc) ∧ w' = w := next_any x b L w (h.l x L hx).1
theorem nextRS {x : Nat} {L : Lk} (h : SR k w c b M X N) (hx : X x = some L) : Calls Try.prog 14 #[.pointer (some ⟨x, 0, none⟩)] w fun e w' => e = .returned (.int .u8 L.pc) ∧ w' = w := nextR_any x b L w (h.l x L hx).1
theorem resultS {x : Nat} {L : Lk} (h : SL k w c b M X N) (hx : X x = some L) : Calls Try.prog 18 #[.pointer (some ⟨x, 0, none⟩)] w fun e w' => e = .returned (.tuple #[.int .i64 L.n, .int .i64 L.res]) ∧ Below w.heap.size w w' := result_any x b L w (h.l x L hx).1
theorem resultRS {x : Nat} {L : Lk} (h : SR k w c b M X N) (hx : X x = some L) : Calls Try.prog 19 #[.pointer (some ⟨x, 0, none⟩)] w fun e w' => e = .returned (.tuple #[.int .i64 L.n, .int .i64 L.res]) ∧ Below w.heap.size w w' := resultR_any x b L w (h.l x L hx).1
def UnPost (ty : TypeId) (P : World → Nat → Nat → Lk → Prop) (k : Nat) (w : World) (c : Nat → Nat) (b : Nat) (M : Wm) (X : Nat → Option Lk) (N : Int) (t a : Int) (e : Ending) (w' : World) : Prop :=
  e = .returned (.int .i64 (unE M t a)) ∧ Sy ty P k w' (up c w.heap.size k) b (unM M t a) X N ∧ Fc (fun i => i = k ∨ i = k + 2) w c w' (up c w.heap.size k)
theorem unlockS (h : SL k w c b M X N) (hL : M.L.length ≤ 50000) (t a : Int) : Calls Try.prog 11 #[.pointer (some ⟨b, 0, none⟩), .int .i64 t, .int .i64 a] w (UnPost 73 LAt k w c b M X N t a) := by
  obtain ⟨p, q, h1, h2⟩ := h.m
  refine (unlock_any b p q M t a w h1 hL).mono ?_
  rintro r w1 ⟨rfl, ha⟩
  exact ⟨rfl, h.mem pkL (un_len M t a) h1 h2 ha⟩
theorem unlockRS (h : SR k w c b M X N) (hL : M.L.length ≤ 50000) (t a : Int) : Calls Try.prog 12 #[.pointer (some ⟨b, 0, none⟩), .int .i64 t, .int .i64 a] w (UnPost 55 RAt k w c b M X N t a) := by
  obtain ⟨p, q, h1, h2⟩ := h.m
  refine (unlockR_any b p q M t a w h1 hL).mono ?_
  rintro r w1 ⟨rfl, ha⟩
  exact ⟨rfl, h.mem pkR (un_len M t a) h1 h2 ha⟩
theorem peekS (h : SL k w c b M X N) (a : Int) : Calls Try.prog 22 #[.pointer (some ⟨b, 0, none⟩), .int .i64 a] w fun e w' => e = .returned (peekT M a) ∧ w' = w := by
  obtain ⟨p, q, h1, h2⟩ := h.m
  exact peek_any b p q M a w h1
theorem lenS (h : SL k w c b M X N) : Calls Try.prog 23 #[.pointer (some ⟨b, 0, none⟩)] w fun e w' => e = .returned (.int .i64 (M.L.length : Nat)) ∧ w' = w := by
  obtain ⟨p, q, h1, h2⟩ := h.m
  exact len_any b p q M w h1
end
/-- a new memory: all blocks from B on have its colour -/
theorem mem_start {ty : TypeId} {P : World → Nat → Nat → Lk → Prop} {k : Nat} {w w1 : World} {c : Nat → Nat} {b p : Nat} {M : Wm} (h : At ty w1 b p none M) (hb : w.heap.size ≤ b) (hp : w.heap.size ≤ p) : Sy ty P k w1 (up c w.heap.size k) b M (fun _ => none) 0 :=
  ⟨⟨p, none, h, fun i hi => by
    rcases hi with e | e | e
    · subst e; exact up_ge hb
    · subst e; exact up_ge hp
    · cases e⟩, fun x L hx => by cases hx⟩
end Lt
end Go.Proofs.Ytjocbmoelkobaaa
