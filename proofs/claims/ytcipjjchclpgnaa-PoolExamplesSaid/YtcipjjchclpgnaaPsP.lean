/- Package pool on closed states: a pool and operations whose numbers are known, what the calls answer, the law's function lists. Conditions: those of each lemma. (Written by tools/mkps14.py.) -/
import Derived.Test.YtcipjjchclpgnaaPsW
namespace Go.Proofs.Ytcipjjchclpgnaa
open Go.RowKit Go.Sort
set_option linter.unusedVariables false
set_option linter.unusedSimpArgs false
set_option maxRecDepth 100000
namespace Po
open Wd
open Ly (Ge tot pP pK pW pk Cf LyAt KI)
/-! ### the stacks, from the memory -/
def walkL (f : Nat → Int) : Nat → Nat → List Nat
  | 0, _ => []
  | _ + 1, 0 => []
  | k + 1, x + 1 => (x + 1) :: walkL f k (f (x + 1)).toNat
theorem walkL_ch {f : Nat → Int} : ∀ {l : List Nat} {k : Nat}, Ch f l → (∀ x, x ∈ l → 1 ≤ x) → l.length ≤ k → walkL f k (l.headD 0) = l
  | [], 0, _, _, _ => rfl
  | [], k + 1, _, _, _ => rfl
  | x :: l, 0, _, _, h => by simp at h
  | x :: l, k + 1, hc, hm, hl => by
    obtain ⟨y, rfl⟩ : ∃ y, x = y + 1 := ⟨x - 1, by have := hm x (List.mem_cons_self ..); omega⟩
    show (y + 1) :: walkL f k (f (y + 1)).toNat = _
    rw [hc.1, Int.toNat_natCast, walkL_ch hc.2 (fun z hz => hm z (List.mem_cons_of_mem _ hz)) (by simpa using hl)]
def wl (S : Pm) (k : Nat) : List Nat := walkL (fun t => S.M.get (lA 7 t)) 3 (S.M.get (hA 7 k) % 65536).toNat
theorem In.wl {ht : Nat → Nat} {S : Pm} {stk : Nat → List Nat} {sw : Nat → Nat} (h : In 7 3 ht S stk sw) {k : Nat} (hk : k < 6) : wl S k = stk k := by
  have h1 := h.head_le hk
  unfold Po.wl
  rw [h.hd k hk, wd_mod (by omega), Int.toNat_natCast]
  exact walkL_ch (h.ch k hk) (fun x hx => (h.mem k hk x hx).1) (nodup_len 3 _ (h.nd k hk) fun x hx => ⟨(h.mem k hk x hx).1, (h.mem k hk x hx).2.1⟩)
/-! ### closed states -/
def tE : Nat → Int := fun i => if i = 0 then 2 else if i = 1 then 1 else 0
theorem fewE : FewT tE := ⟨fun i hi => by unfold tE; split; omega; split <;> omega, by decide⟩
def gE : Ge := g0 tE
abbrev Zt := Pm × (Nat → Option Op)
def E0 : Zt := (pm0 ⟨Ly.ini gE, []⟩, fun _ => none)
def run (i : Nat) (Z : Zt) : Zt := match Z.2 i with | some r => ((step 7 Z.1 r).1, upd Z.2 i (step 7 Z.1 r).2) | none => Z
def nwT (i p b d : Nat) (Z : Zt) : Zt := (Z.1, upd Z.2 i ⟨p, b, 0, d, 4, 0, 0, 0, 0, 0⟩)
def nwG (i p k : Nat) (Z : Zt) : Zt := (⟨Z.1.M, Z.1.tk, set Z.1.gv (k + 1) true, Z.1.gn⟩, upd Z.2 i ⟨p, htG gE (k + 1), k + 1, 0, 4, 0, 0, 0, 0, 0⟩)
def svB (g : Bool) (Z : Zt) (i pc : Nat) (d : Bool) : Bool := match Z.2 i with | some r => (decide (0 < r.tw) == g) && (r.pc == pc) && (pc != 0) && (decide ((step 7 Z.1 r).2.pc = 0) == d) | none => false
def rvB (Z : Zt) (i : Nat) (g f e : Int) : Bool := match Z.2 i with | some r => (r.pc == 0) && (r.tw == 0) && decide (r.got = g) && decide (((r.fl : Nat) : Int) = f) && decide (r.e = e) | none => false
def rnB (Z : Zt) (i : Nat) : Bool := match Z.2 i with | some r => r.pc != 0 | none => false
def noB (Z : Zt) (i : Nat) : Bool := match Z.2 i with | some _ => false | none => true
def lvB (Z : Zt) (l1 l2 l3 : List Nat) : Bool := (wl Z.1 0 == l1) && (wl Z.1 1 == l2) && (wl Z.1 2 == l3)
theorem sv_of {g : Bool} {Z : Zt} {i pc : Nat} {d : Bool} (h : svB g Z i pc d = true) : ∃ r, Z.2 i = some r ∧ decide (0 < r.tw) = g ∧ r.pc = pc ∧ pc ≠ 0 ∧ decide ((step 7 Z.1 r).2.pc = 0) = d := by
  unfold svB at h
  split at h
  · next r hr =>
    simp only [Bool.and_eq_true, beq_iff_eq, bne_iff_ne] at h
    exact ⟨r, hr, h.1.1.1, h.1.1.2, h.1.2, h.2⟩
  · simp at h
theorem rv_of {Z : Zt} {i : Nat} {g f e : Int} (h : rvB Z i g f e = true) : ∃ r, Z.2 i = some r ∧ r.pc = 0 ∧ r.tw = 0 ∧ r.got = g ∧ ((r.fl : Nat) : Int) = f ∧ r.e = e := by
  unfold rvB at h
  split at h
  · next r hr =>
    simp only [Bool.and_eq_true, beq_iff_eq, decide_eq_true_eq] at h
    exact ⟨r, hr, h.1.1.1.1, h.1.1.1.2, h.1.1.2, h.1.2, h.2⟩
  · simp at h
theorem rn_of {Z : Zt} {i : Nat} (h : rnB Z i = true) : ∃ r, Z.2 i = some r ∧ r.pc ≠ 0 := by
  unfold rnB at h
  split at h
  · next r hr => exact ⟨r, hr, by simpa using h⟩
  · simp at h
theorem no_of {Z : Zt} {i : Nat} (h : noB Z i = true) : Z.2 i = none := by
  unfold noB at h
  split at h
  · simp at h
  · next hr => exact hr
theorem run_of {Z : Zt} {i : Nat} {r : Op} (h : Z.2 i = some r) : run i Z = ((step 7 Z.1 r).1, upd Z.2 i (step 7 Z.1 r).2) := by
  unfold run; rw [h]
/-- a pool at x with its layout at bl and operations at the places a; the blocks below B have the colour 0 -/
structure Ey (x bl B : Nat) (w : World) (c : Nat → Nat) (Z : Zt) (a : Nat → Nat) (n : Nat) (K : Kc) : Prop where
  x : K.x = x
  bl : K.bl = bl
  g : K.g = gE
  sa : SA K w c Z.1 Z.2 a
  al : ∃ stk sw, AlB K Z.1 stk sw Z.2 n
  low : ∀ i, i < B → c i = 0
  sz : B ≤ w.heap.size
def Ex (x bl B : Nat) (w : World) (c : Nat → Nat) (Z : Zt) (a : Nat → Nat) (n : Nat) : Prop := ∃ K, Ey x bl B w c Z a n K
theorem gE_n : tot gE.t 6 = 3 := by decide +kernel
theorem gE_p : pP gE = 7 := by decide +kernel
section
variable {x bl B : Nat} {w : World} {c : Nat → Nat} {Z : Zt} {a : Nat → Nat} {n : Nat}
theorem Ex.fc (h : Ex x bl B w c Z a n) {T : Nat → Prop} {w1 : World} {c1 : Nat → Nat} (hf : Fc T w c w1 c1) (hT : ∀ i, i ≤ 7 → ¬ T i) : Ex x bl B w1 c1 Z a n := by
  obtain ⟨K, h1, h2, h3, h4, h5, h6, h7⟩ := h
  exact ⟨K, h1, h2, h3, h4.fc hf hT, h5, hf.low h7 h6, Nat.le_trans h7 hf.fr.size⟩
theorem Ex.below (h : Ex x bl B w c Z a n) {w1 : World} (hb : Below w.heap.size w w1) : Ex x bl B w1 c Z a n := h.fc (Fc.of_below (S := fun _ => False) hb) fun _ _ e => e
def ExT (x bl B : Nat) (w : World) (c : Nat → Nat) (Z : Zt) (a : Nat → Nat) (n : Nat) (w' : World) : Prop := ∃ c', Ex x bl B w' c' Z a n ∧ Fc T4 w c w' c'
theorem Ey.run {K : Kc} (h : Ey x bl B w c Z a n K) (hn : n ≤ 1000) {i : Nat} {r : Op} (hr : Z.2 i = some r) (hp : r.pc ≠ 0) {v : Value} {e : Ending} {w' : World} (hq : StS K Z.2 a Z.1 i r w c e w') : e = .returned (.tuple #[.int .u8 ((r.pc : Nat) : Int), .bool (decide ((step 7 Z.1 r).2.pc = 0))]) ∧ ExT x bl B w c (run i Z) a (n + 1) w' := by
  obtain ⟨h1, h2, h3, h4, ⟨stk, sw, h5⟩, h6, h7⟩ := h
  obtain ⟨rfl, c', q1, q2⟩ := hq
  have hpp : pP K.g = 7 := by rw [h3]; exact gE_p
  obtain ⟨stk', sw', q3⟩ := h5.al.step hr hp (by omega)
  have q4 := h5.next hr h4.bd q3
  rw [hpp] at q1 q4 ⊢
  rw [run_of hr]
  exact ⟨rfl, c', ⟨K, h1, h2, h3, q1, ⟨stk', sw', q4⟩, q2.low h7 h6, Nat.le_trans h7 q2.fr.size⟩, q2⟩
theorem Ex.stepT (h : Ex x bl B w c Z a n) (hn : n ≤ 1000) {i y pc : Nat} {d : Bool} (hy : a i = y) (hv : svB false Z i pc d = true) : Calls Try.prog 16 #[.pointer (some ⟨y, 0, none⟩)] w fun e w' => e = .returned (.tuple #[.int .u8 (pc : Int), .bool d]) ∧ ExT x bl B w c (run i Z) a (n + 1) w' := by
  obtain ⟨r, r1, r2, r3, r4, r5⟩ := sv_of hv
  obtain ⟨K, hk⟩ := h
  obtain ⟨stk, sw, h5⟩ := hk.al
  have r2' := of_decide_eq_false r2
  rw [← hy]
  refine (stepTS hk.sa h5 (by omega) r1 (by omega) (by omega)).mono fun e w' hq => ?_
  obtain ⟨q1, q2⟩ := hk.run hn r1 (by omega) (v := .bool d) hq
  rw [r5, r3] at q1
  exact ⟨q1, q2⟩
theorem Ex.stepG (h : Ex x bl B w c Z a n) (hn : n ≤ 1000) {i y pc : Nat} {d : Bool} (hy : a i = y) (hv : svB true Z i pc d = true) : Calls Try.prog 19 #[.pointer (some ⟨y, 0, none⟩)] w fun e w' => e = .returned (.tuple #[.int .u8 (pc : Int), .bool d]) ∧ ExT x bl B w c (run i Z) a (n + 1) w' := by
  obtain ⟨r, r1, r2, r3, r4, r5⟩ := sv_of hv
  obtain ⟨K, hk⟩ := h
  obtain ⟨stk, sw, h5⟩ := hk.al
  have r2' := of_decide_eq_true r2
  rw [← hy]
  refine (stepGS hk.sa h5 (by omega) r1 (by omega) (by omega)).mono fun e w' hq => ?_
  obtain ⟨q1, q2⟩ := hk.run hn r1 (by omega) (v := .bool d) hq
  rw [r5, r3] at q1
  exact ⟨q1, q2⟩
/-- a new operation -/
theorem Ex.take (h : Ex x bl B w c Z a n) (i p b d : Nat) (hp : p < 64) (hb : b < 6) (hd : d ≤ 255) (hx : noB Z i = true) {t hh m : Int} (et : t = (p : Int)) (eh : hh = ((b + 1 : Nat) : Int)) (em : m = (d : Int)) : Calls Try.prog 14 #[.pointer (some ⟨x, 0, none⟩), .int .i64 t, .int .i64 hh, .int .i64 m] w fun e w' => ∃ y a', e = .returned (.tuple #[.pointer (some ⟨y, 0, none⟩), .int .i64 0]) ∧ a' i = y ∧ (∀ j, j ≠ i → a' j = a j) ∧ ExT x bl B w c (nwT i p b d Z) a' n w' := by
  have h0 := no_of hx
  obtain ⟨K, h1, h2, h3, h4, ⟨stk, sw, h5⟩, h6, h7⟩ := h
  subst h1
  have e0 : tkE t hh m = 0 := by unfold tkE; rw [if_pos ⟨⟨by omega, by omega⟩, by omega, by omega⟩, if_pos ⟨by omega, by omega⟩]
  refine (takeS h4 h0 t hh m).mono ?_
  rintro e w' (⟨q, _⟩ | ⟨_, p', b', d', y, q1, q2, q3, _, _, _, rfl, hy, c', q4, q5, _⟩)
  · exact absurd e0 q
  · obtain rfl : p' = p := by omega
    obtain rfl : b' = b := by omega
    obtain rfl : d' = d := by omega
    refine ⟨y, _, rfl, upd2_same a i y, fun j hj => upd2_other hj, c', ⟨K, rfl, h2, h3, q4, ⟨stk, sw, h5.al.take h0 hb hp rfl rfl, h5.pp, h5.lg, h5.gn, fun j s hj => ?_⟩, q5.low h7 h6, Nat.le_trans h7 q5.fr.size⟩, q5⟩
    by_cases e : j = i
    · subst e
      rw [show (nwT j p' b' d' Z).2 = upd Z.2 j ⟨p', b', 0, d', 4, 0, 0, 0, 0, 0⟩ from rfl, upd_same] at hj
      cases hj
      exact ⟨Nat.zero_le _, show (0 : Int) ≤ 0 ∧ (0 : Int) ≤ 18446744073709551615 by decide⟩
    · rw [show (nwT i p' b' d' Z).2 = upd Z.2 i ⟨p', b', 0, d', 4, 0, 0, 0, 0, 0⟩ from rfl, upd_other e] at hj
      exact h5.fl j s hj
theorem Ex.give (h : Ex x bl B w c Z a n) (i p k : Nat) (hp : p < 64) (hk : k < 3) (hx : noB Z i = true) (hg : (Z.1.tk (k + 1) && !Z.1.gv (k + 1)) = true) {t u : Int} (et : t = (p : Int)) (eu : u = ((k + 1 : Nat) : Int)) : Calls Try.prog 18 #[.pointer (some ⟨x, 0, none⟩), .int .i64 t, .int .i64 u] w fun e w' => ∃ y a', e = .returned (.tuple #[.pointer (some ⟨y, 0, none⟩), .int .i64 0]) ∧ a' i = y ∧ (∀ j, j ≠ i → a' j = a j) ∧ ExT x bl B w c (nwG i p k Z) a' n w' := by
  have h0 := no_of hx
  simp only [Bool.and_eq_true, Bool.not_eq_true'] at hg
  obtain ⟨K, h1, h2, h3, h4, ⟨stk, sw, h5⟩, h6, h7⟩ := h
  subst h1
  have hn3 : tot K.g.t 6 = 3 := by rw [h3]; exact gE_n
  have e0 : gvE (tot K.g.t 6) Z.1 t u = 0 := by
    unfold gvE
    rw [hn3, eu, Int.toNat_natCast, if_pos ⟨by omega, by omega⟩, if_pos ⟨by omega, by omega⟩, if_pos hg]
  refine (giveS h4 h0 t u).mono ?_
  rintro e w' (⟨q, _⟩ | ⟨_, p', k', y, q1, q2, _, _, rfl, hy, c', q4, q5⟩)
  · exact absurd e0 q
  · obtain rfl : p' = p := by omega
    obtain rfl : k' = k := by omega
    have hst : nwG i p' k' Z = (⟨Z.1.M, Z.1.tk, set Z.1.gv (k' + 1) true, Z.1.gn⟩, upd Z.2 i ⟨p', htG K.g (k' + 1), k' + 1, 0, 4, 0, 0, 0, 0, 0⟩) := by unfold nwG; rw [h3]
    refine ⟨y, _, rfl, upd2_same a i y, fun j hj => upd2_other hj, c', ⟨K, rfl, h2, h3, by rw [hst]; exact q4, ⟨stk, sw, by rw [hst]; exact h5.al.give (r := ⟨p', htG K.g (k' + 1), k' + 1, 0, 4, 0, 0, 0, 0, 0⟩) h0 hp (Nat.succ_pos _) (show k' + 1 ≤ tot K.g.t 6 by omega) rfl hg.1 hg.2 rfl, h5.pp, h5.lg, h5.gn, fun j s hj => ?_⟩, q5.low h7 h6, Nat.le_trans h7 q5.fr.size⟩, q5⟩
    rw [hst] at hj
    replace hj : upd Z.2 i ⟨p', htG K.g (k' + 1), k' + 1, 0, 4, 0, 0, 0, 0, 0⟩ j = some s := hj
    by_cases e : j = i
    · subst e
      rw [upd_same] at hj
      cases hj
      exact ⟨Nat.zero_le _, show (0 : Int) ≤ 0 ∧ (0 : Int) ≤ 18446744073709551615 by decide⟩
    · rw [upd_other e] at hj
      exact h5.fl j s hj
theorem Ex.giveNo (h : Ex x bl B w c Z a n) (k : Nat) (hk : k < 3) (hx : noB Z 63 = true) (hg : (Z.1.tk (k + 1) && !Z.1.gv (k + 1)) = false) {t u : Int} (et : 0 ≤ t ∧ t < 64) (eu : u = ((k + 1 : Nat) : Int)) : Calls Try.prog 18 #[.pointer (some ⟨x, 0, none⟩), .int .i64 t, .int .i64 u] w fun e w' => e = .returned (.tuple #[.pointer none, .int .i64 8]) ∧ w' = w := by
  obtain ⟨K, h1, h2, h3, h4, ⟨stk, sw, h5⟩, h6, h7⟩ := h
  subst h1
  have hn3 : tot K.g.t 6 = 3 := by rw [h3]; exact gE_n
  have hg' : ¬ (Z.1.tk (k + 1) = true ∧ Z.1.gv (k + 1) = false) := fun q => by rw [q.1, q.2] at hg; simp at hg
  have e0 : gvE (tot K.g.t 6) Z.1 t u = 8 := by
    unfold gvE
    rw [hn3, eu, Int.toNat_natCast, if_pos et, if_pos ⟨by omega, by omega⟩, if_neg hg']
  refine (giveS h4 (no_of hx) t u).mono ?_
  rintro e w' (⟨_, q1, q2⟩ | ⟨q, _⟩)
  · rw [e0] at q1; exact ⟨q1, q2⟩
  · rw [e0] at q; cases q
theorem Ex.resRun (h : Ex x bl B w c Z a n) {i y : Nat} (hy : a i = y) (hv : rnB Z i = true) : Calls Try.prog 15 #[.pointer (some ⟨y, 0, none⟩)] w fun e w' => e = .returned (.tuple #[.int .i64 0, .int .i64 0, .int .i64 8]) ∧ w' = w := by
  obtain ⟨r, r1, r2⟩ := rn_of hv
  obtain ⟨K, hk⟩ := h
  rw [← hy]
  exact resTS_run hk.sa r1 r2
theorem Ex.resEnd (h : Ex x bl B w c Z a n) {i y : Nat} {g f e : Int} (hy : a i = y) (hv : rvB Z i g f e = true) : Calls Try.prog 15 #[.pointer (some ⟨y, 0, none⟩)] w fun e' w' => e' = .returned (.tuple #[.int .i64 g, .int .i64 f, .int .i64 e]) ∧ Below w.heap.size w w' := by
  obtain ⟨r, r1, r2, r3, r4, r5, r6⟩ := rv_of hv
  obtain ⟨K, hk⟩ := h
  rw [← hy]
  have q := resTS_end hk.sa r1 r2 r3
  rw [r4, r5, r6] at q
  exact q
theorem Ex.out (h : Ex x bl B w c Z a n) : Calls Try.prog 13 #[.pointer (some ⟨x, 0, none⟩)] w fun e w' => ∃ v, e = .returned v ∧ RwI w (outL Z.1 4) v w' := by
  obtain ⟨K, h1, h2, h3, h4, _⟩ := h
  have hn3 : tot K.g.t 6 = 3 := by rw [h3]; exact gE_n
  have q := outS h4
  rw [hn3, h1] at q
  exact q
theorem Ex.gen (h : Ex x bl B w c Z a n) (t : Int) : Calls Try.prog 20 #[.pointer (some ⟨x, 0, none⟩), .int .i64 t] w fun e w' => e = .returned (.tuple #[.int .i64 (gnV 3 Z.1 t), .int .i64 (gnE 3 t)]) ∧ w' = w := by
  obtain ⟨K, h1, h2, h3, h4, _⟩ := h
  have hn3 : tot K.g.t 6 = 3 := by rw [h3]; exact gE_n
  have q := genS h4 t
  rw [hn3, h1] at q
  exact q
theorem Ex.list (h : Ex x bl B w c Z a n) (k : Nat) (hk : k < 6) {W : World} (hb : Below w.heap.size w W) : Calls Try.prog 21 #[.pointer (some ⟨x, 0, none⟩), .int .i64 ((k + 1 : Nat) : Int)] W fun e w' => ∃ v, e = .returned (.tuple #[v, .int .i64 0]) ∧ RwI W (nums (wl Z.1 k)) v w' := by
  obtain ⟨K, h1, h2, h3, h4, ⟨stk, sw, h5⟩, _⟩ := h
  have hn3 : tot K.g.t 6 = 3 := by rw [h3]; exact gE_n
  have hpp : pP K.g = 7 := by rw [h3]; exact gE_p
  have q := listS (h4.below hb) h5 k hk
  have hi := h5.al.i
  rw [hn3, hpp] at hi
  rw [h1, ← hi.wl hk] at q
  exact q
theorem Ex.lay (h : Ex x bl B w c Z a n) : ∃ f l, LyAt w bl f l gE := by
  obtain ⟨K, h1, h2, h3, h4, _⟩ := h
  have q := h4.ly.at
  rw [h2, h3] at q
  exact ⟨_, _, q⟩
end
/-- a row of numbers just made -/
theorem litI (w : World) (l : List Int) (cs : Array Value) (T : TypeId) (h : ∀ (i : Nat) (z : Int), l[i]? = some z → cs[i]? = some (.int .i64 z)) : KI.Rd (w.alloc (.cells cs T)) (some ⟨w.heap.size, 0, none⟩) l := fun i z hz => by
  refine ⟨w.heap.size, 0, rfl, fun j u hj => ?_⟩
  match j, hj with
  | 0, hj =>
    simp [KI] at hj; subst hj
    show (w.alloc _).cell? ⟨w.heap.size, 0 + i * 1 + 0, none⟩ = _
    rw [World.cell?_alloc_new, Nat.mul_one, Nat.add_zero, Nat.zero_add]
    exact h i z hz
  | j + 1, hj => simp [KI] at hj
set_option maxHeartbeats 2000000 in
/-- the law's lists -/
theorem lists_any {x bl B : Nat} {w : World} {c : Nat → Nat} {Z : Zt} {a : Nat → Nat} {n : Nat} (h : Ex x bl B w c Z a n) {l1 l2 : List Nat} (hv : lvB Z l1 l2 [] = true) {A1 A2 : Option Addr} {m1 m2 c1 c2 : Nat} (r1 : KI.Rd w A1 (nums l1)) (r2 : KI.Rd w A2 (nums l2)) (e1 : l1.length = m1) (e2 : l2.length = m2) (b1 : m1 ≤ 100) (b2 : m2 ≤ 100) : Calls Try.prog 12 #[.pointer (some ⟨x, 0, none⟩), .slice A1 m1 c1, .slice A2 m2 c2] w fun e w' => e = .returned (.bool true) ∧ Below w.heap.size w w' := by
  unfold lvB at hv
  simp only [Bool.and_eq_true, beq_iff_eq] at hv
  obtain ⟨⟨v1, v2⟩, v3⟩ := hv
  have C1 : ∀ W, Below w.heap.size w W → Calls Try.prog 21 #[.pointer (some ⟨x, 0, none⟩), .int .i64 1] W fun e w' => ∃ v, e = .returned (.tuple #[v, .int .i64 0]) ∧ RwI W (nums l1) v w' := fun W hb => by rw [← v1]; exact h.list 0 (by omega) hb
  have C2 : ∀ W, Below w.heap.size w W → Calls Try.prog 21 #[.pointer (some ⟨x, 0, none⟩), .int .i64 2] W fun e w' => ∃ v, e = .returned (.tuple #[v, .int .i64 0]) ∧ RwI W (nums l2) v w' := fun W hb => by rw [← v2]; exact h.list 1 (by omega) hb
  have C3 : ∀ W, Below w.heap.size w W → Calls Try.prog 21 #[.pointer (some ⟨x, 0, none⟩), .int .i64 3] W fun e w' => ∃ v, e = .returned (.tuple #[v, .int .i64 0]) ∧ RwI W (nums []) v w' := fun W hb => by rw [← v3]; exact h.list 2 (by omega) hb
  have n1 : (nums l1).length = m1 := by unfold nums; rw [List.length_map]; exact e1
  have n2 : (nums l2).length = m2 := by unfold nums; rw [List.length_map]; exact e2
  have HC1 := Lib.hid C1
  have HC2 := Lib.hid C2
  have HC3 := Lib.hid C3
  have R1 := Lib.hid r1
  have R2 := Lib.hid r2
  have N1 := Lib.hid n1
  have N2 := Lib.hid n2
  have Q1 := Lib.hid b1
  have Q2 := Lib.hid b2
  clear C1 C2 C3 r1 r2 n1 n2 e1 e2 v1 v2 v3 h b1 b2
  go_enter Try.func12, Try.ntmps12
  go_wp2_with fail
  refine (HC1.out _ (Below.refl _ _)).mono ?_
  rintro r1 W1 ⟨v, rfl, own1, hb1⟩
  obtain ⟨_, Al1, cl1, rfl, _, rd1, _, _⟩ := KI.row own1
  have RD1 := Lib.hid rd1
  have HB1 := Lib.hid hb1
  rw [N1.out]
  clear own1 rd1 hb1
  go_wp2_with fail
  refine (HC2.out _ HB1.out).mono ?_
  rintro r1 W2 ⟨v, rfl, own2, hb2⟩
  obtain ⟨_, Al2, cl2, rfl, _, rd2, _, _⟩ := KI.row own2
  have RD2 := Lib.hid rd2
  have HB2 := Lib.hid (HB1.out.trans (hb2.mono HB1.out.size))
  have RD1 := Lib.hid (RD1.out.below hb2)
  rw [N2.out]
  clear own2 rd2 hb2
  go_wp2_with fail
  refine (HC3.out _ HB2.out).mono ?_
  rintro r1 W3 ⟨v, rfl, own3, hb3⟩
  obtain ⟨_, Al3, cl3, rfl, _, _, _, _⟩ := KI.row own3
  have HB3 := Lib.hid (HB2.out.trans (hb3.mono HB2.out.size))
  have RD1 := Lib.hid (RD1.out.below hb3)
  have RD2 := Lib.hid (RD2.out.below hb3)
  have CE1 := fun (cc : Nat) => Lib.hid (equI_same Al1 A1 m1 cl1 cc (nums l1) W3 N1.out (by have := Q1.out; omega) RD1.out (R1.out.below HB3.out))
  have CE2 := fun (W : World) (cc : Nat) (hb : Below W3.heap.size W3 W) => Lib.hid (equI_same Al2 A2 m2 cl2 cc (nums l2) W N2.out (by have := Q2.out; omega) (RD2.out.below hb) (R2.out.below (HB3.out.trans (hb.mono HB3.out.size))))
  have hl0 : (nums ([] : List Nat)).length = 0 := rfl
  rw [hl0]
  clear own3 hb3 hl0
  go_wp2_with fail
  refine (CE1 _).out.mono ?_
  rintro r1 W4 ⟨rfl, hb4⟩
  have HB4 := Lib.hid hb4
  clear hb4
  go_wp2_with fail
  refine (CE2 _ _ HB4.out).out.mono ?_
  rintro r1 W5 ⟨rfl, hb5⟩
  have HB5 := Lib.hid (HB3.out.trans ((HB4.out.trans (hb5.mono HB4.out.size)).mono HB3.out.size))
  clear hb5
  go_wp2
  go_ret
  exact ⟨rfl, HB5.out⟩
end Po
end Go.Proofs.Ytcipjjchclpgnaa
