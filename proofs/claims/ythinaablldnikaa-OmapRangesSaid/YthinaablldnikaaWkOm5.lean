/- The walk of the law OmapRanges, from the contracts of package omap (XOmC0 to XOmC2), XOmJ and XOmT. Conditions: those of the contracts. -/
import Derived.Test.YthinaablldnikaaWkOm1
namespace Go.Proofs.Ythinaablldnikaa
open Go.RowKit Go.Sort
set_option linter.unusedVariables false
set_option linter.unusedSimpArgs false
namespace Wk
open Om
attribute [local go_sem] eqP guardP
/-- 'out = append(out, xs...)' onto a row of the call's own, nil too -/
theorem appG {ops : Array Oper} {rest : List Oper} {o : Oper} {a : Act} {Q : Exit → Act → World → Prop} (hgd : o.guard = none) (s x : Operand)
    (ho : o.op = .call { callee := .builtin .append, args := #[s, x], argTypes := #[22, 22] }) (w : World) (base n N : Nat) (v : Value) (ys zs : List Pr) (A : Option Addr) (m d : Nat) (l : List Pr)
    (hs : a.eval s = v) (hx : a.eval x = .slice A m d) (hl : l.length = m) (hr : Rd w A l) (hz : A = none → d = 0) (hown : w.ownsRow base 45 2 v n (flat ys)) (hn : (n + m) * 16 ≤ 140737488355328) (hb : base ≤ w.heap.size) (hN : n + m = N) (hzs : ys ++ l = zs)
    (h : ∀ A' c' w', w'.ownsRow base 45 2 (.slice A' N c') N (flat zs) → Below base w w' → wpList Try.prog ops Q rest (a.put o.dst (.slice A' N c')) w') :
    wpList Try.prog ops Q (o :: rest) a w := by
  subst hN hzs
  obtain ⟨i0, hi, hz0, hz1, hz2⟩ := info_parts info
  cases A with
  | none =>
    have hl0 : l = [] := by
      cases l with
      | nil => rfl
      | cons x l => obtain ⟨b, o, e, _⟩ := hr 0 x rfl; cases e
    subst hl0
    obtain rfl : m = 0 := by simpa using hl.symm
    obtain rfl := hz rfl
    obtain ⟨A', c', e⟩ := row_slice hown
    subst e
    refine wpList_append_own_none hgd s x 22 ho base 45 i0 2 Try.underlying22 hi _ n (flat ys) hs hown hx ?_
    exact h A' c' w (by rw [List.append_nil]; exact hown) (Below.refl _ _)
  | some ad =>
    refine wpList_append_own _ hgd s x 22 ho base 45 i0 _ 2 16 Try.underlying22 hi hz0 hz1 hz2 rfl (by omega) _ n (flat ys) hs hown ad m d (flat l) hx (by rw [flat_len, hl]) hr.flat_cells (flat_one_cell l) (by unfold maxLen; omega) (by omega) hb ?_
    intro v' w' h1 h2 hnil
    rw [← flat_append] at h1
    obtain ⟨A', c', e⟩ := row_slice h1
    subst e
    exact h A' c' w' h1 ((Below.refl _ _).grown h2 hb fun k hk => (hown.lt k hk).1)
theorem low_zero {l : List Pr} (h : Bd l) : lowN l 0 = 0 := lowN_ge fun x hx => (h x hx).1
theorem low_most {l : List Pr} (h : Bd l) : lowN l (18446744073709551615 + 1) = l.length := lowN_lt fun x hx => by have := (h x hx).2.1; omega
theorem part_lo {l : List Pr} (ha : Asc l) (hd : Bd l) {lo : Int} (h : 0 < lo) : inL l 0 (lo - 1) = l.take (lowN l lo) := by
  rw [in_cut ha (by omega), low_zero hd, List.drop_zero, show lo - 1 + 1 = lo by omega]
theorem part_hi {l : List Pr} (ha : Asc l) (hd : Bd l) {hi : Int} (h : hi < 18446744073709551615) : inL l (hi + 1) 18446744073709551615 = l.drop (lowN l (hi + 1)) := by
  rw [in_cut ha (by omega), low_most hd, List.take_length]
theorem part_0 {l : List Pr} (hd : Bd l) {lo : Int} (h : lo = 0) : l.take (lowN l lo) = [] := by rw [h, low_zero hd]; rfl
theorem part_m {l : List Pr} (hd : Bd l) {hi : Int} (h : hi = 18446744073709551615) : l.drop (lowN l (hi + 1)) = [] := by rw [h, low_most hd]; exact List.drop_eq_nil_of_le (Nat.le_refl _)
theorem parts {l : List Pr} (ha : Asc l) {lo hi : Int} (h : lo ≤ hi) : l.take (lowN l lo) ++ (inL l lo hi ++ l.drop (lowN l (hi + 1))) = l := by
  rw [in_cut ha h, ← three l (low_le l h)]
theorem in_out (l : List Pr) (lo hi : Int) : inL (outL l lo hi) lo hi = [] := by
  unfold inL outL
  rw [List.filter_filter, List.filter_eq_nil_iff]
  intro x _
  cases inB lo hi x <;> simp
theorem out_all (l : List Pr) (lo hi : Int) : (outL l lo hi = l) ↔ (inL l lo hi).length = 0 := by
  have h := in_out_len l lo hi
  constructor
  · intro e
    rw [e] at h
    omega
  · intro e
    have h0 : inL l lo hi = [] := List.eq_nil_of_length_eq_zero e
    unfold inL at h0
    unfold outL
    rw [List.filter_eq_nil_iff] at h0
    rw [List.filter_eq_self]
    intro x hx
    have := h0 x hx
    simp at this
    simp [this]
/-- what the law needs of the pairs of its map -/
structure Rg (l I : List Pr) (lo hi : Int) : Prop where
  asc : Asc l
  bd : Bd l
  len : l.length ≤ 60
  i : inL l lo hi = I
  p : l.take (lowN l lo) ++ (I ++ l.drop (lowN l (hi + 1))) = l
  rg : rgL l lo hi = I
  rg2 : rgL (outL l lo hi) lo hi = []
  dl : deL l lo hi = outL l lo hi
  io : I.length + (outL l lo hi).length = l.length
  eq : decide (outL l lo hi = l) = decide (I.length = 0)
theorem Rg.mk' {l I : List Pr} {lo hi : Int} (ha : Asc l) (hb : Bd l) (hl : l.length ≤ 60) (hle : lo ≤ hi) (hI : inL l lo hi = I) : Rg l I lo hi := by
  subst hI
  exact ⟨ha, hb, hl, rfl, parts ha hle, if_pos hle, by rw [← in_out l lo hi]; exact if_pos hle, if_pos hle, in_out_len l lo hi, by rw [decide_eq_decide]; exact out_all l lo hi⟩
set_option maxRecDepth 100000 in
set_option maxHeartbeats 2000000 in
theorem ranges_nzm (a0 : Option Addr) (a0n a0c : Nat) (a0v : List Om.Pr) (a1Lo : Int) (a1Hi : Int) (w : World) (a0e : a0v.length = a0n) (a0m : a0n ≤ maxLen) (a0r : Om.Rd w a0 a0v) (a0b : Om.Bd a0v) (a0z : a0 = none → a0c = 0) (a0s : a0n * 16 ≤ 140737488351232) (a1Lol : 0 ≤ a1Lo) (a1Loh : a1Lo ≤ 18446744073709551615) (a1Hil : 0 ≤ a1Hi) (a1Hih : a1Hi ≤ 18446744073709551615) (h1 : a0n ≤ 60) (hle : a1Lo ≤ a1Hi) (hI : inL (maL a0v) a1Lo a1Hi = []) (hlo : a1Lo = 0) (hhi : a1Hi = 18446744073709551615) :
    Calls Try.prog 9 #[.slice a0 a0n a0c, .agg #[.int .u64 a1Lo, .int .u64 a1Hi]] w fun e w' => e = .returned (.bool true) ∧ Below w.heap.size w w' := by
  have HE := Lib.hid a0e
  have HR := Lib.hid a0r; clear a0r
  have HSZ := Lib.hid a0s; clear a0s
  have hrg := Rg.mk' (maL_asc a0v) (maL_bd a0b) (by have := maL_len a0v; omega) hle hI
  have MA := fun W h => Lib.hid (made_any a0 a0n a0c a0v W HE.out HSZ.out h)
  clear a0z a0m a0e a0b hI
  have b0 : Below w.heap.size w (w.alloc (.cells #[.int .u64 a1Lo, .int .u64 a1Hi] 41)) := bel_alloc (Below.refl _ _) _
  have t1 : decide (60 < (a0n : Int)) = false := decide_eq_false (by omega)
  have t2 : decide (a1Hi < a1Lo) = false := decide_eq_false (by omega)
  have RE := Lib.hid (show rgE a1Lo a1Hi = 0 from if_pos hle)
  have t3 : decide (0 < a1Lo) = false := decide_eq_false (by omega)
  have t4 : decide (a1Hi < 18446744073709551615) = false := decide_eq_false (by omega)
  have E0 := Lib.hid (show (w.alloc (.cells #[.int .u64 a1Lo, .int .u64 a1Hi] 41)).cell? ⟨w.heap.size, 0, none⟩ = some (.int .u64 a1Lo) by simp)
  have E1 := Lib.hid (show (w.alloc (.cells #[.int .u64 a1Lo, .int .u64 a1Hi] 41)).cell? ⟨w.heap.size, 1, none⟩ = some (.int .u64 a1Hi) by simp)
  have PZ := Lib.hid (part_0 hrg.bd hlo)
  have PM := Lib.hid (part_m hrg.bd hhi)
  clear hlo
  clear hhi
  have G := Lib.hid hrg; clear hrg
  go_enter Try.func9, Try.ntmps9
  go_wp2_with fail
  refine (MA _ (HR.out.below b0)).out.mono ?_
  intro r W1 h
  obtain ⟨bm, v, rfl, hs⟩ := Stb.start (B := w.heap.size + 1) (by simp) (by simp) (h.some_ (by rw [HE.out]; exact h1))
  have HB := Lib.hid hs; clear hs h MA
  generalize maL a0v = l at *
  have e0 := (HB.out.bel.cell (p := ⟨w.heap.size, 0, none⟩) (show w.heap.size < w.heap.size + 1 by omega)).trans E0.out
  have e1 := (HB.out.bel.cell (p := ⟨w.heap.size, 1, none⟩) (show w.heap.size < w.heap.size + 1 by omega)).trans E1.out
  go_wp2_with fail
  refine (copyC_any _ _ _ _ HB.out.m (by have := G.out.len; omega)).mono ?_
  intro r W2 h
  obtain ⟨bn, u, rfl, hs⟩ := HB.out.more h
  have HS := Lib.hid hs; clear hs h
  have e0 := (HS.out.bel.cell (p := ⟨w.heap.size, 0, none⟩) (show w.heap.size < w.heap.size + 1 by omega)).trans E0.out
  have e1 := (HS.out.bel.cell (p := ⟨w.heap.size, 1, none⟩) (show w.heap.size < w.heap.size + 1 by omega)).trans E1.out
  go_wp2_with fail
  refine (pairsC_any _ _ _ _ HS.out.m (by have := G.out.len; omega)).mono ?_
  rintro r W3 ⟨q1, rfl, hq, b1⟩
  have RA := Lib.hid (Rw.fresh HS.out hq); clear hq
  have HS := Lib.hid (HS.out.below b1); clear b1
  have e0 := (HS.out.bel.cell (p := ⟨w.heap.size, 0, none⟩) (show w.heap.size < w.heap.size + 1 by omega)).trans E0.out
  have e1 := (HS.out.bel.cell (p := ⟨w.heap.size, 1, none⟩) (show w.heap.size < w.heap.size + 1 by omega)).trans E1.out
  go_wp2_with fail
  refine (rangeC_any _ _ _ a1Lo a1Hi _ HS.out.m G.out.asc (by have := G.out.len; omega) G.out.bd a1Lol a1Loh a1Hil a1Hih).mono ?_
  intro r W4 h
  rw [G.out.rg, RE.out] at h
  obtain ⟨q2, rfl, hq, b1⟩ := h
  have RA := Lib.hid (RA.out.below b1)
  have RI := Lib.hid (Rw.fresh HS.out hq); clear hq
  have HS := Lib.hid (HS.out.below b1); clear b1
  have e0 := (HS.out.bel.cell (p := ⟨w.heap.size, 0, none⟩) (show w.heap.size < w.heap.size + 1 by omega)).trans E0.out
  have e1 := (HS.out.bel.cell (p := ⟨w.heap.size, 1, none⟩) (show w.heap.size < w.heap.size + 1 by omega)).trans E1.out
  go_wp2_with fail
  refine (nextC_any _ _ _ a1Lo a1Hi _ HS.out.m G.out.asc (by have := G.out.len; omega)).mono ?_
  rw [G.out.rg, RE.out]
  unfold nxT
  rintro r W5 ⟨rfl, b1⟩
  have b2 := bel_alloc b1 (.cells #[.int .u64 0, .int .u64 0] 45)
  have RA := Lib.hid (RA.out.below b2)
  have RI := Lib.hid (RI.out.below b2)
  have HS := Lib.hid (HS.out.below b2); clear b1 b2
  obtain ⟨_, A1, c1, eq1, hc1, rd1, z1⟩ := row_rd RA.out.row
  obtain ⟨_, A2, c2, eq2, hc2, rd2, z2⟩ := row_rd RI.out.row
  have Z2 := Lib.hid z2
  subst eq1 eq2
  clear rd1 z1 z2 rd2
  obtain ⟨nl, hnl⟩ : ∃ n, l.length = n := ⟨_, rfl⟩
  have HNL := Lib.hid hnl
  have hnl60 : nl ≤ 60 := by rw [← hnl]; exact G.out.len
  obtain ⟨ni, hni⟩ : ∃ n, ([] : List Pr).length = n := ⟨_, rfl⟩
  have HNI := Lib.hid hni
  have hio := G.out.io
  rw [hni, hnl] at hio
  rw [hnl] at RA hc1 ⊢
  rw [hni] at RI hc2 ⊢
  clear hnl hni
  obtain rfl : ni = 0 := HNI.out.symm
  have z1 : decide ((0 : Int) < 0) = false := by decide
  clear e0 e1
  go_wp2
  go_quiet (fail)
  have b3 : Below (W5.alloc (.cells #[.int .u64 0, .int .u64 0] 45)).heap.size (W5.alloc (.cells #[.int .u64 0, .int .u64 0] 45)) ((W5.alloc (.cells #[.int .u64 0, .int .u64 0] 45)).drewN nq) := below_drewN (Below.refl _ _) nq
  have RA := Lib.hid (RA.out.below b3)
  have RI := Lib.hid (RI.out.below b3)
  have HS := Lib.hid (HS.out.below b3); clear b3
  generalize (W5.alloc (.cells #[.int .u64 0, .int .u64 0] 45)).drewN nq = W6 at *
  have e0 := (HS.out.bel.cell (p := ⟨w.heap.size, 0, none⟩) (show w.heap.size < w.heap.size + 1 by omega)).trans E0.out
  have e1 := (HS.out.bel.cell (p := ⟨w.heap.size, 1, none⟩) (show w.heap.size < w.heap.size + 1 by omega)).trans E1.out
  have RJ := Lib.hid (World.ownsRow_nil W6 W6.heap.size 45 2)
  have BJ := Lib.hid (Below.refl W6.heap.size W6)
  have hzs : ([] : List Pr) ++ ([] : List Pr) = l := by have h := G.out.p; rw [PZ.out] at h; rw [PM.out] at h; simpa using h
  have hN : 0 + 0 = nl := by have h := congrArg List.length hzs; rw [HNL.out] at h; simp only [List.length_append] at h; have qi := HNI.out; simp only [List.length_nil] at *; omega
  have HZS := Lib.hid hzs
  have HNN := Lib.hid hN; clear hzs hN
  go_wp2_with (refine appG rfl (.tmp 106) (.tmp 107) rfl _ W6.heap.size 0 nl (.slice none 0 0) ([] : List Pr) l A2 0 c2 ([] : List Pr) rfl rfl HNI.out (by obtain ⟨_, A0, c0, e, _, rd, _⟩ := row_rd (RI.out.below BJ.out).row; injection e with e1 e2 e3; rw [e1]; exact rd) Z2.out RJ.out (by omega) BJ.out.size HNN.out HZS.out ?_; intro A09 c09 Y0 h9 b9; have RJ := Lib.hid h9; have BJ := Lib.hid (BJ.out.trans b9); clear h9 b9; have e0 := ((HS.out.below BJ.out).bel.cell (p := ⟨w.heap.size, 0, none⟩) (show w.heap.size < w.heap.size + 1 by omega)).trans E0.out; have e1 := ((HS.out.below BJ.out).bel.cell (p := ⟨w.heap.size, 1, none⟩) (show w.heap.size < w.heap.size + 1 by omega)).trans E1.out)
  go_loopw [18] (fun i wr => ∃ k : Nat, k ≤ nl ∧ i = .int .i64 k ∧ Below W6.heap.size W6 wr ∧ wr.ownsRow W6.heap.size 45 2 (.slice A09 nl c09) nl (flat l)) (fun i _ => nl - (intOf i).toNat)
  case atStart => exact ⟨0, Nat.zero_le _, rfl, BJ.out, RJ.out⟩
  case round =>
    clear BJ RJ e0 e1
    obtain ⟨k, hk, rfl, bj, rj⟩ := hrel
    have BJ := Lib.hid bj
    have RJ := Lib.hid rj
    clear bj rj
    by_cases hlt : k < nl
    · have u0 : decide ((k : Int) < nl) = true := decide_eq_true (by omega)
      have hki : (k : Int) < nl := by omega
      obtain ⟨y, hy, _⟩ := getElem?_lt HNL.out hlt
      obtain ⟨_, A8, c8, e8, _, rd8, _⟩ := row_rd (RA.out.below BJ.out).row
      injection e8 with e81 e82 e83
      subst e81
      obtain ⟨_, A7, c7, e7, _, rd7, _⟩ := row_rd RJ.out
      injection e7 with e71 e72 e73
      subst e71
      obtain ⟨b5, o5, rfl, g2, g3⟩ := rd8 k y hy
      obtain ⟨b6, o6, rfl, g4, g5⟩ := rd7 k y hy
      clear rd7 rd8 hy e82 e83 e72 e73
      go_wp2
      go_quiet (fail)
      go_wp2
      go_roundw
      case rel => exact ⟨k + 1, by omega, by go_num, below_drewN BJ.out _, RJ.out⟩
      case measure => simp [intOf]; omega
    · obtain rfl : k = nl := by omega
      have u0 : decide ((k : Int) < k) = false := decide_eq_false (by omega)
      have HS := Lib.hid (HS.out.below BJ.out)
      have e0 := (HS.out.bel.cell (p := ⟨w.heap.size, 0, none⟩) (show w.heap.size < w.heap.size + 1 by omega)).trans E0.out
      have e1 := (HS.out.bel.cell (p := ⟨w.heap.size, 1, none⟩) (show w.heap.size < w.heap.size + 1 by omega)).trans E1.out
      clear RA RI RJ BJ
      go_wp2_with fail
      refine (deC_any _ _ _ a1Lo a1Hi _ HS.out.m G.out.asc (by have := G.out.len; omega) G.out.bd a1Lol a1Loh a1Hil a1Hih).mono ?_
      intro r V1 h
      rw [show deT l a1Lo a1Hi = .tuple #[.int .i64 ((0 : Nat) : Int), .int .i64 0] by unfold deT; rw [G.out.rg, RE.out, HNI.out], G.out.dl] at h
      obtain ⟨v1, rfl, hs⟩ := HS.out.left h
      have HS := Lib.hid hs; clear hs h
      have e0 := (HS.out.bel.cell (p := ⟨w.heap.size, 0, none⟩) (show w.heap.size < w.heap.size + 1 by omega)).trans E0.out
      have e1 := (HS.out.bel.cell (p := ⟨w.heap.size, 1, none⟩) (show w.heap.size < w.heap.size + 1 by omega)).trans E1.out
      have hol : (outL l a1Lo a1Hi).length ≤ 60 := by omega
      go_wp2_with fail
      refine (rangeC_any _ _ _ a1Lo a1Hi _ HS.out.m (outL_asc G.out.asc _ _) (by omega) (outL_bd G.out.bd _ _) a1Lol a1Loh a1Hil a1Hih).mono ?_
      intro r V2 h
      rw [G.out.rg2, RE.out] at h
      obtain ⟨q5, rfl, hq, b5⟩ := h
      obtain ⟨_, A5, c5, e5, _, _, _⟩ := row_rd hq
      subst e5
      clear hq e0 e1
      have HS := Lib.hid (HS.out.below b5); clear b5
      have x1 : (((outL l a1Lo a1Hi).length : Int) == (k : Int)) = true := by simp; omega
      have x2 : ((k : Int) == k) = true := by simp
      go_wp2_with fail
      refine (lenC_any _ _ _ _ HS.out.m (by omega)).mono ?_
      rintro r V3 ⟨rfl, b5⟩
      have HS := Lib.hid (HS.out.below b5); clear b5
      go_wp2_with fail
      refine (lenC_any _ _ _ _ HS.out.c (by have := G.out.len; omega)).mono ?_
      rw [HNL.out]
      rintro r V4 ⟨rfl, b5⟩
      have HS := Lib.hid (HS.out.below b5); clear b5
      go_wp2_with fail
      refine (equalC_any _ _ _ _ _ _ _ HS.out.m HS.out.c (by omega) (by have := G.out.len; omega)).mono ?_
      rw [show decide (outL l a1Lo a1Hi = l) = true by rw [G.out.eq]; rfl]
      rintro r V5 ⟨rfl, b5⟩
      have HS := Lib.hid (HS.out.below b5); clear b5
      go_wp2_with fail
      refine (known_any _).mono ?_
      rintro r V6 ⟨rfl, b5⟩
      go_wp2
      go_ret
      exact ⟨rfl, bel_trans (b0.trans (HS.out.bel.mono (by omega))) b5⟩
set_option maxRecDepth 100000 in
set_option maxHeartbeats 2000000 in
theorem ranges_nzh (a0 : Option Addr) (a0n a0c : Nat) (a0v : List Om.Pr) (a1Lo : Int) (a1Hi : Int) (w : World) (a0e : a0v.length = a0n) (a0m : a0n ≤ maxLen) (a0r : Om.Rd w a0 a0v) (a0b : Om.Bd a0v) (a0z : a0 = none → a0c = 0) (a0s : a0n * 16 ≤ 140737488351232) (a1Lol : 0 ≤ a1Lo) (a1Loh : a1Lo ≤ 18446744073709551615) (a1Hil : 0 ≤ a1Hi) (a1Hih : a1Hi ≤ 18446744073709551615) (h1 : a0n ≤ 60) (hle : a1Lo ≤ a1Hi) (hI : inL (maL a0v) a1Lo a1Hi = []) (hlo : a1Lo = 0) (hhi : a1Hi < 18446744073709551615) :
    Calls Try.prog 9 #[.slice a0 a0n a0c, .agg #[.int .u64 a1Lo, .int .u64 a1Hi]] w fun e w' => e = .returned (.bool true) ∧ Below w.heap.size w w' := by
  have HE := Lib.hid a0e
  have HR := Lib.hid a0r; clear a0r
  have HSZ := Lib.hid a0s; clear a0s
  have hrg := Rg.mk' (maL_asc a0v) (maL_bd a0b) (by have := maL_len a0v; omega) hle hI
  have MA := fun W h => Lib.hid (made_any a0 a0n a0c a0v W HE.out HSZ.out h)
  clear a0z a0m a0e a0b hI
  have b0 : Below w.heap.size w (w.alloc (.cells #[.int .u64 a1Lo, .int .u64 a1Hi] 41)) := bel_alloc (Below.refl _ _) _
  have t1 : decide (60 < (a0n : Int)) = false := decide_eq_false (by omega)
  have t2 : decide (a1Hi < a1Lo) = false := decide_eq_false (by omega)
  have RE := Lib.hid (show rgE a1Lo a1Hi = 0 from if_pos hle)
  have t3 : decide (0 < a1Lo) = false := decide_eq_false (by omega)
  have REH := Lib.hid (show rgE (a1Hi + 1) 18446744073709551615 = 0 from if_pos (by omega))
  have t4 : decide (a1Hi < 18446744073709551615) = true := decide_eq_true hhi
  have E0 := Lib.hid (show (w.alloc (.cells #[.int .u64 a1Lo, .int .u64 a1Hi] 41)).cell? ⟨w.heap.size, 0, none⟩ = some (.int .u64 a1Lo) by simp)
  have E1 := Lib.hid (show (w.alloc (.cells #[.int .u64 a1Lo, .int .u64 a1Hi] 41)).cell? ⟨w.heap.size, 1, none⟩ = some (.int .u64 a1Hi) by simp)
  have PZ := Lib.hid (part_0 hrg.bd hlo)
  have RH := Lib.hid (show rgL (maL a0v) (a1Hi + 1) 18446744073709551615 = (maL a0v).drop (lowN (maL a0v) (a1Hi + 1)) by rw [← part_hi hrg.asc hrg.bd hhi]; exact if_pos (by omega))
  clear hlo
  have G := Lib.hid hrg; clear hrg
  go_enter Try.func9, Try.ntmps9
  go_wp2_with fail
  refine (MA _ (HR.out.below b0)).out.mono ?_
  intro r W1 h
  obtain ⟨bm, v, rfl, hs⟩ := Stb.start (B := w.heap.size + 1) (by simp) (by simp) (h.some_ (by rw [HE.out]; exact h1))
  have HB := Lib.hid hs; clear hs h MA
  generalize maL a0v = l at *
  have e0 := (HB.out.bel.cell (p := ⟨w.heap.size, 0, none⟩) (show w.heap.size < w.heap.size + 1 by omega)).trans E0.out
  have e1 := (HB.out.bel.cell (p := ⟨w.heap.size, 1, none⟩) (show w.heap.size < w.heap.size + 1 by omega)).trans E1.out
  go_wp2_with fail
  refine (copyC_any _ _ _ _ HB.out.m (by have := G.out.len; omega)).mono ?_
  intro r W2 h
  obtain ⟨bn, u, rfl, hs⟩ := HB.out.more h
  have HS := Lib.hid hs; clear hs h
  have e0 := (HS.out.bel.cell (p := ⟨w.heap.size, 0, none⟩) (show w.heap.size < w.heap.size + 1 by omega)).trans E0.out
  have e1 := (HS.out.bel.cell (p := ⟨w.heap.size, 1, none⟩) (show w.heap.size < w.heap.size + 1 by omega)).trans E1.out
  go_wp2_with fail
  refine (pairsC_any _ _ _ _ HS.out.m (by have := G.out.len; omega)).mono ?_
  rintro r W3 ⟨q1, rfl, hq, b1⟩
  have RA := Lib.hid (Rw.fresh HS.out hq); clear hq
  have HS := Lib.hid (HS.out.below b1); clear b1
  have e0 := (HS.out.bel.cell (p := ⟨w.heap.size, 0, none⟩) (show w.heap.size < w.heap.size + 1 by omega)).trans E0.out
  have e1 := (HS.out.bel.cell (p := ⟨w.heap.size, 1, none⟩) (show w.heap.size < w.heap.size + 1 by omega)).trans E1.out
  go_wp2_with fail
  refine (rangeC_any _ _ _ a1Lo a1Hi _ HS.out.m G.out.asc (by have := G.out.len; omega) G.out.bd a1Lol a1Loh a1Hil a1Hih).mono ?_
  intro r W4 h
  rw [G.out.rg, RE.out] at h
  obtain ⟨q2, rfl, hq, b1⟩ := h
  have RA := Lib.hid (RA.out.below b1)
  have RI := Lib.hid (Rw.fresh HS.out hq); clear hq
  have HS := Lib.hid (HS.out.below b1); clear b1
  have e0 := (HS.out.bel.cell (p := ⟨w.heap.size, 0, none⟩) (show w.heap.size < w.heap.size + 1 by omega)).trans E0.out
  have e1 := (HS.out.bel.cell (p := ⟨w.heap.size, 1, none⟩) (show w.heap.size < w.heap.size + 1 by omega)).trans E1.out
  go_wp2_with fail
  refine (nextC_any _ _ _ a1Lo a1Hi _ HS.out.m G.out.asc (by have := G.out.len; omega)).mono ?_
  rw [G.out.rg, RE.out]
  unfold nxT
  rintro r W5 ⟨rfl, b1⟩
  have b2 := bel_alloc b1 (.cells #[.int .u64 0, .int .u64 0] 45)
  have RA := Lib.hid (RA.out.below b2)
  have RI := Lib.hid (RI.out.below b2)
  have HS := Lib.hid (HS.out.below b2); clear b1 b2
  obtain ⟨_, A1, c1, eq1, hc1, rd1, z1⟩ := row_rd RA.out.row
  obtain ⟨_, A2, c2, eq2, hc2, rd2, z2⟩ := row_rd RI.out.row
  have Z2 := Lib.hid z2
  subst eq1 eq2
  clear rd1 z1 z2 rd2
  obtain ⟨nl, hnl⟩ : ∃ n, l.length = n := ⟨_, rfl⟩
  have HNL := Lib.hid hnl
  have hnl60 : nl ≤ 60 := by rw [← hnl]; exact G.out.len
  obtain ⟨ni, hni⟩ : ∃ n, ([] : List Pr).length = n := ⟨_, rfl⟩
  have HNI := Lib.hid hni
  have hio := G.out.io
  rw [hni, hnl] at hio
  rw [hnl] at RA hc1 ⊢
  rw [hni] at RI hc2 ⊢
  clear hnl hni
  obtain rfl : ni = 0 := HNI.out.symm
  have z1 : decide ((0 : Int) < 0) = false := by decide
  clear e0 e1
  go_wp2
  go_quiet (fail)
  have b3 : Below (W5.alloc (.cells #[.int .u64 0, .int .u64 0] 45)).heap.size (W5.alloc (.cells #[.int .u64 0, .int .u64 0] 45)) ((W5.alloc (.cells #[.int .u64 0, .int .u64 0] 45)).drewN nq) := below_drewN (Below.refl _ _) nq
  have RA := Lib.hid (RA.out.below b3)
  have RI := Lib.hid (RI.out.below b3)
  have HS := Lib.hid (HS.out.below b3); clear b3
  generalize (W5.alloc (.cells #[.int .u64 0, .int .u64 0] 45)).drewN nq = W6 at *
  have e0 := (HS.out.bel.cell (p := ⟨w.heap.size, 0, none⟩) (show w.heap.size < w.heap.size + 1 by omega)).trans E0.out
  have e1 := (HS.out.bel.cell (p := ⟨w.heap.size, 1, none⟩) (show w.heap.size < w.heap.size + 1 by omega)).trans E1.out
  have RJ := Lib.hid (World.ownsRow_nil W6 W6.heap.size 45 2)
  have BJ := Lib.hid (Below.refl W6.heap.size W6)
  go_wp2_with (refine appG rfl (.tmp 106) (.tmp 107) rfl _ W6.heap.size 0 0 (.slice none 0 0) ([] : List Pr) ([] : List Pr) A2 0 c2 ([] : List Pr) rfl rfl HNI.out (by obtain ⟨_, A0, c0, e, _, rd, _⟩ := row_rd (RI.out.below BJ.out).row; injection e with e1 e2 e3; rw [e1]; exact rd) Z2.out RJ.out (by omega) BJ.out.size (Nat.zero_add _) rfl ?_; intro A09 c09 Y0 h9 b9; have RJ := Lib.hid h9; have BJ := Lib.hid (BJ.out.trans b9); clear h9 b9; have e0 := ((HS.out.below BJ.out).bel.cell (p := ⟨w.heap.size, 0, none⟩) (show w.heap.size < w.heap.size + 1 by omega)).trans E0.out; have e1 := ((HS.out.below BJ.out).bel.cell (p := ⟨w.heap.size, 1, none⟩) (show w.heap.size < w.heap.size + 1 by omega)).trans E1.out)
  go_wp2_with fail
  refine (rangeC_any _ _ _ (a1Hi + 1) 18446744073709551615 _ (HS.out.below BJ.out).m G.out.asc (by have := G.out.len; omega) G.out.bd (by omega) (by omega) (by omega) (by omega)).mono ?_
  intro r X1 h
  rw [RH.out, REH.out] at h
  obtain ⟨p1, rfl, hq, b7⟩ := h
  obtain ⟨_, C1, d1, e3q, hd1, rd3, z3⟩ := row_rd hq
  subst e3q
  have RD1 := Lib.hid rd3
  have ZZ1 := Lib.hid z3
  have RJ := Lib.hid (row_below RJ.out b7)
  have BJ := Lib.hid (BJ.out.trans (b7.mono BJ.out.size)); clear hq rd3 z3 b7
  obtain ⟨n1, hn3⟩ : ∃ n, (l.drop (lowN l (a1Hi + 1))).length = n := ⟨_, rfl⟩
  have hnl1 : n1 ≤ nl := by rw [← hn3, ← HNL.out]; rw [List.length_drop]; omega
  have HK1 := Lib.hid hn3
  rw [hn3] at hd1 ⊢
  clear hn3
  have e0 := ((HS.out.below BJ.out).bel.cell (p := ⟨w.heap.size, 0, none⟩) (show w.heap.size < w.heap.size + 1 by omega)).trans E0.out
  have e1 := ((HS.out.below BJ.out).bel.cell (p := ⟨w.heap.size, 1, none⟩) (show w.heap.size < w.heap.size + 1 by omega)).trans E1.out
  have hzs : ([] : List Pr) ++ (l.drop (lowN l (a1Hi + 1))) = l := by have h := G.out.p; rw [PZ.out] at h; simpa using h
  have hN : 0 + n1 = nl := by have h := congrArg List.length hzs; rw [HNL.out] at h; simp only [List.length_append] at h; have qi := HNI.out; have q1 := HK1.out; simp only [List.length_nil] at *; omega
  have HZS := Lib.hid hzs
  have HNN := Lib.hid hN; clear hzs hN
  go_wp2_with (refine appG rfl (.tmp 123) (.tmp 124) rfl _ W6.heap.size 0 nl (.slice A09 0 c09) ([] : List Pr) l C1 n1 d1 (l.drop (lowN l (a1Hi + 1))) rfl rfl HK1.out RD1.out ZZ1.out RJ.out (by omega) BJ.out.size HNN.out HZS.out ?_; intro A19 c19 Y1 h9 b9; have RJ := Lib.hid h9; have BJ := Lib.hid (BJ.out.trans b9); clear h9 b9; have e0 := ((HS.out.below BJ.out).bel.cell (p := ⟨w.heap.size, 0, none⟩) (show w.heap.size < w.heap.size + 1 by omega)).trans E0.out; have e1 := ((HS.out.below BJ.out).bel.cell (p := ⟨w.heap.size, 1, none⟩) (show w.heap.size < w.heap.size + 1 by omega)).trans E1.out)
  go_loopw [18] (fun i wr => ∃ k : Nat, k ≤ nl ∧ i = .int .i64 k ∧ Below W6.heap.size W6 wr ∧ wr.ownsRow W6.heap.size 45 2 (.slice A19 nl c19) nl (flat l)) (fun i _ => nl - (intOf i).toNat)
  case atStart => exact ⟨0, Nat.zero_le _, rfl, BJ.out, RJ.out⟩
  case round =>
    clear BJ RJ e0 e1
    obtain ⟨k, hk, rfl, bj, rj⟩ := hrel
    have BJ := Lib.hid bj
    have RJ := Lib.hid rj
    clear bj rj
    by_cases hlt : k < nl
    · have u0 : decide ((k : Int) < nl) = true := decide_eq_true (by omega)
      have hki : (k : Int) < nl := by omega
      obtain ⟨y, hy, _⟩ := getElem?_lt HNL.out hlt
      obtain ⟨_, A8, c8, e8, _, rd8, _⟩ := row_rd (RA.out.below BJ.out).row
      injection e8 with e81 e82 e83
      subst e81
      obtain ⟨_, A7, c7, e7, _, rd7, _⟩ := row_rd RJ.out
      injection e7 with e71 e72 e73
      subst e71
      obtain ⟨b5, o5, rfl, g2, g3⟩ := rd8 k y hy
      obtain ⟨b6, o6, rfl, g4, g5⟩ := rd7 k y hy
      clear rd7 rd8 hy e82 e83 e72 e73
      go_wp2
      go_quiet (fail)
      go_wp2
      go_roundw
      case rel => exact ⟨k + 1, by omega, by go_num, below_drewN BJ.out _, RJ.out⟩
      case measure => simp [intOf]; omega
    · obtain rfl : k = nl := by omega
      have u0 : decide ((k : Int) < k) = false := decide_eq_false (by omega)
      have HS := Lib.hid (HS.out.below BJ.out)
      have e0 := (HS.out.bel.cell (p := ⟨w.heap.size, 0, none⟩) (show w.heap.size < w.heap.size + 1 by omega)).trans E0.out
      have e1 := (HS.out.bel.cell (p := ⟨w.heap.size, 1, none⟩) (show w.heap.size < w.heap.size + 1 by omega)).trans E1.out
      clear RA RI RJ BJ
      go_wp2_with fail
      refine (deC_any _ _ _ a1Lo a1Hi _ HS.out.m G.out.asc (by have := G.out.len; omega) G.out.bd a1Lol a1Loh a1Hil a1Hih).mono ?_
      intro r V1 h
      rw [show deT l a1Lo a1Hi = .tuple #[.int .i64 ((0 : Nat) : Int), .int .i64 0] by unfold deT; rw [G.out.rg, RE.out, HNI.out], G.out.dl] at h
      obtain ⟨v1, rfl, hs⟩ := HS.out.left h
      have HS := Lib.hid hs; clear hs h
      have e0 := (HS.out.bel.cell (p := ⟨w.heap.size, 0, none⟩) (show w.heap.size < w.heap.size + 1 by omega)).trans E0.out
      have e1 := (HS.out.bel.cell (p := ⟨w.heap.size, 1, none⟩) (show w.heap.size < w.heap.size + 1 by omega)).trans E1.out
      have hol : (outL l a1Lo a1Hi).length ≤ 60 := by omega
      go_wp2_with fail
      refine (rangeC_any _ _ _ a1Lo a1Hi _ HS.out.m (outL_asc G.out.asc _ _) (by omega) (outL_bd G.out.bd _ _) a1Lol a1Loh a1Hil a1Hih).mono ?_
      intro r V2 h
      rw [G.out.rg2, RE.out] at h
      obtain ⟨q5, rfl, hq, b5⟩ := h
      obtain ⟨_, A5, c5, e5, _, _, _⟩ := row_rd hq
      subst e5
      clear hq e0 e1
      have HS := Lib.hid (HS.out.below b5); clear b5
      have x1 : (((outL l a1Lo a1Hi).length : Int) == (k : Int)) = true := by simp; omega
      have x2 : ((k : Int) == k) = true := by simp
      go_wp2_with fail
      refine (lenC_any _ _ _ _ HS.out.m (by omega)).mono ?_
      rintro r V3 ⟨rfl, b5⟩
      have HS := Lib.hid (HS.out.below b5); clear b5
      go_wp2_with fail
      refine (lenC_any _ _ _ _ HS.out.c (by have := G.out.len; omega)).mono ?_
      rw [HNL.out]
      rintro r V4 ⟨rfl, b5⟩
      have HS := Lib.hid (HS.out.below b5); clear b5
      go_wp2_with fail
      refine (equalC_any _ _ _ _ _ _ _ HS.out.m HS.out.c (by omega) (by have := G.out.len; omega)).mono ?_
      rw [show decide (outL l a1Lo a1Hi = l) = true by rw [G.out.eq]; rfl]
      rintro r V5 ⟨rfl, b5⟩
      have HS := Lib.hid (HS.out.below b5); clear b5
      go_wp2_with fail
      refine (known_any _).mono ?_
      rintro r V6 ⟨rfl, b5⟩
      go_wp2
      go_ret
      exact ⟨rfl, bel_trans (b0.trans (HS.out.bel.mono (by omega))) b5⟩
set_option maxRecDepth 100000 in
set_option maxHeartbeats 2000000 in
theorem ranges_nlm (a0 : Option Addr) (a0n a0c : Nat) (a0v : List Om.Pr) (a1Lo : Int) (a1Hi : Int) (w : World) (a0e : a0v.length = a0n) (a0m : a0n ≤ maxLen) (a0r : Om.Rd w a0 a0v) (a0b : Om.Bd a0v) (a0z : a0 = none → a0c = 0) (a0s : a0n * 16 ≤ 140737488351232) (a1Lol : 0 ≤ a1Lo) (a1Loh : a1Lo ≤ 18446744073709551615) (a1Hil : 0 ≤ a1Hi) (a1Hih : a1Hi ≤ 18446744073709551615) (h1 : a0n ≤ 60) (hle : a1Lo ≤ a1Hi) (hI : inL (maL a0v) a1Lo a1Hi = []) (hlo : 0 < a1Lo) (hhi : a1Hi = 18446744073709551615) :
    Calls Try.prog 9 #[.slice a0 a0n a0c, .agg #[.int .u64 a1Lo, .int .u64 a1Hi]] w fun e w' => e = .returned (.bool true) ∧ Below w.heap.size w w' := by
  have HE := Lib.hid a0e
  have HR := Lib.hid a0r; clear a0r
  have HSZ := Lib.hid a0s; clear a0s
  have hrg := Rg.mk' (maL_asc a0v) (maL_bd a0b) (by have := maL_len a0v; omega) hle hI
  have MA := fun W h => Lib.hid (made_any a0 a0n a0c a0v W HE.out HSZ.out h)
  clear a0z a0m a0e a0b hI
  have b0 : Below w.heap.size w (w.alloc (.cells #[.int .u64 a1Lo, .int .u64 a1Hi] 41)) := bel_alloc (Below.refl _ _) _
  have t1 : decide (60 < (a0n : Int)) = false := decide_eq_false (by omega)
  have t2 : decide (a1Hi < a1Lo) = false := decide_eq_false (by omega)
  have RE := Lib.hid (show rgE a1Lo a1Hi = 0 from if_pos hle)
  have REL := Lib.hid (show rgE 0 (a1Lo - 1) = 0 from if_pos (by omega))
  have t3 : decide (0 < a1Lo) = true := decide_eq_true hlo
  have t4 : decide (a1Hi < 18446744073709551615) = false := decide_eq_false (by omega)
  have E0 := Lib.hid (show (w.alloc (.cells #[.int .u64 a1Lo, .int .u64 a1Hi] 41)).cell? ⟨w.heap.size, 0, none⟩ = some (.int .u64 a1Lo) by simp)
  have E1 := Lib.hid (show (w.alloc (.cells #[.int .u64 a1Lo, .int .u64 a1Hi] 41)).cell? ⟨w.heap.size, 1, none⟩ = some (.int .u64 a1Hi) by simp)
  have RL := Lib.hid (show rgL (maL a0v) 0 (a1Lo - 1) = (maL a0v).take (lowN (maL a0v) a1Lo) by rw [← part_lo hrg.asc hrg.bd hlo]; exact if_pos (by omega))
  have PM := Lib.hid (part_m hrg.bd hhi)
  clear hhi
  have G := Lib.hid hrg; clear hrg
  go_enter Try.func9, Try.ntmps9
  go_wp2_with fail
  refine (MA _ (HR.out.below b0)).out.mono ?_
  intro r W1 h
  obtain ⟨bm, v, rfl, hs⟩ := Stb.start (B := w.heap.size + 1) (by simp) (by simp) (h.some_ (by rw [HE.out]; exact h1))
  have HB := Lib.hid hs; clear hs h MA
  generalize maL a0v = l at *
  have e0 := (HB.out.bel.cell (p := ⟨w.heap.size, 0, none⟩) (show w.heap.size < w.heap.size + 1 by omega)).trans E0.out
  have e1 := (HB.out.bel.cell (p := ⟨w.heap.size, 1, none⟩) (show w.heap.size < w.heap.size + 1 by omega)).trans E1.out
  go_wp2_with fail
  refine (copyC_any _ _ _ _ HB.out.m (by have := G.out.len; omega)).mono ?_
  intro r W2 h
  obtain ⟨bn, u, rfl, hs⟩ := HB.out.more h
  have HS := Lib.hid hs; clear hs h
  have e0 := (HS.out.bel.cell (p := ⟨w.heap.size, 0, none⟩) (show w.heap.size < w.heap.size + 1 by omega)).trans E0.out
  have e1 := (HS.out.bel.cell (p := ⟨w.heap.size, 1, none⟩) (show w.heap.size < w.heap.size + 1 by omega)).trans E1.out
  go_wp2_with fail
  refine (pairsC_any _ _ _ _ HS.out.m (by have := G.out.len; omega)).mono ?_
  rintro r W3 ⟨q1, rfl, hq, b1⟩
  have RA := Lib.hid (Rw.fresh HS.out hq); clear hq
  have HS := Lib.hid (HS.out.below b1); clear b1
  have e0 := (HS.out.bel.cell (p := ⟨w.heap.size, 0, none⟩) (show w.heap.size < w.heap.size + 1 by omega)).trans E0.out
  have e1 := (HS.out.bel.cell (p := ⟨w.heap.size, 1, none⟩) (show w.heap.size < w.heap.size + 1 by omega)).trans E1.out
  go_wp2_with fail
  refine (rangeC_any _ _ _ a1Lo a1Hi _ HS.out.m G.out.asc (by have := G.out.len; omega) G.out.bd a1Lol a1Loh a1Hil a1Hih).mono ?_
  intro r W4 h
  rw [G.out.rg, RE.out] at h
  obtain ⟨q2, rfl, hq, b1⟩ := h
  have RA := Lib.hid (RA.out.below b1)
  have RI := Lib.hid (Rw.fresh HS.out hq); clear hq
  have HS := Lib.hid (HS.out.below b1); clear b1
  have e0 := (HS.out.bel.cell (p := ⟨w.heap.size, 0, none⟩) (show w.heap.size < w.heap.size + 1 by omega)).trans E0.out
  have e1 := (HS.out.bel.cell (p := ⟨w.heap.size, 1, none⟩) (show w.heap.size < w.heap.size + 1 by omega)).trans E1.out
  go_wp2_with fail
  refine (nextC_any _ _ _ a1Lo a1Hi _ HS.out.m G.out.asc (by have := G.out.len; omega)).mono ?_
  rw [G.out.rg, RE.out]
  unfold nxT
  rintro r W5 ⟨rfl, b1⟩
  have b2 := bel_alloc b1 (.cells #[.int .u64 0, .int .u64 0] 45)
  have RA := Lib.hid (RA.out.below b2)
  have RI := Lib.hid (RI.out.below b2)
  have HS := Lib.hid (HS.out.below b2); clear b1 b2
  obtain ⟨_, A1, c1, eq1, hc1, rd1, z1⟩ := row_rd RA.out.row
  obtain ⟨_, A2, c2, eq2, hc2, rd2, z2⟩ := row_rd RI.out.row
  have Z2 := Lib.hid z2
  subst eq1 eq2
  clear rd1 z1 z2 rd2
  obtain ⟨nl, hnl⟩ : ∃ n, l.length = n := ⟨_, rfl⟩
  have HNL := Lib.hid hnl
  have hnl60 : nl ≤ 60 := by rw [← hnl]; exact G.out.len
  obtain ⟨ni, hni⟩ : ∃ n, ([] : List Pr).length = n := ⟨_, rfl⟩
  have HNI := Lib.hid hni
  have hio := G.out.io
  rw [hni, hnl] at hio
  rw [hnl] at RA hc1 ⊢
  rw [hni] at RI hc2 ⊢
  clear hnl hni
  obtain rfl : ni = 0 := HNI.out.symm
  have z1 : decide ((0 : Int) < 0) = false := by decide
  clear e0 e1
  go_wp2
  go_quiet (fail)
  have b3 : Below (W5.alloc (.cells #[.int .u64 0, .int .u64 0] 45)).heap.size (W5.alloc (.cells #[.int .u64 0, .int .u64 0] 45)) ((W5.alloc (.cells #[.int .u64 0, .int .u64 0] 45)).drewN nq) := below_drewN (Below.refl _ _) nq
  have RA := Lib.hid (RA.out.below b3)
  have RI := Lib.hid (RI.out.below b3)
  have HS := Lib.hid (HS.out.below b3); clear b3
  generalize (W5.alloc (.cells #[.int .u64 0, .int .u64 0] 45)).drewN nq = W6 at *
  have e0 := (HS.out.bel.cell (p := ⟨w.heap.size, 0, none⟩) (show w.heap.size < w.heap.size + 1 by omega)).trans E0.out
  have e1 := (HS.out.bel.cell (p := ⟨w.heap.size, 1, none⟩) (show w.heap.size < w.heap.size + 1 by omega)).trans E1.out
  have RJ := Lib.hid (World.ownsRow_nil W6 W6.heap.size 45 2)
  have BJ := Lib.hid (Below.refl W6.heap.size W6)
  go_wp2_with fail
  refine (rangeC_any _ _ _ 0 (a1Lo - 1) _ (HS.out.below BJ.out).m G.out.asc (by have := G.out.len; omega) G.out.bd (by omega) (by omega) (by omega) (by omega)).mono ?_
  intro r X0 h
  rw [RL.out, REL.out] at h
  obtain ⟨p0, rfl, hq, b7⟩ := h
  obtain ⟨_, C0, d0, e3q, hd0, rd3, z3⟩ := row_rd hq
  subst e3q
  have RD0 := Lib.hid rd3
  have ZZ0 := Lib.hid z3
  have RJ := Lib.hid (row_below RJ.out b7)
  have BJ := Lib.hid (BJ.out.trans (b7.mono BJ.out.size)); clear hq rd3 z3 b7
  obtain ⟨n0, hn3⟩ : ∃ n, (l.take (lowN l a1Lo)).length = n := ⟨_, rfl⟩
  have hnl0 : n0 ≤ nl := by rw [← hn3, ← HNL.out]; rw [List.length_take]; omega
  have HK0 := Lib.hid hn3
  rw [hn3] at hd0 ⊢
  clear hn3
  have e0 := ((HS.out.below BJ.out).bel.cell (p := ⟨w.heap.size, 0, none⟩) (show w.heap.size < w.heap.size + 1 by omega)).trans E0.out
  have e1 := ((HS.out.below BJ.out).bel.cell (p := ⟨w.heap.size, 1, none⟩) (show w.heap.size < w.heap.size + 1 by omega)).trans E1.out
  have hzs : (l.take (lowN l a1Lo)) ++ ([] : List Pr) = l := by have h := G.out.p; rw [PM.out] at h; simpa using h
  have hN : n0 + 0 = nl := by have h := congrArg List.length hzs; rw [HNL.out] at h; simp only [List.length_append] at h; have q0 := HK0.out; have qi := HNI.out; simp only [List.length_nil] at *; omega
  have HZS := Lib.hid hzs
  have HNN := Lib.hid hN; clear hzs hN
  go_wp2_with (first | (refine appG rfl (.tmp 103) (.tmp 104) rfl _ W6.heap.size 0 n0 (.slice none 0 0) ([] : List Pr) (l.take (lowN l a1Lo)) C0 n0 d0 (l.take (lowN l a1Lo)) rfl rfl HK0.out RD0.out ZZ0.out RJ.out (by omega) BJ.out.size (Nat.zero_add _) rfl ?_; intro A09 c09 Y0 h9 b9; have RJ := Lib.hid h9; have BJ := Lib.hid (BJ.out.trans b9); clear h9 b9; have e0 := ((HS.out.below BJ.out).bel.cell (p := ⟨w.heap.size, 0, none⟩) (show w.heap.size < w.heap.size + 1 by omega)).trans E0.out; have e1 := ((HS.out.below BJ.out).bel.cell (p := ⟨w.heap.size, 1, none⟩) (show w.heap.size < w.heap.size + 1 by omega)).trans E1.out) | (refine appG rfl (.tmp 106) (.tmp 107) rfl _ W6.heap.size n0 nl (.slice A09 n0 c09) (l.take (lowN l a1Lo)) l A2 0 c2 ([] : List Pr) rfl rfl HNI.out (by obtain ⟨_, A0, c0, e, _, rd, _⟩ := row_rd (RI.out.below BJ.out).row; injection e with e1 e2 e3; rw [e1]; exact rd) Z2.out RJ.out (by omega) BJ.out.size HNN.out HZS.out ?_; intro A19 c19 Y1 h9 b9; have RJ := Lib.hid h9; have BJ := Lib.hid (BJ.out.trans b9); clear h9 b9; have e0 := ((HS.out.below BJ.out).bel.cell (p := ⟨w.heap.size, 0, none⟩) (show w.heap.size < w.heap.size + 1 by omega)).trans E0.out; have e1 := ((HS.out.below BJ.out).bel.cell (p := ⟨w.heap.size, 1, none⟩) (show w.heap.size < w.heap.size + 1 by omega)).trans E1.out))
  go_loopw [18] (fun i wr => ∃ k : Nat, k ≤ nl ∧ i = .int .i64 k ∧ Below W6.heap.size W6 wr ∧ wr.ownsRow W6.heap.size 45 2 (.slice A19 nl c19) nl (flat l)) (fun i _ => nl - (intOf i).toNat)
  case atStart => exact ⟨0, Nat.zero_le _, rfl, BJ.out, RJ.out⟩
  case round =>
    clear BJ RJ e0 e1
    obtain ⟨k, hk, rfl, bj, rj⟩ := hrel
    have BJ := Lib.hid bj
    have RJ := Lib.hid rj
    clear bj rj
    by_cases hlt : k < nl
    · have u0 : decide ((k : Int) < nl) = true := decide_eq_true (by omega)
      have hki : (k : Int) < nl := by omega
      obtain ⟨y, hy, _⟩ := getElem?_lt HNL.out hlt
      obtain ⟨_, A8, c8, e8, _, rd8, _⟩ := row_rd (RA.out.below BJ.out).row
      injection e8 with e81 e82 e83
      subst e81
      obtain ⟨_, A7, c7, e7, _, rd7, _⟩ := row_rd RJ.out
      injection e7 with e71 e72 e73
      subst e71
      obtain ⟨b5, o5, rfl, g2, g3⟩ := rd8 k y hy
      obtain ⟨b6, o6, rfl, g4, g5⟩ := rd7 k y hy
      clear rd7 rd8 hy e82 e83 e72 e73
      go_wp2
      go_quiet (fail)
      go_wp2
      go_roundw
      case rel => exact ⟨k + 1, by omega, by go_num, below_drewN BJ.out _, RJ.out⟩
      case measure => simp [intOf]; omega
    · obtain rfl : k = nl := by omega
      have u0 : decide ((k : Int) < k) = false := decide_eq_false (by omega)
      have HS := Lib.hid (HS.out.below BJ.out)
      have e0 := (HS.out.bel.cell (p := ⟨w.heap.size, 0, none⟩) (show w.heap.size < w.heap.size + 1 by omega)).trans E0.out
      have e1 := (HS.out.bel.cell (p := ⟨w.heap.size, 1, none⟩) (show w.heap.size < w.heap.size + 1 by omega)).trans E1.out
      clear RA RI RJ BJ
      go_wp2_with fail
      refine (deC_any _ _ _ a1Lo a1Hi _ HS.out.m G.out.asc (by have := G.out.len; omega) G.out.bd a1Lol a1Loh a1Hil a1Hih).mono ?_
      intro r V1 h
      rw [show deT l a1Lo a1Hi = .tuple #[.int .i64 ((0 : Nat) : Int), .int .i64 0] by unfold deT; rw [G.out.rg, RE.out, HNI.out], G.out.dl] at h
      obtain ⟨v1, rfl, hs⟩ := HS.out.left h
      have HS := Lib.hid hs; clear hs h
      have e0 := (HS.out.bel.cell (p := ⟨w.heap.size, 0, none⟩) (show w.heap.size < w.heap.size + 1 by omega)).trans E0.out
      have e1 := (HS.out.bel.cell (p := ⟨w.heap.size, 1, none⟩) (show w.heap.size < w.heap.size + 1 by omega)).trans E1.out
      have hol : (outL l a1Lo a1Hi).length ≤ 60 := by omega
      go_wp2_with fail
      refine (rangeC_any _ _ _ a1Lo a1Hi _ HS.out.m (outL_asc G.out.asc _ _) (by omega) (outL_bd G.out.bd _ _) a1Lol a1Loh a1Hil a1Hih).mono ?_
      intro r V2 h
      rw [G.out.rg2, RE.out] at h
      obtain ⟨q5, rfl, hq, b5⟩ := h
      obtain ⟨_, A5, c5, e5, _, _, _⟩ := row_rd hq
      subst e5
      clear hq e0 e1
      have HS := Lib.hid (HS.out.below b5); clear b5
      have x1 : (((outL l a1Lo a1Hi).length : Int) == (k : Int)) = true := by simp; omega
      have x2 : ((k : Int) == k) = true := by simp
      go_wp2_with fail
      refine (lenC_any _ _ _ _ HS.out.m (by omega)).mono ?_
      rintro r V3 ⟨rfl, b5⟩
      have HS := Lib.hid (HS.out.below b5); clear b5
      go_wp2_with fail
      refine (lenC_any _ _ _ _ HS.out.c (by have := G.out.len; omega)).mono ?_
      rw [HNL.out]
      rintro r V4 ⟨rfl, b5⟩
      have HS := Lib.hid (HS.out.below b5); clear b5
      go_wp2_with fail
      refine (equalC_any _ _ _ _ _ _ _ HS.out.m HS.out.c (by omega) (by have := G.out.len; omega)).mono ?_
      rw [show decide (outL l a1Lo a1Hi = l) = true by rw [G.out.eq]; rfl]
      rintro r V5 ⟨rfl, b5⟩
      have HS := Lib.hid (HS.out.below b5); clear b5
      go_wp2_with fail
      refine (known_any _).mono ?_
      rintro r V6 ⟨rfl, b5⟩
      go_wp2
      go_ret
      exact ⟨rfl, bel_trans (b0.trans (HS.out.bel.mono (by omega))) b5⟩
set_option maxRecDepth 100000 in
set_option maxHeartbeats 2000000 in
theorem ranges_nlh (a0 : Option Addr) (a0n a0c : Nat) (a0v : List Om.Pr) (a1Lo : Int) (a1Hi : Int) (w : World) (a0e : a0v.length = a0n) (a0m : a0n ≤ maxLen) (a0r : Om.Rd w a0 a0v) (a0b : Om.Bd a0v) (a0z : a0 = none → a0c = 0) (a0s : a0n * 16 ≤ 140737488351232) (a1Lol : 0 ≤ a1Lo) (a1Loh : a1Lo ≤ 18446744073709551615) (a1Hil : 0 ≤ a1Hi) (a1Hih : a1Hi ≤ 18446744073709551615) (h1 : a0n ≤ 60) (hle : a1Lo ≤ a1Hi) (hI : inL (maL a0v) a1Lo a1Hi = []) (hlo : 0 < a1Lo) (hhi : a1Hi < 18446744073709551615) :
    Calls Try.prog 9 #[.slice a0 a0n a0c, .agg #[.int .u64 a1Lo, .int .u64 a1Hi]] w fun e w' => e = .returned (.bool true) ∧ Below w.heap.size w w' := by
  have HE := Lib.hid a0e
  have HR := Lib.hid a0r; clear a0r
  have HSZ := Lib.hid a0s; clear a0s
  have hrg := Rg.mk' (maL_asc a0v) (maL_bd a0b) (by have := maL_len a0v; omega) hle hI
  have MA := fun W h => Lib.hid (made_any a0 a0n a0c a0v W HE.out HSZ.out h)
  clear a0z a0m a0e a0b hI
  have b0 : Below w.heap.size w (w.alloc (.cells #[.int .u64 a1Lo, .int .u64 a1Hi] 41)) := bel_alloc (Below.refl _ _) _
  have t1 : decide (60 < (a0n : Int)) = false := decide_eq_false (by omega)
  have t2 : decide (a1Hi < a1Lo) = false := decide_eq_false (by omega)
  have RE := Lib.hid (show rgE a1Lo a1Hi = 0 from if_pos hle)
  have REL := Lib.hid (show rgE 0 (a1Lo - 1) = 0 from if_pos (by omega))
  have t3 : decide (0 < a1Lo) = true := decide_eq_true hlo
  have REH := Lib.hid (show rgE (a1Hi + 1) 18446744073709551615 = 0 from if_pos (by omega))
  have t4 : decide (a1Hi < 18446744073709551615) = true := decide_eq_true hhi
  have E0 := Lib.hid (show (w.alloc (.cells #[.int .u64 a1Lo, .int .u64 a1Hi] 41)).cell? ⟨w.heap.size, 0, none⟩ = some (.int .u64 a1Lo) by simp)
  have E1 := Lib.hid (show (w.alloc (.cells #[.int .u64 a1Lo, .int .u64 a1Hi] 41)).cell? ⟨w.heap.size, 1, none⟩ = some (.int .u64 a1Hi) by simp)
  have RL := Lib.hid (show rgL (maL a0v) 0 (a1Lo - 1) = (maL a0v).take (lowN (maL a0v) a1Lo) by rw [← part_lo hrg.asc hrg.bd hlo]; exact if_pos (by omega))
  have RH := Lib.hid (show rgL (maL a0v) (a1Hi + 1) 18446744073709551615 = (maL a0v).drop (lowN (maL a0v) (a1Hi + 1)) by rw [← part_hi hrg.asc hrg.bd hhi]; exact if_pos (by omega))
  have G := Lib.hid hrg; clear hrg
  go_enter Try.func9, Try.ntmps9
  go_wp2_with fail
  refine (MA _ (HR.out.below b0)).out.mono ?_
  intro r W1 h
  obtain ⟨bm, v, rfl, hs⟩ := Stb.start (B := w.heap.size + 1) (by simp) (by simp) (h.some_ (by rw [HE.out]; exact h1))
  have HB := Lib.hid hs; clear hs h MA
  generalize maL a0v = l at *
  have e0 := (HB.out.bel.cell (p := ⟨w.heap.size, 0, none⟩) (show w.heap.size < w.heap.size + 1 by omega)).trans E0.out
  have e1 := (HB.out.bel.cell (p := ⟨w.heap.size, 1, none⟩) (show w.heap.size < w.heap.size + 1 by omega)).trans E1.out
  go_wp2_with fail
  refine (copyC_any _ _ _ _ HB.out.m (by have := G.out.len; omega)).mono ?_
  intro r W2 h
  obtain ⟨bn, u, rfl, hs⟩ := HB.out.more h
  have HS := Lib.hid hs; clear hs h
  have e0 := (HS.out.bel.cell (p := ⟨w.heap.size, 0, none⟩) (show w.heap.size < w.heap.size + 1 by omega)).trans E0.out
  have e1 := (HS.out.bel.cell (p := ⟨w.heap.size, 1, none⟩) (show w.heap.size < w.heap.size + 1 by omega)).trans E1.out
  go_wp2_with fail
  refine (pairsC_any _ _ _ _ HS.out.m (by have := G.out.len; omega)).mono ?_
  rintro r W3 ⟨q1, rfl, hq, b1⟩
  have RA := Lib.hid (Rw.fresh HS.out hq); clear hq
  have HS := Lib.hid (HS.out.below b1); clear b1
  have e0 := (HS.out.bel.cell (p := ⟨w.heap.size, 0, none⟩) (show w.heap.size < w.heap.size + 1 by omega)).trans E0.out
  have e1 := (HS.out.bel.cell (p := ⟨w.heap.size, 1, none⟩) (show w.heap.size < w.heap.size + 1 by omega)).trans E1.out
  go_wp2_with fail
  refine (rangeC_any _ _ _ a1Lo a1Hi _ HS.out.m G.out.asc (by have := G.out.len; omega) G.out.bd a1Lol a1Loh a1Hil a1Hih).mono ?_
  intro r W4 h
  rw [G.out.rg, RE.out] at h
  obtain ⟨q2, rfl, hq, b1⟩ := h
  have RA := Lib.hid (RA.out.below b1)
  have RI := Lib.hid (Rw.fresh HS.out hq); clear hq
  have HS := Lib.hid (HS.out.below b1); clear b1
  have e0 := (HS.out.bel.cell (p := ⟨w.heap.size, 0, none⟩) (show w.heap.size < w.heap.size + 1 by omega)).trans E0.out
  have e1 := (HS.out.bel.cell (p := ⟨w.heap.size, 1, none⟩) (show w.heap.size < w.heap.size + 1 by omega)).trans E1.out
  go_wp2_with fail
  refine (nextC_any _ _ _ a1Lo a1Hi _ HS.out.m G.out.asc (by have := G.out.len; omega)).mono ?_
  rw [G.out.rg, RE.out]
  unfold nxT
  rintro r W5 ⟨rfl, b1⟩
  have b2 := bel_alloc b1 (.cells #[.int .u64 0, .int .u64 0] 45)
  have RA := Lib.hid (RA.out.below b2)
  have RI := Lib.hid (RI.out.below b2)
  have HS := Lib.hid (HS.out.below b2); clear b1 b2
  obtain ⟨_, A1, c1, eq1, hc1, rd1, z1⟩ := row_rd RA.out.row
  obtain ⟨_, A2, c2, eq2, hc2, rd2, z2⟩ := row_rd RI.out.row
  have Z2 := Lib.hid z2
  subst eq1 eq2
  clear rd1 z1 z2 rd2
  obtain ⟨nl, hnl⟩ : ∃ n, l.length = n := ⟨_, rfl⟩
  have HNL := Lib.hid hnl
  have hnl60 : nl ≤ 60 := by rw [← hnl]; exact G.out.len
  obtain ⟨ni, hni⟩ : ∃ n, ([] : List Pr).length = n := ⟨_, rfl⟩
  have HNI := Lib.hid hni
  have hio := G.out.io
  rw [hni, hnl] at hio
  rw [hnl] at RA hc1 ⊢
  rw [hni] at RI hc2 ⊢
  clear hnl hni
  obtain rfl : ni = 0 := HNI.out.symm
  have z1 : decide ((0 : Int) < 0) = false := by decide
  clear e0 e1
  go_wp2
  go_quiet (fail)
  have b3 : Below (W5.alloc (.cells #[.int .u64 0, .int .u64 0] 45)).heap.size (W5.alloc (.cells #[.int .u64 0, .int .u64 0] 45)) ((W5.alloc (.cells #[.int .u64 0, .int .u64 0] 45)).drewN nq) := below_drewN (Below.refl _ _) nq
  have RA := Lib.hid (RA.out.below b3)
  have RI := Lib.hid (RI.out.below b3)
  have HS := Lib.hid (HS.out.below b3); clear b3
  generalize (W5.alloc (.cells #[.int .u64 0, .int .u64 0] 45)).drewN nq = W6 at *
  have e0 := (HS.out.bel.cell (p := ⟨w.heap.size, 0, none⟩) (show w.heap.size < w.heap.size + 1 by omega)).trans E0.out
  have e1 := (HS.out.bel.cell (p := ⟨w.heap.size, 1, none⟩) (show w.heap.size < w.heap.size + 1 by omega)).trans E1.out
  have RJ := Lib.hid (World.ownsRow_nil W6 W6.heap.size 45 2)
  have BJ := Lib.hid (Below.refl W6.heap.size W6)
  go_wp2_with fail
  refine (rangeC_any _ _ _ 0 (a1Lo - 1) _ (HS.out.below BJ.out).m G.out.asc (by have := G.out.len; omega) G.out.bd (by omega) (by omega) (by omega) (by omega)).mono ?_
  intro r X0 h
  rw [RL.out, REL.out] at h
  obtain ⟨p0, rfl, hq, b7⟩ := h
  obtain ⟨_, C0, d0, e3q, hd0, rd3, z3⟩ := row_rd hq
  subst e3q
  have RD0 := Lib.hid rd3
  have ZZ0 := Lib.hid z3
  have RJ := Lib.hid (row_below RJ.out b7)
  have BJ := Lib.hid (BJ.out.trans (b7.mono BJ.out.size)); clear hq rd3 z3 b7
  obtain ⟨n0, hn3⟩ : ∃ n, (l.take (lowN l a1Lo)).length = n := ⟨_, rfl⟩
  have hnl0 : n0 ≤ nl := by rw [← hn3, ← HNL.out]; rw [List.length_take]; omega
  have HK0 := Lib.hid hn3
  rw [hn3] at hd0 ⊢
  clear hn3
  have e0 := ((HS.out.below BJ.out).bel.cell (p := ⟨w.heap.size, 0, none⟩) (show w.heap.size < w.heap.size + 1 by omega)).trans E0.out
  have e1 := ((HS.out.below BJ.out).bel.cell (p := ⟨w.heap.size, 1, none⟩) (show w.heap.size < w.heap.size + 1 by omega)).trans E1.out
  go_wp2_with (first | (refine appG rfl (.tmp 103) (.tmp 104) rfl _ W6.heap.size 0 n0 (.slice none 0 0) ([] : List Pr) (l.take (lowN l a1Lo)) C0 n0 d0 (l.take (lowN l a1Lo)) rfl rfl HK0.out RD0.out ZZ0.out RJ.out (by omega) BJ.out.size (Nat.zero_add _) rfl ?_; intro A09 c09 Y0 h9 b9; have RJ := Lib.hid h9; have BJ := Lib.hid (BJ.out.trans b9); clear h9 b9; have e0 := ((HS.out.below BJ.out).bel.cell (p := ⟨w.heap.size, 0, none⟩) (show w.heap.size < w.heap.size + 1 by omega)).trans E0.out; have e1 := ((HS.out.below BJ.out).bel.cell (p := ⟨w.heap.size, 1, none⟩) (show w.heap.size < w.heap.size + 1 by omega)).trans E1.out) | (refine appG rfl (.tmp 106) (.tmp 107) rfl _ W6.heap.size n0 (n0 + 0) (.slice A09 n0 c09) (l.take (lowN l a1Lo)) ((l.take (lowN l a1Lo)) ++ ([] : List Pr)) A2 0 c2 ([] : List Pr) rfl rfl HNI.out (by obtain ⟨_, A0, c0, e, _, rd, _⟩ := row_rd (RI.out.below BJ.out).row; injection e with e1 e2 e3; rw [e1]; exact rd) Z2.out RJ.out (by omega) BJ.out.size rfl rfl ?_; intro A19 c19 Y1 h9 b9; have RJ := Lib.hid h9; have BJ := Lib.hid (BJ.out.trans b9); clear h9 b9; have e0 := ((HS.out.below BJ.out).bel.cell (p := ⟨w.heap.size, 0, none⟩) (show w.heap.size < w.heap.size + 1 by omega)).trans E0.out; have e1 := ((HS.out.below BJ.out).bel.cell (p := ⟨w.heap.size, 1, none⟩) (show w.heap.size < w.heap.size + 1 by omega)).trans E1.out))
  go_wp2_with fail
  refine (rangeC_any _ _ _ (a1Hi + 1) 18446744073709551615 _ (HS.out.below BJ.out).m G.out.asc (by have := G.out.len; omega) G.out.bd (by omega) (by omega) (by omega) (by omega)).mono ?_
  intro r X2 h
  rw [RH.out, REH.out] at h
  obtain ⟨p2, rfl, hq, b7⟩ := h
  obtain ⟨_, C2, d2, e3q, hd2, rd3, z3⟩ := row_rd hq
  subst e3q
  have RD2 := Lib.hid rd3
  have ZZ2 := Lib.hid z3
  have RJ := Lib.hid (row_below RJ.out b7)
  have BJ := Lib.hid (BJ.out.trans (b7.mono BJ.out.size)); clear hq rd3 z3 b7
  obtain ⟨n2, hn3⟩ : ∃ n, (l.drop (lowN l (a1Hi + 1))).length = n := ⟨_, rfl⟩
  have hnl2 : n2 ≤ nl := by rw [← hn3, ← HNL.out]; rw [List.length_drop]; omega
  have HK2 := Lib.hid hn3
  rw [hn3] at hd2 ⊢
  clear hn3
  have e0 := ((HS.out.below BJ.out).bel.cell (p := ⟨w.heap.size, 0, none⟩) (show w.heap.size < w.heap.size + 1 by omega)).trans E0.out
  have e1 := ((HS.out.below BJ.out).bel.cell (p := ⟨w.heap.size, 1, none⟩) (show w.heap.size < w.heap.size + 1 by omega)).trans E1.out
  have hzs : ((l.take (lowN l a1Lo)) ++ ([] : List Pr)) ++ (l.drop (lowN l (a1Hi + 1))) = l := by have h := G.out.p; simpa using h
  have hN : (n0 + 0) + n2 = nl := by have h := congrArg List.length hzs; rw [HNL.out] at h; simp only [List.length_append] at h; have q0 := HK0.out; have qi := HNI.out; have q2 := HK2.out; simp only [List.length_nil] at *; omega
  have HZS := Lib.hid hzs
  have HNN := Lib.hid hN; clear hzs hN
  go_wp2_with (refine appG rfl (.tmp 123) (.tmp 124) rfl _ W6.heap.size (n0 + 0) nl (.slice A19 (n0 + 0) c19) ((l.take (lowN l a1Lo)) ++ ([] : List Pr)) l C2 n2 d2 (l.drop (lowN l (a1Hi + 1))) rfl rfl HK2.out RD2.out ZZ2.out RJ.out (by omega) BJ.out.size HNN.out HZS.out ?_; intro A29 c29 Y2 h9 b9; have RJ := Lib.hid h9; have BJ := Lib.hid (BJ.out.trans b9); clear h9 b9; have e0 := ((HS.out.below BJ.out).bel.cell (p := ⟨w.heap.size, 0, none⟩) (show w.heap.size < w.heap.size + 1 by omega)).trans E0.out; have e1 := ((HS.out.below BJ.out).bel.cell (p := ⟨w.heap.size, 1, none⟩) (show w.heap.size < w.heap.size + 1 by omega)).trans E1.out)
  go_loopw [18] (fun i wr => ∃ k : Nat, k ≤ nl ∧ i = .int .i64 k ∧ Below W6.heap.size W6 wr ∧ wr.ownsRow W6.heap.size 45 2 (.slice A29 nl c29) nl (flat l)) (fun i _ => nl - (intOf i).toNat)
  case atStart => exact ⟨0, Nat.zero_le _, rfl, BJ.out, RJ.out⟩
  case round =>
    clear BJ RJ e0 e1
    obtain ⟨k, hk, rfl, bj, rj⟩ := hrel
    have BJ := Lib.hid bj
    have RJ := Lib.hid rj
    clear bj rj
    by_cases hlt : k < nl
    · have u0 : decide ((k : Int) < nl) = true := decide_eq_true (by omega)
      have hki : (k : Int) < nl := by omega
      obtain ⟨y, hy, _⟩ := getElem?_lt HNL.out hlt
      obtain ⟨_, A8, c8, e8, _, rd8, _⟩ := row_rd (RA.out.below BJ.out).row
      injection e8 with e81 e82 e83
      subst e81
      obtain ⟨_, A7, c7, e7, _, rd7, _⟩ := row_rd RJ.out
      injection e7 with e71 e72 e73
      subst e71
      obtain ⟨b5, o5, rfl, g2, g3⟩ := rd8 k y hy
      obtain ⟨b6, o6, rfl, g4, g5⟩ := rd7 k y hy
      clear rd7 rd8 hy e82 e83 e72 e73
      go_wp2
      go_quiet (fail)
      go_wp2
      go_roundw
      case rel => exact ⟨k + 1, by omega, by go_num, below_drewN BJ.out _, RJ.out⟩
      case measure => simp [intOf]; omega
    · obtain rfl : k = nl := by omega
      have u0 : decide ((k : Int) < k) = false := decide_eq_false (by omega)
      have HS := Lib.hid (HS.out.below BJ.out)
      have e0 := (HS.out.bel.cell (p := ⟨w.heap.size, 0, none⟩) (show w.heap.size < w.heap.size + 1 by omega)).trans E0.out
      have e1 := (HS.out.bel.cell (p := ⟨w.heap.size, 1, none⟩) (show w.heap.size < w.heap.size + 1 by omega)).trans E1.out
      clear RA RI RJ BJ
      go_wp2_with fail
      refine (deC_any _ _ _ a1Lo a1Hi _ HS.out.m G.out.asc (by have := G.out.len; omega) G.out.bd a1Lol a1Loh a1Hil a1Hih).mono ?_
      intro r V1 h
      rw [show deT l a1Lo a1Hi = .tuple #[.int .i64 ((0 : Nat) : Int), .int .i64 0] by unfold deT; rw [G.out.rg, RE.out, HNI.out], G.out.dl] at h
      obtain ⟨v1, rfl, hs⟩ := HS.out.left h
      have HS := Lib.hid hs; clear hs h
      have e0 := (HS.out.bel.cell (p := ⟨w.heap.size, 0, none⟩) (show w.heap.size < w.heap.size + 1 by omega)).trans E0.out
      have e1 := (HS.out.bel.cell (p := ⟨w.heap.size, 1, none⟩) (show w.heap.size < w.heap.size + 1 by omega)).trans E1.out
      have hol : (outL l a1Lo a1Hi).length ≤ 60 := by omega
      go_wp2_with fail
      refine (rangeC_any _ _ _ a1Lo a1Hi _ HS.out.m (outL_asc G.out.asc _ _) (by omega) (outL_bd G.out.bd _ _) a1Lol a1Loh a1Hil a1Hih).mono ?_
      intro r V2 h
      rw [G.out.rg2, RE.out] at h
      obtain ⟨q5, rfl, hq, b5⟩ := h
      obtain ⟨_, A5, c5, e5, _, _, _⟩ := row_rd hq
      subst e5
      clear hq e0 e1
      have HS := Lib.hid (HS.out.below b5); clear b5
      have x1 : (((outL l a1Lo a1Hi).length : Int) == (k : Int)) = true := by simp; omega
      have x2 : ((k : Int) == k) = true := by simp
      go_wp2_with fail
      refine (lenC_any _ _ _ _ HS.out.m (by omega)).mono ?_
      rintro r V3 ⟨rfl, b5⟩
      have HS := Lib.hid (HS.out.below b5); clear b5
      go_wp2_with fail
      refine (lenC_any _ _ _ _ HS.out.c (by have := G.out.len; omega)).mono ?_
      rw [HNL.out]
      rintro r V4 ⟨rfl, b5⟩
      have HS := Lib.hid (HS.out.below b5); clear b5
      go_wp2_with fail
      refine (equalC_any _ _ _ _ _ _ _ HS.out.m HS.out.c (by omega) (by have := G.out.len; omega)).mono ?_
      rw [show decide (outL l a1Lo a1Hi = l) = true by rw [G.out.eq]; rfl]
      rintro r V5 ⟨rfl, b5⟩
      have HS := Lib.hid (HS.out.below b5); clear b5
      go_wp2_with fail
      refine (known_any _).mono ?_
      rintro r V6 ⟨rfl, b5⟩
      go_wp2
      go_ret
      exact ⟨rfl, bel_trans (b0.trans (HS.out.bel.mono (by omega))) b5⟩
set_option maxRecDepth 100000 in
set_option maxHeartbeats 2000000 in
theorem ranges_czm (a0 : Option Addr) (a0n a0c : Nat) (a0v : List Om.Pr) (a1Lo : Int) (a1Hi : Int) (w : World) (a0e : a0v.length = a0n) (a0m : a0n ≤ maxLen) (a0r : Om.Rd w a0 a0v) (a0b : Om.Bd a0v) (a0z : a0 = none → a0c = 0) (a0s : a0n * 16 ≤ 140737488351232) (a1Lol : 0 ≤ a1Lo) (a1Loh : a1Lo ≤ 18446744073709551615) (a1Hil : 0 ≤ a1Hi) (a1Hih : a1Hi ≤ 18446744073709551615) (h1 : a0n ≤ 60) (hle : a1Lo ≤ a1Hi) (x : Pr) (t : List Pr) (hI : inL (maL a0v) a1Lo a1Hi = x :: t) (hlo : a1Lo = 0) (hhi : a1Hi = 18446744073709551615) :
    Calls Try.prog 9 #[.slice a0 a0n a0c, .agg #[.int .u64 a1Lo, .int .u64 a1Hi]] w fun e w' => e = .returned (.bool true) ∧ Below w.heap.size w w' := by
  have HE := Lib.hid a0e
  have HR := Lib.hid a0r; clear a0r
  have HSZ := Lib.hid a0s; clear a0s
  have hrg := Rg.mk' (maL_asc a0v) (maL_bd a0b) (by have := maL_len a0v; omega) hle hI
  have MA := fun W h => Lib.hid (made_any a0 a0n a0c a0v W HE.out HSZ.out h)
  clear a0z a0m a0e a0b hI
  have b0 : Below w.heap.size w (w.alloc (.cells #[.int .u64 a1Lo, .int .u64 a1Hi] 41)) := bel_alloc (Below.refl _ _) _
  have t1 : decide (60 < (a0n : Int)) = false := decide_eq_false (by omega)
  have t2 : decide (a1Hi < a1Lo) = false := decide_eq_false (by omega)
  have RE := Lib.hid (show rgE a1Lo a1Hi = 0 from if_pos hle)
  have t3 : decide (0 < a1Lo) = false := decide_eq_false (by omega)
  have t4 : decide (a1Hi < 18446744073709551615) = false := decide_eq_false (by omega)
  have E0 := Lib.hid (show (w.alloc (.cells #[.int .u64 a1Lo, .int .u64 a1Hi] 41)).cell? ⟨w.heap.size, 0, none⟩ = some (.int .u64 a1Lo) by simp)
  have E1 := Lib.hid (show (w.alloc (.cells #[.int .u64 a1Lo, .int .u64 a1Hi] 41)).cell? ⟨w.heap.size, 1, none⟩ = some (.int .u64 a1Hi) by simp)
  have PZ := Lib.hid (part_0 hrg.bd hlo)
  have PM := Lib.hid (part_m hrg.bd hhi)
  clear hlo
  clear hhi
  have G := Lib.hid hrg; clear hrg
  go_enter Try.func9, Try.ntmps9
  go_wp2_with fail
  refine (MA _ (HR.out.below b0)).out.mono ?_
  intro r W1 h
  obtain ⟨bm, v, rfl, hs⟩ := Stb.start (B := w.heap.size + 1) (by simp) (by simp) (h.some_ (by rw [HE.out]; exact h1))
  have HB := Lib.hid hs; clear hs h MA
  generalize maL a0v = l at *
  have e0 := (HB.out.bel.cell (p := ⟨w.heap.size, 0, none⟩) (show w.heap.size < w.heap.size + 1 by omega)).trans E0.out
  have e1 := (HB.out.bel.cell (p := ⟨w.heap.size, 1, none⟩) (show w.heap.size < w.heap.size + 1 by omega)).trans E1.out
  go_wp2_with fail
  refine (copyC_any _ _ _ _ HB.out.m (by have := G.out.len; omega)).mono ?_
  intro r W2 h
  obtain ⟨bn, u, rfl, hs⟩ := HB.out.more h
  have HS := Lib.hid hs; clear hs h
  have e0 := (HS.out.bel.cell (p := ⟨w.heap.size, 0, none⟩) (show w.heap.size < w.heap.size + 1 by omega)).trans E0.out
  have e1 := (HS.out.bel.cell (p := ⟨w.heap.size, 1, none⟩) (show w.heap.size < w.heap.size + 1 by omega)).trans E1.out
  go_wp2_with fail
  refine (pairsC_any _ _ _ _ HS.out.m (by have := G.out.len; omega)).mono ?_
  rintro r W3 ⟨q1, rfl, hq, b1⟩
  have RA := Lib.hid (Rw.fresh HS.out hq); clear hq
  have HS := Lib.hid (HS.out.below b1); clear b1
  have e0 := (HS.out.bel.cell (p := ⟨w.heap.size, 0, none⟩) (show w.heap.size < w.heap.size + 1 by omega)).trans E0.out
  have e1 := (HS.out.bel.cell (p := ⟨w.heap.size, 1, none⟩) (show w.heap.size < w.heap.size + 1 by omega)).trans E1.out
  go_wp2_with fail
  refine (rangeC_any _ _ _ a1Lo a1Hi _ HS.out.m G.out.asc (by have := G.out.len; omega) G.out.bd a1Lol a1Loh a1Hil a1Hih).mono ?_
  intro r W4 h
  rw [G.out.rg, RE.out] at h
  obtain ⟨q2, rfl, hq, b1⟩ := h
  have RA := Lib.hid (RA.out.below b1)
  have RI := Lib.hid (Rw.fresh HS.out hq); clear hq
  have HS := Lib.hid (HS.out.below b1); clear b1
  have e0 := (HS.out.bel.cell (p := ⟨w.heap.size, 0, none⟩) (show w.heap.size < w.heap.size + 1 by omega)).trans E0.out
  have e1 := (HS.out.bel.cell (p := ⟨w.heap.size, 1, none⟩) (show w.heap.size < w.heap.size + 1 by omega)).trans E1.out
  go_wp2_with fail
  refine (nextC_any _ _ _ a1Lo a1Hi _ HS.out.m G.out.asc (by have := G.out.len; omega)).mono ?_
  rw [G.out.rg, RE.out]
  unfold nxT
  rintro r W5 ⟨rfl, b1⟩
  have b2 := bel_alloc b1 (.cells #[.int .u64 x.1, .int .u64 x.2] 45)
  have RA := Lib.hid (RA.out.below b2)
  have RI := Lib.hid (RI.out.below b2)
  have HS := Lib.hid (HS.out.below b2); clear b1 b2
  obtain ⟨_, A1, c1, eq1, hc1, rd1, z1⟩ := row_rd RA.out.row
  obtain ⟨_, A2, c2, eq2, hc2, rd2, z2⟩ := row_rd RI.out.row
  have Z2 := Lib.hid z2
  subst eq1 eq2
  obtain ⟨b, o, rfl, g0, g1⟩ := rd2 0 x rfl
  simp only [Nat.zero_mul, Nat.add_zero] at g0 g1
  clear rd1 z1 z2 rd2
  obtain ⟨nl, hnl⟩ : ∃ n, l.length = n := ⟨_, rfl⟩
  have HNL := Lib.hid hnl
  have hnl60 : nl ≤ 60 := by rw [← hnl]; exact G.out.len
  obtain ⟨ni, hni⟩ : ∃ n, (x :: t).length = n := ⟨_, rfl⟩
  have HNI := Lib.hid hni
  have hio := G.out.io
  rw [hni, hnl] at hio
  rw [hnl] at RA hc1 ⊢
  rw [hni] at RI hc2 ⊢
  have hni0 : 0 < ni := by rw [← hni]; simp
  clear hnl hni
  have z1 : decide ((0 : Int) < (ni : Int)) = true := decide_eq_true (by omega)
  have z2 : (0 : Int) < (ni : Int) := by omega
  clear e0 e1
  go_wp2
  go_quiet (fail)
  have b3 : Below (W5.alloc (.cells #[.int .u64 x.1, .int .u64 x.2] 45)).heap.size (W5.alloc (.cells #[.int .u64 x.1, .int .u64 x.2] 45)) ((W5.alloc (.cells #[.int .u64 x.1, .int .u64 x.2] 45)).drewN nq) := below_drewN (Below.refl _ _) nq
  have RA := Lib.hid (RA.out.below b3)
  have RI := Lib.hid (RI.out.below b3)
  have HS := Lib.hid (HS.out.below b3); clear b3
  clear g0 g1
  generalize (W5.alloc (.cells #[.int .u64 x.1, .int .u64 x.2] 45)).drewN nq = W6 at *
  have e0 := (HS.out.bel.cell (p := ⟨w.heap.size, 0, none⟩) (show w.heap.size < w.heap.size + 1 by omega)).trans E0.out
  have e1 := (HS.out.bel.cell (p := ⟨w.heap.size, 1, none⟩) (show w.heap.size < w.heap.size + 1 by omega)).trans E1.out
  have RJ := Lib.hid (World.ownsRow_nil W6 W6.heap.size 45 2)
  have BJ := Lib.hid (Below.refl W6.heap.size W6)
  have hzs : ([] : List Pr) ++ (x :: t) = l := by have h := G.out.p; rw [PZ.out] at h; rw [PM.out] at h; simpa using h
  have hN : 0 + ni = nl := by have h := congrArg List.length hzs; rw [HNL.out] at h; simp only [List.length_append] at h; have qi := HNI.out; simp only [List.length_nil] at *; omega
  have HZS := Lib.hid hzs
  have HNN := Lib.hid hN; clear hzs hN
  go_wp2_with (refine appG rfl (.tmp 106) (.tmp 107) rfl _ W6.heap.size 0 nl (.slice none 0 0) ([] : List Pr) l (some ⟨b, o, none⟩) ni c2 (x :: t) rfl rfl HNI.out (by obtain ⟨_, A0, c0, e, _, rd, _⟩ := row_rd (RI.out.below BJ.out).row; injection e with e1 e2 e3; rw [e1]; exact rd) Z2.out RJ.out (by omega) BJ.out.size HNN.out HZS.out ?_; intro A09 c09 Y0 h9 b9; have RJ := Lib.hid h9; have BJ := Lib.hid (BJ.out.trans b9); clear h9 b9; have e0 := ((HS.out.below BJ.out).bel.cell (p := ⟨w.heap.size, 0, none⟩) (show w.heap.size < w.heap.size + 1 by omega)).trans E0.out; have e1 := ((HS.out.below BJ.out).bel.cell (p := ⟨w.heap.size, 1, none⟩) (show w.heap.size < w.heap.size + 1 by omega)).trans E1.out)
  go_loopw [18] (fun i wr => ∃ k : Nat, k ≤ nl ∧ i = .int .i64 k ∧ Below W6.heap.size W6 wr ∧ wr.ownsRow W6.heap.size 45 2 (.slice A09 nl c09) nl (flat l)) (fun i _ => nl - (intOf i).toNat)
  case atStart => exact ⟨0, Nat.zero_le _, rfl, BJ.out, RJ.out⟩
  case round =>
    clear BJ RJ e0 e1
    obtain ⟨k, hk, rfl, bj, rj⟩ := hrel
    have BJ := Lib.hid bj
    have RJ := Lib.hid rj
    clear bj rj
    by_cases hlt : k < nl
    · have u0 : decide ((k : Int) < nl) = true := decide_eq_true (by omega)
      have hki : (k : Int) < nl := by omega
      obtain ⟨y, hy, _⟩ := getElem?_lt HNL.out hlt
      obtain ⟨_, A8, c8, e8, _, rd8, _⟩ := row_rd (RA.out.below BJ.out).row
      injection e8 with e81 e82 e83
      subst e81
      obtain ⟨_, A7, c7, e7, _, rd7, _⟩ := row_rd RJ.out
      injection e7 with e71 e72 e73
      subst e71
      obtain ⟨b5, o5, rfl, g2, g3⟩ := rd8 k y hy
      obtain ⟨b6, o6, rfl, g4, g5⟩ := rd7 k y hy
      clear rd7 rd8 hy e82 e83 e72 e73
      go_wp2
      go_quiet (fail)
      go_wp2
      go_roundw
      case rel => exact ⟨k + 1, by omega, by go_num, below_drewN BJ.out _, RJ.out⟩
      case measure => simp [intOf]; omega
    · obtain rfl : k = nl := by omega
      have u0 : decide ((k : Int) < k) = false := decide_eq_false (by omega)
      have HS := Lib.hid (HS.out.below BJ.out)
      have e0 := (HS.out.bel.cell (p := ⟨w.heap.size, 0, none⟩) (show w.heap.size < w.heap.size + 1 by omega)).trans E0.out
      have e1 := (HS.out.bel.cell (p := ⟨w.heap.size, 1, none⟩) (show w.heap.size < w.heap.size + 1 by omega)).trans E1.out
      clear RA RI RJ BJ
      go_wp2_with fail
      refine (deC_any _ _ _ a1Lo a1Hi _ HS.out.m G.out.asc (by have := G.out.len; omega) G.out.bd a1Lol a1Loh a1Hil a1Hih).mono ?_
      intro r V1 h
      rw [show deT l a1Lo a1Hi = .tuple #[.int .i64 ((ni : Nat) : Int), .int .i64 0] by unfold deT; rw [G.out.rg, RE.out, HNI.out], G.out.dl] at h
      obtain ⟨v1, rfl, hs⟩ := HS.out.left h
      have HS := Lib.hid hs; clear hs h
      have e0 := (HS.out.bel.cell (p := ⟨w.heap.size, 0, none⟩) (show w.heap.size < w.heap.size + 1 by omega)).trans E0.out
      have e1 := (HS.out.bel.cell (p := ⟨w.heap.size, 1, none⟩) (show w.heap.size < w.heap.size + 1 by omega)).trans E1.out
      have hol : (outL l a1Lo a1Hi).length ≤ 60 := by omega
      go_wp2_with fail
      refine (rangeC_any _ _ _ a1Lo a1Hi _ HS.out.m (outL_asc G.out.asc _ _) (by omega) (outL_bd G.out.bd _ _) a1Lol a1Loh a1Hil a1Hih).mono ?_
      intro r V2 h
      rw [G.out.rg2, RE.out] at h
      obtain ⟨q5, rfl, hq, b5⟩ := h
      obtain ⟨_, A5, c5, e5, _, _, _⟩ := row_rd hq
      subst e5
      clear hq e0 e1
      have HS := Lib.hid (HS.out.below b5); clear b5
      have x0 : ((ni : Int) == ni) = true := by simp
      have x1 : (((outL l a1Lo a1Hi).length : Int) == (k : Int) - ni) = true := by simp; omega
      have x2 : ((k : Int) == k) = true := by simp
      have x3 : ((ni : Int) == 0) = false := by simp; omega
      have x4 : IntKind.i64.wrap ((k : Int) - ni) = (k : Int) - ni := IntWalk.i64_in _ (by omega)
      go_wp2_with fail
      refine (lenC_any _ _ _ _ HS.out.m (by omega)).mono ?_
      rintro r V3 ⟨rfl, b5⟩
      have HS := Lib.hid (HS.out.below b5); clear b5
      go_wp2_with fail
      refine (lenC_any _ _ _ _ HS.out.c (by have := G.out.len; omega)).mono ?_
      rw [HNL.out]
      rintro r V4 ⟨rfl, b5⟩
      have HS := Lib.hid (HS.out.below b5); clear b5
      go_wp2_with fail
      refine (equalC_any _ _ _ _ _ _ _ HS.out.m HS.out.c (by omega) (by have := G.out.len; omega)).mono ?_
      rw [show decide (outL l a1Lo a1Hi = l) = false by rw [G.out.eq]; exact decide_eq_false (by simp)]
      rintro r V5 ⟨rfl, b5⟩
      have HS := Lib.hid (HS.out.below b5); clear b5
      go_wp2_with fail
      refine (known_any _).mono ?_
      rintro r V6 ⟨rfl, b5⟩
      go_wp2
      go_ret
      exact ⟨rfl, bel_trans (b0.trans (HS.out.bel.mono (by omega))) b5⟩
set_option maxRecDepth 100000 in
set_option maxHeartbeats 2000000 in
theorem ranges_czh (a0 : Option Addr) (a0n a0c : Nat) (a0v : List Om.Pr) (a1Lo : Int) (a1Hi : Int) (w : World) (a0e : a0v.length = a0n) (a0m : a0n ≤ maxLen) (a0r : Om.Rd w a0 a0v) (a0b : Om.Bd a0v) (a0z : a0 = none → a0c = 0) (a0s : a0n * 16 ≤ 140737488351232) (a1Lol : 0 ≤ a1Lo) (a1Loh : a1Lo ≤ 18446744073709551615) (a1Hil : 0 ≤ a1Hi) (a1Hih : a1Hi ≤ 18446744073709551615) (h1 : a0n ≤ 60) (hle : a1Lo ≤ a1Hi) (x : Pr) (t : List Pr) (hI : inL (maL a0v) a1Lo a1Hi = x :: t) (hlo : a1Lo = 0) (hhi : a1Hi < 18446744073709551615) :
    Calls Try.prog 9 #[.slice a0 a0n a0c, .agg #[.int .u64 a1Lo, .int .u64 a1Hi]] w fun e w' => e = .returned (.bool true) ∧ Below w.heap.size w w' := by
  have HE := Lib.hid a0e
  have HR := Lib.hid a0r; clear a0r
  have HSZ := Lib.hid a0s; clear a0s
  have hrg := Rg.mk' (maL_asc a0v) (maL_bd a0b) (by have := maL_len a0v; omega) hle hI
  have MA := fun W h => Lib.hid (made_any a0 a0n a0c a0v W HE.out HSZ.out h)
  clear a0z a0m a0e a0b hI
  have b0 : Below w.heap.size w (w.alloc (.cells #[.int .u64 a1Lo, .int .u64 a1Hi] 41)) := bel_alloc (Below.refl _ _) _
  have t1 : decide (60 < (a0n : Int)) = false := decide_eq_false (by omega)
  have t2 : decide (a1Hi < a1Lo) = false := decide_eq_false (by omega)
  have RE := Lib.hid (show rgE a1Lo a1Hi = 0 from if_pos hle)
  have t3 : decide (0 < a1Lo) = false := decide_eq_false (by omega)
  have REH := Lib.hid (show rgE (a1Hi + 1) 18446744073709551615 = 0 from if_pos (by omega))
  have t4 : decide (a1Hi < 18446744073709551615) = true := decide_eq_true hhi
  have E0 := Lib.hid (show (w.alloc (.cells #[.int .u64 a1Lo, .int .u64 a1Hi] 41)).cell? ⟨w.heap.size, 0, none⟩ = some (.int .u64 a1Lo) by simp)
  have E1 := Lib.hid (show (w.alloc (.cells #[.int .u64 a1Lo, .int .u64 a1Hi] 41)).cell? ⟨w.heap.size, 1, none⟩ = some (.int .u64 a1Hi) by simp)
  have PZ := Lib.hid (part_0 hrg.bd hlo)
  have RH := Lib.hid (show rgL (maL a0v) (a1Hi + 1) 18446744073709551615 = (maL a0v).drop (lowN (maL a0v) (a1Hi + 1)) by rw [← part_hi hrg.asc hrg.bd hhi]; exact if_pos (by omega))
  clear hlo
  have G := Lib.hid hrg; clear hrg
  go_enter Try.func9, Try.ntmps9
  go_wp2_with fail
  refine (MA _ (HR.out.below b0)).out.mono ?_
  intro r W1 h
  obtain ⟨bm, v, rfl, hs⟩ := Stb.start (B := w.heap.size + 1) (by simp) (by simp) (h.some_ (by rw [HE.out]; exact h1))
  have HB := Lib.hid hs; clear hs h MA
  generalize maL a0v = l at *
  have e0 := (HB.out.bel.cell (p := ⟨w.heap.size, 0, none⟩) (show w.heap.size < w.heap.size + 1 by omega)).trans E0.out
  have e1 := (HB.out.bel.cell (p := ⟨w.heap.size, 1, none⟩) (show w.heap.size < w.heap.size + 1 by omega)).trans E1.out
  go_wp2_with fail
  refine (copyC_any _ _ _ _ HB.out.m (by have := G.out.len; omega)).mono ?_
  intro r W2 h
  obtain ⟨bn, u, rfl, hs⟩ := HB.out.more h
  have HS := Lib.hid hs; clear hs h
  have e0 := (HS.out.bel.cell (p := ⟨w.heap.size, 0, none⟩) (show w.heap.size < w.heap.size + 1 by omega)).trans E0.out
  have e1 := (HS.out.bel.cell (p := ⟨w.heap.size, 1, none⟩) (show w.heap.size < w.heap.size + 1 by omega)).trans E1.out
  go_wp2_with fail
  refine (pairsC_any _ _ _ _ HS.out.m (by have := G.out.len; omega)).mono ?_
  rintro r W3 ⟨q1, rfl, hq, b1⟩
  have RA := Lib.hid (Rw.fresh HS.out hq); clear hq
  have HS := Lib.hid (HS.out.below b1); clear b1
  have e0 := (HS.out.bel.cell (p := ⟨w.heap.size, 0, none⟩) (show w.heap.size < w.heap.size + 1 by omega)).trans E0.out
  have e1 := (HS.out.bel.cell (p := ⟨w.heap.size, 1, none⟩) (show w.heap.size < w.heap.size + 1 by omega)).trans E1.out
  go_wp2_with fail
  refine (rangeC_any _ _ _ a1Lo a1Hi _ HS.out.m G.out.asc (by have := G.out.len; omega) G.out.bd a1Lol a1Loh a1Hil a1Hih).mono ?_
  intro r W4 h
  rw [G.out.rg, RE.out] at h
  obtain ⟨q2, rfl, hq, b1⟩ := h
  have RA := Lib.hid (RA.out.below b1)
  have RI := Lib.hid (Rw.fresh HS.out hq); clear hq
  have HS := Lib.hid (HS.out.below b1); clear b1
  have e0 := (HS.out.bel.cell (p := ⟨w.heap.size, 0, none⟩) (show w.heap.size < w.heap.size + 1 by omega)).trans E0.out
  have e1 := (HS.out.bel.cell (p := ⟨w.heap.size, 1, none⟩) (show w.heap.size < w.heap.size + 1 by omega)).trans E1.out
  go_wp2_with fail
  refine (nextC_any _ _ _ a1Lo a1Hi _ HS.out.m G.out.asc (by have := G.out.len; omega)).mono ?_
  rw [G.out.rg, RE.out]
  unfold nxT
  rintro r W5 ⟨rfl, b1⟩
  have b2 := bel_alloc b1 (.cells #[.int .u64 x.1, .int .u64 x.2] 45)
  have RA := Lib.hid (RA.out.below b2)
  have RI := Lib.hid (RI.out.below b2)
  have HS := Lib.hid (HS.out.below b2); clear b1 b2
  obtain ⟨_, A1, c1, eq1, hc1, rd1, z1⟩ := row_rd RA.out.row
  obtain ⟨_, A2, c2, eq2, hc2, rd2, z2⟩ := row_rd RI.out.row
  have Z2 := Lib.hid z2
  subst eq1 eq2
  obtain ⟨b, o, rfl, g0, g1⟩ := rd2 0 x rfl
  simp only [Nat.zero_mul, Nat.add_zero] at g0 g1
  clear rd1 z1 z2 rd2
  obtain ⟨nl, hnl⟩ : ∃ n, l.length = n := ⟨_, rfl⟩
  have HNL := Lib.hid hnl
  have hnl60 : nl ≤ 60 := by rw [← hnl]; exact G.out.len
  obtain ⟨ni, hni⟩ : ∃ n, (x :: t).length = n := ⟨_, rfl⟩
  have HNI := Lib.hid hni
  have hio := G.out.io
  rw [hni, hnl] at hio
  rw [hnl] at RA hc1 ⊢
  rw [hni] at RI hc2 ⊢
  have hni0 : 0 < ni := by rw [← hni]; simp
  clear hnl hni
  have z1 : decide ((0 : Int) < (ni : Int)) = true := decide_eq_true (by omega)
  have z2 : (0 : Int) < (ni : Int) := by omega
  clear e0 e1
  go_wp2
  go_quiet (fail)
  have b3 : Below (W5.alloc (.cells #[.int .u64 x.1, .int .u64 x.2] 45)).heap.size (W5.alloc (.cells #[.int .u64 x.1, .int .u64 x.2] 45)) ((W5.alloc (.cells #[.int .u64 x.1, .int .u64 x.2] 45)).drewN nq) := below_drewN (Below.refl _ _) nq
  have RA := Lib.hid (RA.out.below b3)
  have RI := Lib.hid (RI.out.below b3)
  have HS := Lib.hid (HS.out.below b3); clear b3
  clear g0 g1
  generalize (W5.alloc (.cells #[.int .u64 x.1, .int .u64 x.2] 45)).drewN nq = W6 at *
  have e0 := (HS.out.bel.cell (p := ⟨w.heap.size, 0, none⟩) (show w.heap.size < w.heap.size + 1 by omega)).trans E0.out
  have e1 := (HS.out.bel.cell (p := ⟨w.heap.size, 1, none⟩) (show w.heap.size < w.heap.size + 1 by omega)).trans E1.out
  have RJ := Lib.hid (World.ownsRow_nil W6 W6.heap.size 45 2)
  have BJ := Lib.hid (Below.refl W6.heap.size W6)
  go_wp2_with (refine appG rfl (.tmp 106) (.tmp 107) rfl _ W6.heap.size 0 ni (.slice none 0 0) ([] : List Pr) (x :: t) (some ⟨b, o, none⟩) ni c2 (x :: t) rfl rfl HNI.out (by obtain ⟨_, A0, c0, e, _, rd, _⟩ := row_rd (RI.out.below BJ.out).row; injection e with e1 e2 e3; rw [e1]; exact rd) Z2.out RJ.out (by omega) BJ.out.size (Nat.zero_add _) rfl ?_; intro A09 c09 Y0 h9 b9; have RJ := Lib.hid h9; have BJ := Lib.hid (BJ.out.trans b9); clear h9 b9; have e0 := ((HS.out.below BJ.out).bel.cell (p := ⟨w.heap.size, 0, none⟩) (show w.heap.size < w.heap.size + 1 by omega)).trans E0.out; have e1 := ((HS.out.below BJ.out).bel.cell (p := ⟨w.heap.size, 1, none⟩) (show w.heap.size < w.heap.size + 1 by omega)).trans E1.out)
  go_wp2_with fail
  refine (rangeC_any _ _ _ (a1Hi + 1) 18446744073709551615 _ (HS.out.below BJ.out).m G.out.asc (by have := G.out.len; omega) G.out.bd (by omega) (by omega) (by omega) (by omega)).mono ?_
  intro r X1 h
  rw [RH.out, REH.out] at h
  obtain ⟨p1, rfl, hq, b7⟩ := h
  obtain ⟨_, C1, d1, e3q, hd1, rd3, z3⟩ := row_rd hq
  subst e3q
  have RD1 := Lib.hid rd3
  have ZZ1 := Lib.hid z3
  have RJ := Lib.hid (row_below RJ.out b7)
  have BJ := Lib.hid (BJ.out.trans (b7.mono BJ.out.size)); clear hq rd3 z3 b7
  obtain ⟨n1, hn3⟩ : ∃ n, (l.drop (lowN l (a1Hi + 1))).length = n := ⟨_, rfl⟩
  have hnl1 : n1 ≤ nl := by rw [← hn3, ← HNL.out]; rw [List.length_drop]; omega
  have HK1 := Lib.hid hn3
  rw [hn3] at hd1 ⊢
  clear hn3
  have e0 := ((HS.out.below BJ.out).bel.cell (p := ⟨w.heap.size, 0, none⟩) (show w.heap.size < w.heap.size + 1 by omega)).trans E0.out
  have e1 := ((HS.out.below BJ.out).bel.cell (p := ⟨w.heap.size, 1, none⟩) (show w.heap.size < w.heap.size + 1 by omega)).trans E1.out
  have hzs : (x :: t) ++ (l.drop (lowN l (a1Hi + 1))) = l := by have h := G.out.p; rw [PZ.out] at h; simpa using h
  have hN : ni + n1 = nl := by have h := congrArg List.length hzs; rw [HNL.out] at h; simp only [List.length_append] at h; have qi := HNI.out; have q1 := HK1.out; simp only [List.length_nil] at *; omega
  have HZS := Lib.hid hzs
  have HNN := Lib.hid hN; clear hzs hN
  go_wp2_with (refine appG rfl (.tmp 123) (.tmp 124) rfl _ W6.heap.size ni nl (.slice A09 ni c09) (x :: t) l C1 n1 d1 (l.drop (lowN l (a1Hi + 1))) rfl rfl HK1.out RD1.out ZZ1.out RJ.out (by omega) BJ.out.size HNN.out HZS.out ?_; intro A19 c19 Y1 h9 b9; have RJ := Lib.hid h9; have BJ := Lib.hid (BJ.out.trans b9); clear h9 b9; have e0 := ((HS.out.below BJ.out).bel.cell (p := ⟨w.heap.size, 0, none⟩) (show w.heap.size < w.heap.size + 1 by omega)).trans E0.out; have e1 := ((HS.out.below BJ.out).bel.cell (p := ⟨w.heap.size, 1, none⟩) (show w.heap.size < w.heap.size + 1 by omega)).trans E1.out)
  go_loopw [18] (fun i wr => ∃ k : Nat, k ≤ nl ∧ i = .int .i64 k ∧ Below W6.heap.size W6 wr ∧ wr.ownsRow W6.heap.size 45 2 (.slice A19 nl c19) nl (flat l)) (fun i _ => nl - (intOf i).toNat)
  case atStart => exact ⟨0, Nat.zero_le _, rfl, BJ.out, RJ.out⟩
  case round =>
    clear BJ RJ e0 e1
    obtain ⟨k, hk, rfl, bj, rj⟩ := hrel
    have BJ := Lib.hid bj
    have RJ := Lib.hid rj
    clear bj rj
    by_cases hlt : k < nl
    · have u0 : decide ((k : Int) < nl) = true := decide_eq_true (by omega)
      have hki : (k : Int) < nl := by omega
      obtain ⟨y, hy, _⟩ := getElem?_lt HNL.out hlt
      obtain ⟨_, A8, c8, e8, _, rd8, _⟩ := row_rd (RA.out.below BJ.out).row
      injection e8 with e81 e82 e83
      subst e81
      obtain ⟨_, A7, c7, e7, _, rd7, _⟩ := row_rd RJ.out
      injection e7 with e71 e72 e73
      subst e71
      obtain ⟨b5, o5, rfl, g2, g3⟩ := rd8 k y hy
      obtain ⟨b6, o6, rfl, g4, g5⟩ := rd7 k y hy
      clear rd7 rd8 hy e82 e83 e72 e73
      go_wp2
      go_quiet (fail)
      go_wp2
      go_roundw
      case rel => exact ⟨k + 1, by omega, by go_num, below_drewN BJ.out _, RJ.out⟩
      case measure => simp [intOf]; omega
    · obtain rfl : k = nl := by omega
      have u0 : decide ((k : Int) < k) = false := decide_eq_false (by omega)
      have HS := Lib.hid (HS.out.below BJ.out)
      have e0 := (HS.out.bel.cell (p := ⟨w.heap.size, 0, none⟩) (show w.heap.size < w.heap.size + 1 by omega)).trans E0.out
      have e1 := (HS.out.bel.cell (p := ⟨w.heap.size, 1, none⟩) (show w.heap.size < w.heap.size + 1 by omega)).trans E1.out
      clear RA RI RJ BJ
      go_wp2_with fail
      refine (deC_any _ _ _ a1Lo a1Hi _ HS.out.m G.out.asc (by have := G.out.len; omega) G.out.bd a1Lol a1Loh a1Hil a1Hih).mono ?_
      intro r V1 h
      rw [show deT l a1Lo a1Hi = .tuple #[.int .i64 ((ni : Nat) : Int), .int .i64 0] by unfold deT; rw [G.out.rg, RE.out, HNI.out], G.out.dl] at h
      obtain ⟨v1, rfl, hs⟩ := HS.out.left h
      have HS := Lib.hid hs; clear hs h
      have e0 := (HS.out.bel.cell (p := ⟨w.heap.size, 0, none⟩) (show w.heap.size < w.heap.size + 1 by omega)).trans E0.out
      have e1 := (HS.out.bel.cell (p := ⟨w.heap.size, 1, none⟩) (show w.heap.size < w.heap.size + 1 by omega)).trans E1.out
      have hol : (outL l a1Lo a1Hi).length ≤ 60 := by omega
      go_wp2_with fail
      refine (rangeC_any _ _ _ a1Lo a1Hi _ HS.out.m (outL_asc G.out.asc _ _) (by omega) (outL_bd G.out.bd _ _) a1Lol a1Loh a1Hil a1Hih).mono ?_
      intro r V2 h
      rw [G.out.rg2, RE.out] at h
      obtain ⟨q5, rfl, hq, b5⟩ := h
      obtain ⟨_, A5, c5, e5, _, _, _⟩ := row_rd hq
      subst e5
      clear hq e0 e1
      have HS := Lib.hid (HS.out.below b5); clear b5
      have x0 : ((ni : Int) == ni) = true := by simp
      have x1 : (((outL l a1Lo a1Hi).length : Int) == (k : Int) - ni) = true := by simp; omega
      have x2 : ((k : Int) == k) = true := by simp
      have x3 : ((ni : Int) == 0) = false := by simp; omega
      have x4 : IntKind.i64.wrap ((k : Int) - ni) = (k : Int) - ni := IntWalk.i64_in _ (by omega)
      go_wp2_with fail
      refine (lenC_any _ _ _ _ HS.out.m (by omega)).mono ?_
      rintro r V3 ⟨rfl, b5⟩
      have HS := Lib.hid (HS.out.below b5); clear b5
      go_wp2_with fail
      refine (lenC_any _ _ _ _ HS.out.c (by have := G.out.len; omega)).mono ?_
      rw [HNL.out]
      rintro r V4 ⟨rfl, b5⟩
      have HS := Lib.hid (HS.out.below b5); clear b5
      go_wp2_with fail
      refine (equalC_any _ _ _ _ _ _ _ HS.out.m HS.out.c (by omega) (by have := G.out.len; omega)).mono ?_
      rw [show decide (outL l a1Lo a1Hi = l) = false by rw [G.out.eq]; exact decide_eq_false (by simp)]
      rintro r V5 ⟨rfl, b5⟩
      have HS := Lib.hid (HS.out.below b5); clear b5
      go_wp2_with fail
      refine (known_any _).mono ?_
      rintro r V6 ⟨rfl, b5⟩
      go_wp2
      go_ret
      exact ⟨rfl, bel_trans (b0.trans (HS.out.bel.mono (by omega))) b5⟩
set_option maxRecDepth 100000 in
set_option maxHeartbeats 2000000 in
theorem ranges_clm (a0 : Option Addr) (a0n a0c : Nat) (a0v : List Om.Pr) (a1Lo : Int) (a1Hi : Int) (w : World) (a0e : a0v.length = a0n) (a0m : a0n ≤ maxLen) (a0r : Om.Rd w a0 a0v) (a0b : Om.Bd a0v) (a0z : a0 = none → a0c = 0) (a0s : a0n * 16 ≤ 140737488351232) (a1Lol : 0 ≤ a1Lo) (a1Loh : a1Lo ≤ 18446744073709551615) (a1Hil : 0 ≤ a1Hi) (a1Hih : a1Hi ≤ 18446744073709551615) (h1 : a0n ≤ 60) (hle : a1Lo ≤ a1Hi) (x : Pr) (t : List Pr) (hI : inL (maL a0v) a1Lo a1Hi = x :: t) (hlo : 0 < a1Lo) (hhi : a1Hi = 18446744073709551615) :
    Calls Try.prog 9 #[.slice a0 a0n a0c, .agg #[.int .u64 a1Lo, .int .u64 a1Hi]] w fun e w' => e = .returned (.bool true) ∧ Below w.heap.size w w' := by
  have HE := Lib.hid a0e
  have HR := Lib.hid a0r; clear a0r
  have HSZ := Lib.hid a0s; clear a0s
  have hrg := Rg.mk' (maL_asc a0v) (maL_bd a0b) (by have := maL_len a0v; omega) hle hI
  have MA := fun W h => Lib.hid (made_any a0 a0n a0c a0v W HE.out HSZ.out h)
  clear a0z a0m a0e a0b hI
  have b0 : Below w.heap.size w (w.alloc (.cells #[.int .u64 a1Lo, .int .u64 a1Hi] 41)) := bel_alloc (Below.refl _ _) _
  have t1 : decide (60 < (a0n : Int)) = false := decide_eq_false (by omega)
  have t2 : decide (a1Hi < a1Lo) = false := decide_eq_false (by omega)
  have RE := Lib.hid (show rgE a1Lo a1Hi = 0 from if_pos hle)
  have REL := Lib.hid (show rgE 0 (a1Lo - 1) = 0 from if_pos (by omega))
  have t3 : decide (0 < a1Lo) = true := decide_eq_true hlo
  have t4 : decide (a1Hi < 18446744073709551615) = false := decide_eq_false (by omega)
  have E0 := Lib.hid (show (w.alloc (.cells #[.int .u64 a1Lo, .int .u64 a1Hi] 41)).cell? ⟨w.heap.size, 0, none⟩ = some (.int .u64 a1Lo) by simp)
  have E1 := Lib.hid (show (w.alloc (.cells #[.int .u64 a1Lo, .int .u64 a1Hi] 41)).cell? ⟨w.heap.size, 1, none⟩ = some (.int .u64 a1Hi) by simp)
  have RL := Lib.hid (show rgL (maL a0v) 0 (a1Lo - 1) = (maL a0v).take (lowN (maL a0v) a1Lo) by rw [← part_lo hrg.asc hrg.bd hlo]; exact if_pos (by omega))
  have PM := Lib.hid (part_m hrg.bd hhi)
  clear hhi
  have G := Lib.hid hrg; clear hrg
  go_enter Try.func9, Try.ntmps9
  go_wp2_with fail
  refine (MA _ (HR.out.below b0)).out.mono ?_
  intro r W1 h
  obtain ⟨bm, v, rfl, hs⟩ := Stb.start (B := w.heap.size + 1) (by simp) (by simp) (h.some_ (by rw [HE.out]; exact h1))
  have HB := Lib.hid hs; clear hs h MA
  generalize maL a0v = l at *
  have e0 := (HB.out.bel.cell (p := ⟨w.heap.size, 0, none⟩) (show w.heap.size < w.heap.size + 1 by omega)).trans E0.out
  have e1 := (HB.out.bel.cell (p := ⟨w.heap.size, 1, none⟩) (show w.heap.size < w.heap.size + 1 by omega)).trans E1.out
  go_wp2_with fail
  refine (copyC_any _ _ _ _ HB.out.m (by have := G.out.len; omega)).mono ?_
  intro r W2 h
  obtain ⟨bn, u, rfl, hs⟩ := HB.out.more h
  have HS := Lib.hid hs; clear hs h
  have e0 := (HS.out.bel.cell (p := ⟨w.heap.size, 0, none⟩) (show w.heap.size < w.heap.size + 1 by omega)).trans E0.out
  have e1 := (HS.out.bel.cell (p := ⟨w.heap.size, 1, none⟩) (show w.heap.size < w.heap.size + 1 by omega)).trans E1.out
  go_wp2_with fail
  refine (pairsC_any _ _ _ _ HS.out.m (by have := G.out.len; omega)).mono ?_
  rintro r W3 ⟨q1, rfl, hq, b1⟩
  have RA := Lib.hid (Rw.fresh HS.out hq); clear hq
  have HS := Lib.hid (HS.out.below b1); clear b1
  have e0 := (HS.out.bel.cell (p := ⟨w.heap.size, 0, none⟩) (show w.heap.size < w.heap.size + 1 by omega)).trans E0.out
  have e1 := (HS.out.bel.cell (p := ⟨w.heap.size, 1, none⟩) (show w.heap.size < w.heap.size + 1 by omega)).trans E1.out
  go_wp2_with fail
  refine (rangeC_any _ _ _ a1Lo a1Hi _ HS.out.m G.out.asc (by have := G.out.len; omega) G.out.bd a1Lol a1Loh a1Hil a1Hih).mono ?_
  intro r W4 h
  rw [G.out.rg, RE.out] at h
  obtain ⟨q2, rfl, hq, b1⟩ := h
  have RA := Lib.hid (RA.out.below b1)
  have RI := Lib.hid (Rw.fresh HS.out hq); clear hq
  have HS := Lib.hid (HS.out.below b1); clear b1
  have e0 := (HS.out.bel.cell (p := ⟨w.heap.size, 0, none⟩) (show w.heap.size < w.heap.size + 1 by omega)).trans E0.out
  have e1 := (HS.out.bel.cell (p := ⟨w.heap.size, 1, none⟩) (show w.heap.size < w.heap.size + 1 by omega)).trans E1.out
  go_wp2_with fail
  refine (nextC_any _ _ _ a1Lo a1Hi _ HS.out.m G.out.asc (by have := G.out.len; omega)).mono ?_
  rw [G.out.rg, RE.out]
  unfold nxT
  rintro r W5 ⟨rfl, b1⟩
  have b2 := bel_alloc b1 (.cells #[.int .u64 x.1, .int .u64 x.2] 45)
  have RA := Lib.hid (RA.out.below b2)
  have RI := Lib.hid (RI.out.below b2)
  have HS := Lib.hid (HS.out.below b2); clear b1 b2
  obtain ⟨_, A1, c1, eq1, hc1, rd1, z1⟩ := row_rd RA.out.row
  obtain ⟨_, A2, c2, eq2, hc2, rd2, z2⟩ := row_rd RI.out.row
  have Z2 := Lib.hid z2
  subst eq1 eq2
  obtain ⟨b, o, rfl, g0, g1⟩ := rd2 0 x rfl
  simp only [Nat.zero_mul, Nat.add_zero] at g0 g1
  clear rd1 z1 z2 rd2
  obtain ⟨nl, hnl⟩ : ∃ n, l.length = n := ⟨_, rfl⟩
  have HNL := Lib.hid hnl
  have hnl60 : nl ≤ 60 := by rw [← hnl]; exact G.out.len
  obtain ⟨ni, hni⟩ : ∃ n, (x :: t).length = n := ⟨_, rfl⟩
  have HNI := Lib.hid hni
  have hio := G.out.io
  rw [hni, hnl] at hio
  rw [hnl] at RA hc1 ⊢
  rw [hni] at RI hc2 ⊢
  have hni0 : 0 < ni := by rw [← hni]; simp
  clear hnl hni
  have z1 : decide ((0 : Int) < (ni : Int)) = true := decide_eq_true (by omega)
  have z2 : (0 : Int) < (ni : Int) := by omega
  clear e0 e1
  go_wp2
  go_quiet (fail)
  have b3 : Below (W5.alloc (.cells #[.int .u64 x.1, .int .u64 x.2] 45)).heap.size (W5.alloc (.cells #[.int .u64 x.1, .int .u64 x.2] 45)) ((W5.alloc (.cells #[.int .u64 x.1, .int .u64 x.2] 45)).drewN nq) := below_drewN (Below.refl _ _) nq
  have RA := Lib.hid (RA.out.below b3)
  have RI := Lib.hid (RI.out.below b3)
  have HS := Lib.hid (HS.out.below b3); clear b3
  clear g0 g1
  generalize (W5.alloc (.cells #[.int .u64 x.1, .int .u64 x.2] 45)).drewN nq = W6 at *
  have e0 := (HS.out.bel.cell (p := ⟨w.heap.size, 0, none⟩) (show w.heap.size < w.heap.size + 1 by omega)).trans E0.out
  have e1 := (HS.out.bel.cell (p := ⟨w.heap.size, 1, none⟩) (show w.heap.size < w.heap.size + 1 by omega)).trans E1.out
  have RJ := Lib.hid (World.ownsRow_nil W6 W6.heap.size 45 2)
  have BJ := Lib.hid (Below.refl W6.heap.size W6)
  go_wp2_with fail
  refine (rangeC_any _ _ _ 0 (a1Lo - 1) _ (HS.out.below BJ.out).m G.out.asc (by have := G.out.len; omega) G.out.bd (by omega) (by omega) (by omega) (by omega)).mono ?_
  intro r X0 h
  rw [RL.out, REL.out] at h
  obtain ⟨p0, rfl, hq, b7⟩ := h
  obtain ⟨_, C0, d0, e3q, hd0, rd3, z3⟩ := row_rd hq
  subst e3q
  have RD0 := Lib.hid rd3
  have ZZ0 := Lib.hid z3
  have RJ := Lib.hid (row_below RJ.out b7)
  have BJ := Lib.hid (BJ.out.trans (b7.mono BJ.out.size)); clear hq rd3 z3 b7
  obtain ⟨n0, hn3⟩ : ∃ n, (l.take (lowN l a1Lo)).length = n := ⟨_, rfl⟩
  have hnl0 : n0 ≤ nl := by rw [← hn3, ← HNL.out]; rw [List.length_take]; omega
  have HK0 := Lib.hid hn3
  rw [hn3] at hd0 ⊢
  clear hn3
  have e0 := ((HS.out.below BJ.out).bel.cell (p := ⟨w.heap.size, 0, none⟩) (show w.heap.size < w.heap.size + 1 by omega)).trans E0.out
  have e1 := ((HS.out.below BJ.out).bel.cell (p := ⟨w.heap.size, 1, none⟩) (show w.heap.size < w.heap.size + 1 by omega)).trans E1.out
  have hzs : (l.take (lowN l a1Lo)) ++ (x :: t) = l := by have h := G.out.p; rw [PM.out] at h; simpa using h
  have hN : n0 + ni = nl := by have h := congrArg List.length hzs; rw [HNL.out] at h; simp only [List.length_append] at h; have q0 := HK0.out; have qi := HNI.out; simp only [List.length_nil] at *; omega
  have HZS := Lib.hid hzs
  have HNN := Lib.hid hN; clear hzs hN
  go_wp2_with (first | (refine appG rfl (.tmp 103) (.tmp 104) rfl _ W6.heap.size 0 n0 (.slice none 0 0) ([] : List Pr) (l.take (lowN l a1Lo)) C0 n0 d0 (l.take (lowN l a1Lo)) rfl rfl HK0.out RD0.out ZZ0.out RJ.out (by omega) BJ.out.size (Nat.zero_add _) rfl ?_; intro A09 c09 Y0 h9 b9; have RJ := Lib.hid h9; have BJ := Lib.hid (BJ.out.trans b9); clear h9 b9; have e0 := ((HS.out.below BJ.out).bel.cell (p := ⟨w.heap.size, 0, none⟩) (show w.heap.size < w.heap.size + 1 by omega)).trans E0.out; have e1 := ((HS.out.below BJ.out).bel.cell (p := ⟨w.heap.size, 1, none⟩) (show w.heap.size < w.heap.size + 1 by omega)).trans E1.out) | (refine appG rfl (.tmp 106) (.tmp 107) rfl _ W6.heap.size n0 nl (.slice A09 n0 c09) (l.take (lowN l a1Lo)) l (some ⟨b, o, none⟩) ni c2 (x :: t) rfl rfl HNI.out (by obtain ⟨_, A0, c0, e, _, rd, _⟩ := row_rd (RI.out.below BJ.out).row; injection e with e1 e2 e3; rw [e1]; exact rd) Z2.out RJ.out (by omega) BJ.out.size HNN.out HZS.out ?_; intro A19 c19 Y1 h9 b9; have RJ := Lib.hid h9; have BJ := Lib.hid (BJ.out.trans b9); clear h9 b9; have e0 := ((HS.out.below BJ.out).bel.cell (p := ⟨w.heap.size, 0, none⟩) (show w.heap.size < w.heap.size + 1 by omega)).trans E0.out; have e1 := ((HS.out.below BJ.out).bel.cell (p := ⟨w.heap.size, 1, none⟩) (show w.heap.size < w.heap.size + 1 by omega)).trans E1.out))
  go_loopw [18] (fun i wr => ∃ k : Nat, k ≤ nl ∧ i = .int .i64 k ∧ Below W6.heap.size W6 wr ∧ wr.ownsRow W6.heap.size 45 2 (.slice A19 nl c19) nl (flat l)) (fun i _ => nl - (intOf i).toNat)
  case atStart => exact ⟨0, Nat.zero_le _, rfl, BJ.out, RJ.out⟩
  case round =>
    clear BJ RJ e0 e1
    obtain ⟨k, hk, rfl, bj, rj⟩ := hrel
    have BJ := Lib.hid bj
    have RJ := Lib.hid rj
    clear bj rj
    by_cases hlt : k < nl
    · have u0 : decide ((k : Int) < nl) = true := decide_eq_true (by omega)
      have hki : (k : Int) < nl := by omega
      obtain ⟨y, hy, _⟩ := getElem?_lt HNL.out hlt
      obtain ⟨_, A8, c8, e8, _, rd8, _⟩ := row_rd (RA.out.below BJ.out).row
      injection e8 with e81 e82 e83
      subst e81
      obtain ⟨_, A7, c7, e7, _, rd7, _⟩ := row_rd RJ.out
      injection e7 with e71 e72 e73
      subst e71
      obtain ⟨b5, o5, rfl, g2, g3⟩ := rd8 k y hy
      obtain ⟨b6, o6, rfl, g4, g5⟩ := rd7 k y hy
      clear rd7 rd8 hy e82 e83 e72 e73
      go_wp2
      go_quiet (fail)
      go_wp2
      go_roundw
      case rel => exact ⟨k + 1, by omega, by go_num, below_drewN BJ.out _, RJ.out⟩
      case measure => simp [intOf]; omega
    · obtain rfl : k = nl := by omega
      have u0 : decide ((k : Int) < k) = false := decide_eq_false (by omega)
      have HS := Lib.hid (HS.out.below BJ.out)
      have e0 := (HS.out.bel.cell (p := ⟨w.heap.size, 0, none⟩) (show w.heap.size < w.heap.size + 1 by omega)).trans E0.out
      have e1 := (HS.out.bel.cell (p := ⟨w.heap.size, 1, none⟩) (show w.heap.size < w.heap.size + 1 by omega)).trans E1.out
      clear RA RI RJ BJ
      go_wp2_with fail
      refine (deC_any _ _ _ a1Lo a1Hi _ HS.out.m G.out.asc (by have := G.out.len; omega) G.out.bd a1Lol a1Loh a1Hil a1Hih).mono ?_
      intro r V1 h
      rw [show deT l a1Lo a1Hi = .tuple #[.int .i64 ((ni : Nat) : Int), .int .i64 0] by unfold deT; rw [G.out.rg, RE.out, HNI.out], G.out.dl] at h
      obtain ⟨v1, rfl, hs⟩ := HS.out.left h
      have HS := Lib.hid hs; clear hs h
      have e0 := (HS.out.bel.cell (p := ⟨w.heap.size, 0, none⟩) (show w.heap.size < w.heap.size + 1 by omega)).trans E0.out
      have e1 := (HS.out.bel.cell (p := ⟨w.heap.size, 1, none⟩) (show w.heap.size < w.heap.size + 1 by omega)).trans E1.out
      have hol : (outL l a1Lo a1Hi).length ≤ 60 := by omega
      go_wp2_with fail
      refine (rangeC_any _ _ _ a1Lo a1Hi _ HS.out.m (outL_asc G.out.asc _ _) (by omega) (outL_bd G.out.bd _ _) a1Lol a1Loh a1Hil a1Hih).mono ?_
      intro r V2 h
      rw [G.out.rg2, RE.out] at h
      obtain ⟨q5, rfl, hq, b5⟩ := h
      obtain ⟨_, A5, c5, e5, _, _, _⟩ := row_rd hq
      subst e5
      clear hq e0 e1
      have HS := Lib.hid (HS.out.below b5); clear b5
      have x0 : ((ni : Int) == ni) = true := by simp
      have x1 : (((outL l a1Lo a1Hi).length : Int) == (k : Int) - ni) = true := by simp; omega
      have x2 : ((k : Int) == k) = true := by simp
      have x3 : ((ni : Int) == 0) = false := by simp; omega
      have x4 : IntKind.i64.wrap ((k : Int) - ni) = (k : Int) - ni := IntWalk.i64_in _ (by omega)
      go_wp2_with fail
      refine (lenC_any _ _ _ _ HS.out.m (by omega)).mono ?_
      rintro r V3 ⟨rfl, b5⟩
      have HS := Lib.hid (HS.out.below b5); clear b5
      go_wp2_with fail
      refine (lenC_any _ _ _ _ HS.out.c (by have := G.out.len; omega)).mono ?_
      rw [HNL.out]
      rintro r V4 ⟨rfl, b5⟩
      have HS := Lib.hid (HS.out.below b5); clear b5
      go_wp2_with fail
      refine (equalC_any _ _ _ _ _ _ _ HS.out.m HS.out.c (by omega) (by have := G.out.len; omega)).mono ?_
      rw [show decide (outL l a1Lo a1Hi = l) = false by rw [G.out.eq]; exact decide_eq_false (by simp)]
      rintro r V5 ⟨rfl, b5⟩
      have HS := Lib.hid (HS.out.below b5); clear b5
      go_wp2_with fail
      refine (known_any _).mono ?_
      rintro r V6 ⟨rfl, b5⟩
      go_wp2
      go_ret
      exact ⟨rfl, bel_trans (b0.trans (HS.out.bel.mono (by omega))) b5⟩
set_option maxRecDepth 100000 in
set_option maxHeartbeats 2000000 in
theorem ranges_clh (a0 : Option Addr) (a0n a0c : Nat) (a0v : List Om.Pr) (a1Lo : Int) (a1Hi : Int) (w : World) (a0e : a0v.length = a0n) (a0m : a0n ≤ maxLen) (a0r : Om.Rd w a0 a0v) (a0b : Om.Bd a0v) (a0z : a0 = none → a0c = 0) (a0s : a0n * 16 ≤ 140737488351232) (a1Lol : 0 ≤ a1Lo) (a1Loh : a1Lo ≤ 18446744073709551615) (a1Hil : 0 ≤ a1Hi) (a1Hih : a1Hi ≤ 18446744073709551615) (h1 : a0n ≤ 60) (hle : a1Lo ≤ a1Hi) (x : Pr) (t : List Pr) (hI : inL (maL a0v) a1Lo a1Hi = x :: t) (hlo : 0 < a1Lo) (hhi : a1Hi < 18446744073709551615) :
    Calls Try.prog 9 #[.slice a0 a0n a0c, .agg #[.int .u64 a1Lo, .int .u64 a1Hi]] w fun e w' => e = .returned (.bool true) ∧ Below w.heap.size w w' := by
  have HE := Lib.hid a0e
  have HR := Lib.hid a0r; clear a0r
  have HSZ := Lib.hid a0s; clear a0s
  have hrg := Rg.mk' (maL_asc a0v) (maL_bd a0b) (by have := maL_len a0v; omega) hle hI
  have MA := fun W h => Lib.hid (made_any a0 a0n a0c a0v W HE.out HSZ.out h)
  clear a0z a0m a0e a0b hI
  have b0 : Below w.heap.size w (w.alloc (.cells #[.int .u64 a1Lo, .int .u64 a1Hi] 41)) := bel_alloc (Below.refl _ _) _
  have t1 : decide (60 < (a0n : Int)) = false := decide_eq_false (by omega)
  have t2 : decide (a1Hi < a1Lo) = false := decide_eq_false (by omega)
  have RE := Lib.hid (show rgE a1Lo a1Hi = 0 from if_pos hle)
  have REL := Lib.hid (show rgE 0 (a1Lo - 1) = 0 from if_pos (by omega))
  have t3 : decide (0 < a1Lo) = true := decide_eq_true hlo
  have REH := Lib.hid (show rgE (a1Hi + 1) 18446744073709551615 = 0 from if_pos (by omega))
  have t4 : decide (a1Hi < 18446744073709551615) = true := decide_eq_true hhi
  have E0 := Lib.hid (show (w.alloc (.cells #[.int .u64 a1Lo, .int .u64 a1Hi] 41)).cell? ⟨w.heap.size, 0, none⟩ = some (.int .u64 a1Lo) by simp)
  have E1 := Lib.hid (show (w.alloc (.cells #[.int .u64 a1Lo, .int .u64 a1Hi] 41)).cell? ⟨w.heap.size, 1, none⟩ = some (.int .u64 a1Hi) by simp)
  have RL := Lib.hid (show rgL (maL a0v) 0 (a1Lo - 1) = (maL a0v).take (lowN (maL a0v) a1Lo) by rw [← part_lo hrg.asc hrg.bd hlo]; exact if_pos (by omega))
  have RH := Lib.hid (show rgL (maL a0v) (a1Hi + 1) 18446744073709551615 = (maL a0v).drop (lowN (maL a0v) (a1Hi + 1)) by rw [← part_hi hrg.asc hrg.bd hhi]; exact if_pos (by omega))
  have G := Lib.hid hrg; clear hrg
  go_enter Try.func9, Try.ntmps9
  go_wp2_with fail
  refine (MA _ (HR.out.below b0)).out.mono ?_
  intro r W1 h
  obtain ⟨bm, v, rfl, hs⟩ := Stb.start (B := w.heap.size + 1) (by simp) (by simp) (h.some_ (by rw [HE.out]; exact h1))
  have HB := Lib.hid hs; clear hs h MA
  generalize maL a0v = l at *
  have e0 := (HB.out.bel.cell (p := ⟨w.heap.size, 0, none⟩) (show w.heap.size < w.heap.size + 1 by omega)).trans E0.out
  have e1 := (HB.out.bel.cell (p := ⟨w.heap.size, 1, none⟩) (show w.heap.size < w.heap.size + 1 by omega)).trans E1.out
  go_wp2_with fail
  refine (copyC_any _ _ _ _ HB.out.m (by have := G.out.len; omega)).mono ?_
  intro r W2 h
  obtain ⟨bn, u, rfl, hs⟩ := HB.out.more h
  have HS := Lib.hid hs; clear hs h
  have e0 := (HS.out.bel.cell (p := ⟨w.heap.size, 0, none⟩) (show w.heap.size < w.heap.size + 1 by omega)).trans E0.out
  have e1 := (HS.out.bel.cell (p := ⟨w.heap.size, 1, none⟩) (show w.heap.size < w.heap.size + 1 by omega)).trans E1.out
  go_wp2_with fail
  refine (pairsC_any _ _ _ _ HS.out.m (by have := G.out.len; omega)).mono ?_
  rintro r W3 ⟨q1, rfl, hq, b1⟩
  have RA := Lib.hid (Rw.fresh HS.out hq); clear hq
  have HS := Lib.hid (HS.out.below b1); clear b1
  have e0 := (HS.out.bel.cell (p := ⟨w.heap.size, 0, none⟩) (show w.heap.size < w.heap.size + 1 by omega)).trans E0.out
  have e1 := (HS.out.bel.cell (p := ⟨w.heap.size, 1, none⟩) (show w.heap.size < w.heap.size + 1 by omega)).trans E1.out
  go_wp2_with fail
  refine (rangeC_any _ _ _ a1Lo a1Hi _ HS.out.m G.out.asc (by have := G.out.len; omega) G.out.bd a1Lol a1Loh a1Hil a1Hih).mono ?_
  intro r W4 h
  rw [G.out.rg, RE.out] at h
  obtain ⟨q2, rfl, hq, b1⟩ := h
  have RA := Lib.hid (RA.out.below b1)
  have RI := Lib.hid (Rw.fresh HS.out hq); clear hq
  have HS := Lib.hid (HS.out.below b1); clear b1
  have e0 := (HS.out.bel.cell (p := ⟨w.heap.size, 0, none⟩) (show w.heap.size < w.heap.size + 1 by omega)).trans E0.out
  have e1 := (HS.out.bel.cell (p := ⟨w.heap.size, 1, none⟩) (show w.heap.size < w.heap.size + 1 by omega)).trans E1.out
  go_wp2_with fail
  refine (nextC_any _ _ _ a1Lo a1Hi _ HS.out.m G.out.asc (by have := G.out.len; omega)).mono ?_
  rw [G.out.rg, RE.out]
  unfold nxT
  rintro r W5 ⟨rfl, b1⟩
  have b2 := bel_alloc b1 (.cells #[.int .u64 x.1, .int .u64 x.2] 45)
  have RA := Lib.hid (RA.out.below b2)
  have RI := Lib.hid (RI.out.below b2)
  have HS := Lib.hid (HS.out.below b2); clear b1 b2
  obtain ⟨_, A1, c1, eq1, hc1, rd1, z1⟩ := row_rd RA.out.row
  obtain ⟨_, A2, c2, eq2, hc2, rd2, z2⟩ := row_rd RI.out.row
  have Z2 := Lib.hid z2
  subst eq1 eq2
  obtain ⟨b, o, rfl, g0, g1⟩ := rd2 0 x rfl
  simp only [Nat.zero_mul, Nat.add_zero] at g0 g1
  clear rd1 z1 z2 rd2
  obtain ⟨nl, hnl⟩ : ∃ n, l.length = n := ⟨_, rfl⟩
  have HNL := Lib.hid hnl
  have hnl60 : nl ≤ 60 := by rw [← hnl]; exact G.out.len
  obtain ⟨ni, hni⟩ : ∃ n, (x :: t).length = n := ⟨_, rfl⟩
  have HNI := Lib.hid hni
  have hio := G.out.io
  rw [hni, hnl] at hio
  rw [hnl] at RA hc1 ⊢
  rw [hni] at RI hc2 ⊢
  have hni0 : 0 < ni := by rw [← hni]; simp
  clear hnl hni
  have z1 : decide ((0 : Int) < (ni : Int)) = true := decide_eq_true (by omega)
  have z2 : (0 : Int) < (ni : Int) := by omega
  clear e0 e1
  go_wp2
  go_quiet (fail)
  have b3 : Below (W5.alloc (.cells #[.int .u64 x.1, .int .u64 x.2] 45)).heap.size (W5.alloc (.cells #[.int .u64 x.1, .int .u64 x.2] 45)) ((W5.alloc (.cells #[.int .u64 x.1, .int .u64 x.2] 45)).drewN nq) := below_drewN (Below.refl _ _) nq
  have RA := Lib.hid (RA.out.below b3)
  have RI := Lib.hid (RI.out.below b3)
  have HS := Lib.hid (HS.out.below b3); clear b3
  clear g0 g1
  generalize (W5.alloc (.cells #[.int .u64 x.1, .int .u64 x.2] 45)).drewN nq = W6 at *
  have e0 := (HS.out.bel.cell (p := ⟨w.heap.size, 0, none⟩) (show w.heap.size < w.heap.size + 1 by omega)).trans E0.out
  have e1 := (HS.out.bel.cell (p := ⟨w.heap.size, 1, none⟩) (show w.heap.size < w.heap.size + 1 by omega)).trans E1.out
  have RJ := Lib.hid (World.ownsRow_nil W6 W6.heap.size 45 2)
  have BJ := Lib.hid (Below.refl W6.heap.size W6)
  go_wp2_with fail
  refine (rangeC_any _ _ _ 0 (a1Lo - 1) _ (HS.out.below BJ.out).m G.out.asc (by have := G.out.len; omega) G.out.bd (by omega) (by omega) (by omega) (by omega)).mono ?_
  intro r X0 h
  rw [RL.out, REL.out] at h
  obtain ⟨p0, rfl, hq, b7⟩ := h
  obtain ⟨_, C0, d0, e3q, hd0, rd3, z3⟩ := row_rd hq
  subst e3q
  have RD0 := Lib.hid rd3
  have ZZ0 := Lib.hid z3
  have RJ := Lib.hid (row_below RJ.out b7)
  have BJ := Lib.hid (BJ.out.trans (b7.mono BJ.out.size)); clear hq rd3 z3 b7
  obtain ⟨n0, hn3⟩ : ∃ n, (l.take (lowN l a1Lo)).length = n := ⟨_, rfl⟩
  have hnl0 : n0 ≤ nl := by rw [← hn3, ← HNL.out]; rw [List.length_take]; omega
  have HK0 := Lib.hid hn3
  rw [hn3] at hd0 ⊢
  clear hn3
  have e0 := ((HS.out.below BJ.out).bel.cell (p := ⟨w.heap.size, 0, none⟩) (show w.heap.size < w.heap.size + 1 by omega)).trans E0.out
  have e1 := ((HS.out.below BJ.out).bel.cell (p := ⟨w.heap.size, 1, none⟩) (show w.heap.size < w.heap.size + 1 by omega)).trans E1.out
  go_wp2_with (first | (refine appG rfl (.tmp 103) (.tmp 104) rfl _ W6.heap.size 0 n0 (.slice none 0 0) ([] : List Pr) (l.take (lowN l a1Lo)) C0 n0 d0 (l.take (lowN l a1Lo)) rfl rfl HK0.out RD0.out ZZ0.out RJ.out (by omega) BJ.out.size (Nat.zero_add _) rfl ?_; intro A09 c09 Y0 h9 b9; have RJ := Lib.hid h9; have BJ := Lib.hid (BJ.out.trans b9); clear h9 b9; have e0 := ((HS.out.below BJ.out).bel.cell (p := ⟨w.heap.size, 0, none⟩) (show w.heap.size < w.heap.size + 1 by omega)).trans E0.out; have e1 := ((HS.out.below BJ.out).bel.cell (p := ⟨w.heap.size, 1, none⟩) (show w.heap.size < w.heap.size + 1 by omega)).trans E1.out) | (refine appG rfl (.tmp 106) (.tmp 107) rfl _ W6.heap.size n0 (n0 + ni) (.slice A09 n0 c09) (l.take (lowN l a1Lo)) ((l.take (lowN l a1Lo)) ++ (x :: t)) (some ⟨b, o, none⟩) ni c2 (x :: t) rfl rfl HNI.out (by obtain ⟨_, A0, c0, e, _, rd, _⟩ := row_rd (RI.out.below BJ.out).row; injection e with e1 e2 e3; rw [e1]; exact rd) Z2.out RJ.out (by omega) BJ.out.size rfl rfl ?_; intro A19 c19 Y1 h9 b9; have RJ := Lib.hid h9; have BJ := Lib.hid (BJ.out.trans b9); clear h9 b9; have e0 := ((HS.out.below BJ.out).bel.cell (p := ⟨w.heap.size, 0, none⟩) (show w.heap.size < w.heap.size + 1 by omega)).trans E0.out; have e1 := ((HS.out.below BJ.out).bel.cell (p := ⟨w.heap.size, 1, none⟩) (show w.heap.size < w.heap.size + 1 by omega)).trans E1.out))
  go_wp2_with fail
  refine (rangeC_any _ _ _ (a1Hi + 1) 18446744073709551615 _ (HS.out.below BJ.out).m G.out.asc (by have := G.out.len; omega) G.out.bd (by omega) (by omega) (by omega) (by omega)).mono ?_
  intro r X2 h
  rw [RH.out, REH.out] at h
  obtain ⟨p2, rfl, hq, b7⟩ := h
  obtain ⟨_, C2, d2, e3q, hd2, rd3, z3⟩ := row_rd hq
  subst e3q
  have RD2 := Lib.hid rd3
  have ZZ2 := Lib.hid z3
  have RJ := Lib.hid (row_below RJ.out b7)
  have BJ := Lib.hid (BJ.out.trans (b7.mono BJ.out.size)); clear hq rd3 z3 b7
  obtain ⟨n2, hn3⟩ : ∃ n, (l.drop (lowN l (a1Hi + 1))).length = n := ⟨_, rfl⟩
  have hnl2 : n2 ≤ nl := by rw [← hn3, ← HNL.out]; rw [List.length_drop]; omega
  have HK2 := Lib.hid hn3
  rw [hn3] at hd2 ⊢
  clear hn3
  have e0 := ((HS.out.below BJ.out).bel.cell (p := ⟨w.heap.size, 0, none⟩) (show w.heap.size < w.heap.size + 1 by omega)).trans E0.out
  have e1 := ((HS.out.below BJ.out).bel.cell (p := ⟨w.heap.size, 1, none⟩) (show w.heap.size < w.heap.size + 1 by omega)).trans E1.out
  have hzs : ((l.take (lowN l a1Lo)) ++ (x :: t)) ++ (l.drop (lowN l (a1Hi + 1))) = l := by have h := G.out.p; simpa using h
  have hN : (n0 + ni) + n2 = nl := by have h := congrArg List.length hzs; rw [HNL.out] at h; simp only [List.length_append] at h; have q0 := HK0.out; have qi := HNI.out; have q2 := HK2.out; simp only [List.length_nil] at *; omega
  have HZS := Lib.hid hzs
  have HNN := Lib.hid hN; clear hzs hN
  go_wp2_with (refine appG rfl (.tmp 123) (.tmp 124) rfl _ W6.heap.size (n0 + ni) nl (.slice A19 (n0 + ni) c19) ((l.take (lowN l a1Lo)) ++ (x :: t)) l C2 n2 d2 (l.drop (lowN l (a1Hi + 1))) rfl rfl HK2.out RD2.out ZZ2.out RJ.out (by omega) BJ.out.size HNN.out HZS.out ?_; intro A29 c29 Y2 h9 b9; have RJ := Lib.hid h9; have BJ := Lib.hid (BJ.out.trans b9); clear h9 b9; have e0 := ((HS.out.below BJ.out).bel.cell (p := ⟨w.heap.size, 0, none⟩) (show w.heap.size < w.heap.size + 1 by omega)).trans E0.out; have e1 := ((HS.out.below BJ.out).bel.cell (p := ⟨w.heap.size, 1, none⟩) (show w.heap.size < w.heap.size + 1 by omega)).trans E1.out)
  go_loopw [18] (fun i wr => ∃ k : Nat, k ≤ nl ∧ i = .int .i64 k ∧ Below W6.heap.size W6 wr ∧ wr.ownsRow W6.heap.size 45 2 (.slice A29 nl c29) nl (flat l)) (fun i _ => nl - (intOf i).toNat)
  case atStart => exact ⟨0, Nat.zero_le _, rfl, BJ.out, RJ.out⟩
  case round =>
    clear BJ RJ e0 e1
    obtain ⟨k, hk, rfl, bj, rj⟩ := hrel
    have BJ := Lib.hid bj
    have RJ := Lib.hid rj
    clear bj rj
    by_cases hlt : k < nl
    · have u0 : decide ((k : Int) < nl) = true := decide_eq_true (by omega)
      have hki : (k : Int) < nl := by omega
      obtain ⟨y, hy, _⟩ := getElem?_lt HNL.out hlt
      obtain ⟨_, A8, c8, e8, _, rd8, _⟩ := row_rd (RA.out.below BJ.out).row
      injection e8 with e81 e82 e83
      subst e81
      obtain ⟨_, A7, c7, e7, _, rd7, _⟩ := row_rd RJ.out
      injection e7 with e71 e72 e73
      subst e71
      obtain ⟨b5, o5, rfl, g2, g3⟩ := rd8 k y hy
      obtain ⟨b6, o6, rfl, g4, g5⟩ := rd7 k y hy
      clear rd7 rd8 hy e82 e83 e72 e73
      go_wp2
      go_quiet (fail)
      go_wp2
      go_roundw
      case rel => exact ⟨k + 1, by omega, by go_num, below_drewN BJ.out _, RJ.out⟩
      case measure => simp [intOf]; omega
    · obtain rfl : k = nl := by omega
      have u0 : decide ((k : Int) < k) = false := decide_eq_false (by omega)
      have HS := Lib.hid (HS.out.below BJ.out)
      have e0 := (HS.out.bel.cell (p := ⟨w.heap.size, 0, none⟩) (show w.heap.size < w.heap.size + 1 by omega)).trans E0.out
      have e1 := (HS.out.bel.cell (p := ⟨w.heap.size, 1, none⟩) (show w.heap.size < w.heap.size + 1 by omega)).trans E1.out
      clear RA RI RJ BJ
      go_wp2_with fail
      refine (deC_any _ _ _ a1Lo a1Hi _ HS.out.m G.out.asc (by have := G.out.len; omega) G.out.bd a1Lol a1Loh a1Hil a1Hih).mono ?_
      intro r V1 h
      rw [show deT l a1Lo a1Hi = .tuple #[.int .i64 ((ni : Nat) : Int), .int .i64 0] by unfold deT; rw [G.out.rg, RE.out, HNI.out], G.out.dl] at h
      obtain ⟨v1, rfl, hs⟩ := HS.out.left h
      have HS := Lib.hid hs; clear hs h
      have e0 := (HS.out.bel.cell (p := ⟨w.heap.size, 0, none⟩) (show w.heap.size < w.heap.size + 1 by omega)).trans E0.out
      have e1 := (HS.out.bel.cell (p := ⟨w.heap.size, 1, none⟩) (show w.heap.size < w.heap.size + 1 by omega)).trans E1.out
      have hol : (outL l a1Lo a1Hi).length ≤ 60 := by omega
      go_wp2_with fail
      refine (rangeC_any _ _ _ a1Lo a1Hi _ HS.out.m (outL_asc G.out.asc _ _) (by omega) (outL_bd G.out.bd _ _) a1Lol a1Loh a1Hil a1Hih).mono ?_
      intro r V2 h
      rw [G.out.rg2, RE.out] at h
      obtain ⟨q5, rfl, hq, b5⟩ := h
      obtain ⟨_, A5, c5, e5, _, _, _⟩ := row_rd hq
      subst e5
      clear hq e0 e1
      have HS := Lib.hid (HS.out.below b5); clear b5
      have x0 : ((ni : Int) == ni) = true := by simp
      have x1 : (((outL l a1Lo a1Hi).length : Int) == (k : Int) - ni) = true := by simp; omega
      have x2 : ((k : Int) == k) = true := by simp
      have x3 : ((ni : Int) == 0) = false := by simp; omega
      have x4 : IntKind.i64.wrap ((k : Int) - ni) = (k : Int) - ni := IntWalk.i64_in _ (by omega)
      go_wp2_with fail
      refine (lenC_any _ _ _ _ HS.out.m (by omega)).mono ?_
      rintro r V3 ⟨rfl, b5⟩
      have HS := Lib.hid (HS.out.below b5); clear b5
      go_wp2_with fail
      refine (lenC_any _ _ _ _ HS.out.c (by have := G.out.len; omega)).mono ?_
      rw [HNL.out]
      rintro r V4 ⟨rfl, b5⟩
      have HS := Lib.hid (HS.out.below b5); clear b5
      go_wp2_with fail
      refine (equalC_any _ _ _ _ _ _ _ HS.out.m HS.out.c (by omega) (by have := G.out.len; omega)).mono ?_
      rw [show decide (outL l a1Lo a1Hi = l) = false by rw [G.out.eq]; exact decide_eq_false (by simp)]
      rintro r V5 ⟨rfl, b5⟩
      have HS := Lib.hid (HS.out.below b5); clear b5
      go_wp2_with fail
      refine (known_any _).mono ?_
      rintro r V6 ⟨rfl, b5⟩
      go_wp2
      go_ret
      exact ⟨rfl, bel_trans (b0.trans (HS.out.bel.mono (by omega))) b5⟩
set_option maxRecDepth 100000 in
set_option maxHeartbeats 2000000 in
theorem ranges_many (a0 : Option Addr) (a0n a0c : Nat) (a0v : List Om.Pr) (a1Lo : Int) (a1Hi : Int) (w : World) (a0e : a0v.length = a0n) (a0m : a0n ≤ maxLen) (a0r : Om.Rd w a0 a0v) (a0b : Om.Bd a0v) (a0z : a0 = none → a0c = 0) (a0s : a0n * 16 ≤ 140737488351232) (a1Lol : 0 ≤ a1Lo) (a1Loh : a1Lo ≤ 18446744073709551615) (a1Hil : 0 ≤ a1Hi) (a1Hih : a1Hi ≤ 18446744073709551615) (h : 60 < a0n ∨ a1Hi < a1Lo) :
    Calls Try.prog 9 #[.slice a0 a0n a0c, .agg #[.int .u64 a1Lo, .int .u64 a1Hi]] w fun e w' => e = .returned (.bool true) ∧ Below w.heap.size w w' := by
  have HE := Lib.hid a0e; clear a0e
  have HR := Lib.hid a0r; clear a0r
  have HSZ := Lib.hid a0s; clear a0s
  clear a0z a0b
  have b0 : Below w.heap.size w (w.alloc (.cells #[.int .u64 a1Lo, .int .u64 a1Hi] 41)) := bel_alloc (Below.refl _ _) _
  by_cases h1 : 60 < a0n
  · have t1 : decide (60 < (a0n : Int)) = true := decide_eq_true (by omega)
    clear h
    go_enter Try.func9, Try.ntmps9
    go_wp2_with fail
    refine (made_any a0 a0n a0c a0v _ HE.out HSZ.out (HR.out.below b0)).mono ?_
    intro r W1 h
    obtain ⟨p, rfl, b1⟩ := h.any
    go_wp2_with fail
    refine (known_any _).mono ?_
    rintro r W2 ⟨rfl, b2⟩
    go_wp2
    go_ret
    exact ⟨rfl, bel_trans (bel_trans b0 b1) b2⟩
  · have t1 : decide (60 < (a0n : Int)) = false := decide_eq_false (by omega)
    have t2 : decide (a1Hi < a1Lo) = true := decide_eq_true (by omega)
    clear h
    go_enter Try.func9, Try.ntmps9
    go_wp2_with fail
    refine (made_any a0 a0n a0c a0v _ HE.out HSZ.out (HR.out.below b0)).mono ?_
    intro r W1 h
    obtain ⟨p, rfl, b1⟩ := h.any
    have e0 : W1.cell? ⟨w.heap.size, 0, none⟩ = some (.int .u64 a1Lo) := by rw [b1.cell (p := ⟨w.heap.size, 0, none⟩) (by simp)]; simp
    have e1 : W1.cell? ⟨w.heap.size, 1, none⟩ = some (.int .u64 a1Hi) := by rw [b1.cell (p := ⟨w.heap.size, 1, none⟩) (by simp)]; simp
    go_wp2_with fail
    refine (known_any _).mono ?_
    rintro r W2 ⟨rfl, b2⟩
    go_wp2
    go_ret
    exact ⟨rfl, bel_trans (bel_trans b0 b1) b2⟩
set_option maxRecDepth 100000 in
set_option maxHeartbeats 2000000 in
theorem walk_omapRanges (a0 : Option Addr) (a0n a0c : Nat) (a0v : List Om.Pr) (a1Lo : Int) (a1Hi : Int) (w : World) (a0e : a0v.length = a0n) (a0m : a0n ≤ maxLen) (a0r : Om.Rd w a0 a0v) (a0b : Om.Bd a0v) (a0z : a0 = none → a0c = 0) (a0s : a0n * 16 ≤ 140737488351232) (a1Lol : 0 ≤ a1Lo) (a1Loh : a1Lo ≤ 18446744073709551615) (a1Hil : 0 ≤ a1Hi) (a1Hih : a1Hi ≤ 18446744073709551615) :
    Calls Try.prog 9 #[.slice a0 a0n a0c, .agg #[.int .u64 a1Lo, .int .u64 a1Hi]] w fun e w' => e = .returned (.bool true) ∧ Below w.heap.size w w' := by
  by_cases h1 : 60 < a0n
  · exact ranges_many a0 a0n a0c a0v a1Lo a1Hi w a0e a0m a0r a0b a0z a0s a1Lol a1Loh a1Hil a1Hih (.inl h1)
  by_cases h2 : a1Hi < a1Lo
  · exact ranges_many a0 a0n a0c a0v a1Lo a1Hi w a0e a0m a0r a0b a0z a0s a1Lol a1Loh a1Hil a1Hih (.inr h2)
  have h1' : a0n ≤ 60 := by omega
  have h2' : a1Lo ≤ a1Hi := by omega
  cases hI : inL (maL a0v) a1Lo a1Hi with
  | nil =>
    by_cases hlo : 0 < a1Lo
    · by_cases hhi : a1Hi < 18446744073709551615
      · exact ranges_nlh a0 a0n a0c a0v a1Lo a1Hi w a0e a0m a0r a0b a0z a0s a1Lol a1Loh a1Hil a1Hih h1' h2' hI hlo hhi
      · exact ranges_nlm a0 a0n a0c a0v a1Lo a1Hi w a0e a0m a0r a0b a0z a0s a1Lol a1Loh a1Hil a1Hih h1' h2' hI hlo (by omega)
    · by_cases hhi : a1Hi < 18446744073709551615
      · exact ranges_nzh a0 a0n a0c a0v a1Lo a1Hi w a0e a0m a0r a0b a0z a0s a1Lol a1Loh a1Hil a1Hih h1' h2' hI (by omega) hhi
      · exact ranges_nzm a0 a0n a0c a0v a1Lo a1Hi w a0e a0m a0r a0b a0z a0s a1Lol a1Loh a1Hil a1Hih h1' h2' hI (by omega) (by omega)
  | cons x t =>
    by_cases hlo : 0 < a1Lo
    · by_cases hhi : a1Hi < 18446744073709551615
      · exact ranges_clh a0 a0n a0c a0v a1Lo a1Hi w a0e a0m a0r a0b a0z a0s a1Lol a1Loh a1Hil a1Hih h1' h2' x t hI hlo hhi
      · exact ranges_clm a0 a0n a0c a0v a1Lo a1Hi w a0e a0m a0r a0b a0z a0s a1Lol a1Loh a1Hil a1Hih h1' h2' x t hI hlo (by omega)
    · by_cases hhi : a1Hi < 18446744073709551615
      · exact ranges_czh a0 a0n a0c a0v a1Lo a1Hi w a0e a0m a0r a0b a0z a0s a1Lol a1Loh a1Hil a1Hih h1' h2' x t hI (by omega) hhi
      · exact ranges_czm a0 a0n a0c a0v a1Lo a1Hi w a0e a0m a0r a0b a0z a0s a1Lol a1Loh a1Hil a1Hih h1' h2' x t hI (by omega) (by omega)
end Wk
end Go.Proofs.Ythinaablldnikaa
