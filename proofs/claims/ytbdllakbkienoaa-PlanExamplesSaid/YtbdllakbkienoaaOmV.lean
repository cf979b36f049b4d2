/- Move, Next and Same of leapfrogref05: contracts of the translated code. Conditions: at most 1000 pairs with increasing keys; the bounds of each number's kind. -/
import Derived.Test.YtbdllakbkienoaaOmQ
namespace Go.Proofs.Ytbdllakbkienoaa
open Go.RowKit Go.Sort
set_option linter.unusedVariables false
set_option linter.unusedSimpArgs false
namespace Om
def moE (lo hi d : Int) : Int := if hi < lo ∨ d = 0 then 13 else if 18446744073709551615 < hi + d then 12 else 0
def moL (l : List Pr) (lo hi d : Int) : List Pr := if moE lo hi d = 0 then mvL l lo hi d else l
def moT (l : List Pr) (lo hi d : Int) : Value := .tuple #[.int .i64 (if moE lo hi d = 0 then ((inL l lo hi).length : Int) else 0), .int .i64 (moE lo hi d)]
theorem moR_nil (lo hi d : Int) (w : World) : Calls Try.prog 42 #[.pointer none, .agg #[.int .u64 lo, .int .u64 hi], .int .u64 d] w fun e w' => e = .returned (.tuple #[.int .i64 0, .int .i64 1]) ∧ Below w.heap.size w w' := by
  go_enter Try.func42, Try.ntmps42
  go_wp2
  go_ret2
  exact ⟨rfl, bel_alloc (Below.refl _ _) _⟩
theorem setA_snoc (l ps : List Pr) (x : Pr) : setA l (ps ++ [x]) = setL (setA l ps) x := by simp [setA, List.foldl_append]
/-- moved so far -/
def mk (l : List Pr) (lo hi d : Int) (k : Nat) : List Pr := setA (outL l lo hi) ((shL (inL l lo hi) d).take k)
theorem mk_succ {l : List Pr} {lo hi d : Int} {k : Nat} {x : Pr} (hx : (inL l lo hi)[k]? = some x) : mk l lo hi d (k + 1) = setL (mk l lo hi d k) (x.1 + d, x.2) := by
  have h : (shL (inL l lo hi) d)[k]? = some (x.1 + d, x.2) := by rw [shL, List.getElem?_map, hx]; rfl
  rw [mk, mk, take_succ' h, setA_snoc]
theorem mk_all {l : List Pr} {lo hi d : Int} {k : Nat} (h : (inL l lo hi).length ≤ k) : mk l lo hi d k = mvL l lo hi d := by
  rw [mk, List.take_of_length_le (by simpa [shL] using h)]; rfl
theorem mk_len (l : List Pr) (lo hi d : Int) {k : Nat} (h : k ≤ (inL l lo hi).length) : (mk l lo hi d k).length ≤ l.length := by
  have h1 := setA_len_le ((shL (inL l lo hi) d).take k) (outL l lo hi)
  have h2 := in_out_len l lo hi
  rw [List.length_take] at h1
  unfold mk
  omega
theorem in_mem {l : List Pr} {lo hi : Int} {x : Pr} (h : x ∈ inL l lo hi) : x ∈ l ∧ lo ≤ x.1 ∧ x.1 ≤ hi := by
  rw [inL, List.mem_filter] at h
  exact ⟨h.1, of_decide_eq_true h.2⟩
set_option maxRecDepth 100000 in
set_option maxHeartbeats 1000000 in
theorem moR_any (bm : Nat) (v : Value) (l : List Pr) (lo hi d : Int) (w : World) (hm : MapAt w bm v l) (hs : l.length ≤ 1000) (hd : Bd l) (ll : 0 ≤ lo) (lh : lo ≤ 18446744073709551615) (hl : 0 ≤ hi) (hh : hi ≤ 18446744073709551615) (dl : 0 ≤ d) (dh : d ≤ 18446744073709551615) :
    Calls Try.prog 42 #[.pointer (some ⟨bm, 0, none⟩), .agg #[.int .u64 lo, .int .u64 hi], .int .u64 d] w (Opn w bm v (moL l lo hi d) (moT l lo hi d)) := by
  have HM := Lib.hid hm; clear hm
  have b0 : Below w.heap.size w (w.alloc (.cells #[.int .u64 lo, .int .u64 hi] 25)) := bel_alloc (Below.refl _ _) _
  by_cases h1 : hi < lo
  · have HE := Lib.hid (show moE lo hi d = 13 from if_pos (.inl h1))
    have HL := Lib.hid (show moL l lo hi d = l by unfold moL; rw [HE.out]; rfl)
    have HT := Lib.hid (show moT l lo hi d = .tuple #[.int .i64 0, .int .i64 13] by unfold moT; rw [HE.out]; rfl)
    have t0 : decide (hi < lo) = true := decide_eq_true h1
    go_enter Try.func42, Try.ntmps42
    go_wp2
    go_ret2
    rw [HL.out]
    exact ⟨v, by rw [HT.out]; rfl, HM.out.below b0, Nx.refl _ _, Chg.of_below b0⟩
  have t0 : decide (hi < lo) = false := decide_eq_false h1
  by_cases h2 : d = 0
  · have HE := Lib.hid (show moE lo hi d = 13 from if_pos (.inr h2))
    have HL := Lib.hid (show moL l lo hi d = l by unfold moL; rw [HE.out]; rfl)
    have HT := Lib.hid (show moT l lo hi d = .tuple #[.int .i64 0, .int .i64 13] by unfold moT; rw [HE.out]; rfl)
    have t1 : (d == 0) = true := by simp [h2]
    clear h2
    go_enter Try.func42, Try.ntmps42
    go_wp2
    go_ret2
    rw [HL.out]
    exact ⟨v, by rw [HT.out]; rfl, HM.out.below b0, Nx.refl _ _, Chg.of_below b0⟩
  have t1 : (d == 0) = false := by simp [h2]
  by_cases h3 : 18446744073709551615 < hi + d
  · have HE := Lib.hid (show moE lo hi d = 12 by unfold moE; rw [if_neg (by omega), if_pos h3])
    have HL := Lib.hid (show moL l lo hi d = l by unfold moL; rw [HE.out]; rfl)
    have HT := Lib.hid (show moT l lo hi d = .tuple #[.int .i64 0, .int .i64 12] by unfold moT; rw [HE.out]; rfl)
    have t2 : decide (18446744073709551615 - hi < d) = true := decide_eq_true (by omega)
    clear h2
    go_enter Try.func42, Try.ntmps42
    go_wp2
    go_ret2
    rw [HL.out]
    exact ⟨v, by rw [HT.out]; rfl, HM.out.below b0, Nx.refl _ _, Chg.of_below b0⟩
  have HE := Lib.hid (show moE lo hi d = 0 by unfold moE; rw [if_neg (by omega), if_neg h3])
  have HL := Lib.hid (show moL l lo hi d = mvL l lo hi d by unfold moL; rw [HE.out]; rfl)
  have HT := Lib.hid (show moT l lo hi d = .tuple #[.int .i64 ((inL l lo hi).length : Int), .int .i64 0] by unfold moT; rw [HE.out]; rfl)
  have t2 : decide (18446744073709551615 - hi < d) = false := decide_eq_false (by omega)
  have CX := fun W h => Lib.hid (cut_any bm v l lo hi W h hs hd ll lh hl hh)
  have HD := Lib.hid hd
  have hil := inL_len l lo hi
  have HK := fun k h => Lib.hid (mk_len l lo hi d (k := k) h)
  have hsum : hi + d ≤ 18446744073709551615 := by omega
  clear h1 h2 h3 hd
  go_enter Try.func42, Try.ntmps42
  go_wp2_with fail
  refine (CX _ (HM.out.below b0)).out.mono ?_
  rintro r w2 ⟨q, v1, rfl, hq, hm2, hf2, ho2⟩
  obtain ⟨_, A, c, rfl, _, rd, hA⟩ := row_form hq
  have hbm : bm < w.heap.size := HM.out.lt
  have HAb := Lib.hid (show ∀ a, A = some a → a.block ≠ bm from fun a ha => by have := (hA a ha).1; simp at this; omega)
  have hO := Lib.hid ((Only.of_below b0).trans ho2)
  have RD := Lib.hid rd
  have HM2 := Lib.hid hm2
  have HF2 := Lib.hid (show Fresh w.heap.size v1 from fun k hk => by have := hf2 k hk; simp at this; omega)
  clear hq rd hA hm2 hf2 ho2
  have hi1 : ((inL l lo hi).length : Int) ≤ 1000 := by omega
  go_wp2
  go_loopw [9] (fun i wr => ∃ (k : Nat) (u : Value), k ≤ (inL l lo hi).length ∧ i = .int .i64 k ∧ MapAt wr bm u (mk l lo hi d k) ∧ Fresh w.heap.size u ∧ Only bm w2 wr) (fun i _ => ((inL l lo hi).length - intOf i).toNat)
  case atStart => exact ⟨0, v1, Nat.zero_le _, rfl, HM2.out, HF2.out, Only.of_below (Below.refl _ _)⟩
  case round =>
    clear HM2 HF2
    obtain ⟨k, u, hk, rfl, hm3, hf3, ho3⟩ := hrel
    have HM3 := Lib.hid hm3; clear hm3
    have HF3 := Lib.hid hf3; clear hf3
    have hmk := (HK k hk).out
    by_cases hlt : k < (inL l lo hi).length
    · have u0 : decide ((k : Int) < (inL l lo hi).length) = true := decide_eq_true (by omega)
      have hki : (k : Int) < (inL l lo hi).length := by omega
      obtain ⟨x, hx, hmem⟩ := getElem?_lt rfl hlt
      obtain ⟨hml, hx1, hx2⟩ := in_mem hmem
      obtain ⟨d0, d1, d2, d3⟩ := HD.out x hml
      have HS := Lib.hid (mk_succ (d := d) hx)
      obtain ⟨b, o, e, c0, c1⟩ := RD.out k x hx
      have hb := HAb.out _ e
      subst e
      have c0 := ho3.cell c0 (fun e => hb (by injection e))
      have c1 := ho3.cell c1 (fun e => hb (by injection e))
      have CS := Lib.hid (set_any bm u (mk l lo hi d k) (x.1 + d, x.2) wr.drew HM3.out (by omega))
      have HW : IntKind.u64.wrap (x.1 + d) = x.1 + d := IntWalk.u64_in _ (by omega)
      clear hx hmem hml
      go_wp2
      go_still_tail 14, (by kernel_rfl)
      clear HW
      change wpList _ _ _ _ _ wr.drew
      have hdr : Only bm wr wr.drew := Only.of_below ⟨rfl, rfl, rfl, Nat.le_refl _, fun _ _ => rfl⟩
      generalize wr.drew = w3 at *
      go_wp2_with fail
      refine CS.out.mono ?_
      rintro r w4 ⟨u', rfl, hm4, hf4, ho4⟩
      have HM4 := Lib.hid hm4; clear hm4
      have HF4 := Lib.hid (show Fresh w.heap.size u' from fun q hq => by have := hf4 q hq; have := hdr.size; have := ho3.size; have := hO.out.size; omega); clear hf4
      have HO4 := Lib.hid ((ho3.trans hdr).trans ho4); clear ho3 hdr ho4
      go_wp2
      go_roundw
      case rel => exact ⟨k + 1, u', by omega, by go_num, by rw [HS.out]; exact HM4.out, HF4.out, HO4.out⟩
      case measure => simp [intOf]; omega
    · obtain rfl : k = (inL l lo hi).length := by omega
      have u0 : decide (((inL l lo hi).length : Int) < (inL l lo hi).length) = false := decide_eq_false (by omega)
      have HK2 := Lib.hid (mk_all (l := l) (lo := lo) (hi := hi) (d := d) (Nat.le_refl _))
      go_wp2
      go_ret2
      rw [HL.out]
      exact ⟨u, by rw [HT.out]; rfl, by rw [← HK2.out]; exact HM3.out, Nx.fresh HF3.out, Chg.of_only (hO.out.trans ho3)⟩
/-! ### Next -/
def nxT (l : List Pr) (E : Int) : Value := match l with | [] => .tuple #[.agg #[.int .u64 0, .int .u64 0], .bool false, .int .i64 E] | x :: _ => .tuple #[.agg #[.int .u64 x.1, .int .u64 x.2], .bool true, .int .i64 E]
end Om
end Go.Proofs.Ytbdllakbkienoaa
