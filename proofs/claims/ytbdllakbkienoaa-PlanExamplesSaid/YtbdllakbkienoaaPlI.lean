/- Invert of leapfrogref06: contract of the translated code. Conditions: at most 1000 changes. -/
import Derived.Test.YtbdllakbkienoaaPlN
import Derived.Deep.RegionHeld3
import Derived.Deep.AppendLies
namespace Go.Proofs.Ytbdllakbkienoaa
open Go.RowKit Go.Sort
set_option linter.unusedVariables false
set_option linter.unusedSimpArgs false
namespace Pl
open Om (addr_lit bel_alloc bel_trans below_drewN ret_eq)
def revR (x : Rc) : Rc := ⟨x.k, x.i, x.n, x.w, x.o⟩
theorem rev_take {l : List Rc} {j : Nat} {x : Rc} (h : l[j]? = some x) : (l.take (j + 1)).map revR = (l.take j).map revR ++ [revR x] := by
  rw [take_succ' h]; simp
theorem step1C {ops : Array Oper} {o : Oper} {a : Act} {K : Act → World → Prop} {Q : Exit → Act → World → Prop} {E : Prop} (hgd : o.guard = none) (s x : Operand)
    (ho : o.op = .call { callee := .builtin .append, args := #[s, x], argTypes := #[27, 27] }) (W : World) (base n : Nat) (v : Value) (ys : List Rc) (y : Rc)
    (hs : a.eval s = v) (hx : a.eval x = .slice (some ⟨W.heap.size, 0, none⟩) 1 1) (hown : W.ownsRow base 45 5 v n (flat ys)) (hn : n ≤ 2000) (hb : base ≤ W.heap.size)
    (h : ∀ v' w', w'.ownsRow base 45 5 v' (n + 1) (flat (ys ++ [y])) → Below base W w' → K (a.put o.dst v') w') :
    if Region.wanted o (yielded ops a.tmps) = true then Oper.wp Try.prog o a (W.alloc (.cells #[.int .u64 y.k, .bool y.w, .int .u64 y.o, .bool y.i, .int .u64 y.n] 45)).drew K Q else E := by
  obtain ⟨i0, hi, hz0, hz1, hz2⟩ := info_parts info
  refine step_append_lies _ hgd s x 27 ho base 45 i0 _ 5 40 Try.underlying27 hi hz0 hz1 hz2 rfl (by omega) v n (flat ys) hs ((hown.alloc _).drew) ⟨W.heap.size, 0, none⟩ 1 1 (encV y) hx rfl
    (World.news_of_block (cs := #[.int .u64 y.k, .bool y.w, .int .u64 y.o, .bool y.i, .int .u64 y.n]) (t := 45) (fr := (0, 0)) (heap_alloc_new W _)) ?_ (by omega) (by unfold maxLen; omega) (by omega) (by show base ≤ (W.alloc _).heap.size; simp; omega) _ rfl ?_
  · intro u hu
    exact flat_one_cell [y] u (by rw [flat_one]; exact hu)
  · intro g cap w' h1 h2 _ _
    rw [show flat ys ++ encV y = flat (ys ++ [y]) by rw [flat_append, flat_one]] at h1
    refine h _ w' h1 ((below_drewN ((Below.refl _ _).alloc hb _) 1).grown h2 (by show base ≤ (W.alloc _).heap.size; simp; omega) fun k hk => ?_)
    exact (hown.lt k hk).1
theorem invert_no (A : Option Addr) (n c : Nat) (l : List Rc) (w : World) (hn : l.length = n) (hs : n ≤ 1000) (hr : Rd w A l) (hk : ¬ chk l) :
    Calls Try.prog 23 #[.slice A n c] w fun e w' => e = .returned (.tuple #[.slice none 0 0, .int .i64 2]) ∧ Below w.heap.size w w' := by
  have CK := Lib.hid (checkR_any A n c l w hn (by omega) hr false ⟨fun q => by (cases q), fun q => absurd q hk⟩)
  unfold eT at CK
  clear hr
  go_enter Try.func23, Try.ntmps23
  go_wp2_with fail
  refine CK.out.mono ?_
  rintro r W1 ⟨rfl, b1⟩
  go_wp2
  go_ret2
  exact ⟨rfl, b1⟩
set_option maxRecDepth 100000 in
set_option maxHeartbeats 1000000 in
theorem invert_ok (A : Option Addr) (n c : Nat) (l : List Rc) (w : World) (hn : l.length = n) (hs : n ≤ 1000) (hr : Rd w A l) (hk : chk l) :
    Calls Try.prog 23 #[.slice A n c] w fun e w' => ∃ v, e = .returned (.tuple #[v, .int .i64 0]) ∧ w'.ownsRow w.heap.size 45 5 v n (flat (l.map revR)) ∧ Below w.heap.size w w' := by
  have CK := Lib.hid (checkR_any A n c l w hn (by omega) hr true ⟨fun _ => hk, fun _ => rfl⟩)
  unfold eT at CK
  have HR := Lib.hid hr; clear hr
  have HL := Lib.hid hn; clear hn
  clear hk
  go_enter Try.func23, Try.ntmps23
  go_wp2_with fail
  refine CK.out.mono ?_
  rintro r W1 ⟨rfl, b1⟩
  have HR := Lib.hid (HR.out.below b1)
  clear CK
  go_wp2
  go_loopw [5, 6] (fun q i wr => ∃ j : Nat, j ≤ n ∧ i = .int .i64 j ∧ wr.ownsRow W1.heap.size 45 5 q j (flat ((l.take j).map revR)) ∧ Below W1.heap.size W1 wr) (fun q i _ => (n - intOf i).toNat)
  case atStart => exact ⟨0, Nat.zero_le _, rfl, World.ownsRow_nil _ _ _ _, Below.refl _ _⟩
  case round =>
    obtain ⟨j, hj, rfl, hq, bel⟩ := hrel
    have HQ := Lib.hid hq
    obtain ⟨_, A', c', rfl, _⟩ := row_form hq
    clear hq
    by_cases hlt : j < n
    · obtain ⟨x, hx, _⟩ := getElem?_lt HL.out hlt
      obtain ⟨b, o, rfl, c0, c1, c2, c3, c4⟩ := (HR.out.below bel) j x hx
      obtain ⟨bw, ow, ew, cw0, _⟩ := HR.out j x hx
      cases ew
      have lb : b < W1.heap.size := World.block_lt_of_cell? _ _ cw0
      have HK := Lib.hid (rev_take hx)
      have u0 : decide ((j : Int) < n) = true := decide_eq_true (by omega)
      have hji : (j : Int) < n := by omega
      clear hx cw0
      go_wp2
      go_region_held3 (fun w' => w'.cell? ⟨b, o + j * 5, none⟩ = some (.int .u64 x.k) ∧ w'.cell? ⟨b, o + j * 5 + 1, none⟩ = some (.bool x.w) ∧ w'.cell? ⟨b, o + j * 5 + 2, none⟩ = some (.int .u64 x.o) ∧ w'.cell? ⟨b, o + j * 5 + 3, none⟩ = some (.bool x.i) ∧ w'.cell? ⟨b, o + j * 5 + 4, none⟩ = some (.int .u64 x.n)) (first | exact ⟨m0, m1, m2, m3, m4⟩ | go_keep) ((refine step1C (by rfl) (.tmp 18) (.tmp 45) (by rfl) wr W1.heap.size j _ ((l.take j).map revR) (revR x) (by rfl) (by rfl) HQ.out (by omega) bel.size ?_; intro v7 w7 own7 bel7; have m0 := (bel7.cell (p := ⟨b, o + j * 5, none⟩) lb).trans c0; have m1 := (bel7.cell (p := ⟨b, o + j * 5 + 1, none⟩) lb).trans c1; have m2 := (bel7.cell (p := ⟨b, o + j * 5 + 2, none⟩) lb).trans c2; have m3 := (bel7.cell (p := ⟨b, o + j * 5 + 3, none⟩) lb).trans c3; have m4 := (bel7.cell (p := ⟨b, o + j * 5 + 4, none⟩) lb).trans c4))
      go_wp2
      go_roundw
      case rel => exact ⟨j + 1, by omega, by go_num, by rw [HK.out]; exact own7, bel.trans bel7⟩
      case measure => simp [intOf]; omega
    · obtain rfl : j = n := by omega
      have u0 : decide ((j : Int) < j) = false := decide_eq_false (by omega)
      have HT := Lib.hid (show l.take j = l from List.take_of_length_le (by rw [HL.out]; omega))
      go_wp2
      go_ret2
      exact ⟨_, rfl, row_base (by have h := HQ.out; rw [HT.out] at h; exact h) b1.size, bel_trans b1 bel⟩
end Pl
end Go.Proofs.Ytbdllakbkienoaa
