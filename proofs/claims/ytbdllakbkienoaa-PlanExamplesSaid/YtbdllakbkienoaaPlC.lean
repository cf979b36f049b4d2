/- Ascending, keys, find and Check of leapfrogref06: contracts of the translated code. Conditions: at most 5000 elements. -/
import Derived.Test.YtbdllakbkienoaaPlR
import Derived.Test.YtbdllakbkienoaaOmW
namespace Go.Proofs.Ytbdllakbkienoaa
open Go.RowKit Go.Sort
set_option linter.unusedVariables false
set_option linter.unusedSimpArgs false
namespace Pl
open Om (addr_lit bel_alloc bel_trans below_drewN ret_eq Asc asc_iff)
theorem ascR_any (A : Option Addr) (n c : Nat) (l : List Om.Pr) (w : World) (hn : l.length = n) (hs : n ≤ 5000) (hr : Om.Rd w A l) (b : Bool) (hb : b = true ↔ Asc l) :
    Calls Try.prog 41 #[.slice A n c] w fun e w' => e = .returned (.bool b) ∧ Below w.heap.size w w' := by
  have HR := Lib.hid hr; clear hr
  have HA := Lib.hid (hb.trans asc_iff); clear hb
  have HL := Lib.hid hn; clear hn
  go_enter Try.func41, Try.ntmps41
  go_wp2
  go_loopw [3] (fun i wr => ∃ j : Nat, (j ≤ n ∨ j = 0) ∧ i = .int .i64 ((j + 1 : Nat) : Int) ∧ (∀ (t : Nat) x y, t < j → l[t]? = some x → l[t + 1]? = some y → x.1 < y.1) ∧ Below w.heap.size w wr) (fun i _ => (n + 1 - intOf i).toNat)
  case atStart => exact ⟨0, .inr rfl, rfl, fun t x y h => absurd h (Nat.not_lt_zero _), Below.refl _ _⟩
  case round =>
    obtain ⟨j, hj, rfl, hE, bel⟩ := hrel
    have HE := Lib.hid hE; clear hE
    by_cases hlt : j + 1 < n
    · obtain ⟨x, hx, _⟩ := Om.getElem?_lt HL.out (show j < n by omega)
      obtain ⟨y, hy, _⟩ := Om.getElem?_lt HL.out hlt
      obtain ⟨b1, o, rfl, g0, g1⟩ := (HR.out.below bel) j x hx
      obtain ⟨b', o', e', g2, g3⟩ := (HR.out.below bel) (j + 1) y hy
      cases e'
      have u0 : decide (((j : Int) + 1) < n) = true := decide_eq_true (by omega)
      have hji : (j : Int) + 1 < n := by omega
      have e1 : IntKind.i64.wrap (((j + 1 : Nat) : Int) - 1) = j := by rw [IntWalk.i64_in _ (by omega)]; omega
      by_cases hxy : x.1 < y.1
      · have t1 : decide (y.1 ≤ x.1) = false := decide_eq_false (by omega)
        have HN := Lib.hid (show ∀ (t : Nat) x y, t < j + 1 → l[t]? = some x → l[t + 1]? = some y → x.1 < y.1 from fun t x' y' ht hx' hy' => by
          by_cases h : t < j
          · exact HE.out t x' y' h hx' hy'
          · obtain rfl : t = j := by omega
            rw [hx] at hx'; rw [hy] at hy'; cases hx'; cases hy'; exact hxy)
        clear hx hy hxy
        go_wp2
        go_quiet (fail)
        clear e1
        go_wp2
        go_roundw
        case rel => exact ⟨j + 1, .inl (by omega), by go_num, HN.out, below_drewN bel _⟩
        case measure => simp [intOf]; omega
      · have t1 : decide (y.1 ≤ x.1) = true := decide_eq_true (by omega)
        have HN := Lib.hid (show false = b from by
          cases b with
          | false => rfl
          | true => exact absurd (HA.out.1 rfl j x y hx hy) hxy)
        clear hx hy hxy
        go_wp2
        go_quiet (fail)
        clear e1
        go_wp2
        go_ret
        exact ⟨ret_eq (congrArg Value.bool HN.out), below_drewN bel _⟩
    · have u0 : decide (((j : Int) + 1) < n) = false := decide_eq_false (by omega)
      have HN := Lib.hid (show true = b from (HA.out.2 fun t x y hx hy => HE.out t x y (by
        have := (List.getElem?_eq_some_iff.1 hy).1
        have := HL.out
        rcases hj with h | h <;> omega) hx hy).symm)
      go_wp2
      go_ret
      exact ⟨ret_eq (congrArg Value.bool HN.out), bel⟩
def kys (l : List Rc) : List Int := l.map (·.k)
theorem kys_take {l : List Rc} {j : Nat} {x : Rc} (h : l[j]? = some x) : kys (l.take (j + 1)) = kys (l.take j) ++ [x.k] := by
  rw [take_succ' h]; simp [kys]
theorem keysR_any (A : Option Addr) (n c : Nat) (l : List Rc) (w : World) (hn : l.length = n) (hs : n ≤ 1000) (hr : Rd w A l) :
    Calls Try.prog 55 #[.slice A n c] w fun e w' => ∃ v, e = .returned v ∧ w'.ownsRow w.heap.size 23 1 v n (flatU (kys l)) ∧ Below w.heap.size w w' := by
  have HR := Lib.hid hr; clear hr
  have HL := Lib.hid hn; clear hn
  go_enter Try.func55, Try.ntmps55
  go_wp2
  go_loopw [3, 4] (fun q i wr => ∃ j : Nat, j ≤ n ∧ i = .int .i64 j ∧ wr.ownsRow w.heap.size 23 1 q j (flatU (kys (l.take j))) ∧ Below w.heap.size w wr) (fun q i _ => (n - intOf i).toNat)
  case atStart => exact ⟨0, Nat.zero_le _, rfl, World.ownsRow_nil _ _ _ _, Below.refl _ _⟩
  case round =>
    obtain ⟨j, hj, rfl, hq, bel⟩ := hrel
    have HQ := Lib.hid hq
    obtain ⟨_, A', c', rfl, _⟩ := rowU_rd hq
    clear hq
    by_cases hlt : j < n
    · obtain ⟨x, hx, _⟩ := getElem?_lt HL.out hlt
      obtain ⟨b, o, rfl, g0, g1, g2, g3, g4⟩ := (HR.out.below bel) j x hx
      have u0 : decide ((j : Int) < n) = true := decide_eq_true (by omega)
      have hji : (j : Int) < n := by omega
      have HK := Lib.hid (kys_take hx)
      clear hx
      go_wp2_with (at_builtin; refine app1U rfl (.tmp 11) (.tmp 17) rfl wr w.heap.size _ _ (kys (l.take j)) x.k rfl rfl HQ.out (by omega) bel.size ?_; intro v8 w8 h1 b8; have HW8 := Lib.hid h1; clear h1)
      go_roundw
      case rel => exact ⟨j + 1, by omega, by go_num, by rw [HK.out]; exact HW8.out, bel.trans b8⟩
      case measure => simp [intOf]; omega
    · obtain rfl : j = n := by omega
      have u0 : decide ((j : Int) < j) = false := decide_eq_false (by omega)
      have HT := Lib.hid (show l.take j = l from List.take_of_length_le (by rw [HL.out]; omega))
      go_wp2
      go_ret
      exact ⟨_, rfl, by have h := HQ.out; rw [HT.out] at h; exact h, bel⟩
/-! ### find -/
def fnd (l : List Rc) (k : Int) : Option Rc := l.find? fun x => decide (x.k = k)
theorem fnd_none {l : List Rc} {k : Int} : fnd l k = none ↔ ∀ x, x ∈ l → x.k ≠ k := by unfold fnd; rw [List.find?_eq_none]; simp
theorem fnd_at {l : List Rc} {k : Int} {j : Nat} {x : Rc} (hx : l[j]? = some x) (hk : x.k = k) (h : ∀ t y, t < j → l[t]? = some y → y.k ≠ k) : fnd l k = some x := by
  unfold fnd
  obtain ⟨hj, e⟩ := List.getElem?_eq_some_iff.1 hx
  rw [List.find?_eq_some_iff_getElem]
  refine ⟨by simp [hk], j, hj, e, fun t ht => ?_⟩
  have := h t _ ht (List.getElem?_eq_getElem (by omega))
  simp [this]
def fT (o : Option Rc) : Value := match o with
  | none => .tuple #[.agg #[.int .u64 0, .bool false, .int .u64 0, .bool false, .int .u64 0], .bool false]
  | some x => .tuple #[.agg #[.int .u64 x.k, .bool x.w, .int .u64 x.o, .bool x.i, .int .u64 x.n], .bool true]
theorem findR_any (A : Option Addr) (n c : Nat) (l : List Rc) (key : Int) (w : World) (hn : l.length = n) (hs : n ≤ 5000) (hr : Rd w A l) :
    Calls Try.prog 56 #[.slice A n c, .int .u64 key] w fun e w' => e = .returned (fT (fnd l key)) ∧ Below w.heap.size w w' := by
  have HR := Lib.hid hr; clear hr
  have HL := Lib.hid hn; clear hn
  have b0 : Below w.heap.size w (w.alloc (.cells #[.int .u64 0, .bool false, .int .u64 0, .bool false, .int .u64 0] 45)) := bel_alloc (Below.refl _ _) _
  have HR2 := Lib.hid (HR.out.below b0)
  go_enter Try.func56, Try.ntmps56
  go_wp2
  go_loopw [6] (fun i wr => ∃ j : Nat, j ≤ n ∧ i = .int .i64 j ∧ (∀ t y, t < j → l[t]? = some y → y.k ≠ key) ∧ wr = w.alloc (.cells #[.int .u64 0, .bool false, .int .u64 0, .bool false, .int .u64 0] 45)) (fun i _ => (n - intOf i).toNat)
  case atStart => exact ⟨0, Nat.zero_le _, rfl, fun t y h => absurd h (Nat.not_lt_zero _), rfl⟩
  case round =>
    obtain ⟨j, hj, rfl, hE, rfl⟩ := hrel
    have HE := Lib.hid hE; clear hE
    by_cases hlt : j < n
    · obtain ⟨x, hx, _⟩ := getElem?_lt HL.out hlt
      obtain ⟨b, o, rfl, g0, g1, g2, g3, g4⟩ := HR2.out j x hx
      have u0 : decide ((j : Int) < n) = true := decide_eq_true (by omega)
      have hji : (j : Int) < n := by omega
      by_cases hk : x.k = key
      · have HT := Lib.hid (show fnd l key = some x from fnd_at hx hk HE.out)
        have t1 : (x.k == key) = true := by simp [hk]
        clear hx hk
        go_wp2
        exact bodyPost_ret (v := fT (some x)) (by simp [results, Try.results56, go_sem, fT]) rfl ⟨by rw [HT.out], bel_alloc (Below.refl _ _) _⟩
      · have HN := Lib.hid (show ∀ t y, t < j + 1 → l[t]? = some y → y.k ≠ key from fun t y ht hy => by
          by_cases h : t < j
          · exact HE.out t y h hy
          · obtain rfl : t = j := by omega
            rw [hx] at hy; cases hy; exact hk)
        have t1 : (x.k == key) = false := by simp [hk]
        clear hx hk
        go_wp2
        go_roundw
        case rel => exact ⟨j + 1, by omega, by go_num, HN.out, by first | rfl | trivial⟩
        case measure => simp [intOf]; omega
    · obtain rfl : j = n := by omega
      have u0 : decide ((j : Int) < j) = false := decide_eq_false (by omega)
      have HT := Lib.hid (show fnd l key = none from fnd_none.2 fun x hx => by
        obtain ⟨t, ht⟩ := List.mem_iff_getElem?.1 hx
        have h1 := (List.getElem?_eq_some_iff.1 ht).1
        exact HE.out t x (by rw [HL.out] at h1; exact h1) ht)
      go_wp2
      exact bodyPost_ret (v := fT none) (by simp [results, Try.results56, go_sem, fT]) rfl ⟨by rw [HT.out], b0⟩
/-! ### Check -/
def okR (x : Rc) : Prop := (x.w = true ∨ x.i = true) ∧ (x.w = false → x.o = 0) ∧ (x.i = false → x.n = 0)
def chk (l : List Rc) : Prop := (∀ x, x ∈ l → okR x) ∧ ∀ (j : Nat) x y, l[j]? = some x → l[j + 1]? = some y → x.k < y.k
end Pl
end Go.Proofs.Ytbdllakbkienoaa
