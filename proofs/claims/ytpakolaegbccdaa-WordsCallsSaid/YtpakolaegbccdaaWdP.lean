/- Replay of package words and of the reference: contracts of the translated code. Conditions: the bounds of each number's kind; at most 65,536 words are copied. -/
import Derived.Test.YtpakolaegbccdaaWdL
namespace Go.Proofs.Ytpakolaegbccdaa
open Go.RowKit Go.Sort
set_option linter.unusedVariables false
set_option linter.unusedSimpArgs false
namespace Wd
open Dm (addr_lit info_parts spot_none RdK flatU infoU bel_alloc bel_trans own_keep below_drewN)
/-- what Replay hands out -/
def RpP (W : List Int) (L : List Ac) (w : World) (e : Ending) (w' : World) : Prop :=
  ((newE W.length ≠ 0 ∧ e = .returned (.tuple #[.slice none 0 0, .int .i64 0, .int .i64 (newE W.length)])) ∨
   (newE W.length = 0 ∧ ∃ i : Nat, scan W L 0 = (none, i) ∧ e = .returned (.tuple #[.slice none 0 0, .int .i64 (i : Nat), .int .i64 16])) ∨
   (newE W.length = 0 ∧ ∃ W' A c, scan W L 0 = (some W', L.length) ∧ e = .returned (.tuple #[.slice A W'.length c, .int .i64 (L.length : Nat), .int .i64 0]) ∧ RdK .u64 w' A W')) ∧ Below w.heap.size w w'
theorem ok_addr {W : List Int} {x : Ac} (h : ok W x) : ∃ i : Nat, x.a = (i : Int) ∧ i < W.length := by
  obtain ⟨i, hi⟩ := Int.eq_ofNat_of_zero_le h.2.1.1
  exact ⟨i, hi, by have := h.2.1.2; omega⟩
/-- the numbers of accesses -/
structure BdA1 (x : Ac) : Prop where
  t0 : -9223372036854775808 ≤ x.t
  t1 : x.t ≤ 9223372036854775807
  a0 : -9223372036854775808 ≤ x.a
  a1 : x.a ≤ 9223372036854775807
  k0 : 0 ≤ x.k
  k1 : x.k ≤ 255
  o0 : 0 ≤ x.o
  o1 : x.o ≤ 18446744073709551615
  n0 : 0 ≤ x.n
  n1 : x.n ≤ 18446744073709551615
def BdA (l : List Ac) : Prop := ∀ x, x ∈ l → BdA1 x
theorem ac_get {L : List Ac} {j : Nat} (h : j < L.length) : ∃ x, L[j]? = some x := ⟨_, List.getElem?_eq_getElem h⟩
theorem drop_ac {L : List Ac} {i : Nat} {x : Ac} (h : L[i]? = some x) : L.drop i = x :: L.drop (i + 1) := by
  obtain ⟨hi, e⟩ := List.getElem?_eq_some_iff.1 h
  rw [List.drop_eq_getElem_cons hi, e]
theorem rowU_rd {w : World} {base g n c : Nat} {l : List Int} {e : TypeId} (h : w.ownsRow base e 1 (.slice (some ⟨g, 0, none⟩) n c) n (flatU l)) : RdK .u64 w (some ⟨g, 0, none⟩) l := fun k hk => by
  have hl : l.length = n := by have := h.1; simpa [flatU] using this
  exact ⟨g, 0, rfl, by rw [Nat.zero_add]; exact own_cell h hl (by omega)⟩
theorem len_snoc (W : List Int) (i : Nat) (x : Int) : (W.set i x).length = W.length := by simp
set_option maxRecDepth 100000 in
set_option maxHeartbeats 2000000 in
theorem replay_any (A : Option Addr) (n c : Nat) (W : List Int) (A2 : Option Addr) (n2 c2 : Nat) (L : List Ac) (w : World) (hl : W.length = n) (hn : n ≤ maxLen) (hr : RdK .u64 w A W) (hl2 : L.length = n2) (hn2 : n2 ≤ maxLen) (hr2 : RdA w A2 L) (hd : BdA L) :
    Calls Try.prog 21 #[.slice A n c, .slice A2 n2 c2] w (RpP W L w) := by
  have CF := Lib.hid (fits_any A n c w hn)
  subst hl hl2
  by_cases he : newE W.length = 0
  · obtain ⟨h0, h1⟩ := newE_zero he
    have CC := Lib.hid (cloneU A W.length c W w rfl (by omega) hr)
    have HE := Lib.hid he
    rw [he] at CF
    have HR := Lib.hid hr2
    have HD := Lib.hid hd
    clear hr hd he hr2
    go_enter Try.func21, Try.ntmps21
    go_wp2_with fail
    refine CF.out.mono ?_
    rintro r w1 ⟨rfl, rfl⟩
    go_wp2_with fail
    refine CC.out.mono ?_
    rintro r w2 ⟨⟨v, rfl, ho⟩, b2⟩
    obtain ⟨g, cap, rfl⟩ := Joins.ownsRow_form ho h0
    go_wp2
    go_loopw [4, 19] (fun z i wr => ∃ (j : Nat) (V : List Int), j ≤ L.length ∧ i = .int .i64 j ∧ z = .slice (some ⟨g, 0, none⟩) W.length cap ∧ wr.ownsRow w1.heap.size 31 1 (.slice (some ⟨g, 0, none⟩) W.length cap) W.length (flatU V) ∧ V.length = W.length ∧ scan V (L.drop j) j = scan W L 0 ∧ Below w1.heap.size w1 wr) (fun _ i _ => (L.length - intOf i).toNat)
    case atStart => exact ⟨0, W, Nat.zero_le _, rfl, rfl, ho, rfl, rfl, b2⟩
    case round =>
      clear ho b2
      obtain ⟨j, V, hj, rfl, rfl, ow, hl, hS, bel⟩ := hrel
      by_cases hlt : j < L.length
      · have hn3 : j + 1 ≤ 9223372036854775807 := by unfold maxLen at hn2; omega
        obtain ⟨x, hx⟩ := ac_get hlt
        obtain ⟨xb, xo, ex, c6⟩ := HR.out j x hx
        subst ex
        have xlt := Nat.lt_of_lt_of_le (World.block_lt_of_cell? w1 _ c6.c0) bel.size
        have c6 := c6.keep (bel.block xb (World.block_lt_of_cell? w1 _ c6.c0))
        have q0 := c6.c0
        have q1 := c6.c1
        have q2 := c6.c2
        have q3 := c6.c3
        have q4 := c6.c4
        have q5 := c6.c5
        have CP := fun W' (h : Below wr.heap.size wr W') => Lib.hid (possible_any (some ⟨g, 0, none⟩) W.length cap V x W' hl h1 ((rowU_rd ow).below h))
        have OW := Lib.hid ow
        have HL := Lib.hid hl
        have hS := (congrArg (fun l => scan V l j) (drop_ac hx)).symm.trans hS
        have HS := Lib.hid hS
        have glt := (ow.lt g rfl).2
        have t0 : decide ((j : Int) < L.length) = true := decide_eq_true (by omega)
        clear ow hl hS c6
        unfold agA at CP
        have BB := Lib.hid (bel_alloc (Below.refl wr.heap.size wr) (.cells #[.int .i64 x.t, .int .i64 x.a, .int .u8 x.k, .int .u64 x.o, .int .u64 x.n, .bool x.s] 43))
        have k1 : (wr.alloc (.cells #[.int .i64 x.t, .int .i64 x.a, .int .u8 x.k, .int .u64 x.o, .int .u64 x.n, .bool x.s] 43)).cell? ⟨wr.heap.size, 1, none⟩ = some (.int .i64 x.a) := by simp
        have k4 : (wr.alloc (.cells #[.int .i64 x.t, .int .i64 x.a, .int .u8 x.k, .int .u64 x.o, .int .u64 x.n, .bool x.s] 43)).cell? ⟨wr.heap.size, 4, none⟩ = some (.int .u64 x.n) := by simp
        have ksz : (wr.alloc (.cells #[.int .i64 x.t, .int .i64 x.a, .int .u8 x.k, .int .u64 x.o, .int .u64 x.n, .bool x.s] 43)).heap.size = wr.heap.size + 1 := by simp
        replace CP := CP _ BB.out
        by_cases hok : ok V x
        · unfold okP at CP
          rw [decide_eq_true hok] at CP
          obtain ⟨i, hi, hiW⟩ := ok_addr hok
          have hiW' : i < W.length := by have := HL.out; omega
          replace HS := Lib.hid ((scan_ok (l := L.drop (j + 1)) (i := j) hok).symm.trans HS.out)
          rw [hi] at HS
          rw [Int.toNat_natCast] at HS
          clear hok
          rw [hi] at q1 CP BB k1 k4 ksz
          go_wp2_with fail
          generalize wr.alloc (.cells #[.int .i64 x.t, .int .i64 (i : Nat), .int .u8 x.k, .int .u64 x.o, .int .u64 x.n, .bool x.s] 43) = w2 at *
          refine CP.out.mono ?_
          rintro r w3 ⟨rfl, b3⟩
          have k1 := (b3.cell (p := ⟨wr.heap.size, 1, none⟩) (by show wr.heap.size < _; omega)).trans k1
          have k4 := (b3.cell (p := ⟨wr.heap.size, 4, none⟩) (by show wr.heap.size < _; omega)).trans k4
          have b4 : Below wr.heap.size wr w3 := BB.out.trans (b3.mono (by omega))
          have ow := own_keep OW.out (fun g' hg' => by cases hg'; exact b4.block g glt)
          have ci := own_cell ow HL.out hiW'
          have fi := ow.frozenAt i
          have OW3 := Lib.hid ow
          clear CP ow
          go_wp2
          go_roundw
          case rel =>
            refine ⟨j + 1, V.set i x.n, by omega, by go_num, rfl, ?_, by rw [List.length_set, HL.out], HS.out, (bel_trans bel b4).setCell (p := ⟨g, i, none⟩) (OW.out.lt g rfl).1 _⟩
            rw [← flat_set]; exact (OW3.out.stored i _).1
          case measure => simp [intOf]; omega
        · unfold okP at CP
          rw [decide_eq_false hok] at CP
          have HS' := Lib.hid ((scan_bad (l := L.drop (j + 1)) (i := j) hok).symm.trans HS.out)
          clear hok HS
          go_wp2_with fail
          refine CP.out.mono ?_
          rintro r w3 ⟨rfl, b3⟩
          have b4 : Below wr.heap.size wr w3 := BB.out.trans (b3.mono (by omega))
          go_wp2
          refine bodyPost_ret (v := .tuple #[.slice none 0 0, .int .i64 (j : Nat), .int .i64 16]) (by simp [results, Try.results21, go_sem]) rfl ?_
          exact ⟨.inr (.inl ⟨HE.out, j, HS'.out.symm, rfl⟩), bel_trans bel b4⟩
      · obtain rfl : j = L.length := by omega
        rw [List.drop_length] at hS
        have RD := Lib.hid (rowU_rd ow)
        have HS := Lib.hid (show scan W L 0 = (some V, L.length) from hS.symm)
        have HL := Lib.hid hl
        clear ow hS hl
        have t0 : decide ((L.length : Int) < L.length) = false := decide_eq_false (by omega)
        go_wp2
        rw [← HL.out]
        refine bodyPost_ret (v := .tuple #[.slice (some ⟨g, 0, none⟩) V.length cap, .int .i64 (L.length : Nat), .int .i64 0]) (by simp [results, Try.results21, go_sem]) rfl ?_
        exact ⟨.inr (.inr ⟨HE.out, V, _, _, HS.out, rfl, RD.out⟩), bel⟩
  · have HE := Lib.hid he
    have t0 : decide (newE W.length = 0) = false := decide_eq_false he
    have t1 : (newE W.length == 0) = false := beq_eq_false_iff_ne.2 he
    have t2 : (newE W.length != 0) = true := by simp [bne, t1]
    have HP := Lib.hid (show RpP W L w (.returned (.tuple #[.slice none 0 0, .int .i64 0, .int .i64 (newE W.length)])) w from ⟨.inl ⟨he, rfl⟩, Below.refl _ _⟩)
    clear hr hd he hr2 HE
    generalize newE W.length = y at *
    go_enter Try.func21, Try.ntmps21
    go_wp2_with fail
    refine CF.out.mono ?_
    rintro r w1 ⟨rfl, rfl⟩
    go_wp2
    exact bodyPost_ret (v := .tuple #[.slice none 0 0, .int .i64 0, .int .i64 y]) (by simp [results, Try.results21, go_sem]) rfl HP.out
end Wd
end Go.Proofs.Ytpakolaegbccdaa
