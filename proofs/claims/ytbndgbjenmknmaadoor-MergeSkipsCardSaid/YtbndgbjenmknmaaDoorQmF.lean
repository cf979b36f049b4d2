/- slices.Clone of a queue of candidates; sort.Slice of a nil one; List of package merge: contracts of the translated code. Conditions: those of XQmA. -/
import Derived.Test.YtbndgbjenmknmaaDoorQsI
import Derived.Test.YtbndgbjenmknmaaDoorQmE
import Derived.Test.YtbndgbjenmknmaaDoorOmP
namespace Go.Proofs.YtbndgbjenmknmaaDoor
open Go.RowKit Go.Sort Go.Shelf Go.Lib Go.Extern
set_option linter.unusedVariables false
set_option linter.unusedSimpArgs false
namespace Hq
open Om (bel_alloc below_drewN flat Pr)
/-- a clone of the candidates -/
def CqP (n : Nat) (a : Nat → Cd) (w : World) (e : Ending) (w' : World) : Prop :=
  ∃ v', e = .returned v' ∧ w'.ownsRow w.heap.size 73 3 v' n (rowL a n) ∧ Below w.heap.size w w' ∧ v' ≠ .slice none 0 0
theorem cs_row {w : World} {q n : Nat} {a : Nat → Cd} (h : Cs w q n a) (j : Nat) (u : Value) (hj : (rowL a n)[j]? = some u) : w.cell? ⟨q, j, none⟩ = some u := by
  have hlt : j < n * 3 := by
    have := (List.getElem?_eq_some_iff.1 hj).1
    rw [rowL_len] at this; exact this
  obtain ⟨c0, c1, c2⟩ := h (j / 3) (by omega)
  have key : ∀ r, r < 3 → w.cell? ⟨q, j / 3 * 3 + r, none⟩ = (enc (a (j / 3)))[r]? := fun r hr => by
    rcases (by omega : r = 0 ∨ r = 1 ∨ r = 2) with rfl | rfl | rfl
    · exact c0
    · exact c1
    · exact c2
  have e : j / 3 * 3 + j % 3 = j := by omega
  have h1 := key (j % 3) (by omega)
  have h2 := rowL_get a n (j / 3) (j % 3) (by omega) (by omega)
  rw [e] at h1 h2
  rw [h1, ← h2, hj]
set_option maxRecDepth 100000 in
set_option maxHeartbeats 4000000 in
theorem clone_q (q n c : Nat) (a : Nat → Cd) (w : World) (hc : Cs w q n a) (hn : n ≤ 64) :
    Calls Tryd.prog 30 #[.slice (some ⟨q, 0, none⟩) n c] w (CqP n a w) := by
  obtain ⟨i0, hi, hz0, hz1, hz2⟩ := info_parts info
  have qe : ∀ (w : World) (a : Option Addr) (n c n' c' : Nat), (binOp .eql 63 (.slice a n c) (.slice none n' c')).run Tryd.prog w = .ok (.bool a.isNone) w := fun w a n c n' c' => Lib.run_eql_slice_nil w _ _ a n c n' c' Tryd.underlying63
  have HC := Lib.hid hc; clear hc
  go_enter Tryd.func30, Tryd.ntmps30
  go_wp2_with (at_builtin; refine wpList_append_own _ rfl _ _ 63 rfl w.heap.size 73 i0 _ 3 24 Tryd.underlying63 hi hz0 hz1 hz2 rfl (by omega) _ _ _ rfl (World.ownsRow_made w #[] 0 (Nat.le_refl _) (Nat.zero_le _) (by simp)) ⟨q, 0, none⟩ n c (rowL a n) rfl ?qc1 ?qc2 ?qc3 ?qc4 ?qc5 ?qc6 ?_)
  case qc1 => exact rowL_len a n
  case qc2 =>
    intro j u hj
    rw [Addr.add_lit, Nat.zero_add]
    exact Lib.cell?_alloc_some _ (cs_row HC.out j u hj)
  case qc3 => exact rowL_one a n
  case qc4 => unfold maxLen; omega
  case qc5 => omega
  case qc6 => simp
  intro v' w1 hown hgrow hnil
  go_wp2
  go_ret
  refine ⟨v', rfl, by simpa using hown, ?_, hnil⟩
  exact ((Below.refl _ w).alloc (Nat.le_refl _) _).grown hgrow (by simp) (by intro k hk; simp [Value.ownBlock] at hk; omega)
theorem clone_q0 (w : World) : Calls Tryd.prog 30 #[.slice none 0 0] w fun e w' => e = .returned (.slice none 0 0) ∧ w' = w := by
  have qe : ∀ (w : World) (a : Option Addr) (n c n' c' : Nat), (binOp .eql 63 (.slice a n c) (.slice none n' c')).run Tryd.prog w = .ok (.bool a.isNone) w := fun w a n c n' c' => Lib.run_eql_slice_nil w _ _ a n c n' c' Tryd.underlying63
  go_enter Tryd.func30, Tryd.ntmps30
  go_wp2
  go_ret
  exact ⟨rfl, rfl⟩
def NoP (w : World) (e : Ending) (w' : World) : Prop := e = .returned (.tuple #[]) ∧ Below w.heap.size w w'
set_option maxRecDepth 100000 in
theorem ins_0 (lf : Nat) (la : Array Value) (sf : Nat) (w : World) : Calls Tryd.prog 66 #[.agg #[.func (.func lf) la #[], .func (.func sf) #[] #[]], .int .i64 0, .int .i64 0] w fun e w' => e = .returned (.tuple #[]) ∧ Below w.heap.size w w' := by
  go_enter Tryd.func66, Tryd.ntmps66
  go_wp2
  go_loopw [6] (fun s wr => s = .int .i64 1 ∧ Below w.heap.size w wr) (fun _ _ => 0)
  case atStart => exact ⟨by congr 1, (Below.refl _ w).alloc (Nat.le_refl _) _⟩
  case round =>
    obtain ⟨rfl, hb⟩ := hrel
    go_wp2
    go_end0
    exact ⟨rfl, hb⟩
set_option maxRecDepth 100000 in
set_option maxHeartbeats 4000000 in
theorem pdq_0 (lf : Nat) (la : Array Value) (sf : Nat) (w : World) : Calls Tryd.prog 48 #[.agg #[.func (.func lf) la #[], .func (.func sf) #[] #[]], .int .i64 0, .int .i64 0, .int .i64 0] w (NoP w) := by
  have I := fun W => Lib.hid (ins_0 lf la sf W)
  go_enter Tryd.func48, Tryd.ntmps48
  go_wp2
  go_loopg [1, 2, 3, 8, 9] 0 (fun gk s1 s2 s3 s8 s9 wr => s1 = .int .i64 0 ∧ s2 = .int .i64 0 ∧ s3 = .int .i64 0 ∧ s8 = .bool true ∧ s9 = .bool true ∧ Below w.heap.size w wr ∧ wr.cell? ⟨w.heap.size, 0, none⟩ = some (.func (.func lf) la #[]) ∧ wr.cell? ⟨w.heap.size, 1, none⟩ = some (.func (.func sf) #[] #[]))
  case atStart => exact ⟨rfl, rfl, rfl, rfl, rfl, (Below.refl _ w).alloc (Nat.le_refl _) _, by simp, by simp⟩
  case round =>
    obtain ⟨rfl, rfl, rfl, rfl, rfl, hb, k0, k1⟩ := hrel
    go_wp2_with fail
    refine (I _).out.mono ?_
    rintro r w2 ⟨rfl, hb2⟩
    have B2 := Lib.hid (Om.bel_trans hb hb2)
    clear hb hb2
    go_wp2_with fail
    go_end0
    exact ⟨rfl, B2.out⟩
theorem slice_0 (w : World) : Calls Tryd.prog 31 #[.iface 63 (.slice none 0 0), .func (.func 32) #[.slice none 0 0] #[]] w fun e w' => e = .returned (.tuple #[]) ∧ Below w.heap.size w w' :=
  slice_gen none 0 0 55 _ _ #[] (sw_0 none 0) w (fun w' => Below w.heap.size w w') (by omega)
    ((pdq_0 _ _ _ _).mono fun e w' ⟨he, hb⟩ => ⟨he, Om.bel_trans (((Below.refl _ w).alloc (Nat.le_refl _) _).alloc (by simp) _) hb⟩)
theorem own_mono {w : World} {base base' : Nat} {e : TypeId} {size : Nat} {v : Value} {n : Nat} {xs : List Value} (h : w.ownsRow base e size v n xs) (hb : base' ≤ base) : w.ownsRow base' e size v n xs :=
  ⟨h.1, h.2.imp (fun x => x) fun ⟨g, cap, cur, h1, h2, h3⟩ => ⟨g, cap, cur, h1, Nat.le_trans hb h2, h3⟩⟩
/-- the pairs of the first k candidates -/
def psL (f : Nat → Cd) (k : Nat) : List Pr := (List.range k).map fun i => ((f i).k, (f i).v)
theorem psL_len (f : Nat → Cd) (k : Nat) : (psL f k).length = k := by simp [psL]
theorem psL_succ (f : Nat → Cd) (k : Nat) : psL f (k + 1) = psL f k ++ [((f k).k, (f k).v)] := by simp [psL, List.range_succ]
theorem psL_mem {f : Nat → Cd} {k : Nat} {x : Pr} : x ∈ psL f k ↔ ∃ i, i < k ∧ ((f i).k, (f i).v) = x := by simp [psL]
theorem psL_asc {f : Nat → Cd} {k : Nat} (h : Srt 0 k f) (ho : Hp.Once ky f k) : Om.Asc (psL f k) := by
  unfold psL Om.Asc
  rw [List.pairwise_map]
  refine List.Pairwise.imp_of_mem ?_ (List.pairwise_lt_range (n := k))
  intro i j hi hj hij
  have hi := List.mem_range.1 hi
  have hj := List.mem_range.1 hj
  have h1 := h i j (Nat.zero_le _) hij hj
  have h2 : (f i).k ≠ (f j).k := fun e => by have := ho i j hi hj e; omega
  show (f i).k < (f j).k
  omega
theorem cor_once {a : Nat → Cd} {n : Nat} {M : Mg.Mg} (h : Cor a n M) (hi : M.Inv) : Hp.Once ky a n := fun i j h1 h2 e => by
  obtain ⟨l1, s1, p1⟩ := h.has i h1
  obtain ⟨l2, s2, p2⟩ := h.has j h2
  refine h.once i j h1 h2 ?_
  have := hi.ne _ _ l1 l2 s1 s2 (by rw [p1, p2]; exact e)
  unfold lst; rw [this]
theorem cor_list {a f : Nat → Cd} {n : Nat} {M : Mg.Mg} (h : Cor a n M) (hi : M.Inv) (hs : Sws 0 n a f) (hr : Srt 0 n f) : M.list = psL f n := by
  refine Om.asc_ext (Mg.list_asc M) (psL_asc hr (hs.once (Nat.le_refl _) (cor_once h hi))) fun x => ?_
  rw [Mg.list_mem hi, psL_mem]
  constructor
  · rintro ⟨v, hv, h1, h2⟩
    obtain ⟨k, hk, e⟩ := h.all v hv h1
    obtain ⟨i, hi2, e2⟩ := (hs.mem (Nat.le_refl _) (a k)).2 ⟨k, hk, rfl⟩
    refine ⟨i, hi2, ?_⟩
    rw [e2, ← (h.has k hk).2.2, e, h2]
  · rintro ⟨i, hi2, e⟩
    obtain ⟨k, hk, e2⟩ := (hs.mem (Nat.le_refl _) (f i)).1 ⟨i, hi2, rfl⟩
    obtain ⟨h1, h2, h3⟩ := h.has k hk
    exact ⟨(a k).l, h1, h2, by rw [h3, e2, e]⟩
def LiP (M : Mg.Mg) (w : World) (e : Ending) (w' : World) : Prop := ∃ v, e = .returned v ∧ w'.ownsRow w.heap.size 39 2 v M.list.length (flat M.list) ∧ Below w.heap.size w w'
theorem fr_below {B : Nat → Prop} {w W W' : World} (hb : Below w.heap.size w W) (h : Fr B W W') (hB : ∀ i, B i → w.heap.size ≤ i) : Below w.heap.size w W' :=
  ⟨h.os.trans hb.os, h.tape.trans hb.tape, h.output.trans hb.output, Nat.le_trans hb.size h.size, fun i hi => (h.block i (Nat.lt_of_lt_of_le hi hb.size) (fun e => by have := hB i e; omega)).trans (hb.block i hi)⟩
set_option maxRecDepth 100000 in
set_option maxHeartbeats 4000000 in
theorem list_any (b : Nat) (Q : Option Nat) (M : Mg.Mg) (w : World) (h : MAt w b Q M) (hi : M.Inv) :
    Calls Tryd.prog 13 #[.pointer (some ⟨b, 0, none⟩)] w (LiP M w) := by
  obtain ⟨n, v, a, S, X, rfl, hm⟩ := h
  have hd := hm.q.hd
  rcases hm.q.form with ⟨rfl, rfl⟩ | ⟨q, c, rfl, hq⟩
  · have C0 := fun W => Lib.hid (clone_q0 W)
    have SL := fun W => Lib.hid (slice_0 W)
    have HL := Lib.hid (Mg.list_none hi fun u hu => by
      cases e : M.hs u with
      | false => rfl
      | true => obtain ⟨k, hk, _⟩ := hm.cor.all u hu e; omega)
    clear hm
    go_enter Tryd.func13, Tryd.ntmps13
    go_wp2_with fail
    refine (C0 _).out.mono ?_
    rintro r w2 ⟨rfl, rfl⟩
    go_wp2_with fail
    refine (SL _).out.mono ?_
    rintro r w3 ⟨rfl, hb⟩
    have HB := Lib.hid hb
    clear hb
    go_wp2_with fail
    go_loopw [4, 21] (fun s4 s21 wr => s4 = .slice none 0 0 ∧ s21 = .int .i64 0 ∧ Below w2.heap.size w2 wr) (fun _ _ _ => 0)
    case atStart => exact ⟨rfl, rfl, HB.out⟩
    case round =>
      obtain ⟨rfl, rfl, hb⟩ := hrel
      go_wp2
      go_ret
      exact ⟨_, rfl, by rw [HL.out]; exact World.ownsRow_nil _ _ _ _, hb⟩
  · have n64 := hm.q.n64
    have hc : Cs w q n a := hq.cs
    have C0 := Lib.hid (clone_q q n c a w hc n64)
    have HO := Lib.hid (cor_once hm.cor hi)
    have HM := Lib.hid hm.cor
    clear hm hq hc
    go_enter Tryd.func13, Tryd.ntmps13
    go_wp2_with fail
    refine C0.out.mono ?_
    rintro r w2 ⟨v', rfl, hown, hb, hne⟩
    rcases hown.2 with ⟨e, _⟩ | ⟨g, cc, cur, rfl, hbase, hh, hncc, hm2, hsz, htk⟩
    · exact absurd e hne
    · obtain ⟨_, hcs, _⟩ := own_shp ⟨hown.1, .inr ⟨g, cc, cur, rfl, hbase, hh, hncc, hm2, hsz, htk⟩⟩
      have hlt := (hown.lt g rfl).2
      have SL := Lib.hid (slice_any g n cc a w2 (Rw.start hcs (fun o => hown.frozenAt _) hlt) n64 HO.out)
      simp only [lsV] at SL
      have HB := Lib.hid hb
      clear hown hne hh hm2 hsz htk hcs hb C0
      go_wp2_with fail
      refine SL.out.mono ?_
      rintro r w3 ⟨rfl, f, hsw, hsr, hrw⟩
      have HL := Lib.hid (cor_list HM.out hi hsw hsr)
      have B3 := Lib.hid (fr_below HB.out hrw.fr (fun i e => by subst e; exact hbase))
      have hcs := hrw.cs
      have hlt3 := hrw.lt
      clear SL HB hsw hsr hrw
      go_wp2_with fail
      have H3 := Lib.hid hcs
      go_loopw [4, 21] (fun s4 s21 wr => ∃ (k : Nat) (v : Value), s4 = v ∧ s21 = .int .i64 k ∧ k ≤ n ∧ wr.ownsRow w3.heap.size 39 2 v k (flat (psL f k)) ∧ Below w3.heap.size w3 wr ∧ Cs wr g n f) (fun _ s21 _ => (64 - intOf s21).toNat)
      case atStart => exact ⟨0, _, rfl, rfl, Nat.zero_le _, World.ownsRow_nil _ _ _ _, Below.refl _ _, H3.out⟩
      case round =>
        obtain ⟨k, v, rfl, rfl, hk, hrow, hbl, hcs⟩ := hrel
        obtain ⟨_, A, vc, rfl, _⟩ := Om.row_form hrow
        by_cases hlt : k < n
        · have t0 : decide ((k : Int) < (n : Int)) = true := decide_eq_true (by omega)
          obtain ⟨c0, c1, c2⟩ := hcs k hlt
          have i0 : 0 ≤ (k : Int) := by omega
          have i1 : (k : Int) < (n : Int) := by omega
          have HR := Lib.hid hrow
          have HC := Lib.hid hcs
          clear hrow hcs
          have OW := fun o => Lib.hid (HR.out.alloc o)
          have BW := fun o => Lib.hid (bel_alloc hbl o)
          have hsz := hbl.size
          go_wp2_with (at_builtin; refine Om.app1 rfl (.tmp 25) (.tmp 28) rfl (wr.alloc (.cells #[.int .u64 (f k).k, .int .u64 (f k).v, .int .i64 (f k).l] 73)) w3.heap.size k _ (psL f k) ((f k).k, (f k).v) rfl (show Value.slice (some ⟨wr.heap.size + 1, 0, none⟩) 1 1 = Value.slice (some ⟨(wr.alloc (.cells #[.int .u64 (f k).k, .int .u64 (f k).v, .int .i64 (f k).l] 73)).heap.size, 0, none⟩) 1 1 by simp) (OW _).out (by omega) (by simp; omega) ?_; intro v1 w1 h1 b1; have H1 := Lib.hid h1; clear h1; have B1 := Lib.hid ((BW _).out.trans b1); have C1 := Lib.hid (HC.out.keep ((b1.block g hlt3).trans ((bel_alloc (Below.refl _ wr) _).block g (Nat.lt_of_lt_of_le hlt3 hbl.size)))); clear b1)
          go_roundw
          case rel => exact ⟨k + 1, v1, rfl, by go_num, by omega, by rw [psL_succ]; exact H1.out, B1.out, C1.out⟩
          case measure => simp [intOf]; omega
        · obtain rfl : k = n := by omega
          have t0 : decide ((k : Int) < (k : Int)) = false := decide_eq_false (by omega)
          have HR := Lib.hid hrow
          clear hrow hcs
          go_wp2_with fail
          go_ret
          exact ⟨_, rfl, by rw [HL.out, psL_len]; exact (own_mono HR.out B3.out.size), B3.out.trans (hbl.mono B3.out.size)⟩
theorem list_nil (w : World) : Calls Tryd.prog 13 #[.pointer none] w fun e w' => e = .returned (.slice none 0 0) ∧ w' = w := by
  go_enter Tryd.func13, Tryd.ntmps13
  go_wp2
  go_ret
  exact ⟨rfl, rfl⟩
end Hq
end Go.Proofs.YtbndgbjenmknmaaDoor
