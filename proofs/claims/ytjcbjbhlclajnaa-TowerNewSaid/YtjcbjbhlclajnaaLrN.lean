/- leapfrogref09: New: contract of the translated code. Conditions: those of each lemma. Written by tools/mk9newr.py. -/
import Derived.Test.YtjcbjbhlclajnaaLrM
import Derived.Test.YtjcbjbhlclajnaaLyJ
import Derived.Test.YtjcbjbhlclajnaaLyR
import Derived.Deep.RegionHeld3
import Derived.Deep.CutRange
namespace Go.Proofs.Ytjcbjbhlclajnaa
open Go.RowKit Go.Sort
set_option linter.unusedVariables false
set_option linter.unusedSimpArgs false
set_option maxRecDepth 100000
namespace Ly
open Dm (RdK BdU dmB dmE dmN bel_alloc bel_trans cell_lt)
def NewRPost (f : Cf) (l : List Int) (w : World) (e : Ending) (w' : World) : Prop :=
  if okB f l = true then ∃ b, e = .returned (.tuple #[.pointer (some ⟨b, 0, none⟩), .int .i64 0]) ∧ w.heap.size ≤ b ∧ RAt w' b (geo f l) ∧ Below w.heap.size w w'
  else e = .returned (.tuple #[.pointer none, .int .i64 2]) ∧ Below w.heap.size w w'
theorem zv_ref (w : World) : (zeroValue 193).run Try.prog w = .ok (.agg #[.int .i64 0, .int .i64 0, .int .u8 0, .int .i64 0, .int .u8 0, .int .i64 0, .slice none 0 0, .int .i64 0, .int .i64 0, .int .i64 0, .int .i64 0, .int .i64 0, .int .i64 0, .int .i64 0, .int .i64 0, .int .i64 0, .int .i64 0, .int .i64 0, .int .i64 0, .int .i64 0, .int .i64 0, .int .i64 0, .int .i64 0, .int .i64 0, .int .i64 0, .int .i64 0, .slice none 0 0, .slice none 0 0]) w := by
  kernel_rfl
def pq (pl : Nat → Nat) (j : Nat) : Nat → Int := fun i => if i < j then ((pl i : Nat) : Int) else 0
theorem pq_set (pl : Nat → Nat) (j i : Nat) : upd (pq pl j) j ((pl j : Nat) : Int) i = pq pl (j + 1) i := by
  unfold pq
  by_cases h : i = j
  · subst h; rw [upd_at, if_pos (by omega)]
  · rw [upd_ne h]
    by_cases h2 : i < j
    · rw [if_pos h2, if_pos (by omega)]
    · rw [if_neg h2, if_neg (by omega)]
/-- the layout before anything is laid -/
theorem Rs.init {w w2 w3 : World} {f : Cf} {A : Option Addr} {c b : Nat} {v : Value} (hv : v = .slice A f.m c) (hb : w2.heap[b]? = some (.cells #[.int .i64 f.th, .int .i64 f.sl, .int .u8 f.en, .int .i64 f.bu, .int .u8 f.k, .int .i64 f.n, .slice f.A f.m f.c, .int .i64 (f.t 0), .int .i64 (f.t 1), .int .i64 (f.t 2), .int .i64 (f.t 3), .int .i64 (f.t 4), .int .i64 (f.t 5), .int .i64 f.lo, .int .i64 f.tr, .int .i64 f.ba, .int .i64 0, .int .i64 0, .int .i64 0, .int .i64 0, .int .i64 0, .int .i64 0, .int .i64 0, .int .i64 0, .int .i64 0, .int .i64 0, .slice none 0 0, .slice none 0 0] 193)) (h23 : Below w2.heap.size w2 w3) (hwb : w.heap.size < b) (hww : Below w.heap.size w w2) (hc : CfB w2 w.heap.size f) :
    Rs w w.heap.size b w.heap.size w3.heap.size (f.cut A c) f (w3.setCell ⟨b, 6, none⟩ v) (fun _ => 0) [] [] := by
  have c0 : w2.cell? ⟨b, 0, none⟩ = some (.int .i64 f.th) := cell_of hb rfl
  have lb : b < w2.heap.size := cell_lt c0
  have hsz := h23.size
  have k : ∀ j v, (#[.int .i64 f.th, .int .i64 f.sl, .int .u8 f.en, .int .i64 f.bu, .int .u8 f.k, .int .i64 f.n, .slice f.A f.m f.c, .int .i64 (f.t 0), .int .i64 (f.t 1), .int .i64 (f.t 2), .int .i64 (f.t 3), .int .i64 (f.t 4), .int .i64 (f.t 5), .int .i64 f.lo, .int .i64 f.tr, .int .i64 f.ba, .int .i64 0, .int .i64 0, .int .i64 0, .int .i64 0, .int .i64 0, .int .i64 0, .int .i64 0, .int .i64 0, .int .i64 0, .int .i64 0, .slice none 0 0, .slice none 0 0] : Array Value)[j]? = some v → w3.cell? ⟨b, j, none⟩ = some v := fun j v hv => (h23.cell (p := ⟨b, j, none⟩) lb).trans (cell_of hb hv)
  have k' : ∀ j u, j ≠ 6 → (#[.int .i64 f.th, .int .i64 f.sl, .int .u8 f.en, .int .i64 f.bu, .int .u8 f.k, .int .i64 f.n, .slice f.A f.m f.c, .int .i64 (f.t 0), .int .i64 (f.t 1), .int .i64 (f.t 2), .int .i64 (f.t 3), .int .i64 (f.t 4), .int .i64 (f.t 5), .int .i64 f.lo, .int .i64 f.tr, .int .i64 f.ba, .int .i64 0, .int .i64 0, .int .i64 0, .int .i64 0, .int .i64 0, .int .i64 0, .int .i64 0, .int .i64 0, .int .i64 0, .int .i64 0, .slice none 0 0, .slice none 0 0] : Array Value)[j]? = some u → (w3.setCell ⟨b, 6, none⟩ v).cell? ⟨b, j, none⟩ = some u := fun j u hj hu => by rw [cell_set (by omega)]; exact k j u hu
  have h6 : (w3.setCell ⟨b, 6, none⟩ v).cell? ⟨b, 6, none⟩ = some v := World.cell?_setCell_same _ _ _ (k 6 _ rfl)
  have fz : ∀ j, w2.frozen? ⟨b, j, none⟩ = false := fun j => by simp [World.frozen?, hb]
  refine ⟨⟨k' 0 _ (by omega) rfl, k' 1 _ (by omega) rfl, k' 2 _ (by omega) rfl, k' 3 _ (by omega) rfl, k' 4 _ (by omega) rfl, k' 5 _ (by omega) rfl, by rw [h6, hv]; rfl, k' 7 _ (by omega) rfl, k' 8 _ (by omega) rfl, k' 9 _ (by omega) rfl, k' 10 _ (by omega) rfl, k' 11 _ (by omega) rfl, k' 12 _ (by omega) rfl, k' 13 _ (by omega) rfl, k' 14 _ (by omega) rfl, k' 15 _ (by omega) rfl⟩, fun i hi => ?_, fun j => by rw [World.frozen?_setCell]; exact (h23.frozen (p := ⟨b, j, none⟩) lb).trans (fz j), ⟨.slice none 0 0, .slice none 0 0, k' 26 _ (by omega) rfl, k' 27 _ (by omega) rfl, KI.nil _ _, KP.nil _ _, fun g h => by cases h⟩, by omega, by simp, by omega, ?_, by omega, by omega, ?_⟩
  · rcases (show i = 0 ∨ i = 1 ∨ i = 2 ∨ i = 3 ∨ i = 4 ∨ i = 5 ∨ i = 6 ∨ i = 7 ∨ i = 8 ∨ i = 9 by omega) with rfl | rfl | rfl | rfl | rfl | rfl | rfl | rfl | rfl | rfl <;> exact k' _ _ (by omega) rfl
  · exact (hww.trans (h23.mono hww.size)).setCell (p := ⟨b, 6, none⟩) (by show w.heap.size ≤ b; omega) _
  · exact (hc.below h23).cong fun j _ => cell_set_b (by omega)
set_option maxRecDepth 100000 in
set_option maxHeartbeats 4000000 in
theorem newR_any (f : Cf) (l : List Int) (w : World) (hB : f.Bd l) (hr : RdK .u64 w f.A l) : Calls Try.prog 59 #[.agg #[.int .i64 f.th, .int .i64 f.sl, .int .u8 f.en, .int .i64 f.bu, .int .u8 f.k, .int .i64 f.n, .slice f.A f.m f.c, .int .i64 (f.t 0), .int .i64 (f.t 1), .int .i64 (f.t 2), .int .i64 (f.t 3), .int .i64 (f.t 4), .int .i64 (f.t 5), .int .i64 f.lo, .int .i64 f.tr, .int .i64 f.ba]] w (NewRPost f l w) := by
  have HR := Lib.hid hr
  have HBd := Lib.hid hB
  have hE : ckE f l = if okB f l = true then 0 else 2 := rfl
  have hm := hB.mx
  clear hr hB
  cases hok : okB f l with
  | false =>
    rw [hok] at hE
    have HE := Lib.hid hE
    have HP := Lib.hid (show NewRPost f l w = fun e w' => e = .returned (.tuple #[.pointer none, .int .i64 2]) ∧ Below w.heap.size w w' by unfold NewRPost; rw [hok]; rfl)
    clear hE hok
    rw [HP.out]
    go_enter Try.func59, Try.ntmps59
    go_wp2_with fail
    refine (checkR_any f l _ HBd.out (HR.out.below (bel_alloc (Below.refl _ _) _))).mono ?_
    rw [HE.out]
    rintro r w1 ⟨rfl, b1⟩
    go_wp2
    go_ret2
    exact ⟨rfl, bel_trans (bel_alloc (Below.refl _ _) _) b1⟩
  | true =>
    rw [hok] at hE
    have HE := Lib.hid hE
    have HP := Lib.hid (show NewRPost f l w = fun e w' => ∃ b, e = .returned (.tuple #[.pointer (some ⟨b, 0, none⟩), .int .i64 0]) ∧ w.heap.size ≤ b ∧ RAt w' b (geo f l) ∧ Below w.heap.size w w' by unfold NewRPost; rw [hok]; rfl)
    have HN := Lib.hid (nums hok)
    obtain ⟨_, _, he, hd, _⟩ := ok_parts hok
    have HEN := Lib.hid he
    have HD := Lib.hid (Dm.dmE_yes hd)
    have hmx : f.m ≤ 100000 := by
      have := HBd.out.e
      rcases Dm.dm_forms hd with ⟨_, _, e, _⟩ | ⟨_, _, _, e, _⟩ | ⟨_, _, l1, l2, _⟩
      · rw [e] at this; simp at this; omega
      · rw [e] at this; simp at this; omega
      · omega
    have HDN := Lib.hid (show dmN f.k f.n l = ((geo f l).D : Nat) by have := (Dm.dmN_64 (k := f.k) (n := f.n) (l := l)).1; simp only [geo]; omega)
    clear hE hok hd hm he
    rw [HP.out]
    generalize geo f l = g at *
    go_enter Try.func59, Try.ntmps59
    go_wp2_with fail
    refine (checkR_any f l _ HBd.out (HR.out.below (bel_alloc (Below.refl _ _) _))).mono ?_
    rw [HE.out]
    rintro r w1 ⟨rfl, b1⟩
    have BB := Lib.hid (bel_trans (bel_alloc (Below.refl w.heap.size w) (.cells #[.int .i64 f.th, .int .i64 f.sl, .int .u8 f.en, .int .i64 f.bu, .int .u8 f.k, .int .i64 f.n, .slice f.A f.m f.c, .int .i64 (f.t 0), .int .i64 (f.t 1), .int .i64 (f.t 2), .int .i64 (f.t 3), .int .i64 (f.t 4), .int .i64 (f.t 5), .int .i64 f.lo, .int .i64 f.tr, .int .i64 f.ba] 87)) b1)
    have cf := (CfB.made w f 87).below b1
    have CF := Lib.hid cf
    obtain ⟨x0, x1, x2, x3, x4, x5, x6, x7, x8, x9, x10, x11, x12, x13, x14, x15⟩ := cf
    have hs1 : w.heap.size < w1.heap.size := cell_lt x0
    have hzv := zv_ref
    clear b1
    go_upto_region 5 with fail
    obtain ⟨w2, hw2⟩ : ∃ w2 : World, w2 = w1.alloc (.cells #[.int .i64 f.th, .int .i64 f.sl, .int .u8 f.en, .int .i64 f.bu, .int .u8 f.k, .int .i64 f.n, .slice f.A f.m f.c, .int .i64 (f.t 0), .int .i64 (f.t 1), .int .i64 (f.t 2), .int .i64 (f.t 3), .int .i64 (f.t 4), .int .i64 (f.t 5), .int .i64 f.lo, .int .i64 f.tr, .int .i64 f.ba, .int .i64 0, .int .i64 0, .int .i64 0, .int .i64 0, .int .i64 0, .int .i64 0, .int .i64 0, .int .i64 0, .int .i64 0, .int .i64 0, .slice none 0 0, .slice none 0 0] 193) := ⟨_, rfl⟩
    have NB := Lib.hid (show w2.heap[w1.heap.size]? = some (.cells #[.int .i64 f.th, .int .i64 f.sl, .int .u8 f.en, .int .i64 f.bu, .int .u8 f.k, .int .i64 f.n, .slice f.A f.m f.c, .int .i64 (f.t 0), .int .i64 (f.t 1), .int .i64 (f.t 2), .int .i64 (f.t 3), .int .i64 (f.t 4), .int .i64 (f.t 5), .int .i64 f.lo, .int .i64 f.tr, .int .i64 f.ba, .int .i64 0, .int .i64 0, .int .i64 0, .int .i64 0, .int .i64 0, .int .i64 0, .int .i64 0, .int .i64 0, .int .i64 0, .int .i64 0, .slice none 0 0, .slice none 0 0] 193) from by rw [hw2]; exact heap_new _ _)
    have B12 := Lib.hid (show Below w1.heap.size w1 w2 from by rw [hw2]; exact bel_alloc (Below.refl _ _) _)
    have hsz2 : w1.heap.size < w2.heap.size := by rw [hw2, World.size_alloc]; omega
    rw [← hw2]
    obtain ⟨b, hb⟩ : ∃ b, w1.heap.size = b := ⟨_, rfl⟩
    have CF2 := Lib.hid (CF.out.below B12.out)
    have BB2 := Lib.hid (bel_trans BB.out B12.out)
    rw [hb] at NB hsz2 hs1 ⊢
    clear hw2 hb hzv x0 x1 x2 x3 x4 x5 x6 x7 x8 x9 x10 x11 x12 x13 x14 x15 CF
    have OWN := Lib.hid (show (w2.alloc (.cells #[] 27)).ownsRow w2.heap.size 27 1 (.slice (some ⟨w2.heap.size, 0, none⟩) 0 0) 0 [] from World.ownsRow_made w2 #[] 0 (Nat.le_refl _) (Nat.zero_le _) (by simp))
    have HRW := Lib.hid (rdK_KU ((HR.out.below BB2.out).below (bel_alloc (Below.refl _ _) (.cells #[] 27))))
    have n6 : w2.cell? ⟨b, 6, none⟩ = some (.slice f.A f.m f.c) := cell_of NB.out rfl
    have fz6 : w2.frozen? ⟨b, 6, none⟩ = false := by simp [World.frozen?, NB.out]
    have BA := Lib.hid (bel_alloc (Below.refl w2.heap.size w2) (.cells #[] 27))
    have x6 := (BA.out.cell (p := ⟨w.heap.size, 6, none⟩) (by show w.heap.size < w2.heap.size; omega)).trans CF2.out.c6
    go_upto_region 6 with (at_builtin; refine KU.appAll rfl (.tmp 21) (.tmp 24) rfl (w2.alloc (.cells #[] 27)) w2.heap.size 0 (.slice (some ⟨w2.heap.size, 0, none⟩) 0 0) [] f.A f.m f.c l rfl rfl OWN.out HBd.out.e HRW.out HBd.out.z (by omega) (by simp) ?_; intro v w3 row b3; rw [Nat.zero_add, List.nil_append] at row; obtain ⟨hl, A, c, rfl, hnc, rd, hz2, hA⟩ := KU.row row; have b23 := BA.out.trans b3; have z6 := (b23.cell (p := ⟨b, 6, none⟩) hsz2).trans n6; have zf6 := (b23.frozen (p := ⟨b, 6, none⟩) hsz2).trans fz6)
    have R := Lib.hid (Rs.init (w := w) (A := A) (c := c) (v := .slice A f.m c) rfl NB.out b23 hs1 BB2.out CF2.out)
    clear row hl hnc rd hz2 hA z6 zf6 b3 b23 BA fz6 n6 HRW OWN x6 CF2 BB2 B12 NB BB
    obtain ⟨wi, hwi⟩ : ∃ wi : World, wi = w3.setCell ⟨b, 6, none⟩ (.slice A f.m c) := ⟨_, rfl⟩
    rw [← hwi] at R ⊢
    obtain ⟨base, hbase⟩ : ∃ n, w3.heap.size = n := ⟨_, rfl⟩
    rw [hbase] at R
    obtain ⟨bc, hbc⟩ : ∃ n, w.heap.size = n := ⟨_, rfl⟩
    have HBC := Lib.hid hbc
    rw [hbc] at R hs1 ⊢
    clear hwi hbase hbc
    -- the heights
    go_wp2_with fail
    go_loopw [6] (fun v wr => ∃ j : Nat, j ≤ 6 ∧ v = .int .i64 ((j + 1 : Nat) : Int) ∧ Rs w bc b bc base (f.cut A c) f wr (fun _ => 0) (hL g.t j) []) (fun v _ => (7 - intOf v).toNat)
    case atStart => exact ⟨0, by omega, rfl, R.out⟩
    case round =>
      clear R
      obtain ⟨j, hj, rfl, hr⟩ := hrel
      have R := Lib.hid hr
      clear hr
      obtain ⟨h, hh⟩ : ∃ h, j + 1 = h := ⟨_, rfl⟩
      rw [hh]
      by_cases hj6 : j < 6
      · have d0 : decide ((h : Int) ≤ 6) = true := decide_eq_true (by omega)
        have htj := HN.out.t j hj6
        have hw1 : IntKind.i64.wrap ((h : Int) - 1) = j := by rw [IntWalk.i64_in _ (by omega)]; omega
        have hw2 : IntKind.i64.wrap ((h : Int) + 1) = (h : Int) + 1 := IntWalk.i64_in _ (by omega)
        have j1 : (j : Int) < 6 := by omega
        have HTT := Lib.hid (show tot g.t j + g.t j ≤ 1024 from by have := tot_le g.t (i := j) (j := 6) hj6; have := HN.out.ok.tt; omega)
        go_wp2_with fail
        go_loopw [7] (fun v wr => ∃ i : Nat, i ≤ g.t j ∧ v = .int .i64 i ∧ Rs w bc b bc base (f.cut A c) f wr (fun _ => 0) (hL g.t j ++ List.replicate i ((h : Nat) : Int)) []) (fun v _ => g.t j - (intOf v).toNat)
        case atStart => exact ⟨0, Nat.zero_le _, rfl, by rw [List.replicate_zero, List.append_nil]; exact R.out⟩
        case round =>
          clear R
          obtain ⟨i, hi, rfl, hr⟩ := hrel
          have R := Lib.hid hr
          have cj := hr.cc.tw hj6
          rw [htj] at cj
          by_cases hit : i < g.t j
          · have d1 : decide ((i : Int) < (g.t j : Nat)) = true := decide_eq_true (by omega)
            have HLT := Lib.hid (show i + 1 ≤ g.t j from hit)
            have hw4 : IntKind.i64.wrap ((i : Int) + 1) = (i : Int) + 1 := IntWalk.i64_in _ (by have := HTT.out; omega)
            obtain ⟨hv, pv, ch, cp, rh, rp, ne⟩ := hr.rows
            have o6 := hr.o6
            have l0 := hr.lt
            have ob := hr.o1
            have f6 := hr.fz 26
            obtain ⟨Q, hQ⟩ : ∃ Q, hL g.t j ++ List.replicate i ((h : Nat) : Int) = Q := ⟨_, rfl⟩
            have hQl : Q.length ≤ 1024 := by rw [← hQ, List.length_append, hL_len, List.length_replicate]; have := HTT.out; omega
            have HQ := Lib.hid (show hL g.t j ++ List.replicate (i + 1) ((h : Nat) : Int) = Q ++ [((h : Nat) : Int)] by rw [rep_snoc, ← List.append_assoc, hQ])
            rw [hQ] at rh R
            have hvb : ∀ q, hv.ownBlock = some q → base ≤ q ∧ q < wr.heap.size := fun q hq => rh.lt q hq
            have AT := Lib.hid (show KI.At (wr.alloc (.cells #[.int .i64 (h : Nat)] 3)) wr.heap.size 0 ((h : Nat) : Int) from fun q u hq => by
              have hq1 : q = 0 := by have := (List.getElem?_eq_some_iff.1 hq).1; simp [KI] at this; omega
              subst hq1
              simp [KI] at hq
              subst hq
              exact cell_of (heap_new _ _) rfl)
            have BB := Lib.hid (bel_alloc (Below.refl wr.heap.size wr) (.cells #[.int .i64 (h : Nat)] 3))
            have OW := Lib.hid (show (wr.alloc (.cells #[.int .i64 (h : Nat)] 3)).ownsRow base KI.E KI.sz hv Q.length (KI.flat Q) from KI.own_keep rh fun g hg => BB.out.block g (rh.lt g hg).2)
            have FIN := Lib.hid (fun (v' : Value) (w1 : World) own1 kp => R.out.pushH (W := wr.alloc (.cells #[.int .i64 (h : Nat)] 3)) (w1 := w1) (h := ((h : Nat) : Int)) (v' := v') ch cp rp ne BB.out hvb own1 kp)
            have HVB := Lib.hid hvb
            have hsa : base ≤ (wr.alloc (.cells #[.int .i64 (h : Nat)] 3)).heap.size := Nat.le_trans o6 BB.out.size
            clear hr rh rp ne cp hvb hQ
            go_wp2_with (at_builtin; refine KI.app1 rfl (.tmp 47) (.tmp 49) rfl (wr.alloc (.cells #[.int .i64 (h : Nat)] 3)) base Q.length hv Q ((h : Nat) : Int) rfl wr.heap.size rfl AT.out OW.out (by omega) hsa ?_; intro v' w5 own1 kp; obtain ⟨_, A5, c5, rfl, _⟩ := KI.row own1; have kb := (kp.blk b (Nat.lt_of_lt_of_le l0 BB.out.size) (fun e => by have := (HVB.out _ e).1; omega)).trans (BB.out.block b l0); have z6 := (World.cell?_of_block (a := ⟨b, 26, none⟩) kb).trans ch; have zf := (World.frozen?_of_block (a := ⟨b, 26, none⟩) kb).trans f6)
            have RN := Lib.hid (FIN.out _ w5 own1 kp)
            rw [← HQ.out] at RN
            go_roundw
            case rel => exact ⟨i + 1, HLT.out, by go_num, RN.out⟩
            case measure => have := HLT.out; simp [intOf]; omega
          · obtain rfl : i = g.t j := by omega
            have d1 : decide (((g.t j : Nat) : Int) < (g.t j : Nat)) = false := by simp
            clear hr
            go_wp2_with fail
            go_roundw
            case rel => exact ⟨j + 1, by omega, by rw [← hh]; go_num, by have := R.out; rw [← hh] at this; exact this⟩
            case measure => simp [intOf]; omega
      · obtain rfl : j = 6 := by omega
        obtain rfl := hh
        have d0 : decide (((6 + 1 : Nat) : Int) ≤ 6) = false := by decide
        go_upto_region 13 with fail
        obtain ⟨pl, hpl⟩ : ∃ pl : Nat → Nat, pl = plN g := ⟨_, rfl⟩
        have HPL := Lib.hid hpl
        obtain ⟨hs, hhs⟩ : ∃ hs, hL g.t 6 = hs := ⟨_, rfl⟩
        have HHS := Lib.hid hhs
        obtain ⟨TT, hTT⟩ : ∃ TT, tot g.t 6 = TT := ⟨_, rfl⟩
        have HTT := Lib.hid hTT
        have HHL := Lib.hid (show hs.length = TT by rw [← hhs, hL_len, hTT])
        rw [hhs] at R
        have HPB := Lib.hid (show ∀ j, j < 10 → pl j ≤ 20000 from fun j hj => by
          have h := pW_20 HN.out.ok
          have hle : plN g j ≤ pW g := by
            rcases (show j = 0 ∨ j = 1 ∨ j = 2 ∨ j = 3 ∨ j = 4 ∨ j = 5 ∨ j = 6 ∨ j = 7 ∨ j = 8 ∨ j = 9 by omega) with rfl | rfl | rfl | rfl | rfl | rfl | rfl | rfl | rfl | rfl <;> (simp only [plN, pE, pM, pL, pD, pP, pK, pH, pT, pW]; try omega)
          rw [hpl]; omega)
        have gS1 := HN.out.ok.s1
        have gS2 := HN.out.ok.s2
        have gE1 := HN.out.ok.e1
        have gE2 := HN.out.ok.e2
        have gL1 := HN.out.ok.l1
        have gL2 := HN.out.ok.l2
        have gD1 := HN.out.ok.d1
        have gD2 := HN.out.ok.d2
        have gT := HN.out.ok.tt
        rw [hTT] at gT
        clear hpl hhs hTT
        have R0 := Lib.hid (R.out.congr (p' := pq pl 0) (fun i hi => rfl))
        clear R
        obtain ⟨W0, hW0⟩ : ∃ W0 : World, W0 = wr := ⟨_, rfl⟩
        rw [← hW0] at R0 ⊢
        clear hW0
        have c1 := R0.out.cc.c1
        have c2 := R0.out.cc.c2
        have c3 := R0.out.cc.c3
        obtain ⟨m1, hm1⟩ : ∃ m1 : Int, m1 = if f.en = 2 then 2 * f.sl else f.sl := ⟨_, rfl⟩
        have hen3 : (f.en = 1 ∨ f.en = 2 ∨ f.en = 3) := by
          have hen := HEN.out
          unfold engB at hen
          by_cases h : f.en = 1 ∨ f.en = 2
          · omega
          · rw [if_neg h] at hen
            by_cases h3 : f.en = 3
            · omega
            · rw [if_neg h3] at hen; cases hen
        have hEW : (f.en ≠ 3 → m1 = (g.E : Nat)) ∧ (f.en = 3 → 4 * f.bu = (g.E : Nat)) := by
          have h := HN.out.E
          unfold engW at h
          rcases hen3 with e | e | e
          · rw [if_pos e] at h; rw [if_neg (by omega)] at hm1; exact ⟨fun _ => hm1.trans h, fun h2 => by omega⟩
          · rw [if_neg (by omega), if_pos e] at h; rw [if_pos e] at hm1; exact ⟨fun _ => hm1.trans h, fun h2 => by omega⟩
          · rw [if_neg (by omega), if_neg (by omega)] at h; exact ⟨fun h2 => absurd e h2, fun _ => h⟩
        have HEW := Lib.hid hEW
        have HM1 := Lib.hid hm1
        have HSL := Lib.hid HN.out.S
        have HBU := Lib.hid HN.out.bu
        clear hm1 hEW hen3
        go_upto_if 57 with fail
        go_cut [8] from 58 to 60 (fun v wx => v = .int .i64 m1 ∧ wx = W0)
        case first =>
          by_cases e1 : f.en = 2
          · have d1 : decide (f.en = 2) = true := decide_eq_true e1
            have hmu : IntKind.i64.wrap (2 * f.sl) = m1 := by rw [IntWalk.i64_in _ (by have := HSL.out; omega), HM1.out, if_pos e1]
            go_wp2_with fail
            go_meet
            first | done | exact ⟨rfl, rfl⟩ | exact ⟨by rw [hmu], rfl⟩
          · have d1 : decide (f.en = 2) = false := decide_eq_false e1
            have hmu : m1 = f.sl := by rw [HM1.out, if_neg e1]
            go_wp2_with fail
            go_meet
            first | done | exact ⟨rfl, rfl⟩ | exact ⟨by rw [hmu], rfl⟩
        case rest =>
        obtain ⟨rfl, rfl⟩ := hcut
        obtain ⟨W0, hW0⟩ : ∃ W0 : World, W0 = wc := ⟨_, rfl⟩
        rw [← hW0] at R0 c1 c2 c3 ⊢
        clear hW0
        go_upto_if 63 with fail
        go_cut [8] from 64 to 66 (fun v wx => v = .int .i64 (g.E : Nat) ∧ wx = W0)
        case first =>
          by_cases e1 : f.en = 3
          · have d1 : decide (f.en = 3) = true := decide_eq_true e1
            have hmu : IntKind.i64.wrap (4 * f.bu) = ((g.E : Nat) : Int) := by rw [IntWalk.i64_in _ (by have := HBU.out; omega)]; exact HEW.out.2 e1
            go_wp2_with fail
            go_meet
            first | done | exact ⟨rfl, rfl⟩ | exact ⟨by rw [hmu], rfl⟩
          · have d1 : decide (f.en = 3) = false := decide_eq_false e1
            have hmu : m1 = ((g.E : Nat) : Int) := HEW.out.1 e1
            go_wp2_with fail
            go_meet
            first | done | exact ⟨rfl, rfl⟩ | exact ⟨by rw [hmu], rfl⟩
        case rest =>
          obtain ⟨rfl, rfl⟩ := hcut
          clear c1 c2 c3
          have c4 := R0.out.cc.c4
          have c5 := R0.out.cc.c5
          have c6 := R0.out.cc.c6
          go_wp2_with fail
          have hbW := R0.out.bel
          rw [← HBC.out] at hbW
          refine (Dm.valuesR_any f.k f.n f.A f.m f.c l _ HBd.out.k.1 HBd.out.k.2 HBd.out.n.1 HBd.out.n.2 HBd.out.e HBd.out.mx (HR.out.below hbW) HBd.out.b).mono ?_
          rw [HD.out, HDN.out]
          rintro r w0 ⟨rfl, b0⟩
          have R00 := Lib.hid (R0.out.below b0)
          obtain ⟨ps0, hps0⟩ : ∃ q : List Pl, ([] : List Pl) = q := ⟨_, rfl⟩
          have LN0 := Lib.hid (show ps0.length = pl 0 by rw [← hps0, HPL.out]; rfl)
          have EQ0 := Lib.hid hps0
          rw [hps0] at R00
          clear hps0 b0 hbW c4 c5 c6 R0
          have c1 := R00.out.cc.c1
          rw [HN.out.S] at c1
          go_wp2_with fail
          refine (group_any 1 0 (1) (g.S) R00.out (by omega) (by omega) (by omega) (by rw [LN0.out]; exact HPB.out 0 (by omega)) (by omega)).mono ?_
          rintro r w1 ⟨rfl, r1⟩
          rw [LN0.out]
          obtain ⟨ps1, hps⟩ : ∃ q, ps0 ++ grp 1 0 (1) (g.S) = q := ⟨_, rfl⟩
          rw [hps] at r1
          have LN1 := Lib.hid (show ps1.length = pl 1 from by
            rw [← hps, List.length_append, grp_len, LN0.out, HPL.out]
            have := HTT.out
            (simp only [plN, pE, pM, pL, pD, pP, pK, pH, pT]) <;> omega)
          have EQ1 := Lib.hid hps
          have s1 : w1.cell? ⟨b, 16, none⟩ = _ := r1.pl 0 (by omega)
          have z1 := r1.fz 16
          have R1 := Lib.hid (show Rs w bc b bc base (f.cut A c) f (w1.setCell ⟨b, 16, none⟩ (.int .i64 (pl 0 : Nat))) (pq pl 1) hs ps1 from (r1.setP (i := 0) (by omega) _).congr (fun i _ => pq_set pl 0 i))
          clear hps r1 R00 c1
          go_wp2_with fail
          refine (group_any 2 0 (g.E) (g.E) R1.out (by omega) (by omega) (by omega) (by rw [LN1.out]; exact HPB.out 1 (by omega)) (by omega)).mono ?_
          rintro r w2 ⟨rfl, r2⟩
          rw [LN1.out]
          obtain ⟨ps2, hps⟩ : ∃ q, ps1 ++ grp 2 0 (g.E) (g.E) = q := ⟨_, rfl⟩
          rw [hps] at r2
          have LN2 := Lib.hid (show ps2.length = pl 2 from by
            rw [← hps, List.length_append, grp_len, LN1.out, HPL.out]
            have := HTT.out
            (simp only [plN, pE, pM, pL, pD, pP, pK, pH, pT]) <;> omega)
          have EQ2 := Lib.hid hps
          have s2 : w2.cell? ⟨b, 17, none⟩ = _ := r2.pl 1 (by omega)
          have z2 := r2.fz 17
          have R2 := Lib.hid (show Rs w bc b bc base (f.cut A c) f (w2.setCell ⟨b, 17, none⟩ (.int .i64 (pl 1 : Nat))) (pq pl 2) hs ps2 from (r2.setP (i := 1) (by omega) _).congr (fun i _ => pq_set pl 1 i))
          clear hps r2 R1  s1 z1
          go_wp2_with fail
          refine (group_any 3 0 (1) (1) R2.out (by omega) (by omega) (by omega) (by rw [LN2.out]; exact HPB.out 2 (by omega)) (by omega)).mono ?_
          rintro r w3 ⟨rfl, r3⟩
          rw [LN2.out]
          obtain ⟨ps3, hps⟩ : ∃ q, ps2 ++ grp 3 0 (1) (1) = q := ⟨_, rfl⟩
          rw [hps] at r3
          have LN3 := Lib.hid (show ps3.length = pl 3 from by
            rw [← hps, List.length_append, grp_len, LN2.out, HPL.out]
            have := HTT.out
            (simp only [plN, pE, pM, pL, pD, pP, pK, pH, pT]) <;> omega)
          have EQ3 := Lib.hid hps
          have s3 : w3.cell? ⟨b, 18, none⟩ = _ := r3.pl 2 (by omega)
          have z3 := r3.fz 18
          have R3 := Lib.hid (show Rs w bc b bc base (f.cut A c) f (w3.setCell ⟨b, 18, none⟩ (.int .i64 (pl 2 : Nat))) (pq pl 3) hs ps3 from (r3.setP (i := 2) (by omega) _).congr (fun i _ => pq_set pl 2 i))
          clear hps r3 R2  s2 z2
          have c13 := R3.out.cc.c13
          rw [HN.out.L] at c13
          have hmu : IntKind.i64.wrap (3 * ((g.L : Nat) : Int)) = ((3 * g.L : Nat) : Int) := by rw [IntWalk.i64_in _ (by omega)]; omega
          go_wp2_with fail
          refine (group_any 4 0 (3) (3 * g.L) R3.out (by omega) (by omega) (by omega) (by rw [LN3.out]; exact HPB.out 3 (by omega)) (by omega)).mono ?_
          rintro r w4 ⟨rfl, r4⟩
          rw [LN3.out]
          obtain ⟨ps4, hps⟩ : ∃ q, ps3 ++ grp 4 0 (3) (3 * g.L) = q := ⟨_, rfl⟩
          rw [hps] at r4
          have LN4 := Lib.hid (show ps4.length = pl 4 from by
            rw [← hps, List.length_append, grp_len, LN3.out, HPL.out]
            have := HTT.out
            (simp only [plN, pE, pM, pL, pD, pP, pK, pH, pT]) <;> omega)
          have EQ4 := Lib.hid hps
          have s4 : w4.cell? ⟨b, 19, none⟩ = _ := r4.pl 3 (by omega)
          have z4 := r4.fz 19
          have R4 := Lib.hid (show Rs w bc b bc base (f.cut A c) f (w4.setCell ⟨b, 19, none⟩ (.int .i64 (pl 3 : Nat))) (pq pl 4) hs ps4 from (r4.setP (i := 3) (by omega) _).congr (fun i _ => pq_set pl 3 i))
          clear hps r4 R3 c13 hmu s3 z3
          have c13 := R4.out.cc.c13
          rw [HN.out.L] at c13
          go_wp2_with fail
          refine (group_any 5 0 (1) (g.L) R4.out (by omega) (by omega) (by omega) (by rw [LN4.out]; exact HPB.out 4 (by omega)) (by omega)).mono ?_
          rintro r w5 ⟨rfl, r5⟩
          rw [LN4.out]
          obtain ⟨ps5, hps⟩ : ∃ q, ps4 ++ grp 5 0 (1) (g.L) = q := ⟨_, rfl⟩
          rw [hps] at r5
          have LN5 := Lib.hid (show ps5.length = pl 5 from by
            rw [← hps, List.length_append, grp_len, LN4.out, HPL.out]
            have := HTT.out
            (simp only [plN, pE, pM, pL, pD, pP, pK, pH, pT]) <;> omega)
          have EQ5 := Lib.hid hps
          have s5 : w5.cell? ⟨b, 20, none⟩ = _ := r5.pl 4 (by omega)
          have z5 := r5.fz 20
          have R5 := Lib.hid (show Rs w bc b bc base (f.cut A c) f (w5.setCell ⟨b, 20, none⟩ (.int .i64 (pl 4 : Nat))) (pq pl 5) hs ps5 from (r5.setP (i := 4) (by omega) _).congr (fun i _ => pq_set pl 4 i))
          clear hps r5 R4 c13 s4 z4
          go_wp2_with fail
          refine (group_any 6 0 (1) (6) R5.out (by omega) (by omega) (by omega) (by rw [LN5.out]; exact HPB.out 5 (by omega)) (by omega)).mono ?_
          rintro r w6 ⟨rfl, r6⟩
          rw [LN5.out]
          obtain ⟨ps6, hps⟩ : ∃ q, ps5 ++ grp 6 0 (1) (6) = q := ⟨_, rfl⟩
          rw [hps] at r6
          have LN6 := Lib.hid (show ps6.length = pl 6 from by
            rw [← hps, List.length_append, grp_len, LN5.out, HPL.out]
            have := HTT.out
            (simp only [plN, pE, pM, pL, pD, pP, pK, pH, pT]) <;> omega)
          have EQ6 := Lib.hid hps
          have s6 : w6.cell? ⟨b, 21, none⟩ = _ := r6.pl 5 (by omega)
          have z6 := r6.fz 21
          have R6 := Lib.hid (show Rs w bc b bc base (f.cut A c) f (w6.setCell ⟨b, 21, none⟩ (.int .i64 (pl 5 : Nat))) (pq pl 6) hs ps6 from (r6.setP (i := 5) (by omega) _).congr (fun i _ => pq_set pl 5 i))
          clear hps r6 R5  s5 z5
          obtain ⟨hvv, pvv, chh, _, rhh, _⟩ := R6.out.rows
          obtain ⟨_, Ah, cch, rfl, _⟩ := KI.row rhh
          rw [HHL.out] at chh
          clear rhh
          go_wp2_with fail
          refine (group_any 7 1 (1) (TT) R6.out (by omega) (by omega) (by omega) (by rw [LN6.out]; exact HPB.out 6 (by omega)) (by omega)).mono ?_
          rintro r w7 ⟨rfl, r7⟩
          rw [LN6.out]
          obtain ⟨ps7, hps⟩ : ∃ q, ps6 ++ grp 7 1 (1) (TT) = q := ⟨_, rfl⟩
          rw [hps] at r7
          have LN7 := Lib.hid (show ps7.length = pl 7 from by
            rw [← hps, List.length_append, grp_len, LN6.out, HPL.out]
            have := HTT.out
            (simp only [plN, pE, pM, pL, pD, pP, pK, pH, pT]) <;> omega)
          have EQ7 := Lib.hid hps
          have s7 : w7.cell? ⟨b, 22, none⟩ = _ := r7.pl 6 (by omega)
          have z7 := r7.fz 22
          have R7 := Lib.hid (show Rs w bc b bc base (f.cut A c) f (w7.setCell ⟨b, 22, none⟩ (.int .i64 (pl 6 : Nat))) (pq pl 7) hs ps7 from (r7.setP (i := 6) (by omega) _).congr (fun i _ => pq_set pl 6 i))
          clear hps r7 R6 chh s6 z6
          have hmu : IntKind.i64.wrap (((g.D : Nat) : Int) * 7) = ((g.D * 7 : Nat) : Int) := by rw [IntWalk.i64_in _ (by omega)]; omega
          go_wp2_with fail
          refine (group_any 8 0 (7) (g.D * 7) R7.out (by omega) (by omega) (by omega) (by rw [LN7.out]; exact HPB.out 7 (by omega)) (by omega)).mono ?_
          rintro r w8 ⟨rfl, r8⟩
          rw [LN7.out]
          obtain ⟨ps8, hps⟩ : ∃ q, ps7 ++ grp 8 0 (7) (g.D * 7) = q := ⟨_, rfl⟩
          rw [hps] at r8
          have LN8 := Lib.hid (show ps8.length = pl 8 from by
            rw [← hps, List.length_append, grp_len, LN7.out, HPL.out]
            have := HTT.out
            (simp only [plN, pE, pM, pL, pD, pP, pK, pH, pT]) <;> omega)
          have EQ8 := Lib.hid hps
          have s8 : w8.cell? ⟨b, 23, none⟩ = _ := r8.pl 7 (by omega)
          have z8 := r8.fz 23
          have R8 := Lib.hid (show Rs w bc b bc base (f.cut A c) f (w8.setCell ⟨b, 23, none⟩ (.int .i64 (pl 7 : Nat))) (pq pl 8) hs ps8 from (r8.setP (i := 7) (by omega) _).congr (fun i _ => pq_set pl 7 i))
          clear hps r8 R7 hmu s7 z7
          obtain ⟨hvv, pvv, _, cpp, _, rpp, _⟩ := R8.out.rows
          obtain ⟨_, Aw, ccw, rfl, _⟩ := KP.row rpp
          rw [LN8.out] at cpp
          have s9 : (w8.setCell ⟨b, 23, none⟩ (.int .i64 (pl 7 : Nat))).cell? ⟨b, 24, none⟩ = _ := R8.out.pl 8 (by omega)
          have z9 := R8.out.fz 24
          have R9 := Lib.hid (show Rs w bc b bc base (f.cut A c) f ((w8.setCell ⟨b, 23, none⟩ (.int .i64 (pl 7 : Nat))).setCell ⟨b, 24, none⟩ (.int .i64 (pl 8 : Nat))) (pq pl 9) hs ps8 from (R8.out.setP (i := 8) (by omega) _).congr (fun i _ => pq_set pl 8 i))
          clear rpp R8
          have HLE := Lib.hid (show ∀ k, (ps8 ++ twL 1 (hs.take k)).length ≤ 20000 from fun k => by
            have h := twL_len_le g k
            have h2 := pW_20 HN.out.ok
            have e : (whatL (g0 g)).length = ps8.length := by rw [what_g0_len, LN8.out, HPL.out]; rfl
            rw [HHS.out, List.length_append, e] at h
            rw [List.length_append]
            omega)
          have HGT := Lib.hid (show ∀ k, k < TT → ∃ j, j < 6 ∧ hs[k]? = some ((j + 1 : Nat) : Int) from fun k hk => by rw [← HHS.out]; exact hL_get g.t 6 k (by rw [HTT.out]; exact hk))
          go_wp2_with fail
          go_loopw [11] (fun v wr => ∃ k : Nat, k ≤ TT ∧ v = .int .i64 ((k + 1 : Nat) : Int) ∧ Rs w bc b bc base (f.cut A c) f wr (pq pl 9) hs (ps8 ++ twL 1 (hs.take k))) (fun v _ => (TT + 1 - intOf v).toNat)
          case atStart => exact ⟨0, Nat.zero_le _, rfl, by rw [List.take_zero]; show Rs w bc b bc base (f.cut A c) f _ (pq pl 9) hs (ps8 ++ []); rw [List.append_nil]; exact R9.out⟩
          case round =>
            clear R9 s8 z8 s9 z9 cpp
            obtain ⟨k, hk, rfl, hr⟩ := hrel
            have R := Lib.hid hr
            obtain ⟨hvv, pvv, chh, cpp, rhh, rpp, _⟩ := hr.rows
            obtain ⟨_, Ah, cch, rfl, _, rdh, _⟩ := KI.row rhh
            rw [HHL.out] at chh
            obtain ⟨t, ht⟩ : ∃ t, k + 1 = t := ⟨_, rfl⟩
            rw [ht]
            by_cases hkT : k < TT
            · have d0 : decide ((t : Int) ≤ (TT : Nat)) = true := decide_eq_true (by omega)
              have d0' : decide (t ≤ TT) = true := decide_eq_true (by omega)
              obtain ⟨j, hj, hgj⟩ := HGT.out k hkT
              obtain ⟨gb, go, rfl, ath⟩ := rdh k _ hgj
              have chk : wr.cell? ⟨gb, go + k, none⟩ = some (.int .i64 ((j + 1 : Nat) : Int)) := by
                have := ath 0 _ rfl
                rw [show KI.sz = 1 from rfl, Nat.mul_one, Nat.add_zero] at this
                exact this
              obtain ⟨h, hh⟩ : ∃ h, j + 1 = h := ⟨_, rfl⟩
              rw [hh] at chk hgj
              have hw1 : IntKind.i64.wrap ((t : Int) - 1) = k := by rw [IntWalk.i64_in _ (by omega)]; omega
              obtain ⟨z, hz⟩ : ∃ z, 5 + h = z := ⟨_, rfl⟩
              have hw2 : IntKind.i64.wrap (5 + ((h : Nat) : Int)) = (z : Int) := by rw [IntWalk.i64_in _ (by omega)]; omega
              have hw3 : IntKind.i64.wrap ((t : Int) + 1) = (t : Int) + 1 := IntWalk.i64_in _ (by omega)
              have k1 : (k : Int) < TT := by omega
              have GA := Lib.hid (show Rs w bc b bc base (f.cut A c) f wr (pq pl 9) hs (ps8 ++ twL 1 (hs.take k)) from R.out)
              have HNX := Lib.hid (show (ps8 ++ twL 1 (hs.take k)) ++ grp 9 t z z = ps8 ++ twL 1 (hs.take (k + 1)) from by
                have hkl := (List.getElem?_eq_some_iff.1 hgj).1
                have hke := (List.getElem?_eq_some_iff.1 hgj).2
                rw [List.take_succ_eq_append_getElem hkl, hke, twL_app, twL_one, List.length_take, List.append_assoc, Nat.min_eq_left (Nat.le_of_lt hkl), show 1 + k = t by omega, show (((h : Nat) : Int)).toNat = h by omega, hz])
              have HLB := HLE.out k
              have hh7 : z ≤ 11 := by omega
              have hh8 : 0 < z := by omega
              have ht1 : t ≤ 100000 := by omega
              clear hr rhh rpp rdh ath hgj hh hj hz
              go_wp2_with fail
              go_region_with ((go_at_call 89; go_loud (refine (group_any 9 t z z (GA.out.below (Om_drew (Below.refl _ _))) hh8 ht1 (by omega) HLB (by omega)).mono ?_); rintro r wd ⟨rfl, rd⟩))
              all_goals (go_wp2_with fail)
              all_goals (rw [HNX.out] at rd)
              all_goals (go_roundw)
              all_goals (first | (exact ⟨k + 1, by omega, by rw [ht]; go_num, rd⟩) | (simp [intOf]; omega))
            · obtain rfl : k = TT := by omega
              have d0 : decide ((t : Int) ≤ (k : Nat)) = false := decide_eq_false (by omega)
              have d0' : decide (t ≤ k) = false := decide_eq_false (by omega)
              obtain ⟨_, Aw2, cw2, rfl, _⟩ := KP.row rpp
              have HFE := Lib.hid (show ps8 ++ twL 1 (hs.take k) = whatL (gs g) from by
                rw [what_gs, List.take_of_length_le (by rw [HHL.out]; exact Nat.le_refl _), HHS.out]
                congr 1
                rw [what_g0, ← EQ8.out, ← EQ7.out, ← EQ6.out, ← EQ5.out, ← EQ4.out, ← EQ3.out, ← EQ2.out, ← EQ1.out, ← EQ0.out, HTT.out, List.nil_append])
              rw [HFE.out] at R cpp
              have HPW := Lib.hid (what_gs_len g)
              rw [HPW.out] at cpp
              have s10 := R.out.pl 9 (by omega)
              have z10 := R.out.fz 25
              have RZ := Lib.hid ((R.out.setP (i := 9) (by omega) ((pW g : Nat) : Int)).at_ (g := g) (hs := hs) HHS.out (fun i hi => by
                rw [show ((pW g : Nat) : Int) = ((pl 9 : Nat) : Int) by rw [HPL.out]; rfl, pq_set]
                unfold pq
                rw [if_pos (by omega), HPL.out]))
              have BZ := Lib.hid (R.out.setP (i := 9) (by omega) ((pW g : Nat) : Int)).bel
              rw [← HBC.out] at BZ
              clear hr rhh rpp rdh
              go_wp2
              go_ret2
              exact ⟨b, rfl, by rw [HBC.out]; omega, RZ.out, BZ.out⟩
end Ly
end Go.Proofs.Ytjcbjbhlclajnaa
