/- Then for all lists, Apply for all lists, Move and Delete of leapfrogref06: contracts of the translated code. Conditions: at most 200 pairs, 200 changes; the bounds of each number's kind. -/
import Derived.Test.YtbdllakbkienoaaPlV
import Derived.Deep.RegionHeld3
namespace Go.Proofs.Ytbdllakbkienoaa
open Go.RowKit Go.Sort Go.Lib
set_option linter.unusedVariables false
set_option linter.unusedSimpArgs false
namespace Pl
open Om (addr_lit bel_alloc bel_trans below_drewN ret_eq Asc MapAt Opn Nx Chg Fresh Apt moE moL moT moR_any mvL inL outL inB rgE rgL deL deT deR_any)
set_option maxHeartbeats 1000000 in
theorem thenR (A B : Option Addr) (n c m d : Nat) (a b : List Rc) (w : World) (hn : a.length = n) (hm : b.length = m) (hs : n ≤ 200) (hs2 : m ≤ 200) (hr : Rd w A a) (hr2 : Rd w B b) :
    Calls Try.prog 27 #[.slice A n c, .slice B m d] w (APost w (thE a b) (thR a b)) := by
  by_cases ka : chk a
  · by_cases kb : chk b
    · have ea := chk_raw ka; have eb := chk_raw kb
      exact thenR_ok A B n c m d (a.map canon) (b.map canon) w (by rw [List.length_map]; exact hn) (by rw [List.length_map]; exact hm) hs hs2 (by rw [ea]; exact hr) (by rw [eb]; exact hr2) (by rw [ea]; exact ka) (by rw [eb]; exact kb) _ _
        (fun h => ⟨thE_ok ka kb h, thR_yes (thE_ok ka kb h)⟩) (fun h => ⟨thE_st ka kb h, thR_no (thE_st ka kb h) (by omega)⟩)
    · have HE := Lib.hid (thE_no (a := a) (b := b) (fun h => kb h.2))
      have HM := Lib.hid (thR_no HE.out (by omega))
      have CA := Lib.hid (checkR_any A n c a w hn (by omega) hr true ⟨fun _ => ka, fun _ => rfl⟩)
      have CB := fun W (q : Below w.heap.size w W) => Lib.hid (checkR_any B m d b W hm (by omega) (hr2.below q) false ⟨fun q => by (cases q), fun q => absurd q kb⟩)
      simp only [eT_true, eT_false] at CA CB
      clear hr hr2 ka kb
      rw [HE.out, HM.out]
      go_enter Try.func27, Try.ntmps27
      go_wp2_with fail
      refine CA.out.mono ?_
      rintro r W1 ⟨rfl, b1⟩
      go_wp2_with fail
      refine (CB _ b1).out.mono ?_
      rintro r W2 ⟨rfl, b2⟩
      go_wp2
      go_ret2
      exact APost.err (bel_trans b1 b2)
  · have HE := Lib.hid (thE_no (a := a) (b := b) (fun h => ka h.1))
    have HM := Lib.hid (thR_no HE.out (by omega))
    have CA := Lib.hid (checkR_any A n c a w hn (by omega) hr false ⟨fun q => by (cases q), fun q => absurd q ka⟩)
    simp only [eT_false] at CA
    clear hr hr2 ka
    rw [HE.out, HM.out]
    go_enter Try.func27, Try.ntmps27
    go_wp2_with fail
    refine CA.out.mono ?_
    rintro r W1 ⟨rfl, b1⟩
    go_wp2
    go_ret2
    exact APost.err b1
theorem applyR (A B : Option Addr) (n c m d : Nat) (p : List Om.Pr) (l : List Rc) (w : World) (hn : p.length = n) (hm : l.length = m) (hs : n ≤ 400) (hs2 : m ≤ 400) (hr : Om.Rd w A p) (hr2 : Rd w B l) (hz : A = none → c = 0) (hb : Om.Bd p) (hbl : Bd l) :
    Calls Try.prog 19 #[.slice A n c, .slice B m d] w (PPost w (apE p l) (apR p l)) := by
  by_cases hk : Asc p ∧ chk l
  · by_cases hf : fits p (l.map canon)
    · rw [apR_yes (apE_ok hk.1 hk.2 hf), apE_ok hk.1 hk.2 hf, ← app_eq]
      exact app_ok A B n c m d p l w hn hm hs hs2 hr hr2 hz hb hbl hk.1 hk.2 ((fits_iff hk.2).2 hf)
    · rw [apR_no (apE_st hk.1 hk.2 hf) (by omega), apE_st hk.1 hk.2 hf]
      refine (state_no A B n c m d p l w hn hm hs hs2 hr hr2 hk.1 hk.2 (fun h => hf ((fits_iff hk.2).1 h))).mono ?_
      rintro e w' ⟨rfl, b⟩
      exact PPost.err b
  · rw [apR_no (apE_no hk) (by omega), apE_no hk]
    refine (arg_no A B n c m d p l w hn hm hs hs2 hr hr2 hk).mono ?_
    rintro e w' ⟨rfl, b⟩
    exact PPost.err b
/-! ### Move -/
theorem mvE_mo {p : List Om.Pr} {lo hi d : Int} (h : Asc p) : mvE p lo hi d = moE lo hi d := by
  unfold mvE moE shE
  rw [if_pos h]
  by_cases h1 : d = 0
  · rw [if_pos h1, if_pos (.inr h1)]
  · rw [if_neg h1]
    by_cases h2 : lo ≤ hi
    · rw [if_pos h2, if_neg (show ¬ (hi < lo ∨ d = 0) from fun h => by rcases h with h | h; omega; exact h1 h)]
      by_cases h3 : hi + d ≤ 18446744073709551615
      · rw [if_pos h3, if_neg (show ¬ 18446744073709551615 < hi + d by omega)]
      · rw [if_neg h3, if_pos (show 18446744073709551615 < hi + d by omega)]
    · rw [if_neg h2, if_pos (.inl (by omega))]
theorem rowU_keep {w w' : World} {B n : Nat} {t : TypeId} {v : Value} {xs : List Value} (h : w.ownsRow B t 1 v n xs) (hk : ∀ k, v.ownBlock = some k → w'.heap[k]? = w.heap[k]?) : w'.ownsRow B t 1 v n xs := by
  refine ⟨h.1, ?_⟩
  rcases h.2 with h' | ⟨g, cap, cur, e, hbase, hh, r⟩
  · exact .inl h'
  · subst e
    exact .inr ⟨g, cap, cur, rfl, hbase, (hk g rfl).trans hh, r⟩
theorem rowU_below {w w' : World} {B n : Nat} {t : TypeId} {v : Value} {xs : List Value} (h : w.ownsRow B t 1 v n xs) (hb : Below w.heap.size w w') : w'.ownsRow B t 1 v n xs := rowU_keep h fun k hk => hb.block k (h.lt k hk).2
theorem Kp3.row {w w' : World} {v v' r : Value} {B n : Nat} {t : TypeId} {xs : List Value} (h : Kp3 w v w' v') (hr : w.ownsRow B t 1 r n xs) (ap : Apt v r) : w'.ownsRow B t 1 r n xs ∧ Apt v' r := by
  refine ⟨rowU_keep hr fun k hk => h.blk k (hr.lt k hk).2 (fun e => ap k e hk), fun k hk hk2 => ?_⟩
  rcases h.own k hk with e | e
  · exact ap k e hk2
  · have := (hr.lt k hk2).2; omega
theorem app3U {ops : Array Oper} {rest : List Oper} {o : Oper} {a : Act} {Q : Exit → Act → World → Prop} (hgd : o.guard = none) (s x : Operand)
    (ho : o.op = .call { callee := .builtin .append, args := #[s, x], argTypes := #[73, 73] }) (w : World) (base n : Nat) (v : Value) (ys : List Int) (y : Int)
    (hs : a.eval s = v) (hx : a.eval x = .slice (some ⟨w.heap.size, 0, none⟩) 1 1) (hown : w.ownsRow base 23 1 v n (flatU ys)) (hn : n ≤ 2000) (hb : base ≤ w.heap.size)
    (h : ∀ v' w', w'.ownsRow base 23 1 v' (n + 1) (flatU (ys ++ [y])) → Below base w w' → Kp3 w v w' v' → wpList Try.prog ops Q rest (a.put o.dst v') w') :
    wpList Try.prog ops Q (o :: rest) a (w.alloc (.cells #[.int .u64 y] 23)) := by
  obtain ⟨i0, hi, hz0, hz1, hz2⟩ := info_parts infoU
  refine wpList_append_own_at _ hgd s x 73 ho base 23 i0 _ 1 8 Try.underlying73 hi hz0 hz1 hz2 rfl (by omega) v n (flatU ys) hs (hown.alloc _) ⟨w.heap.size, 0, none⟩ 1 1 [.int .u64 y] hx rfl ?_ ?_ (by unfold maxLen; omega) (by omega) (by simp; omega) ?_
  · intro j u hj
    rw [addr_lit, Nat.zero_add, World.cell?_alloc_new]
    simpa using hj
  · intro u hu
    simp at hu
    subst hu
    rfl
  · intro v' w' h1 h2 _ hat
    rw [show flatU ys ++ [.int .u64 y] = flatU (ys ++ [y]) by simp [flatU]] at h1
    have hs2 := h2.size
    simp at hs2
    refine h v' w' h1 (((Below.refl _ _).alloc hb _).grown h2 (by simp; omega) fun k hk => (hown.lt k hk).1) ⟨fun k hk hne => ?_, fun k hk => ?_, by omega⟩
    · exact (h2.block k (by simp; omega) (fun e => hne e.symm)).trans (Below.heap_alloc w _ k hk)
    · rcases hat with e | e
      · exact .inl (e.symm.trans hk)
      · rw [hk] at e
        injection e with e
        simp at e
        exact .inr (by omega)
theorem keys_in {p : List Om.Pr} {j : Nat} {x : Om.Pr} {lo hi : Int} (hx : p[j]? = some x) (c : lo ≤ x.1 ∧ x.1 ≤ hi) : keysL (inL (p.take (j + 1)) lo hi) = keysL (inL (p.take j) lo hi) ++ [x.1] := by
  rw [(Om.in_take hx c).1]; simp [keysL]
theorem keys_out {p : List Om.Pr} {j : Nat} {x : Om.Pr} {lo hi : Int} (hx : p[j]? = some x) (c : ¬ (lo ≤ x.1 ∧ x.1 ≤ hi)) : keysL (inL (p.take (j + 1)) lo hi) = keysL (inL (p.take j) lo hi) := by
  rw [(Om.out_take hx c).1]
theorem keys_len (p : List Om.Pr) (lo hi : Int) : (keysL (inL p lo hi)).length ≤ p.length := by
  unfold keysL; rw [List.length_map]; exact List.length_filter_le _ _
set_option maxRecDepth 100000 in
set_option maxHeartbeats 2000000 in
theorem moveR (A : Option Addr) (n c : Nat) (p : List Om.Pr) (lo hi d : Int) (w : World) (hn : p.length = n) (hs : n ≤ 200) (hz : A = none → c = 0) (hr : Om.Rd w A p) (hb : Om.Bd p) (ll : 0 ≤ lo) (lh : lo ≤ 18446744073709551615) (hl : 0 ≤ hi) (hh : hi ≤ 18446744073709551615) (dl : 0 ≤ d) (dh : d ≤ 18446744073709551615) :
    Calls Try.prog 13 #[.slice A n c, .agg #[.int .u64 lo, .int .u64 hi], .int .u64 d] w (APost w (mvE p lo hi d) (mvR p lo hi d)) := by
  have b0 : Below w.heap.size w (w.alloc (.cells #[.int .u64 lo, .int .u64 hi] 25)) := bel_alloc (Below.refl _ _) _
  have s0 : (w.alloc (.cells #[.int .u64 lo, .int .u64 hi] 25)).cell? ⟨w.heap.size, 0, none⟩ = some (.int .u64 lo) := by simp
  have s1 : (w.alloc (.cells #[.int .u64 lo, .int .u64 hi] 25)).cell? ⟨w.heap.size, 1, none⟩ = some (.int .u64 hi) := by simp
  have hsz : w.heap.size < (w.alloc (.cells #[.int .u64 lo, .int .u64 hi] 25)).heap.size := by simp
  by_cases ha : Asc p
  · have CA := Lib.hid (ascR_any A n c p _ hn (by omega) (hr.below b0) true ⟨fun _ => ha, fun _ => rfl⟩)
    have HE0 := Lib.hid (mvE_mo (lo := lo) (hi := hi) (d := d) ha)
    have HR := Lib.hid hr; have HL := Lib.hid hn; have HZ := Lib.hid hz; have HBP := Lib.hid hb; have HA := Lib.hid ha
    have CH := fun k h1 h2 W => Lib.hid (Om.hasR_any lo hi k ll lh hl hh h1 h2 W)
    have CMo := fun bm v W h => Lib.hid (moR_any bm v p lo hi d W h (by rw [hn]; omega) hb ll lh hl hh dl dh)
    unfold moT at CMo
    clear hr hz hb ha hn
    go_enter Try.func13, Try.ntmps13
    go_wp2_with fail
    refine CA.out.mono ?_
    rintro r W1 ⟨rfl, b1⟩
    replace s0 := (b1.cell (p := ⟨w.heap.size, 0, none⟩) hsz).trans s0
    replace s1 := (b1.cell (p := ⟨w.heap.size, 1, none⟩) hsz).trans s1
    have hsz1 := Nat.lt_of_lt_of_le hsz b1.size
    have bw1 := bel_trans b0 b1
    have HR1 := Lib.hid (HR.out.below bw1)
    clear CA b0 b1 hsz
    go_wp2_with (at_builtin; refine Om.appAll rfl (.tmp 17) (.tmp 18) rfl W1 A n c p rfl rfl HL.out (by omega) HR1.out HZ.out ?_; intro v1 w1 h1 b1; obtain ⟨_, A', c', e', _⟩ := Om.row_form h1; subst e'; have H1 := Lib.hid h1; clear h1; have B1 := Lib.hid b1; have b2 := bel_alloc b1 (.cells #[.slice A' n c'] 72); have t0 := (b2.cell (p := ⟨w.heap.size, 0, none⟩) hsz1).trans s0; have t1 := (b2.cell (p := ⟨w.heap.size, 1, none⟩) hsz1).trans s1; clear b1; have BW2 := Lib.hid (bel_trans bw1 b2); have B12 := Lib.hid b2; clear b2)
    have S0 := Lib.hid s0; have S1 := Lib.hid s1
    have hne : ∀ k, (Value.slice A' n c').ownBlock = some k → k ≠ w1.heap.size := fun k hk => by have := (H1.out.lt k hk).2; omega
    have hpl := HL.out
    have MA0 := Lib.hid (show MapAt (w1.alloc (.cells #[.slice A' n c'] 72)) w1.heap.size (.slice A' n c') p from
      ⟨by simp, by simp, Om.row_base (by have h := H1.out.alloc (.cells #[.slice A' n c'] 72); rw [← HL.out] at h ⊢; exact h) (Nat.zero_le _), fun e => hne _ e rfl⟩)
    have FR0 := Lib.hid (show Fresh W1.heap.size (.slice A' n c') from Om.row_fresh H1.out)
    have hbm : W1.heap.size ≤ w1.heap.size := B1.out.size
    clear hne hpl H1 B1 s0 s1
    generalize w1.alloc (.cells #[.slice A' n c'] 72) = w2 at *
    generalize w1.heap.size = bm at *
    refine (CMo bm _ w2 MA0.out).out.mono ?_
    rintro rr W4 ⟨v', rfl, hmap, hnx, hchg⟩
    have belC := hchg.below (B := W1.heap.size) hbm FR0.out B12.out.size
    have MP := Lib.hid hmap
    have B14 := Lib.hid (B12.out.trans belC)
    have BW4 := Lib.hid (bel_trans bw1 B14.out)
    replace t0 := (belC.cell (p := ⟨w.heap.size, 0, none⟩) hsz1).trans ((B12.out.cell (p := ⟨w.heap.size, 0, none⟩) hsz1).trans S0.out)
    replace t1 := (belC.cell (p := ⟨w.heap.size, 1, none⟩) hsz1).trans ((B12.out.cell (p := ⟨w.heap.size, 1, none⟩) hsz1).trans S1.out)
    have hsz4 := Nat.lt_of_lt_of_le hsz1 B14.out.size
    clear hmap hnx hchg belC MA0 FR0 BW2 B12 CMo HR1
    by_cases hE : moE lo hi d = 0
    · have HM := Lib.hid (mvR_yes (HE0.out.trans hE))
      have HE := Lib.hid (HE0.out.trans hE)
      have hml : moL p lo hi d = mvL p lo hi d := if_pos hE
      have MP := Lib.hid (show MapAt W4 bm v' (mvL p lo hi d) from by rw [← hml]; exact MP.out)
      have hmv := Om.mvL_len_le p lo hi d
      have HMA := Lib.hid (Om.mvL_asc HA.out lo hi d)
      have hin : ∀ x, x ∈ p → lo ≤ x.1 → x.1 ≤ hi → x.1 + d ≤ 18446744073709551615 := fun x _ _ h => by
        unfold moE at hE
        split at hE
        · cases hE
        · split at hE
          · cases hE
          · omega
      have HIN := Lib.hid hin
      rw [hE]
      rw [HE.out, HM.out]
      clear hE hml hin HE0
      go_wp2
      go_loopw [11, 12, 13] (fun qf qt i wr => ∃ j : Nat, j ≤ n ∧ i = .int .i64 j ∧ wr.ownsRow W4.heap.size 23 1 qf (keysL (inL (p.take j) lo hi)).length (flatU (keysL (inL (p.take j) lo hi))) ∧ wr.ownsRow W4.heap.size 23 1 qt (keysL (inL (p.take j) lo hi)).length (flatU ((keysL (inL (p.take j) lo hi)).map (· + d))) ∧ Apt qf qt ∧ Below W4.heap.size W4 wr) (fun _ _ i _ => (n - intOf i).toNat)
      case atStart => exact ⟨0, Nat.zero_le _, rfl, World.ownsRow_nil _ _ _ _, World.ownsRow_nil _ _ _ _, Om.apt_nil _, Below.refl _ _⟩
      case round =>
        obtain ⟨j, hj, rfl, hqf, hqt, hap, bel⟩ := hrel
        have hkl := keys_len (p.take j) lo hi
        have hkl2 : (p.take j).length ≤ 200 := by rw [List.length_take]; omega
        by_cases hlt : j < n
        · have HQF := Lib.hid hqf; have HQT := Lib.hid hqt; have AP := Lib.hid hap
          clear hqf hqt hap
          obtain ⟨x, hx, hxm⟩ := pr_lt HL.out hlt
          obtain ⟨b1, o1, eA, g0, g1⟩ := (HR.out.below (bel_trans BW4.out bel)) j _ hx
          obtain ⟨bb, oo, ee, g0', _⟩ := HR.out j _ hx
          subst eA
          cases ee
          have blt : b1 < W4.heap.size := Nat.lt_of_lt_of_le (World.block_lt_of_cell? _ _ g0') BW4.out.size
          have u0 : decide ((j : Int) < n) = true := decide_eq_true (by omega)
          have hji : (j : Int) < n := by omega
          obtain ⟨d0, d1, d2, d3⟩ := HBP.out x hxm
          have HC := fun W => Lib.hid (CH x.1 d0 d1 W).out
          have p0 := (bel.cell (p := ⟨w.heap.size, 0, none⟩) hsz4).trans t0
          have p1 := (bel.cell (p := ⟨w.heap.size, 1, none⟩) hsz4).trans t1
          have k0 := cell_regrown g0
          have k2 := cell_regrown p0
          have k3 := cell_regrown p1
          clear g1 g0'
          by_cases hin : lo ≤ x.1 ∧ x.1 ≤ hi
          · have hs1 := HIN.out x hxm hin.1 hin.2
            have hs0 : 0 ≤ x.1 + d := by omega
            have HK := Lib.hid (keys_in hx hin)
            rw [decide_eq_true hin] at HC
            clear hx hxm hin
            go_wp2
            refine wp_region_quiet_below (by kernel_rfl) (by kernel_rfl) ?_
            repeat (go_big_quiet_step ((go_at_call 43; exact Calls.regrown_of (HC _).out)))
            refine wpQuiet_nil ?_
            intro _ hw'
            obtain ⟨⟨dq, osq⟩, hw''⟩ := hw'
            subst hw''
            have b2 := below_regrown wr dq osq
            show Exit.then _ _ Exit.normal _ (grow (redrawn wr dq) osq)
            replace k0 := k0 dq osq
            have HQF2 := Lib.hid (rowU_below HQF.out b2)
            have HQT2 := Lib.hid (rowU_below HQT.out b2)
            have bel2 := bel_trans bel b2
            clear HQF HQT k2 k3 p0 p1 g0 b2 bel
            generalize grow (redrawn wr dq) osq = w2 at *
            have g0 := k0
            clear k0
            go_wp2_with (first | (at_builtin; refine app3U rfl (.tmp 45) (.tmp 51) rfl w2 W4.heap.size _ _ (keysL (inL (p.take j) lo hi)) x.1 rfl rfl HQF2.out (by omega) bel2.size ?_; intro v8 w8 h1 b8 k8; have HF8 := Lib.hid h1; have HT8 := Lib.hid (k8.row HQT2.out AP.out); have bel8 := bel2.trans b8; have g8 := (b8.cell (p := ⟨b1, o1 + j * 2, none⟩) blt).trans g0; clear h1 k8) | (at_builtin; refine app3U rfl (.tmp 53) (.tmp 61) rfl w8 W4.heap.size _ _ ((keysL (inL (p.take j) lo hi)).map (· + d)) (x.1 + d) rfl rfl HT8.out.1 (by omega) bel8.size ?_; intro v9 w9 h1 b9 k9; have HT9 := Lib.hid h1; have HF9 := Lib.hid (k9.row HF8.out (Om.Apt.symm HT8.out.2)); clear h1 k9))
            go_roundw
            case rel => exact ⟨j + 1, by omega, by go_num, by rw [HK.out, List.length_append]; exact HF9.out.1, by rw [HK.out, List.length_append, List.map_append]; exact HT9.out, Om.Apt.symm HF9.out.2, bel8.trans b9⟩
            case measure => simp [intOf]; omega
          · have HK := Lib.hid (keys_out hx hin)
            rw [decide_eq_false hin] at HC
            clear hx hxm hin
            go_wp2
            refine wp_region_quiet_below (by kernel_rfl) (by kernel_rfl) ?_
            repeat (go_big_quiet_step ((go_at_call 43; exact Calls.regrown_of (HC _).out)))
            refine wpQuiet_nil ?_
            intro _ hw'
            obtain ⟨⟨dq, osq⟩, hw''⟩ := hw'
            subst hw''
            have b2 := below_regrown wr dq osq
            show Exit.then _ _ Exit.normal _ (grow (redrawn wr dq) osq)
            have HQF2 := Lib.hid (rowU_below HQF.out b2)
            have HQT2 := Lib.hid (rowU_below HQT.out b2)
            have bel2 := bel_trans bel b2
            clear HQF HQT k0 k2 k3 p0 p1 g0 b2 bel
            generalize grow (redrawn wr dq) osq = w2 at *
            go_wp2
            go_roundw
            case rel => exact ⟨j + 1, by omega, by go_num, by rw [HK.out]; exact HQF2.out, by rw [HK.out]; exact HQT2.out, AP.out, bel2⟩
            case measure => simp [intOf]; omega
        · obtain rfl : j = n := by omega
          have u0 : decide ((j : Int) < j) = false := decide_eq_false (by omega)
          have HT : p.take j = p := List.take_of_length_le (by rw [HL.out]; omega)
          rw [HT] at hqf hqt hkl
          clear HT
          obtain ⟨nf, hnf⟩ : ∃ nf, (keysL (inL p lo hi)).length = nf := ⟨_, rfl⟩
          rw [hnf] at hqf hqt hkl
          obtain ⟨lf, FA, FC, rfl, rf⟩ := rowU_rd hqf
          obtain ⟨lt, TA, TC, rfl, rt⟩ := rowU_rd hqt
          have hkl3 : nf ≤ 200 := by have := HL.out; omega
          have CM := fun W (b : Below wr.heap.size wr W) => Lib.hid (mergedR_any FA TA nf FC nf TC (keysL (inL p lo hi)) ((keysL (inL p lo hi)).map (· + d)) W lf lt (by omega) (by omega) (rf.below b) (rt.below b))
          obtain ⟨MA, MC, ev, hmc, hmr, hmz⟩ := MP.out.rd
          have mc := (MP.out.below bel).1
          have mlt := Nat.lt_of_lt_of_le MP.out.lt bel.size
          subst ev
          have HMR := Lib.hid hmr
          have hmkl := mergeK_len (keysL (inL p lo hi)) ((keysL (inL p lo hi)).map (· + d))
          rw [List.length_map] at hmkl
          have BB := fun W (b : Below wr.heap.size wr W) D m' c2 (hm' : (mergeK (keysL (inL p lo hi)) ((keysL (inL p lo hi)).map (· + d))).length = m') (rd : RdU W D (mergeK (keysL (inL p lo hi)) ((keysL (inL p lo hi)).map (· + d)))) => Lib.hid (betweenR_any A MA D j c (mvL p lo hi d).length MC m' c2 p (mvL p lo hi d) _ W HL.out rfl hm' (by omega) (by have := HL.out; omega) (by omega) (HR.out.below (bel_trans BW4.out (bel_trans bel b))) (HMR.out.below (bel_trans bel b)) rd HA.out HMA.out)
          clear hqf hqt hap rf rt hmr lf lt hmkl
          go_wp2
          go_region_held3 (fun w' => w'.cell? ⟨bm, 0, none⟩ = some (.slice MA (mvL p lo hi d).length MC)) (first | exact m7 | exact m6 | go_keep) (first | (go_at_call 45; refine (CM _ (by first | exact Below.refl _ _ | exact below_drewN (Below.refl _ _) _)).out.mono ?_; rintro r6 w6 ⟨v6, rfl, o6, b6⟩; obtain ⟨l6, A6, C6, e6, rr6⟩ := rowU_rd o6; subst e6; have m6 : w6.cell? ⟨bm, 0, none⟩ = some (.slice MA (mvL p lo hi d).length MC) := (b6.cell (p := ⟨bm, 0, none⟩) mlt).trans mc; have B6 := Lib.hid (bel_trans (below_drewN (Below.refl wr.heap.size wr) 1) b6); have R6 := Lib.hid rr6; clear o6 b6 rr6 l6) | (go_at_call 44; refine (BB _ B6.out A6 _ C6 rfl R6.out).out.mono ?_; rintro r7 w7 ⟨v7, rfl, o7, b7⟩; have O7 := Lib.hid o7; have m7 := (b7.cell (p := ⟨bm, 0, none⟩) (World.block_lt_of_cell? _ _ m6)).trans m6; have B7 := Lib.hid b7; clear o7 b7))
          go_wp2
          go_ret2
          rw [HE.out, HM.out]
          refine ⟨v7, rfl, ?_, bel_trans BW4.out (bel_trans bel (bel_trans B6.out B7.out))⟩
          have h := O7.out
          rw [btw_eq] at h
          rw [List.length_map]
          show w7.ownsRow _ _ _ _ (plan _ _ _).length _
          rw [show (plan (mvK p lo hi d) (Om.getL p) (Om.getL (mvL p lo hi d))).length = (mvK p lo hi d).length by unfold plan; rw [List.length_map]]
          exact row_base h (bel_trans BW4.out (bel_trans bel B6.out)).size
    · have HE := Lib.hid (HE0.out)
      have hne : mvE p lo hi d ≠ 0 := by rw [HE0.out]; exact hE
      have HM := Lib.hid (mvR_no rfl hne)
      rw [if_neg hE]
      have u1 : (moE lo hi d != 0) = true := by simp [hE]
      clear hE hne HE0
      generalize moE lo hi d = EE at *
      go_wp2
      go_ret2
      rw [HE.out, HM.out]
      exact APost.err BW4.out
  · have CA := Lib.hid (ascR_any A n c p _ hn (by omega) (hr.below b0) false ⟨fun q => by (cases q), fun q => absurd q ha⟩)
    have HE := Lib.hid (mvE_asc (lo := lo) (hi := hi) (d := d) ha)
    have HM := Lib.hid (mvR_no HE.out (by omega))
    clear hr ha
    rw [HE.out, HM.out]
    go_enter Try.func13, Try.ntmps13
    go_wp2_with fail
    refine CA.out.mono ?_
    rintro r W1 ⟨rfl, b1⟩
    go_wp2
    go_ret2
    exact APost.err (bel_trans b0 b1)
set_option maxRecDepth 100000 in
set_option maxHeartbeats 2000000 in
theorem deleteR (A : Option Addr) (n c : Nat) (p : List Om.Pr) (lo hi : Int) (w : World) (hn : p.length = n) (hs : n ≤ 200) (hz : A = none → c = 0) (hr : Om.Rd w A p) (hb : Om.Bd p) (ll : 0 ≤ lo) (lh : lo ≤ 18446744073709551615) (hl : 0 ≤ hi) (hh : hi ≤ 18446744073709551615) :
    Calls Try.prog 15 #[.slice A n c, .agg #[.int .u64 lo, .int .u64 hi]] w (APost w (deE p lo hi) (deR p lo hi)) := by
  have b0 : Below w.heap.size w (w.alloc (.cells #[.int .u64 lo, .int .u64 hi] 25)) := bel_alloc (Below.refl _ _) _
  have s0 : (w.alloc (.cells #[.int .u64 lo, .int .u64 hi] 25)).cell? ⟨w.heap.size, 0, none⟩ = some (.int .u64 lo) := by simp
  have s1 : (w.alloc (.cells #[.int .u64 lo, .int .u64 hi] 25)).cell? ⟨w.heap.size, 1, none⟩ = some (.int .u64 hi) := by simp
  have hsz : w.heap.size < (w.alloc (.cells #[.int .u64 lo, .int .u64 hi] 25)).heap.size := by simp
  by_cases ha : Asc p
  · have CA := Lib.hid (ascR_any A n c p _ hn (by omega) (hr.below b0) true ⟨fun _ => ha, fun _ => rfl⟩)
    have HE0 := Lib.hid (deE_rg (lo := lo) (hi := hi) ha)
    have HR := Lib.hid hr; have HL := Lib.hid hn; have HZ := Lib.hid hz; have HBP := Lib.hid hb; have HA := Lib.hid ha
    have CH := fun k h1 h2 W => Lib.hid (Om.hasR_any lo hi k ll lh hl hh h1 h2 W)
    have CMo := fun bm v W h => Lib.hid (deR_any bm v p lo hi W h (by rw [hn]; omega) hb ll lh hl hh)
    unfold deT at CMo
    clear hr hz hb ha hn
    go_enter Try.func15, Try.ntmps15
    go_wp2_with fail
    refine CA.out.mono ?_
    rintro r W1 ⟨rfl, b1⟩
    replace s0 := (b1.cell (p := ⟨w.heap.size, 0, none⟩) hsz).trans s0
    replace s1 := (b1.cell (p := ⟨w.heap.size, 1, none⟩) hsz).trans s1
    have hsz1 := Nat.lt_of_lt_of_le hsz b1.size
    have bw1 := bel_trans b0 b1
    have HR1 := Lib.hid (HR.out.below bw1)
    clear CA b0 b1 hsz
    go_wp2_with (at_builtin; refine Om.appAll rfl (.tmp 14) (.tmp 15) rfl W1 A n c p rfl rfl HL.out (by omega) HR1.out HZ.out ?_; intro v1 w1 h1 b1; obtain ⟨_, A', c', e', _⟩ := Om.row_form h1; subst e'; have H1 := Lib.hid h1; clear h1; have B1 := Lib.hid b1; have b2 := bel_alloc b1 (.cells #[.slice A' n c'] 72); have t0 := (b2.cell (p := ⟨w.heap.size, 0, none⟩) hsz1).trans s0; have t1 := (b2.cell (p := ⟨w.heap.size, 1, none⟩) hsz1).trans s1; clear b1; have BW2 := Lib.hid (bel_trans bw1 b2); have B12 := Lib.hid b2; clear b2)
    have S0 := Lib.hid s0; have S1 := Lib.hid s1
    have hne : ∀ k, (Value.slice A' n c').ownBlock = some k → k ≠ w1.heap.size := fun k hk => by have := (H1.out.lt k hk).2; omega
    have hpl := HL.out
    have MA0 := Lib.hid (show MapAt (w1.alloc (.cells #[.slice A' n c'] 72)) w1.heap.size (.slice A' n c') p from
      ⟨by simp, by simp, Om.row_base (by have h := H1.out.alloc (.cells #[.slice A' n c'] 72); rw [← HL.out] at h ⊢; exact h) (Nat.zero_le _), fun e => hne _ e rfl⟩)
    have FR0 := Lib.hid (show Fresh W1.heap.size (.slice A' n c') from Om.row_fresh H1.out)
    have hbm : W1.heap.size ≤ w1.heap.size := B1.out.size
    clear hne hpl H1 B1 s0 s1
    generalize w1.alloc (.cells #[.slice A' n c'] 72) = w2 at *
    generalize w1.heap.size = bm at *
    refine (CMo bm _ w2 MA0.out).out.mono ?_
    rintro rr W4 ⟨v', rfl, hmap, hnx, hchg⟩
    have belC := hchg.below (B := W1.heap.size) hbm FR0.out B12.out.size
    have MP := Lib.hid hmap
    have B14 := Lib.hid (B12.out.trans belC)
    have BW4 := Lib.hid (bel_trans bw1 B14.out)
    replace t0 := (belC.cell (p := ⟨w.heap.size, 0, none⟩) hsz1).trans ((B12.out.cell (p := ⟨w.heap.size, 0, none⟩) hsz1).trans S0.out)
    replace t1 := (belC.cell (p := ⟨w.heap.size, 1, none⟩) hsz1).trans ((B12.out.cell (p := ⟨w.heap.size, 1, none⟩) hsz1).trans S1.out)
    have hsz4 := Nat.lt_of_lt_of_le hsz1 B14.out.size
    clear hmap hnx hchg belC MA0 FR0 BW2 B12 CMo HR1
    by_cases hE : rgE lo hi = 0
    · have HM := Lib.hid (deR_yes (HE0.out.trans hE))
      have HE := Lib.hid (HE0.out.trans hE)
      have hml : deL p lo hi = outL p lo hi := by
        unfold deL
        rw [if_pos]
        unfold rgE at hE
        split at hE
        · assumption
        · cases hE
      have MP := Lib.hid (show MapAt W4 bm v' (outL p lo hi) from by rw [← hml]; exact MP.out)
      have hmv := Om.outL_len p lo hi
      have HMA := Lib.hid (outL_asc' HA.out lo hi)
      rw [hE]
      rw [HE.out, HM.out]
      clear hE hml HE0
      go_wp2
      go_loopw [9, 10] (fun qf i wr => ∃ j : Nat, j ≤ n ∧ i = .int .i64 j ∧ wr.ownsRow W4.heap.size 23 1 qf (keysL (inL (p.take j) lo hi)).length (flatU (keysL (inL (p.take j) lo hi))) ∧ Below W4.heap.size W4 wr) (fun _ i _ => (n - intOf i).toNat)
      case atStart => exact ⟨0, Nat.zero_le _, rfl, World.ownsRow_nil _ _ _ _, Below.refl _ _⟩
      case round =>
        obtain ⟨j, hj, rfl, hqf, bel⟩ := hrel
        have hkl := keys_len (p.take j) lo hi
        have hkl2 : (p.take j).length ≤ 200 := by rw [List.length_take]; omega
        by_cases hlt : j < n
        · have HQF := Lib.hid hqf
          clear hqf
          obtain ⟨x, hx, hxm⟩ := pr_lt HL.out hlt
          obtain ⟨b1, o1, eA, g0, g1⟩ := (HR.out.below (bel_trans BW4.out bel)) j _ hx
          subst eA
          have u0 : decide ((j : Int) < n) = true := decide_eq_true (by omega)
          have hji : (j : Int) < n := by omega
          obtain ⟨d0, d1, d2, d3⟩ := HBP.out x hxm
          have HC := fun W => Lib.hid (CH x.1 d0 d1 W).out
          have p0 := (bel.cell (p := ⟨w.heap.size, 0, none⟩) hsz4).trans t0
          have p1 := (bel.cell (p := ⟨w.heap.size, 1, none⟩) hsz4).trans t1
          have k0 := cell_regrown g0
          have k2 := cell_regrown p0
          have k3 := cell_regrown p1
          clear g1
          by_cases hin : lo ≤ x.1 ∧ x.1 ≤ hi
          · have HK := Lib.hid (keys_in hx hin)
            rw [decide_eq_true hin] at HC
            clear hx hxm hin
            go_wp2
            refine wp_region_quiet_below (by kernel_rfl) (by kernel_rfl) ?_
            repeat (go_big_quiet_step ((go_at_call 43; exact Calls.regrown_of (HC _).out)))
            refine wpQuiet_nil ?_
            intro _ hw'
            obtain ⟨⟨dq, osq⟩, hw''⟩ := hw'
            subst hw''
            have b2 := below_regrown wr dq osq
            show Exit.then _ _ Exit.normal _ (grow (redrawn wr dq) osq)
            replace k0 := k0 dq osq
            have HQF2 := Lib.hid (rowU_below HQF.out b2)
            have bel2 := bel_trans bel b2
            clear HQF k2 k3 p0 p1 g0 b2 bel
            generalize grow (redrawn wr dq) osq = w2 at *
            have g0 := k0
            clear k0
            go_wp2_with (at_builtin; refine app1U rfl (.tmp 41) (.tmp 47) rfl w2 W4.heap.size _ _ (keysL (inL (p.take j) lo hi)) x.1 rfl rfl HQF2.out (by omega) bel2.size ?_; intro v8 w8 h1 b8; have HF8 := Lib.hid h1; have bel8 := bel2.trans b8; clear h1)
            go_roundw
            case rel => exact ⟨j + 1, by omega, by go_num, by rw [HK.out, List.length_append]; exact HF8.out, bel8⟩
            case measure => simp [intOf]; omega
          · have HK := Lib.hid (keys_out hx hin)
            rw [decide_eq_false hin] at HC
            clear hx hxm hin
            go_wp2
            refine wp_region_quiet_below (by kernel_rfl) (by kernel_rfl) ?_
            repeat (go_big_quiet_step ((go_at_call 43; exact Calls.regrown_of (HC _).out)))
            refine wpQuiet_nil ?_
            intro _ hw'
            obtain ⟨⟨dq, osq⟩, hw''⟩ := hw'
            subst hw''
            have b2 := below_regrown wr dq osq
            show Exit.then _ _ Exit.normal _ (grow (redrawn wr dq) osq)
            have HQF2 := Lib.hid (rowU_below HQF.out b2)
            have bel2 := bel_trans bel b2
            clear HQF k0 k2 k3 p0 p1 g0 b2 bel
            generalize grow (redrawn wr dq) osq = w2 at *
            go_wp2
            go_roundw
            case rel => exact ⟨j + 1, by omega, by go_num, by rw [HK.out]; exact HQF2.out, bel2⟩
            case measure => simp [intOf]; omega
        · obtain rfl : j = n := by omega
          have u0 : decide ((j : Int) < j) = false := decide_eq_false (by omega)
          have HT : p.take j = p := List.take_of_length_le (by rw [HL.out]; omega)
          rw [HT] at hqf hkl
          clear HT
          obtain ⟨nf, hnf⟩ : ∃ nf, (keysL (inL p lo hi)).length = nf := ⟨_, rfl⟩
          rw [hnf] at hqf hkl
          obtain ⟨lf, FA, FC, rfl, rf⟩ := rowU_rd hqf
          obtain ⟨MA, MC, ev, hmc, hmr, hmz⟩ := MP.out.rd
          have mc := (MP.out.below bel).1
          subst ev
          have HMR := Lib.hid hmr
          have BB := Lib.hid (betweenR_any A MA FA j c (outL p lo hi).length MC nf FC p (outL p lo hi) (keysL (inL p lo hi)) wr HL.out rfl lf (by omega) (by have := HL.out; omega) (by have := HL.out; omega) (HR.out.below (bel_trans BW4.out bel)) (HMR.out.below bel) rf HA.out HMA.out)
          clear hqf rf hmr lf
          go_wp2_with fail
          refine BB.out.mono ?_
          rintro r7 w7 ⟨v7, rfl, o7, b7⟩
          have O7 := Lib.hid o7
          clear o7
          go_wp2
          go_ret2
          rw [HE.out, HM.out]
          refine ⟨v7, rfl, ?_, bel_trans BW4.out (bel_trans bel b7)⟩
          have h := O7.out
          rw [btw_eq] at h
          rw [List.length_map]
          rw [show (deP p lo hi).length = nf by unfold deP plan; rw [List.length_map]; exact hnf]
          exact row_base h (bel_trans BW4.out bel).size
    · have HE := Lib.hid (HE0.out)
      have hne : deE p lo hi ≠ 0 := by rw [HE0.out]; exact hE
      have HM := Lib.hid (deR_no rfl hne)
      have u1 : (rgE lo hi != 0) = true := by simp [hE]
      clear hE hne HE0
      generalize rgE lo hi = EE at *
      go_wp2
      go_ret2
      rw [HE.out, HM.out]
      exact APost.err BW4.out
  · have CA := Lib.hid (ascR_any A n c p _ hn (by omega) (hr.below b0) false ⟨fun q => by (cases q), fun q => absurd q ha⟩)
    have HE := Lib.hid (deE_asc (lo := lo) (hi := hi) ha)
    have HM := Lib.hid (deR_no HE.out (by omega))
    clear hr ha
    rw [HE.out, HM.out]
    go_enter Try.func15, Try.ntmps15
    go_wp2_with fail
    refine CA.out.mono ?_
    rintro r W1 ⟨rfl, b1⟩
    go_wp2
    go_ret2
    exact APost.err (bel_trans b0 b1)
end Pl
end Go.Proofs.Ytbdllakbkienoaa
