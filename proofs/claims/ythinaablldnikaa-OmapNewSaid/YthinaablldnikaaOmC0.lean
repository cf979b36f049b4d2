/- Get, Put, PutIfAbsent, Delete and CompareAndSwap of package omap: contracts of the translated code. Conditions: at most 1000 pairs with increasing keys; the bounds of each number's kind. -/
import Derived.Test.YthinaablldnikaaOmK
namespace Go.Proofs.Ythinaablldnikaa
open Go.RowKit Go.Sort Go.Lib
set_option linter.unusedVariables false
set_option linter.unusedSimpArgs false
namespace Om
theorem getC_nil (key : Int) (w : World) : Calls Try.prog 23 #[.pointer none, .int .u64 key] w fun e w' => e = .returned (gT none) ∧ w = w' := by
  go_enter Try.func23, Try.ntmps23
  go_wp2
  go_ret2
  exact ⟨rfl, rfl⟩
theorem getC_any (bm : Nat) (v : Value) (l : List Pr) (key : Int) (w : World) (hm : MapAt w bm v l) (ha : Asc l) (hs : l.length ≤ 1000) :
    Calls Try.prog 23 #[.pointer (some ⟨bm, 0, none⟩), .int .u64 key] w fun e w' => e = .returned (gT (getL l key)) ∧ Below w.heap.size w w' := by
  have C := Lib.hid (find_any bm v l key w hm ha hs)
  have HG := Lib.hid (show gT (getL l key) = .tuple #[.int .u64 ((getL l key).getD 0), .bool (getL l key).isSome] from rfl)
  unfold fT at C
  generalize (getL l key).getD 0 = q1 at *
  generalize (getL l key).isSome = q2 at *
  generalize lowN l key = q3 at *
  clear hm ha hs
  go_enter Try.func23, Try.ntmps23
  go_wp2_with fail
  refine C.out.mono ?_
  rintro r w1 ⟨rfl, b1⟩
  go_wp2
  go_ret2
  exact ⟨by rw [HG.out]; rfl, b1⟩
/-- one value of a row changed in its place -/
theorem set_value {W : World} {bm g n c at' : Nat} {l : List Pr} {key u : Int} (x : Int) (hm : MapAt W bm (.slice (some ⟨g, 0, none⟩) n c) l) (hn : l.length = n) (hx : l[at']? = some (key, u)) :
    W.cell? ⟨g, at' * 2 + 1, none⟩ = some (.int .u64 u) ∧ W.frozen? ⟨g, at' * 2 + 1, none⟩ = false ∧ MapAt (W.setCell ⟨g, at' * 2 + 1, none⟩ (.int .u64 x)) bm (.slice (some ⟨g, 0, none⟩) n c) (l.set at' (key, x)) ∧ Chg bm (.slice (some ⟨g, 0, none⟩) n c) W (W.setCell ⟨g, at' * 2 + 1, none⟩ (.int .u64 x)) := by
  subst hn
  have ho := own_of_row hm.2.2.1
  obtain ⟨c0, c1, f0, f1⟩ := ho at' _ hx
  simp only [Nat.zero_add] at c0 c1 f0 f1
  have hbg : bm ≠ g := fun e => hm.2.2.2 (by rw [e]; rfl)
  have hc' := World.cell?_setCell_same W ⟨g, at' * 2 + 1, none⟩ (.int .u64 x) c1
  have hl : (l.set at' (key, x)).length = l.length := List.length_set
  refine ⟨c1, f1, ⟨?_, ?_, ?_, hm.2.2.2⟩, ⟨rfl, rfl, rfl, by simp, fun k hk hb hv => heap_setCell_other W _ k _ (fun e => hv (by rw [e]; rfl))⟩⟩
  · rw [World.cell?_setCell_other _ _ _ _ (by simp <;> (intro e; exact absurd e.symm hbg))]; exact hm.1
  · rw [World.frozen?_setCell]; exact hm.2.1
  · rw [hl]
    refine row_again hm.2.2.1 (fun cur h => ⟨_, heap_setCell_same W g _ cur _ _ h, by simp⟩) (fun k y hk => ?_) hl
    rw [List.getElem?_set] at hk
    rw [World.frozen?_setCell, World.frozen?_setCell]
    simp only [Nat.zero_add]
    by_cases e : at' = k
    · subst e
      rw [if_pos rfl, if_pos (List.getElem?_eq_some_iff.1 hx).1] at hk
      cases hk
      refine ⟨?_, hc', f0, f1⟩
      rw [World.cell?_setCell_other _ _ _ _ (by simp)]; exact c0
    · rw [if_neg e] at hk
      obtain ⟨d0, d1, e0, e1⟩ := ho k y hk
      simp only [Nat.zero_add] at d0 d1 e0 e1
      refine ⟨?_, ?_, e0, e1⟩
      · rw [World.cell?_setCell_other _ _ _ _ (by simp <;> omega)]; exact d0
      · rw [World.cell?_setCell_other _ _ _ _ (by simp <;> omega)]; exact d1
/-- a map that holds a pair has a row in memory -/
theorem MapAt.some {w : World} {bm : Nat} {v : Value} {l : List Pr} (h : MapAt w bm v l) (hl : 0 < l.length) : ∃ g c, v = .slice (some ⟨g, 0, none⟩) l.length c ∧ l.length ≤ c ∧ c ≤ maxLen := by
  rcases h.2.2.1.2 with ⟨_, e⟩ | ⟨g, cap, cur, rfl, _, _, hnc, hcm, _⟩
  · omega
  · exact ⟨g, cap, rfl, hnc, hcm⟩
set_option maxRecDepth 100000 in
set_option maxHeartbeats 2000000 in
theorem putC_any (bm : Nat) (v : Value) (l : List Pr) (key x : Int) (w : World) (hm : MapAt w bm v l) (ha : Asc l) (hs : l.length ≤ 1000) :
    Calls Try.prog 21 #[.pointer (some ⟨bm, 0, none⟩), .int .u64 key, .int .u64 x] w (Opn w bm v (setL l (key, x)) (pT (getL l key))) := by
  have C := Lib.hid (find_any bm v l key w hm ha hs)
  have HM := Lib.hid hm
  have hat := lowN_le l key
  cases hg : getL l key with
  | none =>
    have HE := Lib.hid (set_new ha x hg)
    have CI := fun W h => Lib.hid (insertM_any bm v l (lowN l key) key x W h hs hat)
    unfold fT at C
    rw [hg] at C
    simp only [Option.getD_none, Option.isSome_none] at C
    generalize lowN l key = at' at *
    clear hg ha hm
    go_enter Try.func21, Try.ntmps21
    go_wp2_with fail
    refine C.out.mono ?_
    rintro r w1 ⟨rfl, b1⟩
    go_wp2_with fail
    refine (CI w1 (HM.out.below b1)).out.mono ?_
    intro r w2 hO
    have HO := Lib.hid hO
    obtain ⟨v', rfl, hO'⟩ := hO
    clear hO'
    go_wp2
    go_ret3
    rw [HE.out]
    exact HO.out.behind b1 rfl
  | some u =>
    obtain ⟨hx, hlt⟩ := at_get ha hg
    have HE := Lib.hid (set_at ha x hg)
    obtain ⟨g, c, rfl, hnc, hcm⟩ := hm.some (by omega)
    unfold fT at C
    rw [hg] at C
    simp only [Option.getD_some, Option.isSome_some] at C
    have HX := Lib.hid hx
    generalize lowN l key = at' at *
    obtain ⟨n, hn⟩ : ∃ n, l.length = n := ⟨_, rfl⟩
    rw [hn] at HM hlt hnc ⊢
    have HN := Lib.hid hn
    have hlti : (at' : Int) < n := by omega
    clear hg ha hm hx hn hat
    go_enter Try.func21, Try.ntmps21
    go_wp2_with fail
    refine C.out.mono ?_
    rintro r w1 ⟨rfl, b1⟩
    have HM1 := Lib.hid (HM.out.below b1)
    have m1 := HM1.out.1
    obtain ⟨c1, f1, k1, k2⟩ := set_value x HM1.out HN.out HX.out
    have HK := Lib.hid (show Opn w1 bm (.slice (some ⟨g, 0, none⟩) n c) (l.set at' (key, x)) (.tuple #[]) (.returned (.tuple #[])) _ from ⟨_, rfl, k1, Nx.refl _ _, k2⟩)
    clear k1 k2
    go_wp2
    go_ret3
    rw [HE.out]
    exact HK.out.behind b1 rfl
set_option maxRecDepth 100000 in
set_option maxHeartbeats 2000000 in
theorem putAbsC_any (bm : Nat) (v : Value) (l : List Pr) (key x : Int) (w : World) (hm : MapAt w bm v l) (ha : Asc l) (hs : l.length ≤ 1000) :
    Calls Try.prog 22 #[.pointer (some ⟨bm, 0, none⟩), .int .u64 key, .int .u64 x] w (Opn w bm v (paL l (getL l key) (key, x)) (pT (getL l key))) := by
  have C := Lib.hid (find_any bm v l key w hm ha hs)
  have HM := Lib.hid hm
  have hat := lowN_le l key
  cases hg : getL l key with
  | none =>
    have HE := Lib.hid (show paL l none (key, x) = _ from set_new ha x hg)
    have CI := fun W h => Lib.hid (insertM_any bm v l (lowN l key) key x W h hs hat)
    unfold fT at C
    rw [hg] at C
    simp only [Option.getD_none, Option.isSome_none] at C
    generalize lowN l key = at' at *
    clear hg ha hm
    go_enter Try.func22, Try.ntmps22
    go_wp2_with fail
    refine C.out.mono ?_
    rintro r w1 ⟨rfl, b1⟩
    go_wp2_with fail
    refine (CI w1 (HM.out.below b1)).out.mono ?_
    intro r w2 hO
    have HO := Lib.hid hO
    obtain ⟨v', rfl, hO'⟩ := hO
    clear hO'
    go_wp2
    go_ret3
    rw [HE.out]
    exact HO.out.behind b1 rfl
  | some u =>
    have HE := Lib.hid (show paL l (some u) (key, x) = l from rfl)
    unfold fT at C
    rw [hg] at C
    simp only [Option.getD_some, Option.isSome_some] at C
    generalize lowN l key = at' at *
    clear hg ha hm
    go_enter Try.func22, Try.ntmps22
    go_wp2_with fail
    refine C.out.mono ?_
    rintro r w1 ⟨rfl, b1⟩
    go_wp2
    go_ret3
    rw [HE.out]
    exact ⟨v, rfl, HM.out.below b1, Nx.refl _ _, Chg.of_below b1⟩
set_option maxRecDepth 100000 in
set_option maxHeartbeats 2000000 in
theorem delC_any (bm : Nat) (v : Value) (l : List Pr) (key : Int) (w : World) (hm : MapAt w bm v l) (ha : Asc l) (hd : Bd l) (hs : l.length ≤ 1000) (kl : 0 ≤ key) (kh : key ≤ 18446744073709551615) :
    Calls Try.prog 33 #[.pointer (some ⟨bm, 0, none⟩), .int .u64 key] w (Opn w bm v (outL l key key) (pT (getL l key))) := by
  have C := Lib.hid (find_any bm v l key w hm ha hs)
  have HM := Lib.hid hm
  have hat := lowN_le l key
  cases hg : getL l key with
  | none =>
    have HE := Lib.hid (del_no hg)
    unfold fT at C
    rw [hg] at C
    simp only [Option.getD_none, Option.isSome_none] at C
    generalize lowN l key = at' at *
    clear hg ha hm
    go_enter Try.func33, Try.ntmps33
    go_wp2_with fail
    refine C.out.mono ?_
    rintro r w1 ⟨rfl, b1⟩
    go_wp2
    go_ret3
    rw [HE.out]
    exact ⟨v, rfl, HM.out.below b1, Nx.refl _ _, Chg.of_below b1⟩
  | some u =>
    obtain ⟨hx, hlt⟩ := at_get ha hg
    have HE := Lib.hid (del_at ha hg)
    obtain ⟨g, c, rfl, hnc, hcm⟩ := hm.some (by omega)
    unfold fT at C
    rw [hg] at C
    simp only [Option.getD_some, Option.isSome_some] at C
    generalize lowN l key = at' at *
    have CD := fun W h => Lib.hid (delete_any 0 g l.length c at' (at' + 1) l W h (by omega) (by omega))
    obtain ⟨n, hn⟩ : ∃ n, l.length = n := ⟨_, rfl⟩
    rw [hn] at HM hlt hnc CD hs ⊢
    have HN := Lib.hid hn
    have HL := Lib.hid (show (l.take at' ++ l.drop (at' + 1)).length = n - (at' + 1 - at') by rw [List.length_append, List.length_take, List.length_drop]; omega)
    have hlti : (at' : Int) < n := by omega
    have hsi : (n : Int) ≤ 1000 := by omega
    have ec : ((at' + 1 : Nat) : Int) = (at' : Int) + 1 := by omega
    rw [ec] at CD
    clear hg ha hm hx hn hat ec
    go_enter Try.func33, Try.ntmps33
    go_wp2_with fail
    refine C.out.mono ?_
    rintro r w1 ⟨rfl, b1⟩
    have HM1 := Lib.hid (HM.out.below b1)
    have m1 := HM1.out.1
    have m2 := HM1.out.2.2.1
    rw [HN.out] at m2
    have M2 := Lib.hid m2; clear m2
    go_wp2_with fail
    refine (CD w1 M2.out).out.mono ?_
    rintro r w2 ⟨rfl, hr2, hg2⟩
    have hL := HL.out
    obtain ⟨k1, k2, k3, k4, k5⟩ := HM1.out.store (l' := l.take at' ++ l.drop (at' + 1)) (v' := .slice (some ⟨g, 0, none⟩) (n - (at' + 1 - at')) c) hg2 (by rw [hL]; exact hr2) (.inl rfl)
    have HK := Lib.hid (show Opn w1 bm (.slice (some ⟨g, 0, none⟩) n c) (l.take at' ++ l.drop (at' + 1)) (.tuple #[]) (.returned (.tuple #[])) _ from ⟨_, rfl, k3, k4, k5⟩)
    clear k3 k4 k5 hr2 hg2 hL
    generalize n - (at' + 1 - at') = q at *
    go_wp2
    go_ret3
    rw [HE.out]
    exact HK.out.behind b1 rfl
set_option maxRecDepth 100000 in
set_option maxHeartbeats 2000000 in
theorem casC_any (bm : Nat) (v : Value) (l : List Pr) (key old x : Int) (w : World) (hm : MapAt w bm v l) (ha : Asc l) (hs : l.length ≤ 1000) :
    Calls Try.prog 24 #[.pointer (some ⟨bm, 0, none⟩), .int .u64 key, .int .u64 old, .int .u64 x] w (Opn w bm v (casL l (getL l key) old (key, x)) (cT (getL l key) old)) := by
  have C := Lib.hid (find_any bm v l key w hm ha hs)
  have HM := Lib.hid hm
  have hat := lowN_le l key
  cases hg : getL l key with
  | none =>
    have HI := Lib.hid (show casL l none old (key, x) = l from if_neg (by simp))
    have HF := Lib.hid (show cT none old = .tuple #[.int .u64 0, .bool false, .bool false, .int .i64 0] from rfl)
    unfold fT at C
    rw [hg] at C
    simp only [Option.getD_none, Option.isSome_none] at C
    generalize lowN l key = at' at *
    clear hg ha hm
    go_enter Try.func24, Try.ntmps24
    go_wp2_with fail
    refine C.out.mono ?_
    rintro r w1 ⟨rfl, b1⟩
    go_wp2
    refine bodyPost_ret (results_tmp4 rfl _ _ _) rfl ?_
    rw [HI.out]
    exact ⟨v, by rw [HF.out]; rfl, HM.out.below b1, Nx.refl _ _, Chg.of_below b1⟩
  | some u =>
    obtain ⟨hx, hlt⟩ := at_get ha hg
    have HE := Lib.hid (set_at ha x hg)
    obtain ⟨g, c, rfl, hnc, hcm⟩ := hm.some (by omega)
    unfold fT at C
    rw [hg] at C
    simp only [Option.getD_some, Option.isSome_some] at C
    have HX := Lib.hid hx
    generalize lowN l key = at' at *
    obtain ⟨n, hn⟩ : ∃ n, l.length = n := ⟨_, rfl⟩
    rw [hn] at HM hlt hnc ⊢
    have HN := Lib.hid hn
    have hlti : (at' : Int) < n := by omega
    clear hg ha hm hx hn hat
    by_cases hu : u = old
    · subst hu
      have t0 : (u == u) = true := by simp
      have HI := Lib.hid (show casL l (some u) u (key, x) = setL l (key, x) from if_pos rfl)
      have HF := Lib.hid (show cT (some u) u = .tuple #[.int .u64 u, .bool true, .bool true, .int .i64 0] by simp [cT])
      go_enter Try.func24, Try.ntmps24
      go_wp2_with fail
      refine C.out.mono ?_
      rintro r w1 ⟨rfl, b1⟩
      have HM1 := Lib.hid (HM.out.below b1)
      have m1 := HM1.out.1
      obtain ⟨c1, f1, k1, k2⟩ := set_value x HM1.out HN.out HX.out
      have HK := Lib.hid (show Opn w1 bm (.slice (some ⟨g, 0, none⟩) n c) (l.set at' (key, x)) (.tuple #[]) (.returned (.tuple #[])) _ from ⟨_, rfl, k1, Nx.refl _ _, k2⟩)
      clear k1 k2
      go_wp2
      refine bodyPost_ret (results_tmp4 rfl _ _ _) rfl ?_
      rw [HI.out, HE.out]
      exact HK.out.behind b1 (by rw [HF.out]; rfl)
    · have t0 : (u == old) = false := by simp [hu]
      have HI := Lib.hid (show casL l (some u) old (key, x) = l from if_neg (fun h => hu (Option.some.inj h)))
      have HF := Lib.hid (show cT (some u) old = .tuple #[.int .u64 u, .bool true, .bool false, .int .i64 0] by simp [cT, hu])
      clear hu
      go_enter Try.func24, Try.ntmps24
      go_wp2_with fail
      refine C.out.mono ?_
      rintro r w1 ⟨rfl, b1⟩
      go_wp2
      refine bodyPost_ret (results_tmp4 rfl _ _ _) rfl ?_
      rw [HI.out]
      exact ⟨_, by rw [HF.out]; rfl, HM.out.below b1, Nx.refl _ _, Chg.of_below b1⟩
end Om
end Go.Proofs.Ythinaablldnikaa
