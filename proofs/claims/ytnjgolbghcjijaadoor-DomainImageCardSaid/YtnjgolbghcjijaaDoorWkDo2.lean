/- The walk of the law DomainSets, from the contracts of XDomG, XDomS, XDomB, XDomO, XDomY and XDomKn. Conditions: those of the contracts. -/
import Derived.Test.YtnjgolbghcjijaaDoorDomKn
import Derived.Test.YtnjgolbghcjijaaDoorDomA
namespace Go.Proofs.YtnjgolbghcjijaaDoor
open Go.RowKit Go.Sort
set_option linter.unusedVariables false
set_option linter.unusedSimpArgs false
namespace Dm
theorem cy {w w' : World} {b o : Nat} {v : Value} (h : w.cell? ⟨b, o, none⟩ = some v) (hb : Below w.heap.size w w') : w'.cell? ⟨b, o, none⟩ = some v := (hb.cell (p := ⟨b, o, none⟩) (cell_lt h)).trans h
theorem stT_two (l : List Int) : ∃ X E : Int, stT l = .tuple #[.int .u64 X, .int .i64 E] := by
  unfold stT
  split
  · exact ⟨_, _, rfl⟩
  · exact ⟨_, _, rfl⟩
/-- what the law asks of the two lists of buckets -/
def LPost (l : List Int) (E : Int) (w : World) (e : Ending) (w' : World) : Prop := (∃ A c, e = .returned (.tuple #[.slice A l.length c, .int .i64 E]) ∧ RdK .i64 w' A l) ∧ Below w.heap.size w w'
theorem buckets_two (S : Nat) (B : Int) (hS : S < 18446744073709551616) (Bl : -9223372036854775808 ≤ B) (Bh : B ≤ 9223372036854775807) :
    ∃ (l : List Int) (E : Int), l.length ≤ 64 ∧ (∀ w, Tz w → Calls Tryd.prog 30 #[.int .u64 S, .int .i64 B] w (LPost l E w)) ∧ (∀ w, Calls Tryd.prog 31 #[.int .u64 S, .int .i64 B] w (LPost l E w)) := by
  by_cases hB : 1 ≤ B ∧ B ≤ 16
  · obtain ⟨b, rfl⟩ := Int.eq_ofNat_of_zero_le (show 0 ≤ B by omega)
    refine ⟨bkS S b b, 0, by have := bkS_len S b b; omega, fun w hT => ?_, fun w => ?_⟩
    · exact (bucketsP_any S b hS (by omega) (by omega) w hT hT.pos).mono fun e w' h => h
    · refine (bucketsR_any S b hS w (by omega) (by omega)).mono fun e w' ⟨⟨v, he, ow⟩, b1⟩ => ?_
      obtain ⟨hl, A, c, rfl, rd⟩ := row_rd ow
      exact ⟨⟨A, c, he, rd⟩, b1⟩
  · refine ⟨[], 2, by simp, fun w hT => ?_, fun w => ?_⟩
    · exact (bucketsP_bad S B w hB Bl Bh).mono fun e w' ⟨he, b1⟩ => ⟨⟨none, 0, he, fun k hk => by simp at hk⟩, b1⟩
    · refine (bucketsR_bad S B w hB Bl Bh).mono fun e w' ⟨he, hw⟩ => ?_
      subst hw
      exact ⟨⟨none, 0, he, fun k hk => by simp at hk⟩, Below.refl _ _⟩
def M1Post (l : List Int) (w : World) (e : Ending) (w' : World) : Prop := (∃ A c, e = .returned (.slice A l.length c) ∧ RdK .i64 w' A l) ∧ Below w.heap.size w w'
theorem members_two (S : Nat) (hS : S < 18446744073709551616) :
    ∃ l : List Int, l.length ≤ 64 ∧ (∀ w, Tz w → Calls Tryd.prog 33 #[.int .u64 S] w (M1Post l w)) ∧ (∀ w, Calls Tryd.prog 34 #[.int .u64 S] w (M1Post l w)) :=
  ⟨memL S 64, memL_len S 64, fun w hT => (members_any S hS w hT).mono fun e w' h => h, fun w => (membersR_any S hS w).mono fun e w' ⟨⟨v, he, ow⟩, b1⟩ => by
    obtain ⟨hl, A, c, rfl, rd⟩ := row_rd ow
    exact ⟨⟨A, c, he, rd⟩, b1⟩⟩
end Dm
namespace Wk
open Dm
set_option maxHeartbeats 2000000 in
set_option maxRecDepth 100000 in
theorem walk_domainSets (a0 : Option Addr) (a0n a0c : Nat) (a0v : List Int) (a1 : Int) (a2Value : Int) (a2Buckets : Int) (w : World) (a0e : a0v.length = a0n) (a0m : a0n ≤ maxLen) (a0r : Dm.RdK .i64 w a0 a0v) (a0b : Dm.BdI a0v) (a0z : a0 = none → a0c = 0) (a1l : 0 ≤ a1) (a1h : a1 ≤ 18446744073709551615) (a2Valuel : (-9223372036854775808) ≤ a2Value) (a2Valueh : a2Value ≤ 9223372036854775807) (a2Bucketsl : (-9223372036854775808) ≤ a2Buckets) (a2Bucketsh : a2Buckets ≤ 9223372036854775807) (hT : Dm.Tz w) :
    Calls Tryd.prog 6 #[.slice a0 a0n a0c, .int .u64 a1, .agg #[.int .i64 a2Value, .int .i64 a2Buckets]] w fun e w' => e = .returned (.bool true) ∧ Below w.heap.size w w' := by
  obtain ⟨S, rfl⟩ := Int.eq_ofNat_of_zero_le a1l
  have hS : S < 18446744073709551616 := by omega
  have HR := Lib.hid a0r; clear a0r
  have HT := Lib.hid hT; clear hT
  have hm := a0m
  unfold maxLen at hm
  have b0 : Below w.heap.size w (w.alloc (Obj.cells #[.int .i64 a2Value, .int .i64 a2Buckets] 45)) := bel_alloc (Below.refl _ _) _
  have C1 := fun W h => Lib.hid (set_any a0 a0n a0c a0v W a0e a0m h a0b)
  have C2 := fun W h => Lib.hid (setR_any a0 a0n a0c a0v W a0e a0m h a0b)
  have C3 := fun W => Lib.hid (bucket_any a2Value a2Buckets W a2Valuel a2Valueh a2Bucketsl a2Bucketsh)
  have C4 := fun W => Lib.hid (bucketR_any a2Value a2Buckets W a2Valuel a2Valueh a2Bucketsl a2Bucketsh)
  obtain ⟨X, E, hst⟩ := stT_two a0v
  rw [hst] at C1 C2
  obtain ⟨bl, be, hbl, D1, D2⟩ := buckets_two S a2Buckets hS a2Bucketsl a2Bucketsh
  have C5 := fun W h => Lib.hid (D1 W h)
  have C6 := fun W => Lib.hid (D2 W)
  obtain ⟨ml, hml, D3, D4⟩ := members_two S hS
  have C7 := fun W h => Lib.hid (D3 W h)
  have C8 := fun W => Lib.hid (D4 W)
  clear hst D1 D2 D3 D4 a0b a0e
  unfold bkT at C3 C4
  generalize bkV a2Value a2Buckets = bv at *
  generalize bkE a2Value a2Buckets = bb at *
  by_cases hl : 300 < (a0n : Int)
  · have t0 : decide (300 < (a0n : Int)) = true := decide_eq_true hl
    go_enter Tryd.func6, Tryd.ntmps6
    go_wp2_with fail
    refine (known_any _ (HT.out.below b0)).mono ?_
    rintro r w2 ⟨rfl, b2⟩
    go_wp2
    go_ret
    exact ⟨rfl, bel_trans b0 b2⟩
  · have t0 : decide (300 < (a0n : Int)) = false := decide_eq_false hl
    go_enter Tryd.func6, Tryd.ntmps6
    go_wp2_with fail
    refine (C1 _ (HR.out.below b0)).out.mono ?_
    rintro r w1 ⟨rfl, rfl⟩
    go_wp2_with fail
    refine (C2 _ (HR.out.below b0)).out.mono ?_
    rintro r w1 ⟨rfl, b1⟩
    have bw1 := bel_trans b0 b1
    obtain ⟨kc, kf⟩ := bcell b1
    have e0 : w1.cell? ⟨w.heap.size, 0, none⟩ = some (.int .i64 a2Value) := by rw [kc _ _ (by simp)]; simp
    have e1 : w1.cell? ⟨w.heap.size, 1, none⟩ = some (.int .i64 a2Buckets) := by rw [kc _ _ (by simp)]; simp
    clear kc kf
    go_wp2_with fail
    refine (C3 _).out.mono ?_
    rintro r w2 ⟨rfl, rfl⟩
    go_wp2_with fail
    refine (C4 _).out.mono ?_
    rintro r w2 ⟨rfl, rfl⟩
    go_wp2_with fail
    refine (C5 _ (HT.out.below bw1)).out.mono ?_
    rintro r w2 ⟨⟨A1, c1, rfl, rd1⟩, b2⟩
    have R1 := Lib.hid rd1; clear rd1
    have bw2 := bel_trans bw1 b2
    have g1 := cy e1 b2
    clear e0 e1
    go_wp2_with fail
    refine (C6 _).out.mono ?_
    rintro r w3 ⟨⟨A2, c2, rfl, rd2⟩, b3⟩
    have R2 := Lib.hid rd2; clear rd2
    have bw3 := bel_trans bw2 b3
    have hbm : bl.length ≤ maxLen := by unfold maxLen; omega
    have CS := fun W => Lib.hid (fun h1 h2 => sameR_any A1 A2 bl.length c1 bl.length c2 bl bl W rfl rfl hbm hbm h1 h2)
    rw [decide_eq_true (rfl : bl = bl)] at CS
    clear g1
    go_wp2_with fail
    refine ((CS _).out (R1.out.below b3) R2.out).mono ?_
    rintro r w4 ⟨rfl, b4⟩
    have bw4 := bel_trans bw3 b4
    go_wp2_with fail
    refine (C7 _ (HT.out.below bw4)).out.mono ?_
    rintro r w5 ⟨⟨A3, c3, rfl, rd3⟩, b5⟩
    have R3 := Lib.hid rd3; clear rd3
    have bw5 := bel_trans bw4 b5
    go_wp2_with fail
    refine (C8 _).out.mono ?_
    rintro r w6 ⟨⟨A4, c4, rfl, rd4⟩, b6⟩
    have R4 := Lib.hid rd4; clear rd4
    have bw6 := bel_trans bw5 b6
    have hmm : ml.length ≤ maxLen := by unfold maxLen; omega
    have CT := fun W => Lib.hid (fun h1 h2 => sameR_any A3 A4 ml.length c3 ml.length c4 ml ml W rfl rfl hmm hmm h1 h2)
    rw [decide_eq_true (rfl : ml = ml)] at CT
    go_wp2_with fail
    refine ((CT _).out (R3.out.below b6) R4.out).mono ?_
    rintro r w7 ⟨rfl, b7⟩
    go_wp2
    go_ret
    exact ⟨ret_eq (by simp), bel_trans bw6 b7⟩
end Wk
end Go.Proofs.YtnjgolbghcjijaaDoor
