/- math/bits.OnesCount64: contract of the translated code. Conditions: a number below 2^64. -/
import Derived.Test.YtbndgbjenmknmaaDoorDm7
import Derived.Test.YtbndgbjenmknmaaDoorPcM
namespace Go.Proofs.YtbndgbjenmknmaaDoor
open Go.RowKit Go.Sort
set_option linter.unusedVariables false
set_option linter.unusedSimpArgs false
namespace Hq
open Dm (and_nat)
theorem and127 (U : Nat) (hU : U < 18446744073709551616) : bits .and .i64 (wrap64 (U : Int)) 127 = ((U % 128 : Nat) : Int) := by
  show IntKind.i64.wrap ((BitVec.ofInt 64 (wrap64 (U : Int)) &&& BitVec.ofInt 64 127).toNat : Int) = _
  have e1 : (BitVec.ofInt 64 (wrap64 (U : Int))).toNat = U := by
    rw [BitVec.toNat_ofInt]; unfold wrap64; omega
  have e2 : (BitVec.ofInt 64 127).toNat = 127 := by decide
  rw [BitVec.toNat_and, e1, e2, show (127 : Nat) = 2 ^ 7 - 1 from rfl, Nat.and_two_pow_sub_one_eq_mod]
  have : U % 2 ^ 7 < 128 := Nat.mod_lt _ (by decide)
  rw [IntKind.wrap_i64]
  omega
set_option maxRecDepth 100000 in
theorem ones_any (X : Nat) (w : World) (hX : X < 18446744073709551616) :
    Calls Tryd.prog 40 #[.int .u64 X] w fun e w' => e = .returned (.int .i64 (Pc.ones X : Nat)) ∧ w = w' := by
  have x0 : 0 ≤ (X : Int) := by omega
  have x1 : (X : Int) ≤ 18446744073709551615 := by omega
  obtain ⟨f1, f2, f3, s1, s2, s3, b1, b2, b3, hs⟩ := Pc.steps hX
  obtain ⟨Y, Z, U, t1, t2, t3, u1, u2, u3, u4, u5⟩ := Pc.tail b3
  rw [hs] at u2
  have hA : ∀ {a m : Nat}, a &&& m ≤ m := Nat.and_le_right
  have hA2 : ∀ {a m : Nat}, a &&& m ≤ a := Nat.and_le_left
  obtain ⟨A1, hA1⟩ : ∃ A1, A1 = (X / 2) &&& 6148914691236517205 := ⟨_, rfl⟩
  obtain ⟨B1, hB1⟩ : ∃ B1, B1 = X &&& 6148914691236517205 := ⟨_, rfl⟩
  obtain ⟨X1, hX1⟩ : ∃ X1, X1 = Pc.dg 2 32 f1 := ⟨_, rfl⟩
  obtain ⟨A2, hA2'⟩ : ∃ A2, A2 = (X1 / 4) &&& 3689348814741910323 := ⟨_, rfl⟩
  obtain ⟨B2, hB2⟩ : ∃ B2, B2 = X1 &&& 3689348814741910323 := ⟨_, rfl⟩
  obtain ⟨X2, hX2⟩ : ∃ X2, X2 = Pc.dg 4 16 f2 := ⟨_, rfl⟩
  obtain ⟨X3, hX3⟩ : ∃ X3, X3 = Pc.dg 8 8 f3 := ⟨_, rfl⟩
  rw [← hA1, ← hB1, ← hX1] at s1
  rw [← hX1, ← hA2', ← hB2, ← hX2] at s2
  rw [← hX2, ← hX3] at s3
  rw [← hX3] at t1 u5
  have l1 : A1 ≤ 6148914691236517205 := by rw [hA1]; exact hA
  have l2 : B1 ≤ 6148914691236517205 := by rw [hB1]; exact hA
  have l3 : A2 ≤ 3689348814741910323 := by rw [hA2']; exact hA
  have l4 : B2 ≤ 3689348814741910323 := by rw [hB2]; exact hA
  have c1 : bits .and .u64 ((X : Int) / 2) 6148914691236517205 = (A1 : Int) := by
    rw [hA1, ← and_nat (by omega) (by omega)]; congr 1
  have c2 : bits .and .u64 (X : Int) 6148914691236517205 = (B1 : Int) := by
    rw [hB1, ← and_nat (by omega) (by omega)]; congr 1
  have c3 : (A1 : Int) + (B1 : Int) = (X1 : Int) := by omega
  have k1 : X1 ≤ 18446744073709551615 := by omega
  have c4 : bits .and .u64 ((X1 : Int) / 4) 3689348814741910323 = (A2 : Int) := by
    rw [hA2', ← and_nat (by omega) (by omega)]; congr 1
  have c5 : bits .and .u64 (X1 : Int) 3689348814741910323 = (B2 : Int) := by
    rw [hB2, ← and_nat (by omega) (by omega)]; congr 1
  have c6 : (A2 : Int) + (B2 : Int) = (X2 : Int) := by omega
  have k2 : X2 ≤ 7378697629483820646 := by omega
  have c7 : bits .and .u64 ((X2 : Int) / 16 + (X2 : Int)) 1085102592571150095 = (X3 : Int) := by
    rw [← s3, ← and_nat (by omega) (by omega)]; congr 1
  have c8 : (X3 : Int) + (X3 : Int) / 256 = (Y : Int) := by omega
  have c9 : (Y : Int) + (Y : Int) / 65536 = (Z : Int) := by omega
  have c10 : (Z : Int) + (Z : Int) / 4294967296 = (U : Int) := by omega
  have HF := Lib.hid (and127 U u1)
  rw [u2] at HF
  clear hA1 hB1 hX1 hA2' hB2 hX2 hX3 s1 s2 s3 t1 t2 t3 hA hA2 hs b1 b2 b3
  go_enter Tryd.func40, Tryd.ntmps40
  go_wp2
  go_ret
  exact ⟨congrArg (fun z => Ending.returned (Value.int .i64 z)) HF.out, rfl⟩
end Hq
end Go.Proofs.YtbndgbjenmknmaaDoor
