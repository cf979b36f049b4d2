/- The states of the law PoolExamples and what the calls answer on them. Conditions: none. -/
import Derived.Test.YtcipjjchclpgnaaPsP
namespace Go.Proofs.Ytcipjjchclpgnaa
open Go.RowKit Go.Sort
set_option linter.unusedVariables false
set_option maxRecDepth 100000
namespace Po
open Wd
def Z1 : Zt := nwT 0 0 0 0 E0
def Z2 : Zt := run 0 Z1
def Z3 : Zt := run 0 Z2
def Z4 : Zt := run 0 Z3
def Z5 : Zt := nwT 1 0 2 0 Z4
def Z6 : Zt := run 1 Z5
def Z7 : Zt := nwG 2 1 0 Z6
def Z8 : Zt := run 2 Z7
def Z9 : Zt := run 2 Z8
def Z10 : Zt := run 2 Z9
def Z11 : Zt := nwT 3 0 0 1 Z10
def Z12 : Zt := nwT 4 1 0 0 Z11
def Z13 : Zt := run 3 Z12
def Z14 : Zt := run 3 Z13
def Z15 : Zt := run 4 Z14
def Z16 : Zt := run 4 Z15
def Z17 : Zt := run 4 Z16
def Z18 : Zt := run 3 Z17
theorem z0n : noB E0 0 = true := by decide +kernel
theorem z0l : lvB E0 [1, 2] [3] [] = true := by decide +kernel
theorem z0o : outL E0.1 4 = [] := by decide +kernel
theorem z1r : rnB Z1 0 = true := by decide +kernel
theorem z1 : svB false Z1 0 4 false = true := by decide +kernel
theorem z2 : svB false Z2 0 5 false = true := by decide +kernel
theorem z3 : svB false Z3 0 6 true = true := by decide +kernel
theorem z4r : rvB Z4 0 1 0 0 = true := by decide +kernel
theorem z4o : outL Z4.1 4 = [1] := by decide +kernel
theorem z4l : lvB Z4 [2] [3] [] = true := by decide +kernel
theorem z4n : noB Z4 1 = true := by decide +kernel
theorem z5 : svB false Z5 1 4 true = true := by decide +kernel
theorem z6r : rvB Z6 1 0 0 6 = true := by decide +kernel
theorem z6g : (Z6.1.tk 2 && !Z6.1.gv 2) = false := by decide +kernel
theorem z6h : (Z6.1.tk 1 && !Z6.1.gv 1) = true := by decide +kernel
theorem z6n : noB Z6 2 = true := by decide +kernel
theorem z6m : noB Z6 63 = true := by decide +kernel
theorem z7m : noB Z7 63 = true := by decide +kernel
theorem z7g : (Z7.1.tk 1 && !Z7.1.gv 1) = false := by decide +kernel
theorem z7 : svB true Z7 2 4 false = true := by decide +kernel
theorem z8 : svB true Z8 2 7 false = true := by decide +kernel
theorem z9 : svB true Z9 2 8 true = true := by decide +kernel
theorem z10g : gnV 3 Z10.1 1 = 1 := by decide +kernel
theorem z10l : lvB Z10 [1, 2] [3] [] = true := by decide +kernel
theorem z10n : noB Z10 3 = true := by decide +kernel
theorem z11n : noB Z11 4 = true := by decide +kernel
theorem z12 : svB false Z12 3 4 false = true := by decide +kernel
theorem z13 : svB false Z13 3 5 false = true := by decide +kernel
theorem z14 : svB false Z14 4 4 false = true := by decide +kernel
theorem z15 : svB false Z15 4 5 false = true := by decide +kernel
theorem z16 : svB false Z16 4 6 true = true := by decide +kernel
theorem z17 : svB false Z17 3 6 true = true := by decide +kernel
theorem z18 : rvB Z18 3 0 1 11 = true := by decide +kernel
theorem pWE : 0 < Ly.pW gE ∧ Ly.pW gE ≤ 1000 ∧ 1 < Ly.pW gE := by decide +kernel
end Po
end Go.Proofs.Ytcipjjchclpgnaa
