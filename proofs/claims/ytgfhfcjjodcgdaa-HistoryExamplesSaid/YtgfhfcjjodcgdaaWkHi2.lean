/- HistoryAgrees: the walk. Conditions: those of the arguments' kinds. Written by tools/mk12w2.py. -/
import Derived.Test.YtgfhfcjjodcgdaaHiLw
namespace Go.Proofs.Ytgfhfcjjodcgdaa
open Go.RowKit Go.Shelf Go.Sort
set_option linter.unusedVariables false
set_option linter.unusedSimpArgs false
namespace Wk
open Hi
set_option maxRecDepth 100000 in
set_option maxHeartbeats 4000000 in
theorem walk_historyAgrees (a0 : Option Addr) (a0n a0c : Nat) (a0v : List Int) (a1 : Option Addr) (a1n a1c : Nat) (a1v : List Hi.C) (w : World) (a0e : a0v.length = a0n) (a0m : a0n ≤ maxLen) (a0r : Hi.KI.Rd w a0 a0v) (a0b : Hi.BdI a0v) (a0z : a0 = none → a0c = 0) (a0y : a0n ≤ a0c ∧ a0c ≤ maxLen) (a1e : a1v.length = a1n) (a1m : a1n ≤ maxLen) (a1r : Hi.RdV w a1 a1v) (a1b : Hi.BdV a1v) (a1z : a1 = none → a1c = 0) (a1y : a1n ≤ a1c ∧ a1c ≤ maxLen) :
    Calls Try.prog 4 #[.slice a0 a0n a0c, .slice a1 a1n a1c] w fun e w' => e = .returned (.bool true) ∧ Below w.heap.size w w' := by
  have RA := Lib.hid (show KC.Rd w a1 a1v from a1r)
  have FW := fun (W : World) (h : KC.Rd W a1 a1v) => Lib.hid (few_any a1 a1n a1c a1v W a1e a1m a1y.1 a1y.2 h a1z)
  have hF := few_len a1v
  have BF := Lib.hid (fewL_bd a1b)
  have B := Lib.hid (Below.refl w.heap.size w)
  obtain ⟨F, hFF⟩ : ∃ F, fewL a1v = F := ⟨_, rfl⟩
  rw [hFF] at FW hF BF
  obtain ⟨O, hO⟩ : ∃ O, a0v.take 60 = O := ⟨_, rfl⟩
  have RO := Lib.hid (show KI.Rd w a0 O from by rw [← hO]; exact take_rd a0r 60)
  obtain ⟨m, hm⟩ : ∃ m, O.length = m := ⟨_, rfl⟩
  have hm60 : m = min 60 a0n := by rw [← hm, ← hO, List.length_take, a0e]
  have HM := Lib.hid hm
  obtain ⟨bv, hbv⟩ : ∃ bv, agV F O = bv := ⟨_, rfl⟩
  obtain ⟨er, her⟩ : ∃ er, erA F O = er := ⟨_, rfl⟩
  have HBV := Lib.hid hbv
  have HER := Lib.hid her
  have hF3 : F.length ≤ 1000 := by omega
  have hm3 : m ≤ 1000 := by omega
  unfold maxLen at a0m
  have a0y2 := a0y.2
  unfold maxLen at a0y2
  have ha0c := a0y.1
  have bq : (bv == bv) = true := by simp
  have eq : (er == er) = true := by simp
  have hsl : (a0n ≤ 60 ∧ m = a0n) ∨ (60 < a0n ∧ m = 60 ∧ ∃ b o, a0 = some ⟨b, o, none⟩) := by
    by_cases h : a0n ≤ 60
    · exact .inl ⟨h, by omega⟩
    · refine .inr ⟨by omega, by omega, ?_⟩
      obtain ⟨b, o, e, _⟩ := KI.at_ a0r (show 0 < a0v.length by omega)
      exact ⟨b, o, e⟩
  clear a1r a1b a1z a1y a1e a1m hFF a0r a0b a0e hO hm hm60 a0y hbv her
  rcases hsl with ⟨h60, rfl⟩ | ⟨h60, rfl, b, o, rfl⟩
  · have d0 : (if (60 : Int) < m then (60 : Int) else m) = m := if_neg (by omega)
    have d1 : min (m : Int) 60 = m := by omega
    have d2 : decide ((60 : Int) < m) = false := decide_eq_false (by omega)
    have d3 : (m : Int) ≤ a0c := by omega
    go_enter Try.func4, Try.ntmps4
    go_wp2_with fail
    refine ((FW _ RA.out).out).mono ?_
    rintro e w101 h101
    obtain ⟨A101, c101, rfl, rd101, zr101, b101⟩ := ro_use h101
    have RA_102 := Lib.hid (RA.out.below b101)
    clear RA
    have RO_103 := Lib.hid (RO.out.below b101)
    clear RO
    replace B := Lib.hid (bel_bel B.out b101)
    clear b101
    have RI := Lib.hid rd101
    clear rd101
    have ZI := Lib.hid zr101
    clear zr101
    clear ZI
    go_wp2_with fail
    refine (copyI_any a0 m a0c O _ HM.out hm3 RO_103.out a0z).mono ?_
    rintro e w104 h104
    obtain ⟨A104, c104, rfl, rd104, zr104, b104⟩ := ro_use h104
    have RA_105 := Lib.hid (RA_102.out.below b104)
    clear RA_102
    have RO_106 := Lib.hid (RO_103.out.below b104)
    clear RO_103
    have RI_107 := Lib.hid (RI.out.below b104)
    clear RI
    replace B := Lib.hid (bel_bel B.out b104)
    clear b104
    have RP := Lib.hid rd104
    clear rd104
    clear zr104
    go_wp2_with fail
    refine (Agrees_any A104 O.length c104 O rfl (by rw [HM.out]; omega) A101 F.length c101 F rfl hF3 _ RP.out RI_107.out BF.out).mono ?_
    rintro e w108 ⟨h108, b108⟩
    have RA_109 := Lib.hid (RA_105.out.below b108)
    clear RA_105
    have RO_110 := Lib.hid (RO_106.out.below b108)
    clear RO_106
    have RI_111 := Lib.hid (RI_107.out.below b108)
    clear RI_107
    have RP_112 := Lib.hid (RP.out.below b108)
    clear RP
    replace B := Lib.hid (bel_bel B.out b108)
    clear b108
    rw [HBV.out, HER.out] at h108
    subst h108
    go_wp2_with fail
    refine ((FW _ RA_109.out).out).mono ?_
    rintro e w113 h113
    obtain ⟨A113, c113, rfl, rd113, zr113, b113⟩ := ro_use h113
    have RA_114 := Lib.hid (RA_109.out.below b113)
    clear RA_109
    have RO_115 := Lib.hid (RO_110.out.below b113)
    clear RO_110
    have RI_116 := Lib.hid (RI_111.out.below b113)
    clear RI_111
    have RP_117 := Lib.hid (RP_112.out.below b113)
    clear RP_112
    replace B := Lib.hid (bel_bel B.out b113)
    clear b113
    have RX := Lib.hid rd113
    clear rd113
    clear zr113
    go_wp2_with fail
    refine (rAgrees_any a0 m a0c O HM.out hm3 A113 F.length c113 F rfl hF3 _ RO_115.out RX.out BF.out).mono ?_
    rintro e w118 ⟨h118, b118⟩
    have RA_119 := Lib.hid (RA_114.out.below b118)
    clear RA_114
    have RO_120 := Lib.hid (RO_115.out.below b118)
    clear RO_115
    have RI_121 := Lib.hid (RI_116.out.below b118)
    clear RI_116
    have RP_122 := Lib.hid (RP_117.out.below b118)
    clear RP_117
    have RX_123 := Lib.hid (RX.out.below b118)
    clear RX
    replace B := Lib.hid (bel_bel B.out b118)
    clear b118
    rw [HBV.out, HER.out] at h118
    subst h118
    clear RX_123
    go_wp2_with fail
    refine ((FW _ RA_119.out).out).mono ?_
    rintro e w124 h124
    obtain ⟨A124, c124, rfl, rd124, zr124, b124⟩ := ro_use h124
    have RA_125 := Lib.hid (RA_119.out.below b124)
    clear RA_119
    have RO_126 := Lib.hid (RO_120.out.below b124)
    clear RO_120
    have RI_127 := Lib.hid (RI_121.out.below b124)
    clear RI_121
    have RP_128 := Lib.hid (RP_122.out.below b124)
    clear RP_122
    replace B := Lib.hid (bel_bel B.out b124)
    clear b124
    have RX := Lib.hid rd124
    clear rd124
    clear zr124
    go_wp2_with fail
    refine (equC_same A101 A124 F.length c101 c124 F _ rfl (by omega) RI_127.out RX.out).mono ?_
    rintro e w129 ⟨rfl, b129⟩
    have RA_130 := Lib.hid (RA_125.out.below b129)
    clear RA_125
    have RO_131 := Lib.hid (RO_126.out.below b129)
    clear RO_126
    have RI_132 := Lib.hid (RI_127.out.below b129)
    clear RI_127
    have RP_133 := Lib.hid (RP_128.out.below b129)
    clear RP_128
    have RX_134 := Lib.hid (RX.out.below b129)
    clear RX
    replace B := Lib.hid (bel_bel B.out b129)
    clear b129
    clear RX_134
    go_wp2_with fail
    refine (equI A104 a0 O.length c104 m a0c O O _ rfl HM.out (by rw [HM.out]; omega) (by omega) RP_133.out RO_131.out).mono ?_
    rintro e w135 ⟨hq, b135⟩
    have RA_136 := Lib.hid (RA_130.out.below b135)
    clear RA_130
    have RO_137 := Lib.hid (RO_131.out.below b135)
    clear RO_131
    have RI_138 := Lib.hid (RI_132.out.below b135)
    clear RI_132
    have RP_139 := Lib.hid (RP_133.out.below b135)
    clear RP_133
    replace B := Lib.hid (bel_bel B.out b135)
    clear b135
    rw [decide_eq_true rfl] at hq
    subst hq
    go_wp2_with fail
    refine (awake_any _).mono ?_
    rintro e w9 ⟨rfl, b9⟩
    go_wp2
    go_ret
    exact ⟨rfl, bel_bel B.out b9⟩
  · have d0 : (if (60 : Int) < a0n then (60 : Int) else a0n) = 60 := if_pos (by omega)
    have d1 : min (a0n : Int) 60 = 60 := by omega
    have d2 : decide ((60 : Int) < a0n) = true := decide_eq_true (by omega)
    have d3 : (60 : Int) < a0n := by omega
    have d4 : (60 : Int) ≤ a0c := by omega
    have d5 : 60 ≤ a0c := by omega
    go_enter Try.func4, Try.ntmps4
    go_wp2_with fail
    refine ((FW _ RA.out).out).mono ?_
    rintro e w101 h101
    obtain ⟨A101, c101, rfl, rd101, zr101, b101⟩ := ro_use h101
    have RA_102 := Lib.hid (RA.out.below b101)
    clear RA
    have RO_103 := Lib.hid (RO.out.below b101)
    clear RO
    replace B := Lib.hid (bel_bel B.out b101)
    clear b101
    have RI := Lib.hid rd101
    clear rd101
    have ZI := Lib.hid zr101
    clear zr101
    clear ZI
    go_wp2_with fail
    refine (copyI_any _ 60 a0c O _ HM.out hm3 RO_103.out a0z).mono ?_
    rintro e w104 h104
    obtain ⟨A104, c104, rfl, rd104, zr104, b104⟩ := ro_use h104
    have RA_105 := Lib.hid (RA_102.out.below b104)
    clear RA_102
    have RO_106 := Lib.hid (RO_103.out.below b104)
    clear RO_103
    have RI_107 := Lib.hid (RI.out.below b104)
    clear RI
    replace B := Lib.hid (bel_bel B.out b104)
    clear b104
    have RP := Lib.hid rd104
    clear rd104
    clear zr104
    go_wp2_with fail
    refine (Agrees_any A104 O.length c104 O rfl (by rw [HM.out]; omega) A101 F.length c101 F rfl hF3 _ RP.out RI_107.out BF.out).mono ?_
    rintro e w108 ⟨h108, b108⟩
    have RA_109 := Lib.hid (RA_105.out.below b108)
    clear RA_105
    have RO_110 := Lib.hid (RO_106.out.below b108)
    clear RO_106
    have RI_111 := Lib.hid (RI_107.out.below b108)
    clear RI_107
    have RP_112 := Lib.hid (RP.out.below b108)
    clear RP
    replace B := Lib.hid (bel_bel B.out b108)
    clear b108
    rw [HBV.out, HER.out] at h108
    subst h108
    go_wp2_with fail
    refine ((FW _ RA_109.out).out).mono ?_
    rintro e w113 h113
    obtain ⟨A113, c113, rfl, rd113, zr113, b113⟩ := ro_use h113
    have RA_114 := Lib.hid (RA_109.out.below b113)
    clear RA_109
    have RO_115 := Lib.hid (RO_110.out.below b113)
    clear RO_110
    have RI_116 := Lib.hid (RI_111.out.below b113)
    clear RI_111
    have RP_117 := Lib.hid (RP_112.out.below b113)
    clear RP_112
    replace B := Lib.hid (bel_bel B.out b113)
    clear b113
    have RX := Lib.hid rd113
    clear rd113
    clear zr113
    go_wp2_with fail
    refine (rAgrees_any _ 60 a0c O HM.out hm3 A113 F.length c113 F rfl hF3 _ RO_115.out RX.out BF.out).mono ?_
    rintro e w118 ⟨h118, b118⟩
    have RA_119 := Lib.hid (RA_114.out.below b118)
    clear RA_114
    have RO_120 := Lib.hid (RO_115.out.below b118)
    clear RO_115
    have RI_121 := Lib.hid (RI_116.out.below b118)
    clear RI_116
    have RP_122 := Lib.hid (RP_117.out.below b118)
    clear RP_117
    have RX_123 := Lib.hid (RX.out.below b118)
    clear RX
    replace B := Lib.hid (bel_bel B.out b118)
    clear b118
    rw [HBV.out, HER.out] at h118
    subst h118
    clear RX_123
    go_wp2_with fail
    refine ((FW _ RA_119.out).out).mono ?_
    rintro e w124 h124
    obtain ⟨A124, c124, rfl, rd124, zr124, b124⟩ := ro_use h124
    have RA_125 := Lib.hid (RA_119.out.below b124)
    clear RA_119
    have RO_126 := Lib.hid (RO_120.out.below b124)
    clear RO_120
    have RI_127 := Lib.hid (RI_121.out.below b124)
    clear RI_121
    have RP_128 := Lib.hid (RP_122.out.below b124)
    clear RP_122
    replace B := Lib.hid (bel_bel B.out b124)
    clear b124
    have RX := Lib.hid rd124
    clear rd124
    clear zr124
    go_wp2_with fail
    refine (equC_same A101 A124 F.length c101 c124 F _ rfl (by omega) RI_127.out RX.out).mono ?_
    rintro e w129 ⟨rfl, b129⟩
    have RA_130 := Lib.hid (RA_125.out.below b129)
    clear RA_125
    have RO_131 := Lib.hid (RO_126.out.below b129)
    clear RO_126
    have RI_132 := Lib.hid (RI_127.out.below b129)
    clear RI_127
    have RP_133 := Lib.hid (RP_128.out.below b129)
    clear RP_128
    have RX_134 := Lib.hid (RX.out.below b129)
    clear RX
    replace B := Lib.hid (bel_bel B.out b129)
    clear b129
    clear RX_134
    go_wp2_with fail
    refine (equI A104 _ O.length c104 60 a0c O O _ rfl HM.out (by rw [HM.out]; omega) (by omega) RP_133.out RO_131.out).mono ?_
    rintro e w135 ⟨hq, b135⟩
    have RA_136 := Lib.hid (RA_130.out.below b135)
    clear RA_130
    have RO_137 := Lib.hid (RO_131.out.below b135)
    clear RO_131
    have RI_138 := Lib.hid (RI_132.out.below b135)
    clear RI_132
    have RP_139 := Lib.hid (RP_133.out.below b135)
    clear RP_133
    replace B := Lib.hid (bel_bel B.out b135)
    clear b135
    rw [decide_eq_true rfl] at hq
    subst hq
    go_wp2_with fail
    refine (awake_any _).mono ?_
    rintro e w9 ⟨rfl, b9⟩
    go_wp2
    go_ret
    exact ⟨rfl, bel_bel B.out b9⟩
end Wk
end Go.Proofs.Ytgfhfcjjodcgdaa
