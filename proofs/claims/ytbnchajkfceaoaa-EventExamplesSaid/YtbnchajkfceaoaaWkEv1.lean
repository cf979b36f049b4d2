/- EventMatches: the walk. Conditions: those of the argument's kind. Written by tools/mk11w1.py. -/
import Derived.Test.YtbnchajkfceaoaaEvL
namespace Go.Proofs.Ytbnchajkfceaoaa
open Go.RowKit Go.Sort
set_option linter.unusedVariables false
set_option linter.unusedSimpArgs false
namespace Wk
open Ev
theorem check_use {f : FuncId} {A : Option Addr} {c : Nat} {l : List E} {w : World} (h : Calls Try.prog f #[.slice A l.length c] w fun e w' => e = .returned (chkV l) ∧ Below w.heap.size w w') :
    Calls Try.prog f #[.slice A l.length c] w fun e w' => e = .returned (.tuple #[.int .i64 (chkAt l : Nat), .int .i64 (erC l)]) ∧ Below w.heap.size w w' := by
  rw [chkV_eq] at h; exact h
theorem secL_len (k : Int) (l : List E) : (secL k l).length ≤ l.length := by
  unfold secL
  split
  · exact ivs_len k l
  · simp
/-- writing over a row of sections, of waits, of events -/
theorem zero_bel {α : Type} {K : Kd α} {w W : World} {base n c : Nat} {A : Option Addr} (h : Zr K W base A n c) {N g i q : Nat} {a b c' d : Value} (hN : N ≤ base) (e : A = some ⟨g, i, none⟩) (hb : Below N w W) : Below N w (st4 W g q a b c' d) :=
  st4_below hb (Nat.le_trans hN (h.blk g i e).1)
set_option maxRecDepth 100000 in
set_option maxHeartbeats 4000000 in
theorem walk_eventMatches (a0 : Option Addr) (a0n a0c : Nat) (a0v : List Ev.E) (w : World) (a0e : a0v.length = a0n) (a0m : a0n ≤ maxLen) (a0r : Ev.RdV w a0 a0v) (a0b : Ev.BdV a0v) (a0z : a0 = none → a0c = 0) (a0y : a0n ≤ a0c ∧ a0c ≤ maxLen) :
    Calls Try.prog 3 #[.slice a0 a0n a0c] w fun e w' => e = .returned (.bool true) ∧ Below w.heap.size w w' := by
  have RA := Lib.hid (show KE.Rd w a0 a0v from a0r)
  have FW := fun (W : World) (h : KE.Rd W a0 a0v) => Lib.hid (few_any a0 a0n a0c a0v W a0e a0m a0y.1 a0y.2 h a0z)
  have hF := few_len a0v
  have B := Lib.hid (Below.refl w.heap.size w)
  obtain ⟨F, hFF⟩ : ∃ F, fewL a0v = F := ⟨_, rfl⟩
  rw [hFF] at FW hF
  have hF2 : F.length ≤ maxLen := by unfold maxLen; omega
  unfold maxLen at hF2
  clear a0r a0b a0z a0y a0e a0m hFF
  go_enter Try.func3, Try.ntmps3
  go_wp2_with fail
  refine ((FW _ RA.out).out).mono ?_
  rintro e w1 h1
  obtain ⟨A1, c1, rfl, rd1, zr1, b1⟩ := ro_use h1
  have RA_2 := Lib.hid (RA.out.below b1)
  clear RA
  replace B := Lib.hid (bel_trans B.out b1)
  clear b1
  have RI := Lib.hid rd1
  clear rd1
  clear zr1
  go_wp2_with fail
  go_loopw [4] (fun i wr => ∃ k : Nat, k ≤ 2 ∧ i = .int .i64 k ∧ Below w1.heap.size w1 wr) (fun i _ => 2 - (intOf i).toNat)
  case atStart => exact ⟨0, by omega, rfl, Below.refl _ _⟩
  case round =>
    obtain ⟨k, hk, rfl, bel⟩ := hrel
    obtain ⟨wq, rfl⟩ : ∃ wq : World, wq = wr := ⟨_, rfl⟩
    have QA := Lib.hid (RA_2.out.below bel)
    have QI := Lib.hid (RI.out.below bel)
    have BQ := Lib.hid (bel_trans B.out bel)
    have BE := Lib.hid bel
    clear bel
    by_cases hlt : k < 2
    · have hS1 : (secL 1 F).length ≤ 100000 := by have := secL_len 1 F; omega
      have hS3 : (secL 3 F).length ≤ 100000 := by have := secL_len 3 F; omega
      have d0 : decide ((k : Int) < 2) = true := decide_eq_true (by omega)
      have BB := Lib.hid (Below.refl wq.heap.size wq)
      clear RA_2 RI
      go_wp2_with fail
      refine (check_use (check_any A1 F.length c1 F _ rfl hF2 QI.out)).mono ?_
      rintro e w101 ⟨rfl, b101⟩
      have QA_102 := Lib.hid (QA.out.below b101)
      clear QA
      have QI_103 := Lib.hid (QI.out.below b101)
      clear QI
      replace BB := Lib.hid (bel_trans BB.out b101)
      clear b101
      go_wp2_with fail
      refine ((FW _ QA_102.out).out).mono ?_
      rintro e w104 h104
      obtain ⟨A104, c104, rfl, rd104, zr104, b104⟩ := ro_use h104
      have QA_105 := Lib.hid (QA_102.out.below b104)
      clear QA_102
      have QI_106 := Lib.hid (QI_103.out.below b104)
      clear QI_103
      replace BB := Lib.hid (bel_trans BB.out b104)
      clear b104
      have RX := Lib.hid rd104
      clear rd104
      clear zr104
      go_wp2_with fail
      refine (check_use (checkR_any A104 F.length c104 F _ rfl hF2 RX.out)).mono ?_
      rintro e w107 ⟨rfl, b107⟩
      have QA_108 := Lib.hid (QA_105.out.below b107)
      clear QA_105
      have QI_109 := Lib.hid (QI_106.out.below b107)
      clear QI_106
      have RX_110 := Lib.hid (RX.out.below b107)
      clear RX
      replace BB := Lib.hid (bel_trans BB.out b107)
      clear b107
      clear RX_110
      have HB1 : wq.heap.size ≤ w107.heap.size := BB.out.size
      go_wp2_with fail
      refine (Sections_any A1 F.length c1 F _ rfl (by omega) QI_109.out).mono ?_
      rintro e w111 h111
      obtain ⟨A111, c111, rfl, rd111, zr111, b111⟩ := rw_use h111
      have QA_112 := Lib.hid (QA_108.out.below b111)
      clear QA_108
      have QI_113 := Lib.hid (QI_109.out.below b111)
      clear QI_109
      replace BB := Lib.hid (bel_trans BB.out b111)
      clear b111
      have SA := Lib.hid rd111
      clear rd111
      have ZA := Lib.hid zr111
      clear zr111
      go_wp2_with fail
      refine ((FW _ QA_112.out).out).mono ?_
      rintro e w114 h114
      obtain ⟨A114, c114, rfl, rd114, zr114, b114⟩ := ro_use h114
      have QA_115 := Lib.hid (QA_112.out.below b114)
      clear QA_112
      have QI_116 := Lib.hid (QI_113.out.below b114)
      clear QI_113
      have SA_117 := Lib.hid (SA.out.below b114)
      clear SA
      have ZA_118 := Lib.hid (ZA.out.below b114)
      clear ZA
      replace BB := Lib.hid (bel_trans BB.out b114)
      clear b114
      have RX := Lib.hid rd114
      clear rd114
      clear zr114
      go_wp2_with fail
      refine (sectionsR_any A114 F.length c114 F _ rfl (by omega) RX.out).mono ?_
      rintro e w119 h119
      obtain ⟨A119, c119, rfl, rd119, zr119, b119⟩ := rw_use h119
      have QA_120 := Lib.hid (QA_115.out.below b119)
      clear QA_115
      have QI_121 := Lib.hid (QI_116.out.below b119)
      clear QI_116
      have SA_122 := Lib.hid (SA_117.out.below b119)
      clear SA_117
      have ZA_123 := Lib.hid (ZA_118.out.below b119)
      clear ZA_118
      have RX_124 := Lib.hid (RX.out.below b119)
      clear RX
      replace BB := Lib.hid (bel_trans BB.out b119)
      clear b119
      have SB := Lib.hid rd119
      clear rd119
      clear zr119
      clear RX_124
      have HB2 : wq.heap.size ≤ w119.heap.size := BB.out.size
      go_wp2_with fail
      refine (Waits_any A1 F.length c1 F _ rfl (by omega) QI_121.out).mono ?_
      rintro e w125 h125
      obtain ⟨A125, c125, rfl, rd125, zr125, b125⟩ := rw_use h125
      have HNE := Lib.hid (Zr.ne ZA_123.out zr125 (Nat.le_refl _))
      have QA_126 := Lib.hid (QA_120.out.below b125)
      clear QA_120
      have QI_127 := Lib.hid (QI_121.out.below b125)
      clear QI_121
      have SA_128 := Lib.hid (SA_122.out.below b125)
      clear SA_122
      have ZA_129 := Lib.hid (ZA_123.out.below b125)
      clear ZA_123
      have SB_130 := Lib.hid (SB.out.below b125)
      clear SB
      replace BB := Lib.hid (bel_trans BB.out b125)
      clear b125
      have SC := Lib.hid rd125
      clear rd125
      have ZC := Lib.hid zr125
      clear zr125
      go_wp2_with fail
      refine ((FW _ QA_126.out).out).mono ?_
      rintro e w131 h131
      obtain ⟨A131, c131, rfl, rd131, zr131, b131⟩ := ro_use h131
      have QA_132 := Lib.hid (QA_126.out.below b131)
      clear QA_126
      have QI_133 := Lib.hid (QI_127.out.below b131)
      clear QI_127
      have SA_134 := Lib.hid (SA_128.out.below b131)
      clear SA_128
      have ZA_135 := Lib.hid (ZA_129.out.below b131)
      clear ZA_129
      have SB_136 := Lib.hid (SB_130.out.below b131)
      clear SB_130
      have SC_137 := Lib.hid (SC.out.below b131)
      clear SC
      have ZC_138 := Lib.hid (ZC.out.below b131)
      clear ZC
      replace BB := Lib.hid (bel_trans BB.out b131)
      clear b131
      have RX := Lib.hid rd131
      clear rd131
      clear zr131
      go_wp2_with fail
      refine (waitsR_any A131 F.length c131 F _ rfl (by omega) RX.out).mono ?_
      rintro e w139 h139
      obtain ⟨A139, c139, rfl, rd139, zr139, b139⟩ := rw_use h139
      have QA_140 := Lib.hid (QA_132.out.below b139)
      clear QA_132
      have QI_141 := Lib.hid (QI_133.out.below b139)
      clear QI_133
      have SA_142 := Lib.hid (SA_134.out.below b139)
      clear SA_134
      have ZA_143 := Lib.hid (ZA_135.out.below b139)
      clear ZA_135
      have SB_144 := Lib.hid (SB_136.out.below b139)
      clear SB_136
      have SC_145 := Lib.hid (SC_137.out.below b139)
      clear SC_137
      have ZC_146 := Lib.hid (ZC_138.out.below b139)
      clear ZC_138
      have RX_147 := Lib.hid (RX.out.below b139)
      clear RX
      replace BB := Lib.hid (bel_trans BB.out b139)
      clear b139
      have SD := Lib.hid rd139
      clear rd139
      clear zr139
      clear RX_147
      go_wp2_with fail
      refine (equS_same A111 A119 (secL 1 F).length c111 c119 (secL 1 F) _ rfl hS1 SA_142.out SB_144.out).mono ?_
      rintro e w148 ⟨rfl, b148⟩
      have QA_149 := Lib.hid (QA_140.out.below b148)
      clear QA_140
      have QI_150 := Lib.hid (QI_141.out.below b148)
      clear QI_141
      have SA_151 := Lib.hid (SA_142.out.below b148)
      clear SA_142
      have ZA_152 := Lib.hid (ZA_143.out.below b148)
      clear ZA_143
      have SB_153 := Lib.hid (SB_144.out.below b148)
      clear SB_144
      have SC_154 := Lib.hid (SC_145.out.below b148)
      clear SC_145
      have ZC_155 := Lib.hid (ZC_146.out.below b148)
      clear ZC_146
      have SD_156 := Lib.hid (SD.out.below b148)
      clear SD
      replace BB := Lib.hid (bel_trans BB.out b148)
      clear b148
      clear SA_151
      clear SB_153
      go_wp2_with fail
      refine (equW_same A125 A139 (secL 3 F).length c125 c139 (secL 3 F) _ rfl hS3 SC_154.out SD_156.out).mono ?_
      rintro e w157 ⟨rfl, b157⟩
      have QA_158 := Lib.hid (QA_149.out.below b157)
      clear QA_149
      have QI_159 := Lib.hid (QI_150.out.below b157)
      clear QI_150
      have ZA_160 := Lib.hid (ZA_152.out.below b157)
      clear ZA_152
      have SC_161 := Lib.hid (SC_154.out.below b157)
      clear SC_154
      have ZC_162 := Lib.hid (ZC_155.out.below b157)
      clear ZC_155
      have SD_163 := Lib.hid (SD_156.out.below b157)
      clear SD_156
      replace BB := Lib.hid (bel_trans BB.out b157)
      clear b157
      clear SC_161
      clear SD_163
      go_wp2_with fail
      refine ((FW _ QA_158.out).out).mono ?_
      rintro e w164 h164
      obtain ⟨A164, c164, rfl, rd164, zr164, b164⟩ := ro_use h164
      have QA_165 := Lib.hid (QA_158.out.below b164)
      clear QA_158
      have QI_166 := Lib.hid (QI_159.out.below b164)
      clear QI_159
      have ZA_167 := Lib.hid (ZA_160.out.below b164)
      clear ZA_160
      have ZC_168 := Lib.hid (ZC_162.out.below b164)
      clear ZC_162
      replace BB := Lib.hid (bel_trans BB.out b164)
      clear b164
      have RX := Lib.hid rd164
      clear rd164
      clear zr164
      go_wp2_with fail
      refine (equE_same A1 A164 F.length c1 c164 F _ rfl (by omega) QI_166.out RX.out).mono ?_
      rintro e w169 ⟨rfl, b169⟩
      have QA_170 := Lib.hid (QA_165.out.below b169)
      clear QA_165
      have QI_171 := Lib.hid (QI_166.out.below b169)
      clear QI_166
      have ZA_172 := Lib.hid (ZA_167.out.below b169)
      clear ZA_167
      have ZC_173 := Lib.hid (ZC_168.out.below b169)
      clear ZC_168
      have RX_174 := Lib.hid (RX.out.below b169)
      clear RX
      replace BB := Lib.hid (bel_trans BB.out b169)
      clear b169
      clear RX_174
      obtain ⟨nA, hnA⟩ : ∃ n, (secL 1 F).length = n := ⟨_, rfl⟩
      obtain ⟨nC, hnC⟩ : ∃ n, (secL 3 F).length = n := ⟨_, rfl⟩
      rw [hnA] at ZA_172 hS1
      rw [hnC] at ZC_173 hS3
      simp only [hnA, hnC]
      clear hnA hnC
      have ZA := ZA_172
      have ZC := ZC_173
      clear ZA_172 ZC_173
      go_wp2_with fail
      go_loopw [17] (fun i wr => ∃ z : Nat, z ≤ nA ∧ i = .int .i64 z ∧ Zr KS wr wq.heap.size A111 nA c111 ∧ Zr KW wr wq.heap.size A125 nC c125 ∧ Below wq.heap.size wq wr) (fun i _ => nA - (intOf i).toNat)
      case atStart => exact ⟨0, Nat.zero_le _, rfl, ZA.out.base HB1, ZC.out.base HB2, BB.out⟩
      case round =>
        clear ZA ZC BB
        obtain ⟨z, hz, rfl, za, zc, be⟩ := hrel
        by_cases hlz : z < nA
        · have d1 : decide ((z : Int) < nA) = true := decide_eq_true (by omega)
          have d2 : (z : Int) < nA := by omega
          obtain ⟨g, u0, u1, u2, u3, eA, hg1, hg2, y0, y1, y2, y3, ⟨f0, f1, f2, f3⟩, za2⟩ := za.at_ rfl hlz (a := .int .i64 0) (b := .int .u64 0) (c' := .int .i64 0) (d := .int .i64 0) i0 rfl
          subst eA
          have ZA2 := Lib.hid za2
          have ZC2 := Lib.hid (zc.keep (w' := st4 wr g z (.int .i64 0) (.int .u64 0) (.int .i64 0) (.int .i64 0)) fun g' i' e => st4_other (fun h => HNE.out g 0 g' i' rfl e h.symm))
          have BE2 := Lib.hid (st4_below (q := z) (a := .int .i64 0) (b := .int .u64 0) (c := .int .i64 0) (d := .int .i64 0) be hg1)
          clear za za2 zc be
          go_wp2
          go_roundw
          case rel =>
            refine ⟨z + 1, by omega, by go_num, ?_⟩
            rw [st4_eq]
            exact ⟨ZA2.out, ZC2.out, BE2.out⟩
          case measure => simp [intOf]; omega
        · obtain rfl : z = nA := by omega
          have d1 : decide ((z : Int) < z) = false := by simp
          obtain ⟨wy, rfl⟩ : ∃ wy : World, wy = wr := ⟨_, rfl⟩
          have ZC := Lib.hid zc
          have BB := Lib.hid be
          clear za zc be
          go_wp2_with fail
          go_loopw [18] (fun i wr => ∃ z : Nat, z ≤ nC ∧ i = .int .i64 z ∧ Zr KW wr wq.heap.size A125 nC c125 ∧ Below wq.heap.size wq wr) (fun i _ => nC - (intOf i).toNat)
          case atStart => exact ⟨0, Nat.zero_le _, rfl, ZC.out, BB.out⟩
          case round =>
            clear ZC BB
            obtain ⟨z, hz, rfl, zc, be⟩ := hrel
            by_cases hlz : z < nC
            · have d1 : decide ((z : Int) < nC) = true := decide_eq_true (by omega)
              have d2 : (z : Int) < nC := by omega
              obtain ⟨g, u0, u1, u2, u3, eA, hg1, hg2, y0, y1, y2, y3, ⟨f0, f1, f2, f3⟩, zc2⟩ := zc.at_ rfl hlz (a := .int .i64 0) (b := .int .u64 0) (c' := .int .i64 0) (d := .int .i64 0) i0 rfl
              subst eA
              have ZC2 := Lib.hid zc2
              have BE2 := Lib.hid (st4_below (q := z) (a := .int .i64 0) (b := .int .u64 0) (c := .int .i64 0) (d := .int .i64 0) be hg1)
              clear zc zc2 be
              go_wp2
              go_roundw
              case rel =>
                refine ⟨z + 1, by omega, by go_num, ?_⟩
                rw [st4_eq]
                exact ⟨ZC2.out, BE2.out⟩
              case measure => simp [intOf]; omega
            · obtain rfl : z = nC := by omega
              have d1 : decide ((z : Int) < z) = false := by simp
              go_wp2
              go_roundw
              case rel => exact ⟨k + 1, by omega, by go_num, bel_trans BE.out be⟩
              case measure => simp [intOf]; omega
    · obtain rfl : k = 2 := by omega
      have d0 : decide ((2 : Int) < 2) = false := by decide
      go_wp2_with fail
      refine (awake_any _).mono ?_
      rintro e w9 ⟨rfl, b9⟩
      go_wp2
      go_ret
      exact ⟨rfl, bel_trans BQ.out b9⟩
end Wk
end Go.Proofs.Ytbnchajkfceaoaa
