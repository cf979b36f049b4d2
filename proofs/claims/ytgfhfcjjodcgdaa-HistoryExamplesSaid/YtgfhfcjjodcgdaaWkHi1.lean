/- HistoryMatches: the walk. Conditions: those of the arguments' kinds. Written by tools/mk12w1.py. -/
import Derived.Test.YtgfhfcjjodcgdaaHiLw
namespace Go.Proofs.Ytgfhfcjjodcgdaa
open Go.RowKit Go.Shelf Go.Sort
set_option linter.unusedVariables false
set_option linter.unusedSimpArgs false
namespace Wk
open Hi
set_option maxRecDepth 100000 in
set_option maxHeartbeats 4000000 in
theorem walk_historyMatches (a0 : Option Addr) (a0n a0c : Nat) (a0v : List Hi.C) (a1 : Int) (a2 : Int) (w : World) (a0e : a0v.length = a0n) (a0m : a0n ≤ maxLen) (a0r : Hi.RdV w a0 a0v) (a0b : Hi.BdV a0v) (a0z : a0 = none → a0c = 0) (a0y : a0n ≤ a0c ∧ a0c ≤ maxLen) (a1l : (-9223372036854775808) ≤ a1) (a1h : a1 ≤ 9223372036854775807) (a2l : (-9223372036854775808) ≤ a2) (a2h : a2 ≤ 9223372036854775807) :
    Calls Try.prog 3 #[.slice a0 a0n a0c, .int .i64 a1, .int .i64 a2] w fun e w' => e = .returned (.bool true) ∧ Below w.heap.size w w' := by
  have RA := Lib.hid (show KC.Rd w a0 a0v from a0r)
  have FW := fun (W : World) (h : KC.Rd W a0 a0v) => Lib.hid (few_any a0 a0n a0c a0v W a0e a0m a0y.1 a0y.2 h a0z)
  have hF := few_len a0v
  have BF := Lib.hid (fewL_bd a0b)
  have B := Lib.hid (Below.refl w.heap.size w)
  obtain ⟨F, hFF⟩ : ∃ F, fewL a0v = F := ⟨_, rfl⟩
  rw [hFF] at FW hF BF
  have hF3 : F.length ≤ 1000 := by omega
  have hS1 : (ofT a1 F).length ≤ 100000 := by have := ofT_len a1 F; omega
  have hS2 : (peL F).length ≤ 100000 := by have := peL_len F; omega
  have hS3 : (efL F).length ≤ 100000 := by have := efL_len F; omega
  have hS4 : (pfL a2 F).length ≤ 100000 := by have := pfL_len a2 F; omega
  obtain ⟨cat, hcat⟩ : ∃ x, chkAt F = x := ⟨_, rfl⟩
  have HCA := Lib.hid hcat
  have bq1 : ((cat : Int) != (cat : Int)) = false := by simp
  obtain ⟨er, her⟩ : ∃ x, erC F = x := ⟨_, rfl⟩
  have HER := Lib.hid her
  have bq2 : (er != er) = false := by simp
  obtain ⟨es, hes⟩ : ∃ x, erS a2 F = x := ⟨_, rfl⟩
  have HES := Lib.hid hes
  have bq3 : (es != es) = false := by simp
  clear a0r a0b a0z a0y a0e a0m hFF hcat her hes
  go_enter Try.func3, Try.ntmps3
  go_wp2_with fail
  refine ((FW _ RA.out).out).mono ?_
  rintro e w1 h1
  obtain ⟨A1, c1, rfl, rd1, zr1, b1⟩ := ro_use h1
  have RA_2 := Lib.hid (RA.out.below b1)
  clear RA
  replace B := Lib.hid (bel_bel B.out b1)
  clear b1
  have RI := Lib.hid rd1
  clear rd1
  clear zr1
  go_wp2_with fail
  go_loopw [8] (fun i wr => ∃ k : Nat, k ≤ 2 ∧ i = .int .i64 k ∧ Below w1.heap.size w1 wr) (fun i _ => 2 - (intOf i).toNat)
  case atStart => exact ⟨0, by omega, rfl, Below.refl _ _⟩
  case round =>
    obtain ⟨k, hk, rfl, bel⟩ := hrel
    obtain ⟨wq, rfl⟩ : ∃ wq : World, wq = wr := ⟨_, rfl⟩
    have QA := Lib.hid (RA_2.out.below bel)
    have QI := Lib.hid (RI.out.below bel)
    have BQ := Lib.hid (bel_bel B.out bel)
    have BE := Lib.hid bel
    clear bel
    by_cases hlt : k < 2
    · have d0 : decide ((k : Int) < 2) = true := decide_eq_true (by omega)
      have BB := Lib.hid (Below.refl wq.heap.size wq)
      clear RA_2 RI
      go_wp2_with fail
      refine (check_use (check_any A1 F.length c1 F _ rfl hF3 QI.out BF.out)).mono ?_
      rintro e w101 ⟨h101, b101⟩
      have QA_102 := Lib.hid (QA.out.below b101)
      clear QA
      have QI_103 := Lib.hid (QI.out.below b101)
      clear QI
      replace BB := Lib.hid (bel_bel BB.out b101)
      clear b101
      rw [HCA.out, HER.out] at h101
      subst h101
      go_wp2_with fail
      refine ((FW _ QA_102.out).out).mono ?_
      rintro e w104 h104
      obtain ⟨A104, c104, rfl, rd104, zr104, b104⟩ := ro_use h104
      have QA_105 := Lib.hid (QA_102.out.below b104)
      clear QA_102
      have QI_106 := Lib.hid (QI_103.out.below b104)
      clear QI_103
      replace BB := Lib.hid (bel_bel BB.out b104)
      clear b104
      have RX := Lib.hid rd104
      clear rd104
      clear zr104
      go_wp2_with fail
      refine (check_use (rcheck_any A104 F.length c104 F _ rfl hF3 RX.out BF.out)).mono ?_
      rintro e w107 ⟨h107, b107⟩
      have QA_108 := Lib.hid (QA_105.out.below b107)
      clear QA_105
      have QI_109 := Lib.hid (QI_106.out.below b107)
      clear QI_106
      have RX_110 := Lib.hid (RX.out.below b107)
      clear RX
      replace BB := Lib.hid (bel_bel BB.out b107)
      clear b107
      rw [HCA.out, HER.out] at h107
      subst h107
      clear RX_110
      have HB1 := BB.out.size
      go_wp2_with fail
      refine (of_any a1 A1 F.length c1 F _ rfl hF3 QI_109.out).mono ?_
      rintro e w111 h111
      obtain ⟨A111, c111, rfl, rd111, zr111, b111⟩ := ro_use h111
      have QA_112 := Lib.hid (QA_108.out.below b111)
      clear QA_108
      have QI_113 := Lib.hid (QI_109.out.below b111)
      clear QI_109
      replace BB := Lib.hid (bel_bel BB.out b111)
      clear b111
      have SA := Lib.hid rd111
      clear rd111
      have ZA := Lib.hid zr111
      clear zr111
      go_wp2_with fail
      refine ((FW _ QA_112.out).out).mono ?_
      rintro e w114 h114
      obtain ⟨A114, c114, rfl, rd114, zr114, b114⟩ := ro_use h114
      have QA_115 := Lib.hid (QA_112.out.below b114)
      clear QA_112
      have QI_116 := Lib.hid (QI_113.out.below b114)
      clear QI_113
      have SA_117 := Lib.hid (SA.out.below b114)
      clear SA
      have ZA_118 := Lib.hid (ZA.out.below b114)
      clear ZA
      replace BB := Lib.hid (bel_bel BB.out b114)
      clear b114
      have RX := Lib.hid rd114
      clear rd114
      clear zr114
      go_wp2_with fail
      refine (rof_any a1 A114 F.length c114 F _ rfl hF3 RX.out).mono ?_
      rintro e w119 h119
      obtain ⟨A119, c119, rfl, rd119, zr119, b119⟩ := ro_use h119
      have QA_120 := Lib.hid (QA_115.out.below b119)
      clear QA_115
      have QI_121 := Lib.hid (QI_116.out.below b119)
      clear QI_116
      have SA_122 := Lib.hid (SA_117.out.below b119)
      clear SA_117
      have ZA_123 := Lib.hid (ZA_118.out.below b119)
      clear ZA_118
      have RX_124 := Lib.hid (RX.out.below b119)
      clear RX
      replace BB := Lib.hid (bel_bel BB.out b119)
      clear b119
      have SB := Lib.hid rd119
      clear rd119
      clear zr119
      clear RX_124
      have HB2 := BB.out.size
      go_wp2_with fail
      refine (pending_any A1 F.length c1 F _ rfl hF3 QI_121.out).mono ?_
      rintro e w125 h125
      obtain ⟨A125, c125, rfl, rd125, zr125, b125⟩ := ro_use h125
      have HNax := Lib.hid (Zr.ne ZA_123.out zr125 (Nat.le_refl _))
      have QA_126 := Lib.hid (QA_120.out.below b125)
      clear QA_120
      have QI_127 := Lib.hid (QI_121.out.below b125)
      clear QI_121
      have SA_128 := Lib.hid (SA_122.out.below b125)
      clear SA_122
      have ZA_129 := Lib.hid (ZA_123.out.below b125)
      clear ZA_123
      have SB_130 := Lib.hid (SB.out.below b125)
      clear SB
      replace BB := Lib.hid (bel_bel BB.out b125)
      clear b125
      have SX := Lib.hid rd125
      clear rd125
      have ZX := Lib.hid zr125
      clear zr125
      go_wp2_with fail
      refine ((FW _ QA_126.out).out).mono ?_
      rintro e w131 h131
      obtain ⟨A131, c131, rfl, rd131, zr131, b131⟩ := ro_use h131
      have QA_132 := Lib.hid (QA_126.out.below b131)
      clear QA_126
      have QI_133 := Lib.hid (QI_127.out.below b131)
      clear QI_127
      have SA_134 := Lib.hid (SA_128.out.below b131)
      clear SA_128
      have ZA_135 := Lib.hid (ZA_129.out.below b131)
      clear ZA_129
      have SB_136 := Lib.hid (SB_130.out.below b131)
      clear SB_130
      have SX_137 := Lib.hid (SX.out.below b131)
      clear SX
      have ZX_138 := Lib.hid (ZX.out.below b131)
      clear ZX
      replace BB := Lib.hid (bel_bel BB.out b131)
      clear b131
      have RX := Lib.hid rd131
      clear rd131
      clear zr131
      go_wp2_with fail
      refine (rpending_any A131 F.length c131 F _ rfl hF3 RX.out).mono ?_
      rintro e w139 h139
      obtain ⟨A139, c139, rfl, rd139, zr139, b139⟩ := ro_use h139
      have QA_140 := Lib.hid (QA_132.out.below b139)
      clear QA_132
      have QI_141 := Lib.hid (QI_133.out.below b139)
      clear QI_133
      have SA_142 := Lib.hid (SA_134.out.below b139)
      clear SA_134
      have ZA_143 := Lib.hid (ZA_135.out.below b139)
      clear ZA_135
      have SB_144 := Lib.hid (SB_136.out.below b139)
      clear SB_136
      have SX_145 := Lib.hid (SX_137.out.below b139)
      clear SX_137
      have ZX_146 := Lib.hid (ZX_138.out.below b139)
      clear ZX_138
      have RX_147 := Lib.hid (RX.out.below b139)
      clear RX
      replace BB := Lib.hid (bel_bel BB.out b139)
      clear b139
      have SY := Lib.hid rd139
      clear rd139
      clear zr139
      clear RX_147
      have HB3 := BB.out.size
      go_wp2_with fail
      refine (effects_any A1 F.length c1 F _ rfl hF3 QI_141.out BF.out).mono ?_
      rintro e w148 h148
      obtain ⟨A148, c148, rfl, rd148, zr148, b148⟩ := rw_use h148
      have HNac := Lib.hid (Zr.ne ZA_143.out zr148 (Nat.le_refl _))
      have HNxc := Lib.hid (Zr.ne ZX_146.out zr148 (Nat.le_refl _))
      rw [HER.out]
      have QA_149 := Lib.hid (QA_140.out.below b148)
      clear QA_140
      have QI_150 := Lib.hid (QI_141.out.below b148)
      clear QI_141
      have SA_151 := Lib.hid (SA_142.out.below b148)
      clear SA_142
      have ZA_152 := Lib.hid (ZA_143.out.below b148)
      clear ZA_143
      have SB_153 := Lib.hid (SB_144.out.below b148)
      clear SB_144
      have SX_154 := Lib.hid (SX_145.out.below b148)
      clear SX_145
      have ZX_155 := Lib.hid (ZX_146.out.below b148)
      clear ZX_146
      have SY_156 := Lib.hid (SY.out.below b148)
      clear SY
      replace BB := Lib.hid (bel_bel BB.out b148)
      clear b148
      have SC := Lib.hid rd148
      clear rd148
      have ZC := Lib.hid zr148
      clear zr148
      go_wp2_with fail
      refine ((FW _ QA_149.out).out).mono ?_
      rintro e w157 h157
      obtain ⟨A157, c157, rfl, rd157, zr157, b157⟩ := ro_use h157
      have QA_158 := Lib.hid (QA_149.out.below b157)
      clear QA_149
      have QI_159 := Lib.hid (QI_150.out.below b157)
      clear QI_150
      have SA_160 := Lib.hid (SA_151.out.below b157)
      clear SA_151
      have ZA_161 := Lib.hid (ZA_152.out.below b157)
      clear ZA_152
      have SB_162 := Lib.hid (SB_153.out.below b157)
      clear SB_153
      have SX_163 := Lib.hid (SX_154.out.below b157)
      clear SX_154
      have ZX_164 := Lib.hid (ZX_155.out.below b157)
      clear ZX_155
      have SY_165 := Lib.hid (SY_156.out.below b157)
      clear SY_156
      have SC_166 := Lib.hid (SC.out.below b157)
      clear SC
      have ZC_167 := Lib.hid (ZC.out.below b157)
      clear ZC
      replace BB := Lib.hid (bel_bel BB.out b157)
      clear b157
      have RX := Lib.hid rd157
      clear rd157
      clear zr157
      go_wp2_with fail
      refine (reffects_any A157 F.length c157 F _ rfl hF3 RX.out BF.out).mono ?_
      rintro e w168 h168
      obtain ⟨A168, c168, rfl, rd168, zr168, b168⟩ := rw_use h168
      rw [HER.out]
      have QA_169 := Lib.hid (QA_158.out.below b168)
      clear QA_158
      have QI_170 := Lib.hid (QI_159.out.below b168)
      clear QI_159
      have SA_171 := Lib.hid (SA_160.out.below b168)
      clear SA_160
      have ZA_172 := Lib.hid (ZA_161.out.below b168)
      clear ZA_161
      have SB_173 := Lib.hid (SB_162.out.below b168)
      clear SB_162
      have SX_174 := Lib.hid (SX_163.out.below b168)
      clear SX_163
      have ZX_175 := Lib.hid (ZX_164.out.below b168)
      clear ZX_164
      have SY_176 := Lib.hid (SY_165.out.below b168)
      clear SY_165
      have SC_177 := Lib.hid (SC_166.out.below b168)
      clear SC_166
      have ZC_178 := Lib.hid (ZC_167.out.below b168)
      clear ZC_167
      have RX_179 := Lib.hid (RX.out.below b168)
      clear RX
      replace BB := Lib.hid (bel_bel BB.out b168)
      clear b168
      have SD := Lib.hid rd168
      clear rd168
      clear zr168
      clear RX_179
      have HB4 := BB.out.size
      go_wp2_with fail
      refine (prefix_any a2 A1 F.length c1 F _ rfl hF3 QI_170.out BF.out).mono ?_
      rintro e w180 h180
      obtain ⟨A180, c180, rfl, rd180, zr180, b180⟩ := rw_use h180
      have HNap := Lib.hid (Zr.ne ZA_172.out zr180 (Nat.le_refl _))
      have HNxp := Lib.hid (Zr.ne ZX_175.out zr180 (Nat.le_refl _))
      have HNcp := Lib.hid (Zr.ne ZC_178.out zr180 (Nat.le_refl _))
      rw [HES.out]
      have QA_181 := Lib.hid (QA_169.out.below b180)
      clear QA_169
      have QI_182 := Lib.hid (QI_170.out.below b180)
      clear QI_170
      have SA_183 := Lib.hid (SA_171.out.below b180)
      clear SA_171
      have ZA_184 := Lib.hid (ZA_172.out.below b180)
      clear ZA_172
      have SB_185 := Lib.hid (SB_173.out.below b180)
      clear SB_173
      have SX_186 := Lib.hid (SX_174.out.below b180)
      clear SX_174
      have ZX_187 := Lib.hid (ZX_175.out.below b180)
      clear ZX_175
      have SY_188 := Lib.hid (SY_176.out.below b180)
      clear SY_176
      have SC_189 := Lib.hid (SC_177.out.below b180)
      clear SC_177
      have ZC_190 := Lib.hid (ZC_178.out.below b180)
      clear ZC_178
      have SD_191 := Lib.hid (SD.out.below b180)
      clear SD
      replace BB := Lib.hid (bel_bel BB.out b180)
      clear b180
      have SP := Lib.hid rd180
      clear rd180
      have ZP := Lib.hid zr180
      clear zr180
      go_wp2_with fail
      refine ((FW _ QA_181.out).out).mono ?_
      rintro e w192 h192
      obtain ⟨A192, c192, rfl, rd192, zr192, b192⟩ := ro_use h192
      have QA_193 := Lib.hid (QA_181.out.below b192)
      clear QA_181
      have QI_194 := Lib.hid (QI_182.out.below b192)
      clear QI_182
      have SA_195 := Lib.hid (SA_183.out.below b192)
      clear SA_183
      have ZA_196 := Lib.hid (ZA_184.out.below b192)
      clear ZA_184
      have SB_197 := Lib.hid (SB_185.out.below b192)
      clear SB_185
      have SX_198 := Lib.hid (SX_186.out.below b192)
      clear SX_186
      have ZX_199 := Lib.hid (ZX_187.out.below b192)
      clear ZX_187
      have SY_200 := Lib.hid (SY_188.out.below b192)
      clear SY_188
      have SC_201 := Lib.hid (SC_189.out.below b192)
      clear SC_189
      have ZC_202 := Lib.hid (ZC_190.out.below b192)
      clear ZC_190
      have SD_203 := Lib.hid (SD_191.out.below b192)
      clear SD_191
      have SP_204 := Lib.hid (SP.out.below b192)
      clear SP
      have ZP_205 := Lib.hid (ZP.out.below b192)
      clear ZP
      replace BB := Lib.hid (bel_bel BB.out b192)
      clear b192
      have RX := Lib.hid rd192
      clear rd192
      clear zr192
      go_wp2_with fail
      refine (rprefix_any a2 A192 F.length c192 F _ rfl hF3 RX.out BF.out).mono ?_
      rintro e w206 h206
      obtain ⟨A206, c206, rfl, rd206, zr206, b206⟩ := rw_use h206
      rw [HES.out]
      have QA_207 := Lib.hid (QA_193.out.below b206)
      clear QA_193
      have QI_208 := Lib.hid (QI_194.out.below b206)
      clear QI_194
      have SA_209 := Lib.hid (SA_195.out.below b206)
      clear SA_195
      have ZA_210 := Lib.hid (ZA_196.out.below b206)
      clear ZA_196
      have SB_211 := Lib.hid (SB_197.out.below b206)
      clear SB_197
      have SX_212 := Lib.hid (SX_198.out.below b206)
      clear SX_198
      have ZX_213 := Lib.hid (ZX_199.out.below b206)
      clear ZX_199
      have SY_214 := Lib.hid (SY_200.out.below b206)
      clear SY_200
      have SC_215 := Lib.hid (SC_201.out.below b206)
      clear SC_201
      have ZC_216 := Lib.hid (ZC_202.out.below b206)
      clear ZC_202
      have SD_217 := Lib.hid (SD_203.out.below b206)
      clear SD_203
      have SP_218 := Lib.hid (SP_204.out.below b206)
      clear SP_204
      have ZP_219 := Lib.hid (ZP_205.out.below b206)
      clear ZP_205
      have RX_220 := Lib.hid (RX.out.below b206)
      clear RX
      replace BB := Lib.hid (bel_bel BB.out b206)
      clear b206
      have SQ := Lib.hid rd206
      clear rd206
      clear zr206
      clear RX_220
      go_wp2_with fail
      refine (equC_same A111 A119 (ofT a1 F).length c111 c119 (ofT a1 F) _ rfl hS1 SA_209.out SB_211.out).mono ?_
      rintro e w221 ⟨rfl, b221⟩
      have QA_222 := Lib.hid (QA_207.out.below b221)
      clear QA_207
      have QI_223 := Lib.hid (QI_208.out.below b221)
      clear QI_208
      have SA_224 := Lib.hid (SA_209.out.below b221)
      clear SA_209
      have ZA_225 := Lib.hid (ZA_210.out.below b221)
      clear ZA_210
      have SB_226 := Lib.hid (SB_211.out.below b221)
      clear SB_211
      have SX_227 := Lib.hid (SX_212.out.below b221)
      clear SX_212
      have ZX_228 := Lib.hid (ZX_213.out.below b221)
      clear ZX_213
      have SY_229 := Lib.hid (SY_214.out.below b221)
      clear SY_214
      have SC_230 := Lib.hid (SC_215.out.below b221)
      clear SC_215
      have ZC_231 := Lib.hid (ZC_216.out.below b221)
      clear ZC_216
      have SD_232 := Lib.hid (SD_217.out.below b221)
      clear SD_217
      have SP_233 := Lib.hid (SP_218.out.below b221)
      clear SP_218
      have ZP_234 := Lib.hid (ZP_219.out.below b221)
      clear ZP_219
      have SQ_235 := Lib.hid (SQ.out.below b221)
      clear SQ
      replace BB := Lib.hid (bel_bel BB.out b221)
      clear b221
      clear SA_224
      clear SB_226
      go_wp2_with fail
      refine (equI_same A125 A139 (peL F).length c125 c139 (peL F) _ rfl hS2 SX_227.out SY_229.out).mono ?_
      rintro e w236 ⟨rfl, b236⟩
      have QA_237 := Lib.hid (QA_222.out.below b236)
      clear QA_222
      have QI_238 := Lib.hid (QI_223.out.below b236)
      clear QI_223
      have ZA_239 := Lib.hid (ZA_225.out.below b236)
      clear ZA_225
      have SX_240 := Lib.hid (SX_227.out.below b236)
      clear SX_227
      have ZX_241 := Lib.hid (ZX_228.out.below b236)
      clear ZX_228
      have SY_242 := Lib.hid (SY_229.out.below b236)
      clear SY_229
      have SC_243 := Lib.hid (SC_230.out.below b236)
      clear SC_230
      have ZC_244 := Lib.hid (ZC_231.out.below b236)
      clear ZC_231
      have SD_245 := Lib.hid (SD_232.out.below b236)
      clear SD_232
      have SP_246 := Lib.hid (SP_233.out.below b236)
      clear SP_233
      have ZP_247 := Lib.hid (ZP_234.out.below b236)
      clear ZP_234
      have SQ_248 := Lib.hid (SQ_235.out.below b236)
      clear SQ_235
      replace BB := Lib.hid (bel_bel BB.out b236)
      clear b236
      clear SX_240
      clear SY_242
      go_wp2_with fail
      refine (equI_same A148 A168 (efL F).length c148 c168 (efL F) _ rfl hS3 SC_243.out SD_245.out).mono ?_
      rintro e w249 ⟨rfl, b249⟩
      have QA_250 := Lib.hid (QA_237.out.below b249)
      clear QA_237
      have QI_251 := Lib.hid (QI_238.out.below b249)
      clear QI_238
      have ZA_252 := Lib.hid (ZA_239.out.below b249)
      clear ZA_239
      have ZX_253 := Lib.hid (ZX_241.out.below b249)
      clear ZX_241
      have SC_254 := Lib.hid (SC_243.out.below b249)
      clear SC_243
      have ZC_255 := Lib.hid (ZC_244.out.below b249)
      clear ZC_244
      have SD_256 := Lib.hid (SD_245.out.below b249)
      clear SD_245
      have SP_257 := Lib.hid (SP_246.out.below b249)
      clear SP_246
      have ZP_258 := Lib.hid (ZP_247.out.below b249)
      clear ZP_247
      have SQ_259 := Lib.hid (SQ_248.out.below b249)
      clear SQ_248
      replace BB := Lib.hid (bel_bel BB.out b249)
      clear b249
      clear SC_254
      clear SD_256
      go_wp2_with fail
      refine (equC_same A180 A206 (pfL a2 F).length c180 c206 (pfL a2 F) _ rfl hS4 SP_257.out SQ_259.out).mono ?_
      rintro e w260 ⟨rfl, b260⟩
      have QA_261 := Lib.hid (QA_250.out.below b260)
      clear QA_250
      have QI_262 := Lib.hid (QI_251.out.below b260)
      clear QI_251
      have ZA_263 := Lib.hid (ZA_252.out.below b260)
      clear ZA_252
      have ZX_264 := Lib.hid (ZX_253.out.below b260)
      clear ZX_253
      have ZC_265 := Lib.hid (ZC_255.out.below b260)
      clear ZC_255
      have SP_266 := Lib.hid (SP_257.out.below b260)
      clear SP_257
      have ZP_267 := Lib.hid (ZP_258.out.below b260)
      clear ZP_258
      have SQ_268 := Lib.hid (SQ_259.out.below b260)
      clear SQ_259
      replace BB := Lib.hid (bel_bel BB.out b260)
      clear b260
      clear SP_266
      clear SQ_268
      go_wp2_with fail
      refine ((FW _ QA_261.out).out).mono ?_
      rintro e w269 h269
      obtain ⟨A269, c269, rfl, rd269, zr269, b269⟩ := ro_use h269
      have QA_270 := Lib.hid (QA_261.out.below b269)
      clear QA_261
      have QI_271 := Lib.hid (QI_262.out.below b269)
      clear QI_262
      have ZA_272 := Lib.hid (ZA_263.out.below b269)
      clear ZA_263
      have ZX_273 := Lib.hid (ZX_264.out.below b269)
      clear ZX_264
      have ZC_274 := Lib.hid (ZC_265.out.below b269)
      clear ZC_265
      have ZP_275 := Lib.hid (ZP_267.out.below b269)
      clear ZP_267
      replace BB := Lib.hid (bel_bel BB.out b269)
      clear b269
      have RX := Lib.hid rd269
      clear rd269
      clear zr269
      go_wp2_with fail
      refine (equC_same A1 A269 F.length c1 c269 F _ rfl (by omega) QI_271.out RX.out).mono ?_
      rintro e w276 ⟨rfl, b276⟩
      have QA_277 := Lib.hid (QA_270.out.below b276)
      clear QA_270
      have QI_278 := Lib.hid (QI_271.out.below b276)
      clear QI_271
      have ZA_279 := Lib.hid (ZA_272.out.below b276)
      clear ZA_272
      have ZX_280 := Lib.hid (ZX_273.out.below b276)
      clear ZX_273
      have ZC_281 := Lib.hid (ZC_274.out.below b276)
      clear ZC_274
      have ZP_282 := Lib.hid (ZP_275.out.below b276)
      clear ZP_275
      have RX_283 := Lib.hid (RX.out.below b276)
      clear RX
      replace BB := Lib.hid (bel_bel BB.out b276)
      clear b276
      clear RX_283
      have ZA0 := Lib.hid (ZA_279.out.base HB1)
      have ZA1 := Lib.hid (ZP_282.out.base HB4)
      have ZA2 := Lib.hid (ZX_280.out.base HB2)
      have ZA3 := Lib.hid (ZC_281.out.base HB3)
      clear ZA_279 ZP_282 ZX_280 ZC_281
      obtain ⟨nA, hnA⟩ : ∃ n, (ofT a1 F).length = n := ⟨_, rfl⟩
      obtain ⟨nP, hnP⟩ : ∃ n, (pfL a2 F).length = n := ⟨_, rfl⟩
      obtain ⟨nX, hnX⟩ : ∃ n, (peL F).length = n := ⟨_, rfl⟩
      obtain ⟨nC, hnC⟩ : ∃ n, (efL F).length = n := ⟨_, rfl⟩
      rw [hnA] at ZA0 hS1
      rw [hnP] at ZA1 hS4
      rw [hnX] at ZA2 hS2
      rw [hnC] at ZA3 hS3
      simp only [hnA, hnP, hnX, hnC]
      clear hnA hnP hnX hnC
      go_wp2_with fail
      go_loopw [25] (fun i wr => ∃ z : Nat, z ≤ nA ∧ i = .int .i64 z ∧ Zr KC wr wq.heap.size A111 nA c111 ∧ Zr KC wr wq.heap.size A180 nP c180 ∧ Zr KI wr wq.heap.size A125 nX c125 ∧ Zr KI wr wq.heap.size A148 nC c148 ∧ Below wq.heap.size wq wr) (fun i _ => nA - (intOf i).toNat)
      case atStart => exact ⟨0, Nat.zero_le _, rfl, ZA0.out, ZA1.out, ZA2.out, ZA3.out, BB.out⟩
      case round =>
        clear ZA0 ZA1 ZA2 ZA3 BB
        obtain ⟨z, hz, rfl, za, zk0, zk1, zk2, be⟩ := hrel
        obtain ⟨wv, rfl⟩ : ∃ wv : World, wv = wr := ⟨_, rfl⟩
        by_cases hlz : z < nA
        · have d1 : decide ((z : Int) < nA) = true := decide_eq_true (by omega)
          have d2 : (z : Int) < nA := by omega
          obtain ⟨g, eA⟩ := za.addr (by omega)
          have hg1 := (za.blk g 0 eA).1
          have ZH0 := Lib.hid (show ∀ W' : World, (∀ k, k ≠ g → W'.heap[k]? = wv.heap[k]?) → Zr KC W' wq.heap.size A180 nP c180 from fun W' hW => zk0.keep fun g' i' e => hW _ (fun h => HNap.out g 0 g' i' eA e h.symm))
          have ZH1 := Lib.hid (show ∀ W' : World, (∀ k, k ≠ g → W'.heap[k]? = wv.heap[k]?) → Zr KI W' wq.heap.size A125 nX c125 from fun W' hW => zk1.keep fun g' i' e => hW _ (fun h => HNax.out g 0 g' i' eA e h.symm))
          have ZH2 := Lib.hid (show ∀ W' : World, (∀ k, k ≠ g → W'.heap[k]? = wv.heap[k]?) → Zr KI W' wq.heap.size A148 nC c148 from fun W' hW => zk2.keep fun g' i' e => hW _ (fun h => HNac.out g 0 g' i' eA e h.symm))
          subst eA
          have ZV := Lib.hid za
          have BV0 := Lib.hid be
          clear za be zk0 zk1 zk2
          go_wp2_with (refine stz rfl _ _ rfl wq.heap.size nA c111 g z ZV.out hlz rfl c0 rfl ?_; intro W' zw hw bw)
          go_roundw
          case rel => exact ⟨z + 1, by omega, by go_num, zw, ZH0.out _ hw, ZH1.out _ hw, ZH2.out _ hw, bw _ _ hg1 BV0.out⟩
          case measure => simp [intOf]; omega
        · obtain rfl : z = nA := by omega
          have d1 : decide ((z : Int) < z) = false := by simp
          have ZA0 := Lib.hid zk0
          have ZA1 := Lib.hid zk1
          have ZA2 := Lib.hid zk2
          have BB := Lib.hid be
          clear za be zk0 zk1 zk2
          go_wp2_with fail
          go_loopw [26] (fun i wr => ∃ z : Nat, z ≤ nP ∧ i = .int .i64 z ∧ Zr KC wr wq.heap.size A180 nP c180 ∧ Zr KI wr wq.heap.size A125 nX c125 ∧ Zr KI wr wq.heap.size A148 nC c148 ∧ Below wq.heap.size wq wr) (fun i _ => nP - (intOf i).toNat)
          case atStart => exact ⟨0, Nat.zero_le _, rfl, ZA0.out, ZA1.out, ZA2.out, BB.out⟩
          case round =>
            clear ZA0 ZA1 ZA2 BB
            obtain ⟨z, hz, rfl, za, zk0, zk1, be⟩ := hrel
            obtain ⟨wv, rfl⟩ : ∃ wv : World, wv = wr := ⟨_, rfl⟩
            by_cases hlz : z < nP
            · have d1 : decide ((z : Int) < nP) = true := decide_eq_true (by omega)
              have d2 : (z : Int) < nP := by omega
              obtain ⟨g, eA⟩ := za.addr (by omega)
              have hg1 := (za.blk g 0 eA).1
              have ZH0 := Lib.hid (show ∀ W' : World, (∀ k, k ≠ g → W'.heap[k]? = wv.heap[k]?) → Zr KI W' wq.heap.size A125 nX c125 from fun W' hW => zk0.keep fun g' i' e => hW _ (fun h => HNxp.out g' i' g 0 e eA h))
              have ZH1 := Lib.hid (show ∀ W' : World, (∀ k, k ≠ g → W'.heap[k]? = wv.heap[k]?) → Zr KI W' wq.heap.size A148 nC c148 from fun W' hW => zk1.keep fun g' i' e => hW _ (fun h => HNcp.out g' i' g 0 e eA h))
              subst eA
              have ZV := Lib.hid za
              have BV0 := Lib.hid be
              clear za be zk0 zk1
              go_wp2_with (refine stz rfl _ _ rfl wq.heap.size nP c180 g z ZV.out hlz rfl c0 rfl ?_; intro W' zw hw bw)
              go_roundw
              case rel => exact ⟨z + 1, by omega, by go_num, zw, ZH0.out _ hw, ZH1.out _ hw, bw _ _ hg1 BV0.out⟩
              case measure => simp [intOf]; omega
            · obtain rfl : z = nP := by omega
              have d1 : decide ((z : Int) < z) = false := by simp
              have ZA0 := Lib.hid zk0
              have ZA1 := Lib.hid zk1
              have BB := Lib.hid be
              clear za be zk0 zk1
              go_wp2_with fail
              go_loopw [27] (fun i wr => ∃ z : Nat, z ≤ nX ∧ i = .int .i64 z ∧ Zr KI wr wq.heap.size A125 nX c125 ∧ Zr KI wr wq.heap.size A148 nC c148 ∧ Below wq.heap.size wq wr) (fun i _ => nX - (intOf i).toNat)
              case atStart => exact ⟨0, Nat.zero_le _, rfl, ZA0.out, ZA1.out, BB.out⟩
              case round =>
                clear ZA0 ZA1 BB
                obtain ⟨z, hz, rfl, za, zk0, be⟩ := hrel
                obtain ⟨wv, rfl⟩ : ∃ wv : World, wv = wr := ⟨_, rfl⟩
                by_cases hlz : z < nX
                · have d1 : decide ((z : Int) < nX) = true := decide_eq_true (by omega)
                  have d2 : (z : Int) < nX := by omega
                  obtain ⟨g, eA⟩ := za.addr (by omega)
                  have hg1 := (za.blk g 0 eA).1
                  have ZH0 := Lib.hid (show ∀ W' : World, (∀ k, k ≠ g → W'.heap[k]? = wv.heap[k]?) → Zr KI W' wq.heap.size A148 nC c148 from fun W' hW => zk0.keep fun g' i' e => hW _ (fun h => HNxc.out g 0 g' i' eA e h.symm))
                  subst eA
                  have ZV := Lib.hid za
                  have BV0 := Lib.hid be
                  obtain ⟨y0, f0⟩ := za.there hlz 0 (by decide)
                  rw [show z * KI.sz + 0 = z by show z * 1 + 0 = z; omega] at y0 f0
                  obtain ⟨u0, y0⟩ := Option.isSome_iff_exists.1 y0
                  clear za be zk0
                  go_wp2_with fail
                  go_roundw
                  case rel => exact ⟨z + 1, by omega, by go_num, ZV.out.sets [.int .i64 (-1)] z, ZH0.out _ (fun k hk => Below.heap_setCell wv ⟨g, z, none⟩ _ k hk), BV0.out.setCell (p := ⟨g, z, none⟩) hg1 _⟩
                  case measure => simp [intOf]; omega
                · obtain rfl : z = nX := by omega
                  have d1 : decide ((z : Int) < z) = false := by simp
                  have ZA0 := Lib.hid zk0
                  have BB := Lib.hid be
                  clear za be zk0
                  go_wp2_with fail
                  go_loopw [28] (fun i wr => ∃ z : Nat, z ≤ nC ∧ i = .int .i64 z ∧ Zr KI wr wq.heap.size A148 nC c148 ∧ Below wq.heap.size wq wr) (fun i _ => nC - (intOf i).toNat)
                  case atStart => exact ⟨0, Nat.zero_le _, rfl, ZA0.out, BB.out⟩
                  case round =>
                    clear ZA0 BB
                    obtain ⟨z, hz, rfl, za, be⟩ := hrel
                    obtain ⟨wv, rfl⟩ : ∃ wv : World, wv = wr := ⟨_, rfl⟩
                    by_cases hlz : z < nC
                    · have d1 : decide ((z : Int) < nC) = true := decide_eq_true (by omega)
                      have d2 : (z : Int) < nC := by omega
                      obtain ⟨g, eA⟩ := za.addr (by omega)
                      have hg1 := (za.blk g 0 eA).1
                      subst eA
                      have ZV := Lib.hid za
                      have BV0 := Lib.hid be
                      obtain ⟨y0, f0⟩ := za.there hlz 0 (by decide)
                      rw [show z * KI.sz + 0 = z by show z * 1 + 0 = z; omega] at y0 f0
                      obtain ⟨u0, y0⟩ := Option.isSome_iff_exists.1 y0
                      clear za be 
                      go_wp2_with fail
                      go_roundw
                      case rel => exact ⟨z + 1, by omega, by go_num, ZV.out.sets [.int .i64 (-1)] z, BV0.out.setCell (p := ⟨g, z, none⟩) hg1 _⟩
                      case measure => simp [intOf]; omega
                    · obtain rfl : z = nC := by omega
                      have d1 : decide ((z : Int) < z) = false := by simp
                      have BB := Lib.hid be
                      clear za be 
                      have be := BB.out
                      clear BB
                      go_wp2
                      go_roundw
                      case rel => exact ⟨k + 1, by omega, by go_num, bel_bel BE.out be⟩
                      case measure => simp [intOf]; omega
    · obtain rfl : k = 2 := by omega
      have d0 : decide ((2 : Int) < 2) = false := by decide
      go_wp2_with fail
      refine (awake_any _).mono ?_
      rintro e w9 ⟨rfl, b9⟩
      go_wp2
      go_ret
      exact ⟨rfl, bel_bel BQ.out b9⟩
end Wk
end Go.Proofs.Ytgfhfcjjodcgdaa
