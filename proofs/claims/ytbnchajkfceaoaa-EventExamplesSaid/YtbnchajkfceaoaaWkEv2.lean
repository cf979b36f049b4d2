/- EventLooks: the walk. Conditions: those of the arguments' kinds. Written by tools/mk11w2.py. -/
import Derived.Test.YtbnchajkfceaoaaWkEv1
namespace Go.Proofs.Ytbnchajkfceaoaa
open Go.RowKit Go.Sort
set_option linter.unusedVariables false
set_option linter.unusedSimpArgs false
namespace Wk
open Ev
attribute [local go_sem] guardS
theorem insV_form (t st : Int) (l : List E) : ∃ (x : I) (q : Bool) (r : Int), insV t st l = .tuple #[.agg #[.int .i64 x.t, .int .u64 x.v, .int .i64 x.a, .int .i64 x.b], .bool q, .int .i64 r] := by
  unfold insV
  split
  · split
    · exact ⟨⟨0, 0, 0, 0⟩, _, _, rfl⟩
    · split
      · exact ⟨⟨0, 0, 0, 0⟩, _, _, rfl⟩
      · split
        · exact ⟨_, _, _, rfl⟩
        · exact ⟨⟨0, 0, 0, 0⟩, _, _, rfl⟩
  · exact ⟨⟨0, 0, 0, 0⟩, _, _, rfl⟩
theorem opL_len (st : Int) (l : List E) : (opL st l).length ≤ l.length := by
  unfold opL
  split
  · exact Nat.le_trans (opn_len _ _) (ivs_len 1 l)
  · simp
theorem upL_len (st : Int) (l : List E) : (upL st l).length ≤ l.length := by
  unfold upL
  split
  · exact upto_len _ _
  · simp
set_option maxRecDepth 100000 in
set_option maxHeartbeats 4000000 in
theorem walk_eventLooks (a0 : Int) (a1 : Int) (a2 : Option Addr) (a2n a2c : Nat) (a2v : List Ev.E) (w : World) (a0l : (-9223372036854775808) ≤ a0) (a0h : a0 ≤ 9223372036854775807) (a1l : (-9223372036854775808) ≤ a1) (a1h : a1 ≤ 9223372036854775807) (a2e : a2v.length = a2n) (a2m : a2n ≤ maxLen) (a2r : Ev.RdV w a2 a2v) (a2b : Ev.BdV a2v) (a2z : a2 = none → a2c = 0) (a2y : a2n ≤ a2c ∧ a2c ≤ maxLen) :
    Calls Try.prog 4 #[.int .i64 a0, .int .i64 a1, .slice a2 a2n a2c] w fun e w' => e = .returned (.bool true) ∧ Below w.heap.size w w' := by
  have RA := Lib.hid (show KE.Rd w a2 a2v from a2r)
  have FW := fun (W : World) (h : KE.Rd W a2 a2v) => Lib.hid (few_any a2 a2n a2c a2v W a2e a2m a2y.1 a2y.2 h a2z)
  have hF := few_len a2v
  have B := Lib.hid (Below.refl w.heap.size w)
  obtain ⟨F, hFF⟩ : ∃ F, fewL a2v = F := ⟨_, rfl⟩
  rw [hFF] at FW hF
  have hF2 : F.length ≤ maxLen := by unfold maxLen; omega
  unfold maxLen at hF2
  obtain ⟨x, q, r, hins⟩ := insV_form a0 a1 F
  obtain ⟨xt, xv, xa, xb⟩ := x
  have HINS := Lib.hid hins
  have ER := fun W => eqS ⟨xt, xv, xa, xb⟩ ⟨xt, xv, xa, xb⟩ W
  rw [decide_eq_true rfl] at ER
  simp only at ER
  have hS1 : (opL a1 F).length ≤ 100000 := by have := opL_len a1 F; omega
  have hS2 : (upL a1 F).length ≤ 100000 := by have := upL_len a1 F; omega
  have hS3 : (ofT a0 F).length ≤ 100000 := by have := ofT_len a0 F; omega
  have bq0 : (q != q) = false := by simp
  clear a2r a2b a2z a2y a2e a2m hFF hins
  go_enter Try.func4, Try.ntmps4
  go_wp2_with fail
  refine ((FW _ RA.out).out).mono ?_
  rintro e w1 h1
  obtain ⟨A1, c1, rfl, rd1, zr1, b1⟩ := ro_use h1
  have RA_2 := Lib.hid (RA.out.below b1)
  clear RA
  replace B := Lib.hid (bel_trans B.out b1)
  clear b1
  have RI := Lib.hid rd1
  clear rd1
  clear zr1
  go_wp2_with fail
  go_loopw [8] (fun i wr => ∃ k : Nat, k ≤ 2 ∧ i = .int .i64 k ∧ Below w1.heap.size w1 wr) (fun i _ => 2 - (intOf i).toNat)
  case atStart => exact ⟨0, by omega, rfl, Below.refl _ _⟩
  case round =>
    obtain ⟨k, hk, rfl, bel⟩ := hrel
    obtain ⟨wq, rfl⟩ : ∃ wq : World, wq = wr := ⟨_, rfl⟩
    have QA := Lib.hid (RA_2.out.below bel)
    have QI := Lib.hid (RI.out.below bel)
    have BQ := Lib.hid (bel_trans B.out bel)
    have BE := Lib.hid bel
    clear bel
    by_cases hlt : k < 2
    · have d0 : decide ((k : Int) < 2) = true := decide_eq_true (by omega)
      have BB := Lib.hid (Below.refl wq.heap.size wq)
      clear RA_2 RI
      have HB1 := BB.out.size
      go_wp2_with fail
      refine (open_any a1 A1 F.length c1 F _ rfl (by omega) QI.out).mono ?_
      rintro e w101 h101
      obtain ⟨A101, c101, rfl, rd101, zr101, b101⟩ := rw_use h101
      have QA_102 := Lib.hid (QA.out.below b101)
      clear QA
      have QI_103 := Lib.hid (QI.out.below b101)
      clear QI
      replace BB := Lib.hid (bel_trans BB.out b101)
      clear b101
      have SA := Lib.hid rd101
      clear rd101
      have ZA := Lib.hid zr101
      clear zr101
      go_wp2_with fail
      refine ((FW _ QA_102.out).out).mono ?_
      rintro e w104 h104
      obtain ⟨A104, c104, rfl, rd104, zr104, b104⟩ := ro_use h104
      have QA_105 := Lib.hid (QA_102.out.below b104)
      clear QA_102
      have QI_106 := Lib.hid (QI_103.out.below b104)
      clear QI_103
      have SA_107 := Lib.hid (SA.out.below b104)
      clear SA
      have ZA_108 := Lib.hid (ZA.out.below b104)
      clear ZA
      replace BB := Lib.hid (bel_trans BB.out b104)
      clear b104
      have RX := Lib.hid rd104
      clear rd104
      clear zr104
      go_wp2_with fail
      refine (openR_any a1 A104 F.length c104 F _ rfl (by omega) RX.out).mono ?_
      rintro e w109 h109
      obtain ⟨A109, c109, rfl, rd109, zr109, b109⟩ := rw_use h109
      have QA_110 := Lib.hid (QA_105.out.below b109)
      clear QA_105
      have QI_111 := Lib.hid (QI_106.out.below b109)
      clear QI_106
      have SA_112 := Lib.hid (SA_107.out.below b109)
      clear SA_107
      have ZA_113 := Lib.hid (ZA_108.out.below b109)
      clear ZA_108
      have RX_114 := Lib.hid (RX.out.below b109)
      clear RX
      replace BB := Lib.hid (bel_trans BB.out b109)
      clear b109
      have SB := Lib.hid rd109
      clear rd109
      clear zr109
      clear RX_114
      go_wp2_with fail
      refine (inside_any a0 a1 A1 F.length c1 F _ rfl (by omega) QI_111.out).mono ?_
      rintro e w115 ⟨h115, b115⟩
      have QA_116 := Lib.hid (QA_110.out.below b115)
      clear QA_110
      have QI_117 := Lib.hid (QI_111.out.below b115)
      clear QI_111
      have SA_118 := Lib.hid (SA_112.out.below b115)
      clear SA_112
      have ZA_119 := Lib.hid (ZA_113.out.below b115)
      clear ZA_113
      have SB_120 := Lib.hid (SB.out.below b115)
      clear SB
      replace BB := Lib.hid (bel_trans BB.out b115)
      clear b115
      rw [HINS.out] at h115
      subst h115
      have BX := Lib.hid (Bs.new (w115) ⟨xt, xv, xa, xb⟩)
      have b121 := bel_alloc (Below.refl (w115).heap.size (w115)) (.cells #[.int .i64 xt, .int .u64 xv, .int .i64 xa, .int .i64 xb] 41)
      have QA_122 := Lib.hid (QA_116.out.below b121)
      clear QA_116
      have QI_123 := Lib.hid (QI_117.out.below b121)
      clear QI_117
      have SA_124 := Lib.hid (SA_118.out.below b121)
      clear SA_118
      have ZA_125 := Lib.hid (ZA_119.out.below b121)
      clear ZA_119
      have SB_126 := Lib.hid (SB_120.out.below b121)
      clear SB_120
      replace BB := Lib.hid (bel_trans BB.out b121)
      clear b121
      go_wp2_with fail
      refine ((FW _ QA_122.out).out).mono ?_
      rintro e w127 h127
      obtain ⟨A127, c127, rfl, rd127, zr127, b127⟩ := ro_use h127
      have QA_128 := Lib.hid (QA_122.out.below b127)
      clear QA_122
      have QI_129 := Lib.hid (QI_123.out.below b127)
      clear QI_123
      have SA_130 := Lib.hid (SA_124.out.below b127)
      clear SA_124
      have ZA_131 := Lib.hid (ZA_125.out.below b127)
      clear ZA_125
      have SB_132 := Lib.hid (SB_126.out.below b127)
      clear SB_126
      have BX_133 := Lib.hid (BX.out.below b127 BX.out.lt)
      clear BX
      replace BB := Lib.hid (bel_trans BB.out b127)
      clear b127
      have RX := Lib.hid rd127
      clear rd127
      clear zr127
      go_wp2_with fail
      refine (insideR_any a0 a1 A127 F.length c127 F _ rfl (by omega) RX.out).mono ?_
      rintro e w134 ⟨h134, b134⟩
      have QA_135 := Lib.hid (QA_128.out.below b134)
      clear QA_128
      have QI_136 := Lib.hid (QI_129.out.below b134)
      clear QI_129
      have SA_137 := Lib.hid (SA_130.out.below b134)
      clear SA_130
      have ZA_138 := Lib.hid (ZA_131.out.below b134)
      clear ZA_131
      have SB_139 := Lib.hid (SB_132.out.below b134)
      clear SB_132
      have BX_140 := Lib.hid (BX_133.out.below b134 BX_133.out.lt)
      clear BX_133
      have RX_141 := Lib.hid (RX.out.below b134)
      clear RX
      replace BB := Lib.hid (bel_trans BB.out b134)
      clear b134
      rw [HINS.out] at h134
      subst h134
      clear RX_141
      have BY := Lib.hid (Bs.new (w134) ⟨xt, xv, xa, xb⟩)
      have b142 := bel_alloc (Below.refl (w134).heap.size (w134)) (.cells #[.int .i64 xt, .int .u64 xv, .int .i64 xa, .int .i64 xb] 41)
      have QA_143 := Lib.hid (QA_135.out.below b142)
      clear QA_135
      have QI_144 := Lib.hid (QI_136.out.below b142)
      clear QI_136
      have SA_145 := Lib.hid (SA_137.out.below b142)
      clear SA_137
      have ZA_146 := Lib.hid (ZA_138.out.below b142)
      clear ZA_138
      have SB_147 := Lib.hid (SB_139.out.below b142)
      clear SB_139
      have BX_148 := Lib.hid (BX_140.out.below b142 BX_140.out.lt)
      clear BX_140
      replace BB := Lib.hid (bel_trans BB.out b142)
      clear b142
      have HB2 := BB.out.size
      go_wp2_with fail
      refine (prefix_any a1 A1 F.length c1 F _ rfl (by omega) QI_144.out).mono ?_
      rintro e w149 h149
      obtain ⟨A149, c149, rfl, rd149, zr149, b149⟩ := rw_use h149
      have HN1 := Lib.hid (Zr.ne ZA_146.out zr149 (Nat.le_refl _))
      have QA_150 := Lib.hid (QA_143.out.below b149)
      clear QA_143
      have QI_151 := Lib.hid (QI_144.out.below b149)
      clear QI_144
      have SA_152 := Lib.hid (SA_145.out.below b149)
      clear SA_145
      have ZA_153 := Lib.hid (ZA_146.out.below b149)
      clear ZA_146
      have SB_154 := Lib.hid (SB_147.out.below b149)
      clear SB_147
      have BX_155 := Lib.hid (BX_148.out.below b149 BX_148.out.lt)
      clear BX_148
      have BY_156 := Lib.hid (BY.out.below b149 BY.out.lt)
      clear BY
      replace BB := Lib.hid (bel_trans BB.out b149)
      clear b149
      have SC := Lib.hid rd149
      clear rd149
      have ZP := Lib.hid zr149
      clear zr149
      go_wp2_with fail
      refine ((FW _ QA_150.out).out).mono ?_
      rintro e w157 h157
      obtain ⟨A157, c157, rfl, rd157, zr157, b157⟩ := ro_use h157
      have QA_158 := Lib.hid (QA_150.out.below b157)
      clear QA_150
      have QI_159 := Lib.hid (QI_151.out.below b157)
      clear QI_151
      have SA_160 := Lib.hid (SA_152.out.below b157)
      clear SA_152
      have ZA_161 := Lib.hid (ZA_153.out.below b157)
      clear ZA_153
      have SB_162 := Lib.hid (SB_154.out.below b157)
      clear SB_154
      have BX_163 := Lib.hid (BX_155.out.below b157 BX_155.out.lt)
      clear BX_155
      have BY_164 := Lib.hid (BY_156.out.below b157 BY_156.out.lt)
      clear BY_156
      have SC_165 := Lib.hid (SC.out.below b157)
      clear SC
      have ZP_166 := Lib.hid (ZP.out.below b157)
      clear ZP
      replace BB := Lib.hid (bel_trans BB.out b157)
      clear b157
      have RX := Lib.hid rd157
      clear rd157
      clear zr157
      go_wp2_with fail
      refine (prefixR_any a1 A157 F.length c157 F _ rfl (by omega) RX.out).mono ?_
      rintro e w167 h167
      obtain ⟨A167, c167, rfl, rd167, zr167, b167⟩ := rw_use h167
      have QA_168 := Lib.hid (QA_158.out.below b167)
      clear QA_158
      have QI_169 := Lib.hid (QI_159.out.below b167)
      clear QI_159
      have SA_170 := Lib.hid (SA_160.out.below b167)
      clear SA_160
      have ZA_171 := Lib.hid (ZA_161.out.below b167)
      clear ZA_161
      have SB_172 := Lib.hid (SB_162.out.below b167)
      clear SB_162
      have BX_173 := Lib.hid (BX_163.out.below b167 BX_163.out.lt)
      clear BX_163
      have BY_174 := Lib.hid (BY_164.out.below b167 BY_164.out.lt)
      clear BY_164
      have SC_175 := Lib.hid (SC_165.out.below b167)
      clear SC_165
      have ZP_176 := Lib.hid (ZP_166.out.below b167)
      clear ZP_166
      have RX_177 := Lib.hid (RX.out.below b167)
      clear RX
      replace BB := Lib.hid (bel_trans BB.out b167)
      clear b167
      have SD := Lib.hid rd167
      clear rd167
      clear zr167
      clear RX_177
      have HB3 := BB.out.size
      go_wp2_with fail
      refine (of_any a0 A1 F.length c1 F _ rfl (by omega) QI_169.out).mono ?_
      rintro e w178 h178
      obtain ⟨A178, c178, rfl, rd178, zr178, b178⟩ := ro_use h178
      have HN2 := Lib.hid (Zr.ne ZA_171.out zr178 (Nat.le_refl _))
      have HN3 := Lib.hid (Zr.ne ZP_176.out zr178 (Nat.le_refl _))
      have QA_179 := Lib.hid (QA_168.out.below b178)
      clear QA_168
      have QI_180 := Lib.hid (QI_169.out.below b178)
      clear QI_169
      have SA_181 := Lib.hid (SA_170.out.below b178)
      clear SA_170
      have ZA_182 := Lib.hid (ZA_171.out.below b178)
      clear ZA_171
      have SB_183 := Lib.hid (SB_172.out.below b178)
      clear SB_172
      have BX_184 := Lib.hid (BX_173.out.below b178 BX_173.out.lt)
      clear BX_173
      have BY_185 := Lib.hid (BY_174.out.below b178 BY_174.out.lt)
      clear BY_174
      have SC_186 := Lib.hid (SC_175.out.below b178)
      clear SC_175
      have ZP_187 := Lib.hid (ZP_176.out.below b178)
      clear ZP_176
      have SD_188 := Lib.hid (SD.out.below b178)
      clear SD
      replace BB := Lib.hid (bel_trans BB.out b178)
      clear b178
      have SE := Lib.hid rd178
      clear rd178
      have ZO := Lib.hid zr178
      clear zr178
      go_wp2_with fail
      refine ((FW _ QA_179.out).out).mono ?_
      rintro e w189 h189
      obtain ⟨A189, c189, rfl, rd189, zr189, b189⟩ := ro_use h189
      have QA_190 := Lib.hid (QA_179.out.below b189)
      clear QA_179
      have QI_191 := Lib.hid (QI_180.out.below b189)
      clear QI_180
      have SA_192 := Lib.hid (SA_181.out.below b189)
      clear SA_181
      have ZA_193 := Lib.hid (ZA_182.out.below b189)
      clear ZA_182
      have SB_194 := Lib.hid (SB_183.out.below b189)
      clear SB_183
      have BX_195 := Lib.hid (BX_184.out.below b189 BX_184.out.lt)
      clear BX_184
      have BY_196 := Lib.hid (BY_185.out.below b189 BY_185.out.lt)
      clear BY_185
      have SC_197 := Lib.hid (SC_186.out.below b189)
      clear SC_186
      have ZP_198 := Lib.hid (ZP_187.out.below b189)
      clear ZP_187
      have SD_199 := Lib.hid (SD_188.out.below b189)
      clear SD_188
      have SE_200 := Lib.hid (SE.out.below b189)
      clear SE
      have ZO_201 := Lib.hid (ZO.out.below b189)
      clear ZO
      replace BB := Lib.hid (bel_trans BB.out b189)
      clear b189
      have RX := Lib.hid rd189
      clear rd189
      clear zr189
      go_wp2_with fail
      refine (ofR_any a0 A189 F.length c189 F _ rfl (by omega) RX.out).mono ?_
      rintro e w202 h202
      obtain ⟨A202, c202, rfl, rd202, zr202, b202⟩ := ro_use h202
      have QA_203 := Lib.hid (QA_190.out.below b202)
      clear QA_190
      have QI_204 := Lib.hid (QI_191.out.below b202)
      clear QI_191
      have SA_205 := Lib.hid (SA_192.out.below b202)
      clear SA_192
      have ZA_206 := Lib.hid (ZA_193.out.below b202)
      clear ZA_193
      have SB_207 := Lib.hid (SB_194.out.below b202)
      clear SB_194
      have BX_208 := Lib.hid (BX_195.out.below b202 BX_195.out.lt)
      clear BX_195
      have BY_209 := Lib.hid (BY_196.out.below b202 BY_196.out.lt)
      clear BY_196
      have SC_210 := Lib.hid (SC_197.out.below b202)
      clear SC_197
      have ZP_211 := Lib.hid (ZP_198.out.below b202)
      clear ZP_198
      have SD_212 := Lib.hid (SD_199.out.below b202)
      clear SD_199
      have SE_213 := Lib.hid (SE_200.out.below b202)
      clear SE_200
      have ZO_214 := Lib.hid (ZO_201.out.below b202)
      clear ZO_201
      have RX_215 := Lib.hid (RX.out.below b202)
      clear RX
      replace BB := Lib.hid (bel_trans BB.out b202)
      clear b202
      have SF := Lib.hid rd202
      clear rd202
      clear zr202
      clear RX_215
      go_wp2_with fail
      refine (equS_same A101 A109 (opL a1 F).length c101 c109 (opL a1 F) _ rfl hS1 SA_205.out SB_207.out).mono ?_
      rintro e w216 ⟨rfl, b216⟩
      have QA_217 := Lib.hid (QA_203.out.below b216)
      clear QA_203
      have QI_218 := Lib.hid (QI_204.out.below b216)
      clear QI_204
      have SA_219 := Lib.hid (SA_205.out.below b216)
      clear SA_205
      have ZA_220 := Lib.hid (ZA_206.out.below b216)
      clear ZA_206
      have SB_221 := Lib.hid (SB_207.out.below b216)
      clear SB_207
      have BX_222 := Lib.hid (BX_208.out.below b216 BX_208.out.lt)
      clear BX_208
      have BY_223 := Lib.hid (BY_209.out.below b216 BY_209.out.lt)
      clear BY_209
      have SC_224 := Lib.hid (SC_210.out.below b216)
      clear SC_210
      have ZP_225 := Lib.hid (ZP_211.out.below b216)
      clear ZP_211
      have SD_226 := Lib.hid (SD_212.out.below b216)
      clear SD_212
      have SE_227 := Lib.hid (SE_213.out.below b216)
      clear SE_213
      have ZO_228 := Lib.hid (ZO_214.out.below b216)
      clear ZO_214
      have SF_229 := Lib.hid (SF.out.below b216)
      clear SF
      replace BB := Lib.hid (bel_trans BB.out b216)
      clear b216
      clear SA_219
      clear SB_221
      obtain ⟨bx0, bx1, bx2, bx3⟩ := BX_222.out.c
      obtain ⟨by0, by1, by2, by3⟩ := BY_223.out.c
      clear BX_222
      clear BY_223
      go_wp2_with fail
      refine (equE_same A149 A167 (upL a1 F).length c149 c167 (upL a1 F) _ rfl hS2 SC_224.out SD_226.out).mono ?_
      rintro e w230 ⟨rfl, b230⟩
      have QA_231 := Lib.hid (QA_217.out.below b230)
      clear QA_217
      have QI_232 := Lib.hid (QI_218.out.below b230)
      clear QI_218
      have ZA_233 := Lib.hid (ZA_220.out.below b230)
      clear ZA_220
      have SC_234 := Lib.hid (SC_224.out.below b230)
      clear SC_224
      have ZP_235 := Lib.hid (ZP_225.out.below b230)
      clear ZP_225
      have SD_236 := Lib.hid (SD_226.out.below b230)
      clear SD_226
      have SE_237 := Lib.hid (SE_227.out.below b230)
      clear SE_227
      have ZO_238 := Lib.hid (ZO_228.out.below b230)
      clear ZO_228
      have SF_239 := Lib.hid (SF_229.out.below b230)
      clear SF_229
      replace BB := Lib.hid (bel_trans BB.out b230)
      clear b230
      clear bx0 bx1 bx2 bx3 by0 by1 by2 by3
      clear SC_234
      clear SD_236
      go_wp2_with fail
      refine (equE_same A178 A202 (ofT a0 F).length c178 c202 (ofT a0 F) _ rfl hS3 SE_237.out SF_239.out).mono ?_
      rintro e w240 ⟨rfl, b240⟩
      have QA_241 := Lib.hid (QA_231.out.below b240)
      clear QA_231
      have QI_242 := Lib.hid (QI_232.out.below b240)
      clear QI_232
      have ZA_243 := Lib.hid (ZA_233.out.below b240)
      clear ZA_233
      have ZP_244 := Lib.hid (ZP_235.out.below b240)
      clear ZP_235
      have SE_245 := Lib.hid (SE_237.out.below b240)
      clear SE_237
      have ZO_246 := Lib.hid (ZO_238.out.below b240)
      clear ZO_238
      have SF_247 := Lib.hid (SF_239.out.below b240)
      clear SF_239
      replace BB := Lib.hid (bel_trans BB.out b240)
      clear b240
      clear SE_245
      clear SF_247
      go_wp2_with fail
      refine ((FW _ QA_241.out).out).mono ?_
      rintro e w248 h248
      obtain ⟨A248, c248, rfl, rd248, zr248, b248⟩ := ro_use h248
      have QA_249 := Lib.hid (QA_241.out.below b248)
      clear QA_241
      have QI_250 := Lib.hid (QI_242.out.below b248)
      clear QI_242
      have ZA_251 := Lib.hid (ZA_243.out.below b248)
      clear ZA_243
      have ZP_252 := Lib.hid (ZP_244.out.below b248)
      clear ZP_244
      have ZO_253 := Lib.hid (ZO_246.out.below b248)
      clear ZO_246
      replace BB := Lib.hid (bel_trans BB.out b248)
      clear b248
      have RX := Lib.hid rd248
      clear rd248
      clear zr248
      go_wp2_with fail
      refine (equE_same A1 A248 F.length c1 c248 F _ rfl (by omega) QI_250.out RX.out).mono ?_
      rintro e w254 ⟨rfl, b254⟩
      have QA_255 := Lib.hid (QA_249.out.below b254)
      clear QA_249
      have QI_256 := Lib.hid (QI_250.out.below b254)
      clear QI_250
      have ZA_257 := Lib.hid (ZA_251.out.below b254)
      clear ZA_251
      have ZP_258 := Lib.hid (ZP_252.out.below b254)
      clear ZP_252
      have ZO_259 := Lib.hid (ZO_253.out.below b254)
      clear ZO_253
      have RX_260 := Lib.hid (RX.out.below b254)
      clear RX
      replace BB := Lib.hid (bel_trans BB.out b254)
      clear b254
      clear RX_260
      have ZA0 := Lib.hid (ZA_257.out.base HB1)
      have ZA1 := Lib.hid (ZP_258.out.base HB2)
      have ZA2' := Lib.hid (ZO_259.out.base HB3)
      clear ZA_257 ZP_258 ZO_259
      obtain ⟨nA, hnA⟩ : ∃ n, (opL a1 F).length = n := ⟨_, rfl⟩
      obtain ⟨nP, hnP⟩ : ∃ n, (upL a1 F).length = n := ⟨_, rfl⟩
      obtain ⟨nO, hnO⟩ : ∃ n, (ofT a0 F).length = n := ⟨_, rfl⟩
      rw [hnA] at ZA0 hS1
      rw [hnP] at ZA1 hS2
      rw [hnO] at ZA2' hS3
      simp only [hnA, hnP, hnO]
      clear hnA hnP hnO
      have ZA2 := ZA2'
      clear ZA2'
      go_wp2_with fail
      go_loopw [25] (fun i wr => ∃ z : Nat, z ≤ nA ∧ i = .int .i64 z ∧ Zr KS wr wq.heap.size A101 nA c101 ∧ Zr KE wr wq.heap.size A149 nP c149 ∧ Zr KE wr wq.heap.size A178 nO c178 ∧ Below wq.heap.size wq wr) (fun i _ => nA - (intOf i).toNat)
      case atStart => exact ⟨0, Nat.zero_le _, rfl, ZA0.out, ZA1.out, ZA2.out, BB.out⟩
      case round =>
        clear ZA0 ZA1 ZA2 BB
        obtain ⟨z, hz, rfl, za, zk0, zk1, be⟩ := hrel
        by_cases hlz : z < nA
        · have d1 : decide ((z : Int) < nA) = true := decide_eq_true (by omega)
          have d2 : (z : Int) < nA := by omega
          obtain ⟨g, v0, v1, v2, v3, eA, hg1, hg2, y0, y1, y2, y3, ⟨f0, f1, f2, f3⟩, za2⟩ := za.at_ rfl hlz (a := .int .i64 0) (b := .int .u64 0) (c' := .int .i64 0) (d := .int .i64 0) i0 rfl
          subst eA
          have ZA2 := Lib.hid za2
          have ZK0 := Lib.hid (zk0.keep (w' := st4 wr g z (.int .i64 0) (.int .u64 0) (.int .i64 0) (.int .i64 0)) fun g' i' e => st4_other (fun h => HN1.out g 0 g' i' rfl e h.symm))
          have ZK1 := Lib.hid (zk1.keep (w' := st4 wr g z (.int .i64 0) (.int .u64 0) (.int .i64 0) (.int .i64 0)) fun g' i' e => st4_other (fun h => HN2.out g 0 g' i' rfl e h.symm))
          have BE2 := Lib.hid (st4_below (q := z) (a := .int .i64 0) (b := .int .u64 0) (c := .int .i64 0) (d := .int .i64 0) be hg1)
          clear za za2 be zk0 zk1
          go_wp2
          go_roundw
          case rel =>
            refine ⟨z + 1, by omega, by go_num, ?_⟩
            rw [st4_eq]
            exact ⟨ZA2.out, ZK0.out, ZK1.out, BE2.out⟩
          case measure => simp [intOf]; omega
        · obtain rfl : z = nA := by omega
          have d1 : decide ((z : Int) < z) = false := by simp
          obtain ⟨wy25, rfl⟩ : ∃ wy : World, wy = wr := ⟨_, rfl⟩
          have ZA0 := Lib.hid zk0
          have ZA1 := Lib.hid zk1
          have BB := Lib.hid be
          clear za be zk0 zk1
          go_wp2_with fail
          go_loopw [26] (fun i wr => ∃ z : Nat, z ≤ nP ∧ i = .int .i64 z ∧ Zr KE wr wq.heap.size A149 nP c149 ∧ Zr KE wr wq.heap.size A178 nO c178 ∧ Below wq.heap.size wq wr) (fun i _ => nP - (intOf i).toNat)
          case atStart => exact ⟨0, Nat.zero_le _, rfl, ZA0.out, ZA1.out, BB.out⟩
          case round =>
            clear ZA0 ZA1 BB
            obtain ⟨z, hz, rfl, za, zk0, be⟩ := hrel
            by_cases hlz : z < nP
            · have d1 : decide ((z : Int) < nP) = true := decide_eq_true (by omega)
              have d2 : (z : Int) < nP := by omega
              obtain ⟨g, v0, v1, v2, v3, eA, hg1, hg2, y0, y1, y2, y3, ⟨f0, f1, f2, f3⟩, za2⟩ := za.at_ rfl hlz (a := .int .i64 0) (b := .int .i64 0) (c' := .int .u8 0) (d := .int .u64 0) e0 rfl
              subst eA
              have ZA2 := Lib.hid za2
              have ZK0 := Lib.hid (zk0.keep (w' := st4 wr g z (.int .i64 0) (.int .i64 0) (.int .u8 0) (.int .u64 0)) fun g' i' e => st4_other (fun h => HN3.out g 0 g' i' rfl e h.symm))
              have BE2 := Lib.hid (st4_below (q := z) (a := .int .i64 0) (b := .int .i64 0) (c := .int .u8 0) (d := .int .u64 0) be hg1)
              clear za za2 be zk0
              go_wp2
              go_roundw
              case rel =>
                refine ⟨z + 1, by omega, by go_num, ?_⟩
                rw [st4_eq]
                exact ⟨ZA2.out, ZK0.out, BE2.out⟩
              case measure => simp [intOf]; omega
            · obtain rfl : z = nP := by omega
              have d1 : decide ((z : Int) < z) = false := by simp
              obtain ⟨wy26, rfl⟩ : ∃ wy : World, wy = wr := ⟨_, rfl⟩
              have ZA0 := Lib.hid zk0
              have BB := Lib.hid be
              clear za be zk0
              go_wp2_with fail
              go_loopw [27] (fun i wr => ∃ z : Nat, z ≤ nO ∧ i = .int .i64 z ∧ Zr KE wr wq.heap.size A178 nO c178 ∧ Below wq.heap.size wq wr) (fun i _ => nO - (intOf i).toNat)
              case atStart => exact ⟨0, Nat.zero_le _, rfl, ZA0.out, BB.out⟩
              case round =>
                clear ZA0 BB
                obtain ⟨z, hz, rfl, za, be⟩ := hrel
                by_cases hlz : z < nO
                · have d1 : decide ((z : Int) < nO) = true := decide_eq_true (by omega)
                  have d2 : (z : Int) < nO := by omega
                  obtain ⟨g, v0, v1, v2, v3, eA, hg1, hg2, y0, y1, y2, y3, ⟨f0, f1, f2, f3⟩, za2⟩ := za.at_ rfl hlz (a := .int .i64 0) (b := .int .i64 0) (c' := .int .u8 0) (d := .int .u64 0) e0 rfl
                  subst eA
                  have ZA2 := Lib.hid za2
                  have BE2 := Lib.hid (st4_below (q := z) (a := .int .i64 0) (b := .int .i64 0) (c := .int .u8 0) (d := .int .u64 0) be hg1)
                  clear za za2 be 
                  go_wp2
                  go_roundw
                  case rel =>
                    refine ⟨z + 1, by omega, by go_num, ?_⟩
                    rw [st4_eq]
                    exact ⟨ZA2.out, BE2.out⟩
                  case measure => simp [intOf]; omega
                · obtain rfl : z = nO := by omega
                  have d1 : decide ((z : Int) < z) = false := by simp
                  obtain ⟨wy27, rfl⟩ : ∃ wy : World, wy = wr := ⟨_, rfl⟩
                  have BB := Lib.hid be
                  clear za be 
                  have be := BB.out
                  clear BB
                  go_wp2
                  go_roundw
                  case rel => exact ⟨k + 1, by omega, by go_num, bel_trans BE.out be⟩
                  case measure => simp [intOf]; omega
    · obtain rfl : k = 2 := by omega
      have d0 : decide ((2 : Int) < 2) = false := by decide
      go_wp2_with fail
      refine (awake_any _).mono ?_
      rintro e w9 ⟨rfl, b9⟩
      go_wp2
      go_ret
      exact ⟨rfl, bel_trans BQ.out b9⟩
end Wk
end Go.Proofs.Ytbnchajkfceaoaa
