/- A round of the document's sum that turns the state: what it does. Conditions: those of the round. -/
import Derived.Test.YtdkhnklggidfpaaReft
import Derived.StillTailTactics
import Derived.Deep.RegionHeld3
import Derived.Deep.DrawnRows
import Derived.Test.YtdkhnklggidfpaaRefu
namespace Go.Proofs.Ytdkhnklggidfpaa
open Go.RowKit
set_option linter.unusedVariables false
attribute [local go_sem ↓] Go.wp_at_zero Go.wp_at_succ
set_option maxRecDepth 100000 in
set_option maxHeartbeats 40000000 in
theorem r64_round (l : List UInt8) (st r : St) (X Y gk ck gv cv k : Nat) (W9 wr : World)
    (Q : Exit → Act → World → Prop) (u0 u2 u3 u4 u5 u6 u7 u8 u9 u10 u12 u13 u14 u15 u16 u19 u20 u21 u22 u23 u24 u25 u26 u27 u28 u29 u30 u31 u32 u33 u34 u35 u36 u37 u38 u39 u40 u41 u42 u43 u44 u45 u46 u47 u48 u49 u50 u51 u52 u53 u54 u55 u56 u57 u58 u59 u60 u61 u62 u63 u64 u65 u66 u67 u68 u69 u70 u71 u72 u73 u74 u75 u76 u77 u78 u79 u80 u81 u82 u83 u84 u85 u86 u87 u88 u89 u90 u91 u92 u93 u94 u95 u96 u97 u98 u99 u100 u101 u102 u103 u104 u105 u106 u107 u108 u109 u110 u111 u112 u113 u114 u115 u116 u117 u118 u119 u120 u121 u122 u123 u124 u125 u126 u127 u128 u129 u130 u131 u132 u133 u134 u135 u136 u137 u138 u139 u140 u141 u142 u143 u144 u145 u146 u147 u148 u149 u150 u151 u152 u153 u154 u155 u156 u157 u158 u159 u160 u161 u162 u163 u164 u165 u166 u167 u168 u169 u170 u171 u172 u173 u174 u175 u176 u177 u178 u179 u180 u181 u182 u183 u184 u185 u186 u187 u188 u189 u190 u191 u192 u193 u194 u195 u196 u197 u198 u199 u200 u201 u202 u203 u204 u205 u206 u207 u208 u209 u210 u211 u212 u213 u214 u215 u216 u217 u218 u219 u220 u221 u222 u223 u224 u225 u226 u227 u228 u229 u230 u231 u232 u233 u234 u235 u236 u237 u238 u239 u240 u241 u242 u243 u244 u245 u246 u247 u248 u249 u250 u251 u252 u253 u254 u255 u256 u257 u258 u259 u260 u261 u262 u263 u264 u265 u266 u267 u268 u269 u270 u271 u272 u273 u274 u275 u276 u277 u278 u279 u280 u281 u282 u283 u284 u285 u286 u287 u288 u289 u290 : Value)
    (HY : Hid (Y = W9.heap.size)) (hk9 : Hid (RowW W9 gk keys)) (HRW : Hid (RowW W9 X (ws l 64))) (hX9 : X < W9.heap.size) (hsok : st.ok) (hk : k ≤ 64) (hl6 : k < 64) (hgvY : Y ≤ gv) (HR : Hid (r = rounds (ws l 64) st k)) (hrv : RowW wr gv (stL r)) (hb9 : Below Y W9 wr)
    (hQ : ∀ (v19 v20 v21 v22 v163 v164 v165 v166 v167 v168 v169 v170 v171 v172 v173 v174 v175 v176 v177 v178 v179 v180 v181 v182 v183 v184 v185 v186 v187 v188 v189 v190 v191 v192 v193 v194 v195 v196 v197 v198 v199 v200 v201 v202 v203 v204 v205 v206 v207 v208 v209 v210 v211 v212 v213 v214 v215 v216 v217 v218 v219 v220 v221 v222 v223 v224 v225 v226 v227 v228 v229 v230 v231 v232 v233 v234 v235 v236 v237 v238 v239 v240 v241 v242 v243 v244 v245 v246 v247 v248 v249 v250 v251 v252 v253 v254 v255 v256 v257 v258 v259 v260 v261 v262 : Value) (w' : World) (r' : St) (gv' cv' : Nat), (Y ≤ gv' ∧ Hid (r' = rounds (ws l 64) st (k + 1)) ∧ RowW w' gv' (stL r') ∧ Below Y W9 w') → Q .normal ⟨#[u0, .slice (some ⟨gk, 0, none⟩) 64 ck, u2, u3, u4, u5, u6, u7, u8, u9, u10, .slice (some ⟨X, 0, none⟩) 64 64, u12, u13, u14, u15, u16, .slice (some ⟨gv', 0, none⟩) 8 cv', .int .i64 ((k : Int) + 1), v19, v20, v21, v22, u23, u24, u25, u26, u27, u28, u29, u30, u31, u32, u33, u34, u35, u36, u37, u38, u39, u40, u41, u42, u43, u44, u45, u46, u47, u48, u49, u50, u51, u52, u53, u54, u55, u56, u57, u58, u59, u60, u61, u62, u63, u64, u65, u66, u67, u68, u69, u70, u71, u72, u73, u74, u75, u76, u77, u78, u79, u80, u81, u82, u83, u84, u85, u86, u87, u88, u89, u90, u91, u92, u93, u94, u95, u96, u97, u98, u99, u100, u101, u102, u103, u104, u105, u106, u107, u108, u109, u110, u111, u112, u113, u114, u115, u116, u117, u118, u119, u120, u121, u122, u123, u124, u125, u126, u127, u128, u129, u130, u131, u132, u133, u134, u135, u136, u137, u138, u139, u140, u141, u142, u143, u144, u145, u146, u147, u148, u149, u150, u151, u152, u153, u154, u155, u156, u157, u158, u159, u160, u161, u162, v163, v164, v165, v166, v167, v168, v169, v170, v171, v172, v173, v174, v175, v176, v177, v178, v179, v180, v181, v182, v183, v184, v185, v186, v187, v188, v189, v190, v191, v192, v193, v194, v195, v196, v197, v198, v199, v200, v201, v202, v203, v204, v205, v206, v207, v208, v209, v210, v211, v212, v213, v214, v215, v216, v217, v218, v219, v220, v221, v222, v223, v224, v225, v226, v227, v228, v229, v230, v231, v232, v233, v234, v235, v236, v237, v238, v239, v240, v241, v242, v243, v244, v245, v246, v247, v248, v249, v250, v251, v252, v253, v254, v255, v256, v257, v258, v259, v260, v261, v262, u263, u264, u265, u266, u267, u268, u269, u270, u271, u272, u273, u274, u275, u276, u277, u278, u279, u280, u281, u282, u283, u284, u285, u286, u287, u288, u289, u290], []⟩ w') :
    Code.wp Try.prog (sumLoop 5) Q ⟨#[u0, .slice (some ⟨gk, 0, none⟩) 64 ck, u2, u3, u4, u5, u6, u7, u8, u9, u10, .slice (some ⟨X, 0, none⟩) 64 64, u12, u13, u14, u15, u16, .slice (some ⟨gv, 0, none⟩) 8 cv, .int .i64 (k : Int), u19, u20, u21, u22, u23, u24, u25, u26, u27, u28, u29, u30, u31, u32, u33, u34, u35, u36, u37, u38, u39, u40, u41, u42, u43, u44, u45, u46, u47, u48, u49, u50, u51, u52, u53, u54, u55, u56, u57, u58, u59, u60, u61, u62, u63, u64, u65, u66, u67, u68, u69, u70, u71, u72, u73, u74, u75, u76, u77, u78, u79, u80, u81, u82, u83, u84, u85, u86, u87, u88, u89, u90, u91, u92, u93, u94, u95, u96, u97, u98, u99, u100, u101, u102, u103, u104, u105, u106, u107, u108, u109, u110, u111, u112, u113, u114, u115, u116, u117, u118, u119, u120, u121, u122, u123, u124, u125, u126, u127, u128, u129, u130, u131, u132, u133, u134, u135, u136, u137, u138, u139, u140, u141, u142, u143, u144, u145, u146, u147, u148, u149, u150, u151, u152, u153, u154, u155, u156, u157, u158, u159, u160, u161, u162, u163, u164, u165, u166, u167, u168, u169, u170, u171, u172, u173, u174, u175, u176, u177, u178, u179, u180, u181, u182, u183, u184, u185, u186, u187, u188, u189, u190, u191, u192, u193, u194, u195, u196, u197, u198, u199, u200, u201, u202, u203, u204, u205, u206, u207, u208, u209, u210, u211, u212, u213, u214, u215, u216, u217, u218, u219, u220, u221, u222, u223, u224, u225, u226, u227, u228, u229, u230, u231, u232, u233, u234, u235, u236, u237, u238, u239, u240, u241, u242, u243, u244, u245, u246, u247, u248, u249, u250, u251, u252, u253, u254, u255, u256, u257, u258, u259, u260, u261, u262, u263, u264, u265, u266, u267, u268, u269, u270, u271, u272, u273, u274, u275, u276, u277, u278, u279, u280, u281, u282, u283, u284, u285, u286, u287, u288, u289, u290], []⟩ wr := by
  have HQ := Lib.hid hQ
  clear hQ
  conv => arg 2; whnf
  have hr : r.ok := by rw [HR.out]; exact rounds_ok hsok k
  have ck := (hk9.out.below hb9 (by have := hk9.out.1; have := HY.out; omega)).2 k hl6
  have cw := (HRW.out.below hb9 (by have := HY.out; omega)).2 k (by rw [ws_length]; exact hl6)
  have HN : Hid (rnd r (keys.getD k 0) ((ws l 64).getD k 0) = rounds (ws l 64) st (k + 1)) := by unfold Hid; rw [HR.out]; rfl
  generalize keys.getD k 0 = kk at *
  generalize (ws l 64).getD k 0 = ww at *
  obtain ⟨a, b1, c, d, e, f, g', h⟩ := r
  have ha := hr.a
  have hb1 := hr.b
  have hc := hr.c
  have hd := hr.d
  have he := hr.e
  have hf := hr.f
  have hg := hr.g
  have hh := hr.h
  have d0 : wr.cell? ⟨gv, 0, none⟩ = some (.int .u32 (a : Nat)) := hrv.2 0 (by rw [stL_len]; decide)
  have d1 : wr.cell? ⟨gv, 1, none⟩ = some (.int .u32 (b1 : Nat)) := hrv.2 1 (by rw [stL_len]; decide)
  have d2 : wr.cell? ⟨gv, 2, none⟩ = some (.int .u32 (c : Nat)) := hrv.2 2 (by rw [stL_len]; decide)
  have d3 : wr.cell? ⟨gv, 3, none⟩ = some (.int .u32 (d : Nat)) := hrv.2 3 (by rw [stL_len]; decide)
  have d4 : wr.cell? ⟨gv, 4, none⟩ = some (.int .u32 (e : Nat)) := hrv.2 4 (by rw [stL_len]; decide)
  have d5 : wr.cell? ⟨gv, 5, none⟩ = some (.int .u32 (f : Nat)) := hrv.2 5 (by rw [stL_len]; decide)
  have d6 : wr.cell? ⟨gv, 6, none⟩ = some (.int .u32 (g' : Nat)) := hrv.2 6 (by rw [stL_len]; decide)
  have d7 : wr.cell? ⟨gv, 7, none⟩ = some (.int .u32 (h : Nat)) := hrv.2 7 (by rw [stL_len]; decide)
  dsimp only at ha hb1 hc hd he hf hg hh ⊢
  have hki : (k : Int) < 64 := by omega
  clear hr HR hrv
  go_wp2
  go_quiet (fail)
  have hWN : (wr.drewN nq).heap = wr.heap := rfl
  have hb10 := below_drewN hb9 nq
  have e0 : (wr.drewN nq).cell? ⟨gv, 0, none⟩ = some (.int .u32 (a : Nat)) := d0
  have e1 : (wr.drewN nq).cell? ⟨gv, 1, none⟩ = some (.int .u32 (b1 : Nat)) := d1
  have e2 : (wr.drewN nq).cell? ⟨gv, 2, none⟩ = some (.int .u32 (c : Nat)) := d2
  have e3 : (wr.drewN nq).cell? ⟨gv, 3, none⟩ = some (.int .u32 (d : Nat)) := d3
  have e4 : (wr.drewN nq).cell? ⟨gv, 4, none⟩ = some (.int .u32 (e : Nat)) := d4
  have e5 : (wr.drewN nq).cell? ⟨gv, 5, none⟩ = some (.int .u32 (f : Nat)) := d5
  have e6 : (wr.drewN nq).cell? ⟨gv, 6, none⟩ = some (.int .u32 (g' : Nat)) := d6
  have e7 : (wr.drewN nq).cell? ⟨gv, 7, none⟩ = some (.int .u32 (h : Nat)) := d7
  have e8 : (wr.drewN nq).cell? ⟨gk, k, none⟩ = some (.int .u32 (kk : Nat)) := ck
  have e9 : (wr.drewN nq).cell? ⟨X, k, none⟩ = some (.int .u32 (ww : Nat)) := cw
  clear hWN d0 d1 d2 d3 d4 d5 d6 d7 ck cw hb9
  generalize wr.drewN nq = V1 at *
  go_wp2
  have R6 := Lib.hid (fun w => rror_lit e 6 6 rfl he (by decide) (by decide) w)
  have R11 := Lib.hid (fun w => rror_lit e 11 11 rfl he (by decide) (by decide) w)
  have R25 := Lib.hid (fun w => rror_lit e 25 25 rfl he (by decide) (by decide) w)
  go_quiet ((first
    | (go_at_call_of 38 (Value.int IntKind.i64 6); exact Calls.quiet_of (R6.out _))
    | (go_at_call_of 38 (Value.int IntKind.i64 11); exact Calls.quiet_of (R11.out _))
    | (go_at_call_of 38 (Value.int IntKind.i64 25); exact Calls.quiet_of (R25.out _))))
  obtain ⟨T, hT⟩ : ∃ T, T = t1 ⟨a, b1, c, d, e, f, g', h⟩ kk ww := ⟨_, rfl⟩
  rw [teq2 a b1 c d e f g' h kk ww he hf hg, ← hT]
  have HT := Lib.hid hT
  have hb11 := below_drewN hb10 nq
  have q0 : (V1.drewN nq).cell? ⟨gv, 0, none⟩ = some (.int .u32 (a : Nat)) := e0
  have q1 : (V1.drewN nq).cell? ⟨gv, 1, none⟩ = some (.int .u32 (b1 : Nat)) := e1
  have q2 : (V1.drewN nq).cell? ⟨gv, 2, none⟩ = some (.int .u32 (c : Nat)) := e2
  have q3 : (V1.drewN nq).cell? ⟨gv, 3, none⟩ = some (.int .u32 (d : Nat)) := e3
  have q4 : (V1.drewN nq).cell? ⟨gv, 4, none⟩ = some (.int .u32 (e : Nat)) := e4
  have q5 : (V1.drewN nq).cell? ⟨gv, 5, none⟩ = some (.int .u32 (f : Nat)) := e5
  have q6 : (V1.drewN nq).cell? ⟨gv, 6, none⟩ = some (.int .u32 (g' : Nat)) := e6
  clear hT e0 e1 e2 e3 e4 e5 e6 e7 e8 e9 hb10 R6 R11 R25
  generalize V1.drewN nq = V2 at *
  have R2 := Lib.hid (fun w => rror_lit a 2 2 rfl ha (by decide) (by decide) w)
  have R13 := Lib.hid (fun w => rror_lit a 13 13 rfl ha (by decide) (by decide) w)
  have R22 := Lib.hid (fun w => rror_lit a 22 22 rfl ha (by decide) (by decide) w)
  go_wp2
  go_quiet ((first
    | (go_at_call_of 38 (Value.int IntKind.i64 2); exact Calls.quiet_of (R2.out _))
    | (go_at_call_of 38 (Value.int IntKind.i64 13); exact Calls.quiet_of (R13.out _))
    | (go_at_call_of 38 (Value.int IntKind.i64 22); exact Calls.quiet_of (R22.out _))))
  rw [ueq2 a b1 c ha hb1 hc]
  obtain ⟨U, hU⟩ : ∃ U, U = add (s2 a) (maj a b1 c) := ⟨_, rfl⟩
  rw [← hU]
  have HU := Lib.hid hU
  have hb12 := below_drewN hb11 nq
  have p0 : (V2.drewN nq).cell? ⟨gv, 0, none⟩ = some (.int .u32 (a : Nat)) := q0
  have p1 : (V2.drewN nq).cell? ⟨gv, 1, none⟩ = some (.int .u32 (b1 : Nat)) := q1
  have p2 : (V2.drewN nq).cell? ⟨gv, 2, none⟩ = some (.int .u32 (c : Nat)) := q2
  have p3 : (V2.drewN nq).cell? ⟨gv, 3, none⟩ = some (.int .u32 (d : Nat)) := q3
  have p4 : (V2.drewN nq).cell? ⟨gv, 4, none⟩ = some (.int .u32 (e : Nat)) := q4
  have p5 : (V2.drewN nq).cell? ⟨gv, 5, none⟩ = some (.int .u32 (f : Nat)) := q5
  have p6 : (V2.drewN nq).cell? ⟨gv, 6, none⟩ = some (.int .u32 (g' : Nat)) := q6
  clear hU q0 q1 q2 q3 q4 q5 q6 hb11 R2 R13 R22
  generalize V2.drewN nq = V3 at *
  obtain ⟨Z1, hZ1⟩ : ∃ Z, Z = add T U := ⟨_, rfl⟩
  obtain ⟨Z2, hZ2⟩ : ∃ Z, Z = add d T := ⟨_, rfl⟩
  have hadd1 : IntKind.u32.wrap ((T : Int) + (U : Int)) = (Z1 : Int) := by rw [hZ1, u32w]; unfold add; omega
  have hadd2 : IntKind.u32.wrap ((d : Int) + (T : Int)) = (Z2 : Int) := by rw [hZ2, u32w]; unfold add; omega
  have HN2 : Hid ((⟨Z1, a, b1, c, Z2, e, f, g'⟩ : St) = rounds (ws l 64) st (k + 1)) := by
    unfold Hid; rw [hZ1, hZ2, HU.out, HT.out, ← HN.out]; rfl
  have hYV : Y ≤ V3.heap.size := by have := HY.out; have := hb12.size; omega
  clear hZ1 hZ2
  go_wp2
  go_still_tail 26, (by kernel_rfl)
  change wpList _ _ _ _ _ V3.drew
  go_wp2
  refine HQ.out _ _ _ _ _ _ _ _ _ _ _ _ _ _ _ _ _ _ _ _ _ _ _ _ _ _ _ _ _ _ _ _ _ _ _ _ _ _ _ _ _ _ _ _ _ _ _ _ _ _ _ _ _ _ _ _ _ _ _ _ _ _ _ _ _ _ _ _ _ _ _ _ _ _ _ _ _ _ _ _ _ _ _ _ _ _ _ _ _ _ _ _ _ _ _ _ _ _ _ _ _ _ _ _ _ ⟨Z1, a, b1, c, Z2, e, f, g'⟩ V3.heap.size 8 ⟨hYV, HN2, ?_, (hb12.alloc (by exact hYV) _).drew⟩
  exact RowW.of_block (l := [Z1, a, b1, c, Z2, e, f, g']) (t := 47) (fr := (0, 0)) (w := (V3.alloc (.cells (wcells [Z1, a, b1, c, Z2, e, f, g']) 47)).drew) (block_new V3 _)
end Go.Proofs.Ytdkhnklggidfpaa
