/- A round of the document's sum that fills a block's numbers: what it does. Conditions: those of the round. -/
import Derived.Test.YtdkhnklggidfpaaReft
import Derived.StillTailTactics
import Derived.Deep.RegionHeld3
import Derived.Deep.DrawnRows
import Derived.Test.YtdkhnklggidfpaaRefu
namespace Go.Proofs.Ytdkhnklggidfpaa
open Go.RowKit
set_option linter.unusedVariables false
attribute [local go_sem ↓] Go.wp_at_zero Go.wp_at_succ
set_option maxRecDepth 100000 in
set_option maxHeartbeats 40000000 in
theorem w64_round (l : List UInt8) (X n : Nat) (W8 wr : World)
    (Q : Exit → Act → World → Prop) (u0 u1 u2 u3 u4 u5 u6 u7 u8 u9 u10 u12 u13 u15 u16 u17 u18 u19 u20 u21 u22 u23 u24 u25 u26 u27 u28 u29 u30 u31 u32 u33 u34 u35 u36 u37 u38 u39 u40 u41 u42 u43 u44 u45 u46 u47 u48 u49 u50 u51 u52 u53 u54 u55 u56 u57 u58 u59 u60 u61 u62 u63 u64 u65 u66 u67 u68 u69 u70 u71 u72 u73 u74 u75 u76 u77 u78 u79 u80 u81 u82 u83 u84 u85 u86 u87 u88 u89 u90 u91 u92 u93 u94 u95 u96 u97 u98 u99 u100 u101 u102 u103 u104 u105 u106 u107 u108 u109 u110 u111 u112 u113 u114 u115 u116 u117 u118 u119 u120 u121 u122 u123 u124 u125 u126 u127 u128 u129 u130 u131 u132 u133 u134 u135 u136 u137 u138 u139 u140 u141 u142 u143 u144 u145 u146 u147 u148 u149 u150 u151 u152 u153 u154 u155 u156 u157 u158 u159 u160 u161 u162 u163 u164 u165 u166 u167 u168 u169 u170 u171 u172 u173 u174 u175 u176 u177 u178 u179 u180 u181 u182 u183 u184 u185 u186 u187 u188 u189 u190 u191 u192 u193 u194 u195 u196 u197 u198 u199 u200 u201 u202 u203 u204 u205 u206 u207 u208 u209 u210 u211 u212 u213 u214 u215 u216 u217 u218 u219 u220 u221 u222 u223 u224 u225 u226 u227 u228 u229 u230 u231 u232 u233 u234 u235 u236 u237 u238 u239 u240 u241 u242 u243 u244 u245 u246 u247 u248 u249 u250 u251 u252 u253 u254 u255 u256 u257 u258 u259 u260 u261 u262 u263 u264 u265 u266 u267 u268 u269 u270 u271 u272 u273 u274 u275 u276 u277 u278 u279 u280 u281 u282 u283 u284 u285 u286 u287 u288 u289 u290 : Value)
    (hn16 : 16 ≤ n) (hn : n ≤ 64) (hl5 : n < 64) (hrow2 : wr.heap[X]? = some (.cells (wcells (fillW (ws l n) (64 - n))) 47 (0, 0))) (hbel2 : Below X W8 wr)
    (hQ : ∀ (v15 v16 v114 v115 v116 v117 v118 v119 v120 v121 v122 v123 v124 v125 v126 v127 v128 v129 v130 v131 v132 v133 v134 v135 v136 v137 v138 v139 v140 v141 v142 v143 v144 v145 v146 v147 v148 v149 v150 v151 v152 v153 v154 v155 v156 v157 v158 v159 : Value) (w' : World), w'.heap[X]? = some (.cells (wcells (fillW (ws l (n + 1)) (64 - (n + 1)))) 47 (0, 0)) ∧ Below X W8 w' → Q .normal ⟨#[u0, u1, u2, u3, u4, u5, u6, u7, u8, u9, u10, .slice (some ⟨X, 0, none⟩) 64 64, u12, u13, .int .i64 ((n : Int) + 1), v15, v16, u17, u18, u19, u20, u21, u22, u23, u24, u25, u26, u27, u28, u29, u30, u31, u32, u33, u34, u35, u36, u37, u38, u39, u40, u41, u42, u43, u44, u45, u46, u47, u48, u49, u50, u51, u52, u53, u54, u55, u56, u57, u58, u59, u60, u61, u62, u63, u64, u65, u66, u67, u68, u69, u70, u71, u72, u73, u74, u75, u76, u77, u78, u79, u80, u81, u82, u83, u84, u85, u86, u87, u88, u89, u90, u91, u92, u93, u94, u95, u96, u97, u98, u99, u100, u101, u102, u103, u104, u105, u106, u107, u108, u109, u110, u111, u112, u113, v114, v115, v116, v117, v118, v119, v120, v121, v122, v123, v124, v125, v126, v127, v128, v129, v130, v131, v132, v133, v134, v135, v136, v137, v138, v139, v140, v141, v142, v143, v144, v145, v146, v147, v148, v149, v150, v151, v152, v153, v154, v155, v156, v157, v158, v159, u160, u161, u162, u163, u164, u165, u166, u167, u168, u169, u170, u171, u172, u173, u174, u175, u176, u177, u178, u179, u180, u181, u182, u183, u184, u185, u186, u187, u188, u189, u190, u191, u192, u193, u194, u195, u196, u197, u198, u199, u200, u201, u202, u203, u204, u205, u206, u207, u208, u209, u210, u211, u212, u213, u214, u215, u216, u217, u218, u219, u220, u221, u222, u223, u224, u225, u226, u227, u228, u229, u230, u231, u232, u233, u234, u235, u236, u237, u238, u239, u240, u241, u242, u243, u244, u245, u246, u247, u248, u249, u250, u251, u252, u253, u254, u255, u256, u257, u258, u259, u260, u261, u262, u263, u264, u265, u266, u267, u268, u269, u270, u271, u272, u273, u274, u275, u276, u277, u278, u279, u280, u281, u282, u283, u284, u285, u286, u287, u288, u289, u290], []⟩ w') :
    Code.wp Try.prog (sumLoop 4) Q ⟨#[u0, u1, u2, u3, u4, u5, u6, u7, u8, u9, u10, .slice (some ⟨X, 0, none⟩) 64 64, u12, u13, .int .i64 (n : Int), u15, u16, u17, u18, u19, u20, u21, u22, u23, u24, u25, u26, u27, u28, u29, u30, u31, u32, u33, u34, u35, u36, u37, u38, u39, u40, u41, u42, u43, u44, u45, u46, u47, u48, u49, u50, u51, u52, u53, u54, u55, u56, u57, u58, u59, u60, u61, u62, u63, u64, u65, u66, u67, u68, u69, u70, u71, u72, u73, u74, u75, u76, u77, u78, u79, u80, u81, u82, u83, u84, u85, u86, u87, u88, u89, u90, u91, u92, u93, u94, u95, u96, u97, u98, u99, u100, u101, u102, u103, u104, u105, u106, u107, u108, u109, u110, u111, u112, u113, u114, u115, u116, u117, u118, u119, u120, u121, u122, u123, u124, u125, u126, u127, u128, u129, u130, u131, u132, u133, u134, u135, u136, u137, u138, u139, u140, u141, u142, u143, u144, u145, u146, u147, u148, u149, u150, u151, u152, u153, u154, u155, u156, u157, u158, u159, u160, u161, u162, u163, u164, u165, u166, u167, u168, u169, u170, u171, u172, u173, u174, u175, u176, u177, u178, u179, u180, u181, u182, u183, u184, u185, u186, u187, u188, u189, u190, u191, u192, u193, u194, u195, u196, u197, u198, u199, u200, u201, u202, u203, u204, u205, u206, u207, u208, u209, u210, u211, u212, u213, u214, u215, u216, u217, u218, u219, u220, u221, u222, u223, u224, u225, u226, u227, u228, u229, u230, u231, u232, u233, u234, u235, u236, u237, u238, u239, u240, u241, u242, u243, u244, u245, u246, u247, u248, u249, u250, u251, u252, u253, u254, u255, u256, u257, u258, u259, u260, u261, u262, u263, u264, u265, u266, u267, u268, u269, u270, u271, u272, u273, u274, u275, u276, u277, u278, u279, u280, u281, u282, u283, u284, u285, u286, u287, u288, u289, u290], []⟩ wr := by
  have HQ := Lib.hid hQ
  clear hQ
  conv => arg 2; whnf
  have hln := wpad_len l n hn
  have hcx : ∀ i, i < n → wr.cell? ⟨X, i, none⟩ = some (.int .u32 ((ws l n).getD i 0 : Nat)) := fun i hi => by
    rw [cell_of_row wr X i _ _ _ hrow2, wcells_at _ _ (by rw [hln]; omega), wpad_at l n i hi]
  have c1 := hcx (n - 15) (by omega)
  have c2 := hcx (n - 2) (by omega)
  have c3 := hcx (n - 16) (by omega)
  have c4 := hcx (n - 7) (by omega)
  have hcell : wr.cell? ⟨X, n, none⟩ = some (.int .u32 ((fillW (ws l n) (64 - n)).getD n 0 : Nat)) := by
    rw [cell_of_row wr X n _ _ _ hrow2, wcells_at _ _ (by rw [hln]; omega)]
  have hl1 := ws_at_lt l n (n - 15)
  have hl2 := ws_at_lt l n (n - 2)
  have HW : Hid (ws l (n + 1) = ws l n ++ [wnext (ws l n) n]) := by unfold Hid; simp [ws]; omega
  unfold wnext at HW
  generalize (ws l n).getD (n - 15) 0 = x at *
  generalize (ws l n).getD (n - 2) 0 = y at *
  generalize (ws l n).getD (n - 16) 0 = u at *
  generalize (ws l n).getD (n - 7) 0 = v at *
  generalize (fillW (ws l n) (64 - n)).getD n 0 = oo at *
  have hfree : wr.frozen? ⟨X, n, none⟩ = false := block_free hrow2
  have w1 : IntKind.i64.wrap ((n : Int) - 15) = ((n - 15 : Nat) : Int) := by rw [IntKind.wrap_i64]; omega
  have w2 : IntKind.i64.wrap ((n : Int) - 2) = ((n - 2 : Nat) : Int) := by rw [IntKind.wrap_i64]; omega
  have w3 : IntKind.i64.wrap ((n : Int) - 16) = ((n - 16 : Nat) : Int) := by rw [IntKind.wrap_i64]; omega
  have w4 : IntKind.i64.wrap ((n : Int) - 7) = ((n - 7 : Nat) : Int) := by rw [IntKind.wrap_i64]; omega
  have v1 : (n : Int) - 15 = ((n - 15 : Nat) : Int) := by omega
  have v2 : (n : Int) - 2 = ((n - 2 : Nat) : Int) := by omega
  have g1 : ((n - 15 : Nat) : Int) < 64 := by omega
  have g2 : ((n - 2 : Nat) : Int) < 64 := by omega
  have g3 : ((n - 16 : Nat) : Int) < 64 := by omega
  have g4 : ((n - 7 : Nat) : Int) < 64 := by omega
  have g5 : (n : Int) < 64 := by omega
  have o3 : n - 16 < n := by omega
  have o4 : n - 7 < n := by omega
  generalize n - 15 = p1 at *
  generalize n - 2 = p2 at *
  generalize n - 16 = p3 at *
  generalize n - 7 = p4 at *
  have HR := Lib.hid hrow2
  clear hrow2 hcx
  go_wp2
  go_quiet (fail)
  have hRN : (wr.drewN nq).heap = wr.heap := by simp
  have c3N : (wr.drewN nq).cell? ⟨X, p3, none⟩ = some (.int .u32 (u : Nat)) := c3
  have c4N : (wr.drewN nq).cell? ⟨X, p4, none⟩ = some (.int .u32 (v : Nat)) := c4
  have hcN : (wr.drewN nq).cell? ⟨X, n, none⟩ = some (.int .u32 (oo : Nat)) := hcell
  have hfN : (wr.drewN nq).frozen? ⟨X, n, none⟩ = false := hfree
  have HRN := Lib.hid hRN
  have hbN := below_drewN hbel2 nq
  clear hRN c1 c2 c3 c4 hcell hfree
  generalize wr.drewN nq = W at *
  go_wp2
  have R7 := Lib.hid (fun w => rror_lit x 7 7 rfl hl1 (by decide) (by decide) w)
  have R18 := Lib.hid (fun w => rror_lit x 18 18 rfl hl1 (by decide) (by decide) w)
  have R17 := Lib.hid (fun w => rror_lit y 17 17 rfl hl2 (by decide) (by decide) w)
  have R19 := Lib.hid (fun w => rror_lit y 19 19 rfl hl2 (by decide) (by decide) w)
  go_region_held3 (fun w' => w'.cell? ⟨X, p3, none⟩ = some (.int .u32 (u : Nat)) ∧ w'.cell? ⟨X, p4, none⟩ = some (.int .u32 (v : Nat)))
    (first
      | exact ⟨c3N, c4N⟩
      | (simp only [World.cell?_drewN]; exact ⟨c3N, c4N⟩)
      | (refine ⟨?_, ?_⟩ <;> (rw [World.cell?_setCell_other _ _ _ _ (by intro e; injection e with _ e2; omega)]; simp only [World.cell?_drewN]; assumption)))
    (first
      | (go_at_call 38; (with_reducible refine (R7.out _).mono ?_); rintro e' w' ⟨rfl, m1, rfl⟩)
      | (go_at_call 38; (with_reducible refine (R18.out _).mono ?_); rintro e' w' ⟨rfl, m2, rfl⟩)
      | (go_at_call 38; (with_reducible refine (R17.out _).mono ?_); rintro e' w' ⟨rfl, m3, rfl⟩)
      | (go_at_call 38; (with_reducible refine (R19.out _).mono ?_); rintro e' w' ⟨rfl, m4, rfl⟩))
  rename_i hh
  clear hh
  rw [wstep2 u x v y hl1 hl2]
  have hRW : (W.drewN (1 + m1 + m2 + m3 + m4)).heap[X]? = some (.cells (wcells (fillW (ws l n) (64 - n))) 47 (0, 0)) := by show W.heap[X]? = _; rw [HRN.out]; exact HR.out
  have hbW := below_drewN hbN (1 + m1 + m2 + m3 + m4)
  have HRW := Lib.hid hRW
  obtain ⟨z, hz⟩ : ∃ z, z = add (add (add u (s7 x)) v) (s17 y) := ⟨_, rfl⟩
  rw [← hz] at HW
  rw [← hz]
  have HZ := Lib.hid hz
  clear hz hRW c3N c4N hcN hfN R7 R18 R17 R19 hbN
  generalize W.drewN (1 + m1 + m2 + m3 + m4) = W2 at *
  go_wp2
  refine HQ.out _ _ _ _ _ _ _ _ _ _ _ _ _ _ _ _ _ _ _ _ _ _ _ _ _ _ _ _ _ _ _ _ _ _ _ _ _ _ _ _ _ _ _ _ _ _ _ _ _ ⟨?_, hbW.setCell (by exact Nat.le_refl _) _⟩
  rw [block_setCell HRW.out, wcells_set, wpad_set l n _ hl5 HW.out]
end Go.Proofs.Ytdkhnklggidfpaa
