/- A text that is told an expression: what the call returns; texts put together in brackets, as they are read. Conditions: the expression lies in memory; the text is read as it. -/
import Derived.Test.YthejkelnjimogaaDoorOpn
import Derived.Test.YthejkelnjimogaaDoorPrm
import Derived.Test.YthejkelnjimogaaDoorSam
--DBG
namespace Go.Proofs.YthejkelnjimogaaDoor
open Go.RowKit
set_option linter.unusedVariables false

theorem parse_no' {s : ByteArray} {w : World} {l : Bs} (hs : s = str l) {n : Int} (hp : parseS l = (none, n)) :
    Calls Tryd.prog 16 #[.string s] w fun e w' => e = .returned (.tuple #[.agg #[.int .i64 0, .int .i64 0, .int .i64 0, .int .u64 0, .int .u64 0, .int .u64 0, .int .u64 0, .slice none 0 0], .int .i64 n]) ∧ Below w.heap.size w w' :=
  parse_no (by rw [hs]; simp [str]) hp
set_option maxRecDepth 100000 in
set_option maxHeartbeats 8000000 in
/-- a text that is read as an expression is told it -/
theorem told_any {ok : Nat → Prop} (l : Bs) (t : Rx) (v : Value) (w : World) (h : LiesL ok w v t.list) (hm : may t) (hp : altP (l.length + 1) [] [] l = some (t, [])) :
    Calls Tryd.prog 19 #[.string (str l), t.val v] w fun e w' => e = .returned (.bool true) ∧ Below w.heap.size w w' := by
  have hps := parse_of hp
  have hsz := str_size l
  have CK' := fun w1 (g : Below w.heap.size w w1) => check_any w1 v t (h.stay g)
  have SM' := fun (D : Nat) (v2 : Value) (w1 : World) (g : Below w.heap.size w w1) (h2 : LiesL (D ≤ ·) w1 v2 t.list) => same_any w1 v2 v t h2 (h.stay g)
  obtain ⟨pa, ca, hva⟩ := h.value
  subst hva
  have hc : checkR t = if sizeR t = 257 then 51 else 0 := by unfold checkR; rw [if_neg hm.1]
  by_cases hL : 128 < l.length
  · rw [if_pos hL] at hps
    have PA := Lib.hid (fun w => parse_no' (w := w) (s := str l) rfl hps)
    have hLi : (128 : Int) < ((str l).size : Int) := by rw [hsz]; omega
    obtain ⟨k, mn, mx, s0, s1, s2, s3, la⟩ := t
    unfold Rx.val
    dsimp only [Rx.cells, cellsX, Rx.list]
    generalize str l = s at *
    clear CK' SM' hc hps hp hsz hL hm h
    go_enter Tryd.func19, Tryd.ntmps19
    go_wp2_with (first
      | (go_at_call 16; (with_reducible refine (PA.out _).mono ?_); rintro e w1 ⟨rfl, g1⟩; have b1 := below_trans (below_trans (below_new w _) g1) (below_new w1 (.cells #[.int .i64 0, .int .i64 0, .int .i64 0, .int .u64 0, .int .u64 0, .int .u64 0, .int .u64 0, .slice none 0 0] 26))))
    go_ret
    exact ⟨rfl, b1⟩
  · rw [if_neg hL] at hps
    have hLi : ¬ (128 : Int) < ((str l).size : Int) := by rw [hsz]; omega
    by_cases h257 : sizeR t = 257
    · rw [if_pos h257] at hps hc
      rw [hc] at CK'
      have PA := Lib.hid (fun w => parse_no' (w := w) (s := str l) rfl hps)
      obtain ⟨k, mn, mx, s0, s1, s2, s3, la⟩ := t
      unfold Rx.val
      dsimp only [Rx.cells, cellsX, Rx.list] at *
      have CK : Hid (∀ (w1 : World), Below w.heap.size w w1 → Calls Tryd.prog 12 #[.agg #[.int .i64 k, .int .i64 mn, .int .i64 mx, .int .u64 s0, .int .u64 s1, .int .u64 s2, .int .u64 s3, .slice pa la.length ca]] w1 fun e w' => e = .returned (.int .i64 51) ∧ Below w1.heap.size w1 w') := Lib.hid CK'
      generalize str l = s at *
      clear CK' SM' hc hps hp hsz hL hm h h257
      go_enter Tryd.func19, Tryd.ntmps19
      go_wp2_with (first
        | (go_at_call 16; (with_reducible refine (PA.out _).mono ?_); rintro e w1 ⟨rfl, g1⟩; have b1 := below_trans (below_trans (below_new w _) g1) (below_new w1 (.cells #[.int .i64 0, .int .i64 0, .int .i64 0, .int .u64 0, .int .u64 0, .int .u64 0, .int .u64 0, .slice none 0 0] 26)); have r1 := cell_stay (cell_stay (heap_alloc_new w (.cells #[.int .i64 k, .int .i64 mn, .int .i64 mx, .int .u64 s0, .int .u64 s1, .int .u64 s2, .int .u64 s3, .slice pa la.length ca] 26)) g1) (below_new w1 (.cells #[.int .i64 0, .int .i64 0, .int .i64 0, .int .u64 0, .int .u64 0, .int .u64 0, .int .u64 0, .slice none 0 0] 26)); obtain ⟨c0, c1, c2, c3, c4, c5, c6, c7⟩ := cells8 r1)
        | (go_at_call 12; (with_reducible refine (CK.out _ b1).mono ?_); rintro e w2 ⟨rfl, g2⟩; have b2 := below_trans b1 g2))
      go_ret
      exact ⟨rfl, b2⟩
    · rw [if_neg h257] at hps hc
      rw [hc] at CK'
      obtain ⟨k, mn, mx, s0, s1, s2, s3, la⟩ := t
      have PA := Lib.hid (fun w => parse_yes (w := w) (s := str l) (l := l) (by simp [str]) hps)
      unfold Rx.val
      dsimp only [Rx.cells, cellsX, Rx.list] at *
      have CK : Hid (∀ (w1 : World), Below w.heap.size w w1 → Calls Tryd.prog 12 #[.agg #[.int .i64 k, .int .i64 mn, .int .i64 mx, .int .u64 s0, .int .u64 s1, .int .u64 s2, .int .u64 s3, .slice pa la.length ca]] w1 fun e w' => e = .returned (.int .i64 0) ∧ Below w1.heap.size w1 w') := Lib.hid CK'
      have SM : Hid (∀ (D : Nat) (bo : Option Addr) (cq : Nat) (w1 : World), Below w.heap.size w w1 → LiesL (D ≤ ·) w1 (.slice bo la.length cq) la → Calls Tryd.prog 18 #[.agg #[.int .i64 k, .int .i64 mn, .int .i64 mx, .int .u64 s0, .int .u64 s1, .int .u64 s2, .int .u64 s3, .slice bo la.length cq], .agg #[.int .i64 k, .int .i64 mn, .int .i64 mx, .int .u64 s0, .int .u64 s1, .int .u64 s2, .int .u64 s3, .slice pa la.length ca]] w1 fun e w' => e = .returned (.bool true) ∧ Below w1.heap.size w1 w') := fun D bo cq w1 g h2 => SM' D (.slice bo la.length cq) w1 g h2
      generalize str l = s at *
      clear CK' SM' hc hps hp hsz hL hm h h257
      go_enter Tryd.func19, Tryd.ntmps19
      go_wp2_with (first
        | (go_at_call 16; (with_reducible refine (PA.out _).mono ?_); rintro e w1 ⟨g1, bo, cq, rfl, l1⟩; have b1 := below_trans (below_trans (below_new w _) g1) (below_new w1 (.cells #[.int .i64 k, .int .i64 mn, .int .i64 mx, .int .u64 s0, .int .u64 s1, .int .u64 s2, .int .u64 s3, .slice bo la.length cq] 26)); have r1 := cell_stay (cell_stay (heap_alloc_new w (.cells #[.int .i64 k, .int .i64 mn, .int .i64 mx, .int .u64 s0, .int .u64 s1, .int .u64 s2, .int .u64 s3, .slice pa la.length ca] 26)) g1) (below_new w1 (.cells #[.int .i64 k, .int .i64 mn, .int .i64 mx, .int .u64 s0, .int .u64 s1, .int .u64 s2, .int .u64 s3, .slice bo la.length cq] 26)); have q1 := heap_alloc_new w1 (.cells #[.int .i64 k, .int .i64 mn, .int .i64 mx, .int .u64 s0, .int .u64 s1, .int .u64 s2, .int .u64 s3, .slice bo la.length cq] 26); have l1a := l1.stay (below_new w1 (.cells #[.int .i64 k, .int .i64 mn, .int .i64 mx, .int .u64 s0, .int .u64 s1, .int .u64 s2, .int .u64 s3, .slice bo la.length cq] 26)); obtain ⟨c0, c1, c2, c3, c4, c5, c6, c7⟩ := cells8 r1; obtain ⟨d0, d1, d2, d3, d4, d5, d6, d7⟩ := cells8 q1)
        | (go_at_call 12; (with_reducible refine (CK.out _ b1).mono ?_); rintro e w2 ⟨rfl, g2⟩; have b2 := below_trans b1 g2; have r1 := cell_stay r1 g2; have q1 := cell_stay q1 g2; have l2 := l1a.stay g2; obtain ⟨c0, c1, c2, c3, c4, c5, c6, c7⟩ := cells8 r1; obtain ⟨d0, d1, d2, d3, d4, d5, d6, d7⟩ := cells8 q1)
        | (go_at_call 18; (with_reducible refine (SM.out _ _ _ _ b2 l2).mono ?_); rintro e w3 ⟨rfl, g3⟩; have b3 := below_trans b2 g3))
      go_ret
      exact ⟨rfl, b3⟩
end Go.Proofs.YthejkelnjimogaaDoor
