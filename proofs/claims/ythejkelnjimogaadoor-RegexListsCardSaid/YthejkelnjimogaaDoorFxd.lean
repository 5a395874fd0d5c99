/- Calls whose answers the document fixes. No conditions. -/
import Derived.Test.YthejkelnjimogaaDoorPri

namespace Go.Proofs.YthejkelnjimogaaDoor
open Go.RowKit
set_option linter.unusedVariables false

def setT (a b : Int) : Rx := .mk 0 0 0 a b 0 0 []
def fixT : Rx := .mk 1 0 0 0 0 0 0 [setT 0 72057594037927936, .mk 3 0 (-1) 0 0 0 0 [.mk 2 0 0 0 0 0 0 [setT 0 51539607552, .mk 3 2 (-1) 0 0 0 0 [setT 0 2]]]]
theorem fix_parse : parseS [120, 40, 91, 99, 98, 93, 124, 92, 120, 52, 49, 123, 50, 44, 125, 41, 42] = (some fixT, 0) := by kernel_rfl
theorem fix_parse2 : parseS [97, 42, 42] = (none, 50) := by kernel_rfl
theorem fix_parse3 : parseS [40, 40, 97, 123, 49, 53, 125, 41, 123, 49, 53, 125, 41, 123, 49, 53, 125] = (none, 51) := by kernel_rfl
theorem fix_print : printS fixT = ([120, 40, 91, 98, 99, 93, 124, 65, 123, 50, 44, 125, 41, 42], 0) := by kernel_rfl
theorem fix_print2 : printS (.mk 2 0 0 0 0 0 0 []) = ([], 52) := by kernel_rfl
theorem fix_size : sizeR fixT = 8 := by kernel_rfl
theorem fix_check : checkR fixT = 0 := by kernel_rfl
theorem fix_check2 : checkR (.mk 0 0 0 0 0 0 0 []) = 52 := by kernel_rfl
theorem fix_ok : okR fixT := by
  unfold fixT setT
  simp [okR, okL]
theorem parse_yes {s : ByteArray} {w : World} {l : Bs} {k mn mx x0 x1 x2 x3 : Int} {ls : List Rx} {n : Int} (hs : s.data.toList = l) (hp : parseS l = (some (.mk k mn mx x0 x1 x2 x3 ls), n)) :
    Calls Tryd.prog 16 #[.string s] w fun e w' => Below w.heap.size w w' ∧ ∃ ao cp, e = .returned (.tuple #[.agg #[.int .i64 k, .int .i64 mn, .int .i64 mx, .int .u64 x0, .int .u64 x1, .int .u64 x2, .int .u64 x3, .slice ao ls.length cp], .int .i64 n]) ∧ LiesL (w.heap.size ≤ ·) w' (.slice ao ls.length cp) ls :=
  (parse_any s w).mono fun e w' h => by
    subst hs
    unfold PostP at h
    rw [hp] at h
    obtain ⟨hb, v, he, hl⟩ := h
    obtain ⟨ao, cp, hv⟩ := hl.value
    have hv' : v = .slice ao ls.length cp := hv
    subst hv'
    exact ⟨hb, ao, cp, he, hl⟩
theorem parse_no {s : ByteArray} {w : World} {l : Bs} {n : Int} (hs : s.data.toList = l) (hp : parseS l = (none, n)) :
    Calls Tryd.prog 16 #[.string s] w fun e w' => e = .returned (.tuple #[.agg #[.int .i64 0, .int .i64 0, .int .i64 0, .int .u64 0, .int .u64 0, .int .u64 0, .int .u64 0, .slice none 0 0], .int .i64 n]) ∧ Below w.heap.size w w' :=
  (parse_any s w).mono fun e w' h => by
    subst hs
    unfold PostP at h
    rw [hp] at h
    exact ⟨h.2, h.1⟩
theorem row26 {w w1 : World} {C : Array Value} {X : Nat} (hX : X = w.heap.size) (g : Below (w.alloc (.cells C 26)).heap.size (w.alloc (.cells C 26)) w1) : w1.heap[X]? = some (.cells C 26 (0, 0)) := by
  rw [g.block X (by rw [hX]; simp), hX]
  exact heap_alloc_new w _
theorem cell_stay {w w1 : World} {C : Array Value} {X : Nat} {t : TypeId} (h : w.heap[X]? = some (.cells C t (0, 0))) (g : Below w.heap.size w w1) : w1.heap[X]? = some (.cells C t (0, 0)) := by
  rw [g.block X (block_lt h)]; exact h
theorem cells8 {w : World} {X : Nat} {t : TypeId} {v0 v1 v2 v3 v4 v5 v6 v7 : Value} (h : w.heap[X]? = some (.cells #[v0, v1, v2, v3, v4, v5, v6, v7] t (0, 0))) :
    w.cell? ⟨X, 0, none⟩ = some v0 ∧ w.cell? ⟨X, 1, none⟩ = some v1 ∧ w.cell? ⟨X, 2, none⟩ = some v2 ∧ w.cell? ⟨X, 3, none⟩ = some v3 ∧ w.cell? ⟨X, 4, none⟩ = some v4 ∧ w.cell? ⟨X, 5, none⟩ = some v5 ∧ w.cell? ⟨X, 6, none⟩ = some v6 ∧ w.cell? ⟨X, 7, none⟩ = some v7 :=
  ⟨cell_at h rfl, cell_at h rfl, cell_at h rfl, cell_at h rfl, cell_at h rfl, cell_at h rfl, cell_at h rfl, cell_at h rfl⟩
set_option maxRecDepth 100000 in
set_option maxHeartbeats 8000000 in
/-- calls whose answers the document fixes -/
theorem fixed_any (w : World) : Calls Tryd.prog 11 #[] w fun e w' => e = .returned (.bool true) ∧ Below w.heap.size w w' := by
  have P1 : Hid (∀ w, Calls Tryd.prog 16 #[.string ⟨#[120, 40, 91, 99, 98, 93, 124, 92, 120, 52, 49, 123, 50, 44, 125, 41, 42]⟩] w fun e w' => Below w.heap.size w w' ∧ ∃ ao cp, e = .returned (.tuple #[.agg #[.int .i64 1, .int .i64 0, .int .i64 0, .int .u64 0, .int .u64 0, .int .u64 0, .int .u64 0, .slice ao 2 cp], .int .i64 0]) ∧ LiesL (w.heap.size ≤ ·) w' (.slice ao 2 cp) fixT.list) := fun w => parse_yes (k := 1) (mn := 0) (mx := 0) (x0 := 0) (x1 := 0) (x2 := 0) (x3 := 0) (ls := fixT.list) (n := 0) (l := [120, 40, 91, 99, 98, 93, 124, 92, 120, 52, 49, 123, 50, 44, 125, 41, 42]) rfl fix_parse
  have P2 : Hid (∀ w, Calls Tryd.prog 16 #[.string ⟨#[97, 42, 42]⟩] w fun e w' => e = .returned (.tuple #[.agg #[.int .i64 0, .int .i64 0, .int .i64 0, .int .u64 0, .int .u64 0, .int .u64 0, .int .u64 0, .slice none 0 0], .int .i64 50]) ∧ Below w.heap.size w w') := fun w => parse_no rfl fix_parse2
  have P3 : Hid (∀ w, Calls Tryd.prog 16 #[.string ⟨#[40, 40, 97, 123, 49, 53, 125, 41, 123, 49, 53, 125, 41, 123, 49, 53, 125]⟩] w fun e w' => e = .returned (.tuple #[.agg #[.int .i64 0, .int .i64 0, .int .i64 0, .int .u64 0, .int .u64 0, .int .u64 0, .int .u64 0, .slice none 0 0], .int .i64 51]) ∧ Below w.heap.size w w') := fun w => parse_no rfl fix_parse3
  have Q1 : Hid (∀ (B : Nat) (ao : Option Addr) (cp : Nat) (w : World), LiesL (B ≤ ·) w (.slice ao 2 cp) fixT.list → Calls Tryd.prog 9 #[.agg #[.int .i64 1, .int .i64 0, .int .i64 0, .int .u64 0, .int .u64 0, .int .u64 0, .int .u64 0, .slice ao 2 cp]] w fun e w' => e = .returned (.tuple #[.string ⟨#[120, 40, 91, 98, 99, 93, 124, 65, 123, 50, 44, 125, 41, 42]⟩, .int .i64 0]) ∧ Below w.heap.size w w') := fun B ao cp w h => by
    have := print_any w (.slice ao 2 cp) fixT h fix_ok
    rw [fix_print] at this
    exact this
  have Q2 : Hid (∀ (w : World), Calls Tryd.prog 9 #[.agg #[.int .i64 2, .int .i64 0, .int .i64 0, .int .u64 0, .int .u64 0, .int .u64 0, .int .u64 0, .slice none 0 0]] w fun e w' => e = .returned (.tuple #[.string ⟨#[]⟩, .int .i64 52]) ∧ Below w.heap.size w w') := fun w => by
    have := print_any w (.slice none 0 0) (.mk 2 0 0 0 0 0 0 []) (LiesL.nil (fun _ => True) w) (by simp [okR, okL])
    rw [fix_print2] at this
    exact this
  have S1 : Hid (∀ (B : Nat) (ao : Option Addr) (cp : Nat) (w : World), LiesL (B ≤ ·) w (.slice ao 2 cp) fixT.list → Calls Tryd.prog 14 #[.agg #[.int .i64 1, .int .i64 0, .int .i64 0, .int .u64 0, .int .u64 0, .int .u64 0, .int .u64 0, .slice ao 2 cp]] w fun e w' => e = .returned (.int .i64 8) ∧ Below w.heap.size w w') := fun B ao cp w h => by
    have := size_any w (.slice ao 2 cp) fixT h
    rw [fix_size] at this
    exact this
  have C1 : Hid (∀ (B : Nat) (ao : Option Addr) (cp : Nat) (w : World), LiesL (B ≤ ·) w (.slice ao 2 cp) fixT.list → Calls Tryd.prog 12 #[.agg #[.int .i64 1, .int .i64 0, .int .i64 0, .int .u64 0, .int .u64 0, .int .u64 0, .int .u64 0, .slice ao 2 cp]] w fun e w' => e = .returned (.int .i64 0) ∧ Below w.heap.size w w') := fun B ao cp w h => by
    have := check_any w (.slice ao 2 cp) fixT h
    rw [fix_check] at this
    exact this
  have C2 : Hid (∀ (w : World), Calls Tryd.prog 12 #[.agg #[.int .i64 0, .int .i64 0, .int .i64 0, .int .u64 0, .int .u64 0, .int .u64 0, .int .u64 0, .slice none 0 0]] w fun e w' => e = .returned (.int .i64 52) ∧ Below w.heap.size w w') := fun w => by
    have := check_any w (.slice none 0 0) (.mk 0 0 0 0 0 0 0 []) (LiesL.nil (fun _ => True) w)
    rw [fix_check2] at this
    exact this
  generalize fixT.list = tl at *
  go_enter Tryd.func11, Tryd.ntmps11
  go_wp2_with (first
    | (go_at_call 16; (with_reducible refine (P1.out _).mono ?_); rintro e w1 ⟨g1, ao, cp, rfl, l1⟩; have l1a := l1.stay (below_new w1 (.cells #[.int .i64 1, .int .i64 0, .int .i64 0, .int .u64 0, .int .u64 0, .int .u64 0, .int .u64 0, .slice ao 2 cp] 26)); have g1a := below_trans g1 (below_new w1 (.cells #[.int .i64 1, .int .i64 0, .int .i64 0, .int .u64 0, .int .u64 0, .int .u64 0, .int .u64 0, .slice ao 2 cp] 26)))
    | (go_at_call 9; (with_reducible refine (Q1.out _ _ _ _ l1a).mono ?_); rintro e w2 ⟨rfl, g2⟩; have l2 := l1a.stay g2; have g2a := below_trans g1a g2; have r2 := row26 rfl g2)
    | (go_at_call 16; (with_reducible refine (P2.out _).mono ?_); rintro e w3 ⟨rfl, g3⟩; have l3 := (l2.stay g3).stay (below_new w3 (.cells zero8 26)); have g3a := below_trans (below_trans g2a g3) (below_new w3 (.cells zero8 26)); have r3 := cell_stay r2 g3; have r3a := cell_stay r3 (below_new w3 (.cells zero8 26)))
    | (go_at_call 16; (with_reducible refine (P3.out _).mono ?_); rintro e w4 ⟨rfl, g4⟩; have l4 := (l3.stay g4).stay (below_new w4 (.cells zero8 26)); have g4a := below_trans (below_trans g3a g4) (below_new w4 (.cells zero8 26)); have r4 := cell_stay (cell_stay r3a g4) (below_new w4 (.cells zero8 26)))
    | (go_at_call 9; (with_reducible refine (Q2.out _).mono ?_); rintro e w5 ⟨rfl, g5⟩; have l5 := l4.stay g5; have g5a := below_trans g4a g5; have r5 := cell_stay r4 g5; obtain ⟨c0, c1, c2, c3, c4, c5, c6, c7⟩ := cells8 r5)
    | (go_at_call 14; (with_reducible refine (S1.out _ _ _ _ l5).mono ?_); rintro e w6 ⟨rfl, g6⟩; have l6 := l5.stay g6; have g6a := below_trans g5a g6; have r6 := cell_stay r5 g6; obtain ⟨d0, d1, d2, d3, d4, d5, d6, d7⟩ := cells8 r6)
    | (go_at_call 12; (with_reducible refine (C1.out _ _ _ _ l6).mono ?_); rintro e w7 ⟨rfl, g7⟩; have g7a := below_trans g6a g7)
    | (go_at_call 12; (with_reducible refine (C2.out _).mono ?_); rintro e w8 ⟨rfl, g8⟩; have g8a := below_trans g7a g8))
  go_ret
  exact ⟨rfl, g8a⟩
end Go.Proofs.YthejkelnjimogaaDoor
