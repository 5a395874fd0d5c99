/- The pattern of an expression, or why there is none; calls whose answers the document fixes: what the calls return. Conditions: the expression lies in memory, its numbers are a machine's. -/
import Derived.Test.YthejkelnjimogaaDoorPtw
namespace Go.Proofs.YthejkelnjimogaaDoor
open Go.RowKit
set_option linter.unusedVariables false

/-- the pattern, and the error's number -/
def printS (t : Rx) : Bs × Int := if checkR t ≠ 0 then ([], checkR t) else if 128 < (patR t).length then ([], 51) else (patR t, 0)
theorem check_good {t : Rx} (h : checkR t = 0) (ho : okR t) : goodR t := by
  unfold checkR at h
  split at h
  · cases h
  · split at h
    · cases h
    · exact ⟨by assumption, by assumption, ho⟩
set_option maxRecDepth 20000 in
set_option maxHeartbeats 4000000 in
theorem print_any {ok : Nat → Prop} (w : World) (v : Value) (t : Rx) (h : LiesL ok w v t.list) (ho : okR t) : Calls Tryd.prog 9 #[t.val v] w fun e w' => e = .returned (.tuple #[.string (str (printS t).1), .int .i64 (printS t).2]) ∧ Below w.heap.size w w' := by
  have hl : ∀ w1, Below w.heap.size w w1 → LiesL ok w1 v t.list := fun w1 g => h.stay g
  have CK : ∀ w1, Below w.heap.size w w1 → Calls Tryd.prog 12 #[.agg (t.cells v)] w1 fun e w' => e = .returned (.int .i64 (checkR t)) ∧ Below w1.heap.size w1 w' := fun w1 g => check_any w1 v t (hl w1 g)
  have PT : ∀ (hg : goodR t) w1, Below w.heap.size w w1 → Calls Tryd.prog 21 #[.agg (t.cells v)] w1 fun e w' => e = .returned (.string (str (patR t))) ∧ Below w1.heap.size w1 w' := fun hg w1 g => pat_any w1 v t (hl w1 g) hg
  have hcg := fun hc => check_good (t := t) hc ho
  have bel : Hid (∀ o, Below w.heap.size w (w.alloc o)) := fun o => below_new w o
  have tr : Hid (∀ w1 w2, Below w.heap.size w w1 → Below w1.heap.size w1 w2 → Below w.heap.size w w2) := fun w1 w2 a b => below_trans a b
  obtain ⟨ao, cap, hv⟩ := h.value
  subst hv
  clear hl h
  unfold printS
  unfold Rx.val
  generalize checkR t = c at *
  obtain ⟨X, hX⟩ : ∃ X, X = w.heap.size := ⟨_, rfl⟩
  have hzz : w.heap.size = X := hX.symm
  have ROW : Hid (∀ w1, Below (w.alloc (.cells (t.cells (.slice ao t.list.length cap)) 26)).heap.size (w.alloc (.cells (t.cells (.slice ao t.list.length cap)) 26)) w1 → ∀ j u, (t.cells (.slice ao t.list.length cap))[j]? = some u → w1.cell? ⟨X, j, none⟩ = some u) := fun w1 g j u hu => by
    refine cell_at (t := 26) (C := t.cells (.slice ao t.list.length cap)) ?_ hu
    rw [g.block X (by rw [hX]; simp), hX]
    exact heap_alloc_new w _
  by_cases h0 : c = 0
  · subst h0
    have PT2 := PT (hcg rfl)
    rw [if_neg (by decide)]
    obtain ⟨p, hp⟩ : ∃ p, patR t = p := ⟨_, rfl⟩
    rw [hp] at PT2 ⊢
    have sp := str_size p
    obtain ⟨k, mn, mx, x0, x1, x2, x3, ls⟩ := t
    dsimp only [Rx.cells, cellsX, Rx.list] at *
    have CK2 := Lib.hid CK
    have PT3 := Lib.hid PT2
    have RW8 : Hid (∀ w1, Below (w.alloc (.cells #[.int .i64 k, .int .i64 mn, .int .i64 mx, .int .u64 x0, .int .u64 x1, .int .u64 x2, .int .u64 x3, .slice ao ls.length cap] 26)).heap.size (w.alloc (.cells #[.int .i64 k, .int .i64 mn, .int .i64 mx, .int .u64 x0, .int .u64 x1, .int .u64 x2, .int .u64 x3, .slice ao ls.length cap] 26)) w1 → w1.cell? ⟨X, 0, none⟩ = some (.int .i64 k) ∧ w1.cell? ⟨X, 1, none⟩ = some (.int .i64 mn) ∧ w1.cell? ⟨X, 2, none⟩ = some (.int .i64 mx) ∧ w1.cell? ⟨X, 3, none⟩ = some (.int .u64 x0) ∧ w1.cell? ⟨X, 4, none⟩ = some (.int .u64 x1) ∧ w1.cell? ⟨X, 5, none⟩ = some (.int .u64 x2) ∧ w1.cell? ⟨X, 6, none⟩ = some (.int .u64 x3) ∧ w1.cell? ⟨X, 7, none⟩ = some (.slice ao ls.length cap)) := fun w1 g => ⟨ROW.out w1 g 0 _ rfl, ROW.out w1 g 1 _ rfl, ROW.out w1 g 2 _ rfl, ROW.out w1 g 3 _ rfl, ROW.out w1 g 4 _ rfl, ROW.out w1 g 5 _ rfl, ROW.out w1 g 6 _ rfl, ROW.out w1 g 7 _ rfl⟩
    clear CK PT PT2 hcg ho hp hX ROW
    by_cases hL : 128 < p.length
    · rw [if_pos hL]
      have hLi : (128 : Int) < ((str p).size : Int) := by rw [sp]; omega
      have e0 : Hid (str [] = ⟨#[]⟩) := rfl
      rw [e0.out]
      generalize str p = y at *
      clear hL sp
      rw [hzz]
      have TR : Hid (∀ w1 w2, Below w.heap.size w w1 → Below w1.heap.size w1 w2 → Below X w w2) := fun w1 w2 a b => by rw [← hzz]; exact tr.out _ _ a b
      go_enter Tryd.func9, Tryd.ntmps9
      go_wp2_with (first
        | (go_at_call 12; (with_reducible refine (CK2.out _ (bel.out _)).mono ?_); rintro e w1 ⟨rfl, g1⟩; obtain ⟨c0, c1, c2, c3, c4, c5, c6, c7⟩ := RW8.out _ g1; have g2 := tr.out _ _ (bel.out _) g1)
        | (go_at_call 21; (with_reducible refine (PT3.out _ g2).mono ?_); rintro e w3 ⟨rfl, g3⟩))
      go_ret2
      exact ⟨rfl, TR.out _ _ g2 g3⟩
    · rw [if_neg hL]
      have hLi : ¬ (128 : Int) < ((str p).size : Int) := by rw [sp]; omega
      generalize str p = y at *
      clear hL sp
      rw [hzz]
      have TR : Hid (∀ w1 w2, Below w.heap.size w w1 → Below w1.heap.size w1 w2 → Below X w w2) := fun w1 w2 a b => by rw [← hzz]; exact tr.out _ _ a b
      go_enter Tryd.func9, Tryd.ntmps9
      go_wp2_with (first
        | (go_at_call 12; (with_reducible refine (CK2.out _ (bel.out _)).mono ?_); rintro e w1 ⟨rfl, g1⟩; obtain ⟨c0, c1, c2, c3, c4, c5, c6, c7⟩ := RW8.out _ g1; have g2 := tr.out _ _ (bel.out _) g1)
        | (go_at_call 21; (with_reducible refine (PT3.out _ g2).mono ?_); rintro e w3 ⟨rfl, g3⟩))
      go_ret2
      exact ⟨rfl, TR.out _ _ g2 g3⟩
  · rw [if_pos h0]
    obtain ⟨k, mn, mx, x0, x1, x2, x3, ls⟩ := t
    dsimp only [Rx.cells, cellsX, Rx.list] at *
    have CK2 := Lib.hid CK
    have RW8 : Hid (∀ w1, Below (w.alloc (.cells #[.int .i64 k, .int .i64 mn, .int .i64 mx, .int .u64 x0, .int .u64 x1, .int .u64 x2, .int .u64 x3, .slice ao ls.length cap] 26)).heap.size (w.alloc (.cells #[.int .i64 k, .int .i64 mn, .int .i64 mx, .int .u64 x0, .int .u64 x1, .int .u64 x2, .int .u64 x3, .slice ao ls.length cap] 26)) w1 → w1.cell? ⟨X, 0, none⟩ = some (.int .i64 k) ∧ w1.cell? ⟨X, 1, none⟩ = some (.int .i64 mn) ∧ w1.cell? ⟨X, 2, none⟩ = some (.int .i64 mx) ∧ w1.cell? ⟨X, 3, none⟩ = some (.int .u64 x0) ∧ w1.cell? ⟨X, 4, none⟩ = some (.int .u64 x1) ∧ w1.cell? ⟨X, 5, none⟩ = some (.int .u64 x2) ∧ w1.cell? ⟨X, 6, none⟩ = some (.int .u64 x3) ∧ w1.cell? ⟨X, 7, none⟩ = some (.slice ao ls.length cap)) := fun w1 g => ⟨ROW.out w1 g 0 _ rfl, ROW.out w1 g 1 _ rfl, ROW.out w1 g 2 _ rfl, ROW.out w1 g 3 _ rfl, ROW.out w1 g 4 _ rfl, ROW.out w1 g 5 _ rfl, ROW.out w1 g 6 _ rfl, ROW.out w1 g 7 _ rfl⟩
    have hne : (c != 0) = true := by simpa using h0
    have e0 : Hid (str [] = ⟨#[]⟩) := rfl
    rw [e0.out]
    clear CK PT hcg ho hX ROW h0
    rw [hzz]
    have TR : Hid (∀ w1, Below w.heap.size w w1 → Below X w w1) := fun w1 a => by rw [← hzz]; exact a
    go_enter Tryd.func9, Tryd.ntmps9
    go_wp2_with (first
      | (go_at_call 12; (with_reducible refine (CK2.out _ (bel.out _)).mono ?_); rintro e w1 ⟨rfl, g1⟩; obtain ⟨c0, c1, c2, c3, c4, c5, c6, c7⟩ := RW8.out _ g1; have g2 := tr.out _ _ (bel.out _) g1))
    go_ret2
    exact ⟨rfl, TR.out _ g2⟩
end Go.Proofs.YthejkelnjimogaaDoor
