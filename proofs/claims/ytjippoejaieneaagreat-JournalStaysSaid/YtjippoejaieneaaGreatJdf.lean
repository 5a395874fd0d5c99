/- What a call does that the power broke off. Conditions: none. -/
import Derived.Test.YtjippoejaieneaaGreatJtk
import Derived.Defers
import Derived.Recover
namespace Go.Proofs.YtjippoejaieneaaGreat
open Go.RowKit Go.Maps
set_option maxRecDepth 20000
set_option linter.unusedVariables false

def deadW (w : World) (j : Nat) : World := (w.setCell ⟨j, 6, none⟩ (.bool true)).setCell ⟨j, 5, none⟩ (.map none)
theorem die_any (j x : Nat) (mv : Value) (J : Jn) (w : World) (hj : w.heap[j]? = some (.cells (jcells x J mv) 101 (0, 0))) :
    Calls Tryz.prog 51 #[.pointer (some ⟨j, 0, none⟩)] w fun e w' => e = .returned (.int .i64 2) ∧ w' = deadW w j := by
  have c5 : w.cell? ⟨j, 5, none⟩ = some mv := by rw [cell_of_row _ _ _ _ _ _ hj]; rfl
  have c6 : w.cell? ⟨j, 6, none⟩ = some (.bool J.dead) := by rw [cell_of_row _ _ _ _ _ _ hj]; rfl
  have f5 := block_free (o := 5) hj
  have f6 := block_free (o := 6) hj
  go_enter Tryz.func51, Tryz.ntmps51
  go_wp2
  go_ret
  exact ⟨rfl, rfl⟩
theorem idle57 (p q : Addr) (w : World) :
    CallsD Tryz.prog 57 #[.pointer (some p), .pointer (some q)] .returning w fun e u' w' => e = .returned (.tuple #[]) ∧ u' = .returning ∧ w' = w := by
  refine callsD_of_wpS Tryz.func57 rfl fun c₀ cs hu => ?_
  apply wpS_seq
  apply wpS_region
  simp [wpOpsS, go_sem, recoverD, hu, Tryz.ntmps57, Exit.thenS]
  refine wpS_cond (t := false) (by simp [Act.eval, Array.replicate]) ?_
  simp only [Bool.false_eq_true, if_false]
  refine wpS_of_wp (wp_skip ?_)
  cases c₀
  simp_all [bodyPostS, results, Tryz.results57]
set_option maxHeartbeats 1000000 in
theorem catch57 (b0 b1 j x : Nat) (mv : Value) (J : Jn) (y : Int) (w : World) (hb0 : w.cell? ⟨b0, 0, none⟩ = some (.pointer (some ⟨j, 0, none⟩))) (hb1 : w.cell? ⟨b1, 0, none⟩ = some (.int .i64 y)) (hf : w.frozen? ⟨b1, 0, none⟩ = false) (hne : b1 ≠ j)
    (hj : w.heap[j]? = some (.cells (jcells x J mv) 101 (0, 0))) :
    CallsD Tryz.prog 57 #[.pointer (some ⟨b0, 0, none⟩), .pointer (some ⟨b1, 0, none⟩)] (.panicking ([{ v := .iface 156 (.agg #[]), recovered := false }])) w fun e u' w' =>
      e = .returned (.tuple #[]) ∧ u' = .panicking ([{ v := .iface 156 (.agg #[]), recovered := true }]) ∧ w' = (deadW w j).setCell ⟨b1, 0, none⟩ (.int .i64 2) := by
  have k := die_any j x mv J w hj
  have e1 : (deadW w j).cell? ⟨b1, 0, none⟩ = some (.int .i64 y) := by
    rw [← hb1]; unfold deadW World.cell?
    rw [block_setCell_other (by exact hne), block_setCell_other (by exact hne)]
  have f1 : (deadW w j).frozen? ⟨b1, 0, none⟩ = false := by
    rw [← hf]; unfold deadW World.frozen?
    rw [block_setCell_other (by exact hne), block_setCell_other (by exact hne)]
  generalize deadW w j = W at *
  refine callsD_of_wpS Tryz.func57 rfl fun c₀ cs hu => ?_
  apply wpS_seq
  apply wpS_region
  simp [wpOpsS, go_sem, recoverD, hu, Tryz.ntmps57, Exit.thenS]
  refine wpS_cond (t := true) (by simp [Act.eval, Array.replicate]) ?_
  simp only [if_true]
  refine wpS_of_wp ?_
  go_wp2_with (go_at_call 51; (with_reducible refine k.mono ?_); rintro e w1 ⟨rfl, rfl⟩)
  cases c₀
  simp_all [bodyPostS, results, Tryz.results57]
theorem idle50 (p q : Addr) (w : World) :
    CallsD Tryz.prog 50 #[.pointer (some p), .pointer (some q)] .returning w fun e u' w' => e = .returned (.tuple #[]) ∧ u' = .returning ∧ w' = w := by
  refine callsD_of_wpS Tryz.func50 rfl fun c₀ cs hu => ?_
  apply wpS_seq
  apply wpS_region
  simp [wpOpsS, go_sem, recoverD, hu, Tryz.ntmps50, Exit.thenS]
  refine wpS_cond (t := false) (by simp [Act.eval, Array.replicate]) ?_
  simp only [Bool.false_eq_true, if_false]
  refine wpS_of_wp (wp_skip ?_)
  cases c₀
  simp_all [bodyPostS, results, Tryz.results50]
set_option maxHeartbeats 1000000 in
theorem catch50 (b0 b1 j x : Nat) (mv : Value) (J : Jn) (y : Int) (w : World) (hb0 : w.cell? ⟨b0, 0, none⟩ = some (.pointer (some ⟨j, 0, none⟩))) (hb1 : w.cell? ⟨b1, 0, none⟩ = some (.int .i64 y)) (hf : w.frozen? ⟨b1, 0, none⟩ = false) (hne : b1 ≠ j)
    (hj : w.heap[j]? = some (.cells (jcells x J mv) 101 (0, 0))) :
    CallsD Tryz.prog 50 #[.pointer (some ⟨b0, 0, none⟩), .pointer (some ⟨b1, 0, none⟩)] (.panicking ([{ v := .iface 156 (.agg #[]), recovered := false }])) w fun e u' w' =>
      e = .returned (.tuple #[]) ∧ u' = .panicking ([{ v := .iface 156 (.agg #[]), recovered := true }]) ∧ w' = (deadW w j).setCell ⟨b1, 0, none⟩ (.int .i64 2) := by
  have k := die_any j x mv J w hj
  have e1 : (deadW w j).cell? ⟨b1, 0, none⟩ = some (.int .i64 y) := by
    rw [← hb1]; unfold deadW World.cell?
    rw [block_setCell_other (by exact hne), block_setCell_other (by exact hne)]
  have f1 : (deadW w j).frozen? ⟨b1, 0, none⟩ = false := by
    rw [← hf]; unfold deadW World.frozen?
    rw [block_setCell_other (by exact hne), block_setCell_other (by exact hne)]
  generalize deadW w j = W at *
  refine callsD_of_wpS Tryz.func50 rfl fun c₀ cs hu => ?_
  apply wpS_seq
  apply wpS_region
  simp [wpOpsS, go_sem, recoverD, hu, Tryz.ntmps50, Exit.thenS]
  refine wpS_cond (t := true) (by simp [Act.eval, Array.replicate]) ?_
  simp only [if_true]
  refine wpS_of_wp ?_
  go_wp2_with (go_at_call 51; (with_reducible refine k.mono ?_); rintro e w1 ⟨rfl, rfl⟩)
  cases c₀
  simp_all [bodyPostS, results, Tryz.results50]
theorem idle64 (p q : Addr) (w : World) :
    CallsD Tryz.prog 64 #[.pointer (some p), .pointer (some q)] .returning w fun e u' w' => e = .returned (.tuple #[]) ∧ u' = .returning ∧ w' = w := by
  refine callsD_of_wpS Tryz.func64 rfl fun c₀ cs hu => ?_
  apply wpS_seq
  apply wpS_region
  simp [wpOpsS, go_sem, recoverD, hu, Tryz.ntmps64, Exit.thenS]
  refine wpS_cond (t := false) (by simp [Act.eval, Array.replicate]) ?_
  simp only [Bool.false_eq_true, if_false]
  refine wpS_of_wp (wp_skip ?_)
  cases c₀
  simp_all [bodyPostS, results, Tryz.results64]
set_option maxHeartbeats 1000000 in
theorem catch64 (b0 b1 j x : Nat) (mv : Value) (J : Jn) (y : Int) (w : World) (hb0 : w.cell? ⟨b0, 0, none⟩ = some (.pointer (some ⟨j, 0, none⟩))) (hb1 : w.cell? ⟨b1, 0, none⟩ = some (.int .i64 y)) (hf : w.frozen? ⟨b1, 0, none⟩ = false) (hne : b1 ≠ j)
    (hj : w.heap[j]? = some (.cells (jcells x J mv) 101 (0, 0))) :
    CallsD Tryz.prog 64 #[.pointer (some ⟨b0, 0, none⟩), .pointer (some ⟨b1, 0, none⟩)] (.panicking ([{ v := .iface 156 (.agg #[]), recovered := false }])) w fun e u' w' =>
      e = .returned (.tuple #[]) ∧ u' = .panicking ([{ v := .iface 156 (.agg #[]), recovered := true }]) ∧ w' = (deadW w j).setCell ⟨b1, 0, none⟩ (.int .i64 2) := by
  have k := die_any j x mv J w hj
  have e1 : (deadW w j).cell? ⟨b1, 0, none⟩ = some (.int .i64 y) := by
    rw [← hb1]; unfold deadW World.cell?
    rw [block_setCell_other (by exact hne), block_setCell_other (by exact hne)]
  have f1 : (deadW w j).frozen? ⟨b1, 0, none⟩ = false := by
    rw [← hf]; unfold deadW World.frozen?
    rw [block_setCell_other (by exact hne), block_setCell_other (by exact hne)]
  generalize deadW w j = W at *
  refine callsD_of_wpS Tryz.func64 rfl fun c₀ cs hu => ?_
  apply wpS_seq
  apply wpS_region
  simp [wpOpsS, go_sem, recoverD, hu, Tryz.ntmps64, Exit.thenS]
  refine wpS_cond (t := true) (by simp [Act.eval, Array.replicate]) ?_
  simp only [if_true]
  refine wpS_of_wp ?_
  go_wp2_with (go_at_call 51; (with_reducible refine k.mono ?_); rintro e w1 ⟨rfl, rfl⟩)
  cases c₀
  simp_all [bodyPostS, results, Tryz.results64]
theorem idle66 (p q : Addr) (w : World) :
    CallsD Tryz.prog 66 #[.pointer (some p), .pointer (some q)] .returning w fun e u' w' => e = .returned (.tuple #[]) ∧ u' = .returning ∧ w' = w := by
  refine callsD_of_wpS Tryz.func66 rfl fun c₀ cs hu => ?_
  apply wpS_seq
  apply wpS_region
  simp [wpOpsS, go_sem, recoverD, hu, Tryz.ntmps66, Exit.thenS]
  refine wpS_cond (t := false) (by simp [Act.eval, Array.replicate]) ?_
  simp only [Bool.false_eq_true, if_false]
  refine wpS_of_wp (wp_skip ?_)
  cases c₀
  simp_all [bodyPostS, results, Tryz.results66]
set_option maxHeartbeats 1000000 in
theorem catch66 (b0 b1 j x : Nat) (mv : Value) (J : Jn) (y : Int) (w : World) (hb0 : w.cell? ⟨b0, 0, none⟩ = some (.pointer (some ⟨j, 0, none⟩))) (hb1 : w.cell? ⟨b1, 0, none⟩ = some (.int .i64 y)) (hf : w.frozen? ⟨b1, 0, none⟩ = false) (hne : b1 ≠ j)
    (hj : w.heap[j]? = some (.cells (jcells x J mv) 101 (0, 0))) :
    CallsD Tryz.prog 66 #[.pointer (some ⟨b0, 0, none⟩), .pointer (some ⟨b1, 0, none⟩)] (.panicking ([{ v := .iface 156 (.agg #[]), recovered := false }])) w fun e u' w' =>
      e = .returned (.tuple #[]) ∧ u' = .panicking ([{ v := .iface 156 (.agg #[]), recovered := true }]) ∧ w' = (deadW w j).setCell ⟨b1, 0, none⟩ (.int .i64 2) := by
  have k := die_any j x mv J w hj
  have e1 : (deadW w j).cell? ⟨b1, 0, none⟩ = some (.int .i64 y) := by
    rw [← hb1]; unfold deadW World.cell?
    rw [block_setCell_other (by exact hne), block_setCell_other (by exact hne)]
  have f1 : (deadW w j).frozen? ⟨b1, 0, none⟩ = false := by
    rw [← hf]; unfold deadW World.frozen?
    rw [block_setCell_other (by exact hne), block_setCell_other (by exact hne)]
  generalize deadW w j = W at *
  refine callsD_of_wpS Tryz.func66 rfl fun c₀ cs hu => ?_
  apply wpS_seq
  apply wpS_region
  simp [wpOpsS, go_sem, recoverD, hu, Tryz.ntmps66, Exit.thenS]
  refine wpS_cond (t := true) (by simp [Act.eval, Array.replicate]) ?_
  simp only [if_true]
  refine wpS_of_wp ?_
  go_wp2_with (go_at_call 51; (with_reducible refine k.mono ?_); rintro e w1 ⟨rfl, rfl⟩)
  cases c₀
  simp_all [bodyPostS, results, Tryz.results66]
end Go.Proofs.YtjippoejaieneaaGreat
