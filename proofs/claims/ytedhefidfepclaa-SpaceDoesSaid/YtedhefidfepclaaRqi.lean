/- Two tables of pages, compared. No conditions. -/
import Derived.Test.YtedhefidfepclaaRqh
namespace Go.Proofs.Ytedhefidfepclaa
open Go.RowKit Go.Maps
set_option linter.unusedVariables false
set_option linter.unusedSimpArgs false

theorem tables_nil (w : World) (q1 q2 : Option Addr) (c1 c2 : Nat) : Calls Try.prog 51 #[.slice q1 0 c1, .slice q2 0 c2] w fun e w' => e = .returned (.bool true) ∧ Below w.heap.size w w' := by
  have HB := Lib.hid (Below.refl w.heap.size w)
  go_enter Try.func51, Try.ntmps51
  go_wp2
  go_loopw [5] (fun iv wr => iv = .int .i64 0 ∧ wr = w) (fun _ _ => 0)
  case atStart => exact ⟨rfl, rfl⟩
  case round =>
    obtain ⟨rfl, rfl⟩ := hrel
    go_wp2
    go_ret
    exact ⟨rfl, HB.out⟩
set_option maxRecDepth 20000 in
set_option maxHeartbeats 4000000 in
theorem tables_some (w : World) (b1 o1 b2 o2 c1 c2 n : Nat) (ps : List Pg) (h16 : n ≤ 16)
    (h1 : ∀ j, j < n → w.cell? ⟨b1, o1 + j * 2, none⟩ = some (.int .i64 (ps.getD j (0, 0)).1) ∧ w.cell? ⟨b1, o1 + j * 2 + 1, none⟩ = some (.int .i64 (ps.getD j (0, 0)).2))
    (h2 : ∀ j, j < n → w.cell? ⟨b2, o2 + j * 2, none⟩ = some (.int .i64 (ps.getD j (0, 0)).1) ∧ w.cell? ⟨b2, o2 + j * 2 + 1, none⟩ = some (.int .i64 (ps.getD j (0, 0)).2)) :
    Calls Try.prog 51 #[.slice (some ⟨b1, o1, none⟩) n c1, .slice (some ⟨b2, o2, none⟩) n c2] w fun e w' => e = .returned (.bool true) ∧ Below w.heap.size w w' := by
  have HP : Hid (∀ W, Below w.heap.size w W → ∀ i, i < n → (W.cell? ⟨b1, o1 + i * 2, none⟩ = some (.int .i64 (ps.getD i (0, 0)).1) ∧ W.cell? ⟨b1, o1 + i * 2 + 1, none⟩ = some (.int .i64 (ps.getD i (0, 0)).2)) ∧ (W.cell? ⟨b2, o2 + i * 2, none⟩ = some (.int .i64 (ps.getD i (0, 0)).1) ∧ W.cell? ⟨b2, o2 + i * 2 + 1, none⟩ = some (.int .i64 (ps.getD i (0, 0)).2))) := Lib.hid fun W hW i hi =>
    ⟨⟨cell_below (h1 i hi).1 hW, cell_below (h1 i hi).2 hW⟩, cell_below (h2 i hi).1 hW, cell_below (h2 i hi).2 hW⟩
  have HR : Hid (Below w.heap.size w w) := Lib.hid (Below.refl _ _)
  clear h1 h2
  go_enter Try.func51, Try.ntmps51
  go_wp2
  go_loopw [5] (fun iv wr => ∃ i : Nat, i ≤ n ∧ iv = .int .i64 (i : Int) ∧ Below w.heap.size w wr) (fun iv _ => n - (intOf iv).toNat)
  case atStart => exact ⟨0, Nat.zero_le _, rfl, HR.out⟩
  case round =>
    obtain ⟨i, hin, rfl, hB⟩ := hrel
    by_cases a : i < n
    · have aI : (i : Int) < (n : Int) := by omega
      have aI0 : (0 : Int) ≤ (i : Int) := by omega
      have hS0 := HP.out wr hB i a
      obtain ⟨x, hx⟩ : ∃ x, x = (ps.getD i (0, 0)).1 := ⟨_, rfl⟩
      obtain ⟨y, hy⟩ : ∃ y, y = (ps.getD i (0, 0)).2 := ⟨_, rfl⟩
      rw [← hx, ← hy] at hS0
      have hS1 : (wr.drew.cell? ⟨b1, o1 + i * 2, none⟩ = some (.int .i64 x) ∧ wr.drew.cell? ⟨b1, o1 + i * 2 + 1, none⟩ = some (.int .i64 y)) ∧ (wr.drew.cell? ⟨b2, o2 + i * 2, none⟩ = some (.int .i64 x) ∧ wr.drew.cell? ⟨b2, o2 + i * 2 + 1, none⟩ = some (.int .i64 y)) := hS0
      have HB2 : Hid (Below w.heap.size w wr.drew) := Lib.hid ⟨hB.os, hB.tape, hB.output, hB.size, hB.block⟩
      have HB := Lib.hid hB
      clear hx hy hB
      go_wp2
      go_region_held3 (fun W => (W.cell? ⟨b1, o1 + i * 2, none⟩ = some (.int .i64 x) ∧ W.cell? ⟨b1, o1 + i * 2 + 1, none⟩ = some (.int .i64 y)) ∧ (W.cell? ⟨b2, o2 + i * 2, none⟩ = some (.int .i64 x) ∧ W.cell? ⟨b2, o2 + i * 2 + 1, none⟩ = some (.int .i64 y))) (with_reducible first | exact hS0 | exact hS1) (fail)
      all_goals go_wp2
      all_goals first | exact ⟨⟨i + 1, a, by simp, HB2.out⟩, by simp [intOf]; omega⟩ | exact ⟨⟨i + 1, a, by simp, HB.out⟩, by simp [intOf]; omega⟩
    · obtain rfl : i = n := by omega
      have HB := Lib.hid hB
      clear hB
      go_wp2
      go_ret
      exact ⟨rfl, HB.out⟩
theorem tables_any (w : World) (G1 G2 : Nat → Prop) (v1 v2 : Value) (ps : List Pg) (h1 : TabV G1 w v1 ps) (h2 : TabV G2 w v2 ps) (h16 : ps.length ≤ 16) : Calls Try.prog 51 #[v1, v2] w fun e w' => e = .returned (.bool true) ∧ Below w.heap.size w w' := by
  obtain ⟨q1, c1, rfl, _, t1⟩ := h1
  obtain ⟨q2, c2, rfl, _, t2⟩ := h2
  by_cases hn : ps = []
  · subst hn; exact tables_nil w q1 q2 c1 c2
  · obtain ⟨b1, o1, rfl, _, _, d1⟩ := t1 hn
    obtain ⟨b2, o2, rfl, _, _, d2⟩ := t2 hn
    exact tables_some w b1 o1 b2 o2 c1 c2 ps.length ps h16 d1 d2
end Go.Proofs.Ytedhefidfepclaa
