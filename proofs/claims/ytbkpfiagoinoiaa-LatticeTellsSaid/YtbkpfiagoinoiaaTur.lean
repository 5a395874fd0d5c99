/- What flows, the other way round: what the call returns; nothing that was there turns. No conditions. -/
import Derived.Test.YtbkpfiagoinoiaaOra
import Derived.StillTailTactics
namespace Go.Proofs.Ytbkpfiagoinoiaa
open Go.RowKit
set_option linter.unusedVariables false

def upT (F : Flw) (a b : Nat) : Flw := fun i j => if j < a ∨ (j = a ∧ i < b) then F j i else false
theorem upT_zero (F : Flw) : upT F 0 0 = fun _ _ => false := by funext i j; simp [upT]
theorem upT_set (F : Flw) (a b : Nat) (hb : b < 8) (ha : a < 8) : (cellsF (upT F a b)).setIfInBounds (b * 8 + a) (.bool (F a b)) = cellsF (upT F a (b + 1)) := by
  rw [cellsF_set _ _ _ ha]
  congr 1
  funext i j
  unfold setF upT
  by_cases e : i = b ∧ j = a
  · obtain ⟨rfl, rfl⟩ := e; simp
  · rw [if_neg e]
    have : (j < a ∨ j = a ∧ i < b + 1) ↔ (j < a ∨ j = a ∧ i < b) := by omega
    simp only [this]
theorem upT_row (F : Flw) (a : Nat) : cellsF (upT F a 8) = cellsF (upT F (a + 1) 0) := by
  apply cellsF_same
  intro i j hi hj
  unfold upT
  have : (j < a ∨ j = a ∧ i < 8) ↔ (j < a + 1 ∨ j = a + 1 ∧ i < 0) := by omega
  simp only [this]
theorem upT_done (F : Flw) : cellsF (upT F 8 0) = cellsF (turn F) := by
  apply cellsF_same
  intro i j hi hj
  simp [upT, turn, hj]

set_option maxHeartbeats 1000000 in
theorem turned_any (F : Flw) (w : World) :
    Calls Try.prog 38 #[.agg (cellsF F)] w fun e w' => e = .returned (.agg (cellsF (turn F))) ∧ Below w.heap.size w w' := by
  obtain ⟨S, hS⟩ : ∃ S, S = cellsF F := ⟨_, rfl⟩
  obtain ⟨Z, hZ⟩ : ∃ Z, Z = cellsF (fun _ _ => false) := ⟨_, rfl⟩
  obtain ⟨B, hB⟩ : ∃ B, B = w.heap.size := ⟨_, rfl⟩
  have z := Try.zero49
  rw [← hZ] at z
  obtain ⟨R, hR⟩ : ∃ R, R = cellsF (turn F) := ⟨_, rfl⟩
  rw [← hS, ← hR]
  have HR := Lib.hid hR
  have b0 : (((w.alloc (.cells S 49)).alloc (.cells Z 49)).alloc (.cells Z 49)).heap[B]? = some (.cells (cellsF F) 49 (0, 0)) := by
    rw [← hS, hB]; exact block_alloc (block_alloc (block_new _ _) _) _
  have b1 : (((w.alloc (.cells S 49)).alloc (.cells Z 49)).alloc (.cells Z 49)).heap[B + 1]? = some (.cells Z 49 (0, 0)) := by
    have := block_alloc (block_new (w.alloc (.cells S 49)) (.cells Z 49)) (.cells Z 49); simpa [hB] using this
  have b2 : (((w.alloc (.cells S 49)).alloc (.cells Z 49)).alloc (.cells Z 49)).heap[B + 1 + 1]? = some (.cells (cellsF (upT F 0 0)) 49 (0, 0)) := by
    rw [upT_zero, ← hZ]; have := block_new ((w.alloc (.cells S 49)).alloc (.cells Z 49)) (.cells Z 49); simpa [hB] using this
  have bel : Below B w (((w.alloc (.cells S 49)).alloc (.cells Z 49)).alloc (.cells Z 49)) := by
    rw [hB]; exact (((Below.refl _ w).alloc (Nat.le_refl _) _).alloc (by simp) _).alloc (by simp; omega) _
  have HB := Lib.hid hB
  have HZ := Lib.hid hZ
  have H0 := Lib.hid b0
  have H1 := Lib.hid b1
  have H2 := Lib.hid b2
  clear hB hS hZ b0 b1 b2 hR
  go_enter Try.func38, Try.ntmps38
  go_wp2_with (refine op_alloc rfl _ rfl _ z ?_)
  rw [← HB.out]
  generalize (((w.alloc (.cells S 49)).alloc (.cells Z 49)).alloc (.cells Z 49)) = w0 at *
  go_loopw [4, 5, 6, 9] (fun _ _ i _ wr => ∃ a : Nat, a ≤ 8 ∧ i = .int .i64 a ∧ wr.heap[B]? = some (.cells (cellsF F) 49 (0, 0)) ∧ wr.heap[B + 1]? = some (.cells Z 49 (0, 0)) ∧ wr.heap[B + 1 + 1]? = some (.cells (cellsF (upT F a 0)) 49 (0, 0)) ∧ Below B w wr) (fun _ _ i _ _ => 8 - (intOf i).toNat)
  case atStart => exact ⟨0, by omega, rfl, H0.out, H1.out, H2.out, bel⟩
  case round =>
    obtain ⟨a, ha, rfl, h0, h1, h2, hb⟩ := hrel
    obtain ⟨wo, rfl⟩ : ∃ wo : World, wo = wr := ⟨_, rfl⟩
    clear H0 H1 H2 bel
    by_cases hlt : a < 8
    · have hai : (a : Int) < 8 := by omega
      go_wp2
      go_loopw [5, 9] (fun _ i wr => ∃ b : Nat, b ≤ 8 ∧ i = .int .i64 b ∧ wr.heap[B]? = some (.cells (cellsF F) 49 (0, 0)) ∧ wr.heap[B + 1]? = some (.cells Z 49 (0, 0)) ∧ wr.heap[B + 1 + 1]? = some (.cells (cellsF (upT F a b)) 49 (0, 0)) ∧ Below B w wr) (fun _ i _ => 8 - (intOf i).toNat)
      case atStart => exact ⟨0, by omega, rfl, h0, h1, h2, hb⟩
      case round =>
        obtain ⟨b, hb8, rfl, h0, h1, h2, hb⟩ := hrel
        by_cases hlt2 : b < 8
        · have hi1 := index49 B 0 a hlt
          have hi2 := index47 B (0 + a * 8) b hlt2
          have hi3 := index49 (B + 1 + 1) 0 b hlt2
          have hi4 := index47 (B + 1 + 1) (0 + b * 8) a hlt
          rw [Nat.zero_add] at hi1 hi2 hi3 hi4
          have c0 : wr.cell? ⟨B, a * 8 + b, none⟩ = some (.bool (F a b)) := by rw [cell_of_row wr B _ _ _ _ h0, cellsF_at _ _ _ hlt hlt2]
          have c2 : wr.cell? ⟨B + 1 + 1, b * 8 + a, none⟩ = some (.bool (upT F a b b a)) := by rw [cell_of_row wr _ _ _ _ _ h2, cellsF_at _ _ _ hlt2 hlt]
          have hf : wr.frozen? ⟨B + 1 + 1, b * 8 + a, none⟩ = false := block_free h2
          have E0 := Lib.hid (show (wr.setCell ⟨B + 1 + 1, b * 8 + a, none⟩ (.bool (F a b))).drew.heap[B]? = _ from (block_setCell_other (by show _ ≠ B + 1 + 1; omega)).trans h0)
          have E1 := Lib.hid (show (wr.setCell ⟨B + 1 + 1, b * 8 + a, none⟩ (.bool (F a b))).drew.heap[B + 1]? = _ from (block_setCell_other (by show _ ≠ B + 1 + 1; omega)).trans h1)
          have E2 := Lib.hid (show (wr.setCell ⟨B + 1 + 1, b * 8 + a, none⟩ (.bool (F a b))).drew.heap[B + 1 + 1]? = some (.cells (cellsF (upT F a (b + 1))) 49 (0, 0)) from by rw [← upT_set F a b hlt2 hlt]; exact block_setCell h2)
          clear h0 h1 h2
          generalize F a b = x at *
          generalize upT F a b b a = y at *
          go_wp2
          go_still_tail 9, (by kernel_rfl)
          change wpList _ _ _ _ _ wr.drew
          go_wp2
          exact ⟨⟨b + 1, by omega, by go_num, E0.out, E1.out, E2.out, (hb.setCell (by show B ≤ B + 1 + 1; omega) _).drew⟩, by simp [intOf]; omega⟩
        · have hb8 : b = 8 := by omega
          subst hb8
          rw [upT_row] at h2
          go_wp2
          exact ⟨⟨a + 1, by omega, by go_num, h0, h1, h2, hb⟩, by simp [intOf]; omega⟩
    · have ha8 : a = 8 := by omega
      subst ha8
      rw [upT_done, ← HR.out] at h2
      have hz : Z.size = 64 := by rw [HZ.out]; exact cellsF_size _
      have hr : R.size = 64 := by rw [HR.out]; exact cellsF_size _
      have h1' : R.all (·.oneCell') = true := by rw [HR.out]; exact cellsF_one _
      clear h0
      go_wp2_with (first
        | (refine wpList_load_row rfl 49 _ rfl (B + 1 + 1) rfl 49 R (0, 0) _ h2 Try.underlying49 rfl (by rw [Try.size49, hr]) ?_)
        | (refine wpList_store_row rfl 49 _ _ rfl (B + 1) R rfl rfl 49 Z h1 (by rw [Try.size49, hr]) (by rw [hz, hr]) h1' ?_))
      refine bodyPost_ret_by (results_cell_row rfl _ _ (B + 1) 49 R (0, 0) _ rfl (setRow_heap _ _ _ _ _ _ h1) Try.underlying49 rfl (by rw [Try.size49, hr])) rfl ?_
      exact ⟨rfl, by rw [← HB.out]; exact below_setRow hb (by omega) _⟩
end Go.Proofs.Ytbkpfiagoinoiaa
