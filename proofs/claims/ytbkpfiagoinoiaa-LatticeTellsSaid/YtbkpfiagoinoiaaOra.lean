/- Two sets of levels joined and met: what the calls return; nothing that was there turns. No conditions. -/
import Derived.Test.YtbkpfiagoinoiaaMem
namespace Go.Proofs.Ytbkpfiagoinoiaa
open Go.RowKit
set_option linter.unusedVariables false

def upR (s t : Row) (k : Nat) : Row := fun i => if i < k then t i else s i
theorem upR_zero (s t : Row) : upR s t 0 = s := by funext i; simp [upR]
theorem upR_done (s t : Row) : cellsR (upR s t 8) = cellsR t := cellsR_same fun i hi => by simp [upR, hi]
theorem upR_at (s t : Row) (k : Nat) : upR s t k k = s k := by simp [upR]
theorem upR_set (s t : Row) (k : Nat) : (cellsR (upR s t k)).setIfInBounds k (.bool (t k)) = cellsR (upR s t (k + 1)) := by
  rw [cellsR_set]
  congr 1
  funext j
  by_cases e : j = k
  · subst e; simp [upR]
  · have : (j < k + 1) = (j < k) := by simp; omega
    simp [e, upR, this]

theorem below_setRow {B : Nat} {a w : World} (h : Below B a w) {g : Nat} (hg : B ≤ g) (cs : Array Value) : Below B a (w.setRow g cs) :=
  ⟨by rw [setRow_os]; exact h.os, by rw [setRow_tape]; exact h.tape, by rw [setRow_output]; exact h.output, by rw [setRow_size]; exact h.size, fun k hk => by rw [setRow_other _ _ _ _ (by omega)]; exact h.block k hk⟩
theorem round_end {w : World} {B k : Nat} {s t : Row} {b : Bool} (h : w.heap[B]? = some (.cells (cellsR (upR s t k)) 47 (0, 0))) (hb : t k = b) :
    (w.setCell ⟨B, k, none⟩ (.bool b)).heap[B]? = some (.cells (cellsR (upR s t (k + 1))) 47 (0, 0)) := by
  subst hb; rw [block_setCell h, upR_set]

set_option maxHeartbeats 1000000 in
theorem or_any (s t : Row) (w : World) :
    Calls Try.prog 41 #[.agg (cellsR s), .agg (cellsR t)] w fun e w' => e = .returned (.agg (cellsR (orR s t))) ∧ Below w.heap.size w w' := by
  obtain ⟨S, hS⟩ : ∃ S, S = cellsR s := ⟨_, rfl⟩
  obtain ⟨T, hT⟩ : ∃ T, T = cellsR t := ⟨_, rfl⟩
  obtain ⟨Z, hZ⟩ : ∃ Z, Z = cellsR (fun _ => false) := ⟨_, rfl⟩
  obtain ⟨B, hB⟩ : ∃ B, B = w.heap.size := ⟨_, rfl⟩
  have z := Try.zero47
  rw [← hZ] at z
  obtain ⟨R, hR⟩ : ∃ R, R = cellsR (orR s t) := ⟨_, rfl⟩
  rw [← hS, ← hT, ← hR]
  have HR := Lib.hid hR
  clear hR
  have b0 : (((w.alloc (.cells S 47)).alloc (.cells T 47)).alloc (.cells Z 47)).heap[B]? = some (.cells (cellsR (upR s (orR s t) 0)) 47 (0, 0)) := by
    rw [upR_zero, ← hS, hB]; exact block_alloc (block_alloc (block_new _ _) _) _
  have b1 : (((w.alloc (.cells S 47)).alloc (.cells T 47)).alloc (.cells Z 47)).heap[B + 1]? = some (.cells (cellsR t) 47 (0, 0)) := by
    rw [← hT]; have := block_alloc (block_new (w.alloc (.cells S 47)) (.cells T 47)) (.cells Z 47); simpa [hB] using this
  have b2 : (((w.alloc (.cells S 47)).alloc (.cells T 47)).alloc (.cells Z 47)).heap[B + 2]? = some (.cells Z 47 (0, 0)) := by
    have := block_new ((w.alloc (.cells S 47)).alloc (.cells T 47)) (.cells Z 47); simpa [hB] using this
  have bel : Below B w (((w.alloc (.cells S 47)).alloc (.cells T 47)).alloc (.cells Z 47)) := by
    rw [hB]; exact (((Below.refl _ w).alloc (Nat.le_refl _) _).alloc (by simp) _).alloc (by simp; omega) _
  have HB := Lib.hid hB
  have HZ := Lib.hid hZ
  have H0 := Lib.hid b0
  have H1 := Lib.hid b1
  have H2 := Lib.hid b2
  clear hB hS hT hZ b0 b1 b2
  go_enter Try.func41, Try.ntmps41
  go_wp2_with (refine op_alloc rfl _ rfl _ z ?_)
  rw [← HB.out]
  generalize (((w.alloc (.cells S 47)).alloc (.cells T 47)).alloc (.cells Z 47)) = w0 at *
  go_loopw [5, 6] (fun _ i wr => ∃ k : Nat, k ≤ 8 ∧ i = .int .i64 k ∧ wr.heap[B]? = some (.cells (cellsR (upR s (orR s t) k)) 47 (0, 0)) ∧ wr.heap[B + 1]? = some (.cells (cellsR t) 47 (0, 0)) ∧ wr.heap[B + 2]? = some (.cells Z 47 (0, 0)) ∧ Below B w wr) (fun _ i _ => 8 - (intOf i).toNat)
  case atStart => exact ⟨0, by omega, rfl, H0.out, H1.out, H2.out, bel⟩
  case round =>
    obtain ⟨k, hk, rfl, h0, h1, h2, hb⟩ := hrel
    clear H0 H1 H2 bel
    by_cases hlt : k < 8
    · have hi1 := index47 B 0 k hlt
      have hi2 := index47 (B + 1) 0 k hlt
      rw [Nat.zero_add] at hi1 hi2
      have c0 : wr.cell? ⟨B, k, none⟩ = some (.bool (s k)) := by rw [cell_of_row wr B k _ _ _ h0, cellsR_at _ _ hlt, upR_at]
      have c1 : wr.cell? ⟨B + 1, k, none⟩ = some (.bool (t k)) := by rw [cell_of_row wr (B + 1) k _ _ _ h1, cellsR_at _ _ hlt]
      have hf : wr.frozen? ⟨B, k, none⟩ = false := block_free h0
      have K0 := Lib.hid h0
      have K1 := Lib.hid (show (wr.setCell ⟨B, k, none⟩ (.bool (orR s t k))).heap[B + 1]? = _ from (block_setCell_other (by simp)).trans h1)
      have K2 := Lib.hid (show (wr.setCell ⟨B, k, none⟩ (.bool (orR s t k))).heap[B + 2]? = _ from (block_setCell_other (by simp)).trans h2)
      obtain ⟨x, hx⟩ : ∃ x, x = orR s t k := ⟨_, rfl⟩
      have hx2 := hx
      unfold orR at hx2
      rw [← hx] at K1 K2
      have HX := Lib.hid hx
      clear h0 h1 h2 hx
      generalize s k = p at *
      generalize t k = q at *
      cases p
      all_goals
        first | (rw [Bool.true_or] at hx2) | (rw [Bool.false_or] at hx2)
        subst hx2
        go_wp2
        go_roundw
        case rel => exact ⟨k + 1, by omega, by go_num, round_end K0.out HX.out.symm, K1.out, K2.out, hb.setCell (by exact Nat.le_refl _) _⟩
        case measure => simp [intOf]; omega
    · have hk8 : k = 8 := by omega
      subst hk8
      rw [upR_done] at h0
      have ht : wr.heap[B + 1 + 1]? = some (.cells Z 47 (0, 0)) := h2
      have hz : Z.size = 8 := by rw [HZ.out]; exact cellsR_size _
      have hr : R.size = 8 := by rw [HR.out]; exact cellsR_size _
      have h1' : R.all (·.oneCell') = true := by rw [HR.out]; exact cellsR_one _
      rw [← HR.out] at h0
      clear h1 h2
      go_wp2_with (first
        | (refine wpList_load_row rfl 47 _ rfl B rfl 47 R (0, 0) _ h0 Try.underlying47 rfl (by rw [Try.size47, hr]) ?_)
        | (refine wpList_store_row rfl 47 _ _ rfl (B + 1 + 1) R rfl rfl 47 Z ht (by rw [Try.size47, hr]) (by rw [hz, hr]) h1' ?_))
      refine bodyPost_ret_by (results_cell_row rfl _ _ (B + 1 + 1) 47 R (0, 0) _ rfl (setRow_heap _ _ _ _ _ _ ht) Try.underlying47 rfl (by rw [Try.size47, hr])) rfl ?_
      exact ⟨rfl, by rw [← HB.out]; exact below_setRow hb (by omega) _⟩
set_option maxHeartbeats 1000000 in
theorem and_any (s t : Row) (w : World) :
    Calls Try.prog 42 #[.agg (cellsR s), .agg (cellsR t)] w fun e w' => e = .returned (.agg (cellsR (andR s t))) ∧ Below w.heap.size w w' := by
  obtain ⟨S, hS⟩ : ∃ S, S = cellsR s := ⟨_, rfl⟩
  obtain ⟨T, hT⟩ : ∃ T, T = cellsR t := ⟨_, rfl⟩
  obtain ⟨Z, hZ⟩ : ∃ Z, Z = cellsR (fun _ => false) := ⟨_, rfl⟩
  obtain ⟨B, hB⟩ : ∃ B, B = w.heap.size := ⟨_, rfl⟩
  have z := Try.zero47
  rw [← hZ] at z
  obtain ⟨R, hR⟩ : ∃ R, R = cellsR (andR s t) := ⟨_, rfl⟩
  rw [← hS, ← hT, ← hR]
  have HR := Lib.hid hR
  clear hR
  have b0 : (((w.alloc (.cells S 47)).alloc (.cells T 47)).alloc (.cells Z 47)).heap[B]? = some (.cells (cellsR (upR s (andR s t) 0)) 47 (0, 0)) := by
    rw [upR_zero, ← hS, hB]; exact block_alloc (block_alloc (block_new _ _) _) _
  have b1 : (((w.alloc (.cells S 47)).alloc (.cells T 47)).alloc (.cells Z 47)).heap[B + 1]? = some (.cells (cellsR t) 47 (0, 0)) := by
    rw [← hT]; have := block_alloc (block_new (w.alloc (.cells S 47)) (.cells T 47)) (.cells Z 47); simpa [hB] using this
  have b2 : (((w.alloc (.cells S 47)).alloc (.cells T 47)).alloc (.cells Z 47)).heap[B + 2]? = some (.cells Z 47 (0, 0)) := by
    have := block_new ((w.alloc (.cells S 47)).alloc (.cells T 47)) (.cells Z 47); simpa [hB] using this
  have bel : Below B w (((w.alloc (.cells S 47)).alloc (.cells T 47)).alloc (.cells Z 47)) := by
    rw [hB]; exact (((Below.refl _ w).alloc (Nat.le_refl _) _).alloc (by simp) _).alloc (by simp; omega) _
  have HB := Lib.hid hB
  have HZ := Lib.hid hZ
  have H0 := Lib.hid b0
  have H1 := Lib.hid b1
  have H2 := Lib.hid b2
  clear hB hS hT hZ b0 b1 b2
  go_enter Try.func42, Try.ntmps42
  go_wp2_with (refine op_alloc rfl _ rfl _ z ?_)
  rw [← HB.out]
  generalize (((w.alloc (.cells S 47)).alloc (.cells T 47)).alloc (.cells Z 47)) = w0 at *
  go_loopw [5, 6] (fun _ i wr => ∃ k : Nat, k ≤ 8 ∧ i = .int .i64 k ∧ wr.heap[B]? = some (.cells (cellsR (upR s (andR s t) k)) 47 (0, 0)) ∧ wr.heap[B + 1]? = some (.cells (cellsR t) 47 (0, 0)) ∧ wr.heap[B + 2]? = some (.cells Z 47 (0, 0)) ∧ Below B w wr) (fun _ i _ => 8 - (intOf i).toNat)
  case atStart => exact ⟨0, by omega, rfl, H0.out, H1.out, H2.out, bel⟩
  case round =>
    obtain ⟨k, hk, rfl, h0, h1, h2, hb⟩ := hrel
    clear H0 H1 H2 bel
    by_cases hlt : k < 8
    · have hi1 := index47 B 0 k hlt
      have hi2 := index47 (B + 1) 0 k hlt
      rw [Nat.zero_add] at hi1 hi2
      have c0 : wr.cell? ⟨B, k, none⟩ = some (.bool (s k)) := by rw [cell_of_row wr B k _ _ _ h0, cellsR_at _ _ hlt, upR_at]
      have c1 : wr.cell? ⟨B + 1, k, none⟩ = some (.bool (t k)) := by rw [cell_of_row wr (B + 1) k _ _ _ h1, cellsR_at _ _ hlt]
      have hf : wr.frozen? ⟨B, k, none⟩ = false := block_free h0
      have K0 := Lib.hid h0
      have K1 := Lib.hid (show (wr.setCell ⟨B, k, none⟩ (.bool (andR s t k))).heap[B + 1]? = _ from (block_setCell_other (by simp)).trans h1)
      have K2 := Lib.hid (show (wr.setCell ⟨B, k, none⟩ (.bool (andR s t k))).heap[B + 2]? = _ from (block_setCell_other (by simp)).trans h2)
      obtain ⟨x, hx⟩ : ∃ x, x = andR s t k := ⟨_, rfl⟩
      have hx2 := hx
      unfold andR at hx2
      rw [← hx] at K1 K2
      have HX := Lib.hid hx
      clear h0 h1 h2 hx
      generalize s k = p at *
      generalize t k = q at *
      cases p
      all_goals
        first | (rw [Bool.true_and] at hx2) | (rw [Bool.false_and] at hx2)
        subst hx2
        go_wp2
        go_roundw
        case rel => exact ⟨k + 1, by omega, by go_num, round_end K0.out HX.out.symm, K1.out, K2.out, hb.setCell (by exact Nat.le_refl _) _⟩
        case measure => simp [intOf]; omega
    · have hk8 : k = 8 := by omega
      subst hk8
      rw [upR_done] at h0
      have ht : wr.heap[B + 1 + 1]? = some (.cells Z 47 (0, 0)) := h2
      have hz : Z.size = 8 := by rw [HZ.out]; exact cellsR_size _
      have hr : R.size = 8 := by rw [HR.out]; exact cellsR_size _
      have h1' : R.all (·.oneCell') = true := by rw [HR.out]; exact cellsR_one _
      rw [← HR.out] at h0
      clear h1 h2
      go_wp2_with (first
        | (refine wpList_load_row rfl 47 _ rfl B rfl 47 R (0, 0) _ h0 Try.underlying47 rfl (by rw [Try.size47, hr]) ?_)
        | (refine wpList_store_row rfl 47 _ _ rfl (B + 1 + 1) R rfl rfl 47 Z ht (by rw [Try.size47, hr]) (by rw [hz, hr]) h1' ?_))
      refine bodyPost_ret_by (results_cell_row rfl _ _ (B + 1 + 1) 47 R (0, 0) _ rfl (setRow_heap _ _ _ _ _ _ ht) Try.underlying47 rfl (by rw [Try.size47, hr])) rfl ?_
      exact ⟨rfl, by rw [← HB.out]; exact below_setRow hb (by omega) _⟩
end Go.Proofs.Ytbkpfiagoinoiaa
