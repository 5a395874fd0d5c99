/- What flows, closed level by level: what the call returns; nothing that was there turns. No conditions. -/
import Derived.Test.YtbkpfiagoinoiaaTur
import Derived.Test.YtbkpfiagoinoiaaRow
import Derived.Deep.RegionWith
namespace Go.Proofs.Ytbkpfiagoinoiaa
open Go.RowKit
set_option linter.unusedVariables false
attribute [local go_sem ↓] load47_pre store47_pre
attribute [local go_sem] load47_run store47_run rowOr_some putOr_true heap_drew

theorem inn_yes (F : Flw) (k n : Nat) (h : inn F k n n k = true) : cellsF (inn F k (n + 1)) = cellsF (setR (inn F k n) n (orR (inn F k n n) (inn F k n k))) := by
  show cellsF (stepF (inn F k n) k n) = _
  unfold stepF; rw [h]; rfl
theorem inn_no (F : Flw) (k n : Nat) (h : inn F k n n k = false) : cellsF (inn F k (n + 1)) = cellsF (inn F k n) := by
  show cellsF (stepF (inn F k n) k n) = _
  unfold stepF; rw [h]; rfl
set_option maxHeartbeats 1000000 in
theorem closed_any (F : Flw) (w : World) :
    Calls Try.prog 33 #[.agg (cellsF F)] w fun e w' => e = .returned (.agg (cellsF (clo F))) ∧ Below w.heap.size w w' := by
  obtain ⟨S, hS⟩ : ∃ S, S = cellsF F := ⟨_, rfl⟩
  obtain ⟨Z, hZ⟩ : ∃ Z, Z = cellsF (fun _ _ => false) := ⟨_, rfl⟩
  obtain ⟨B, hB⟩ : ∃ B, B = w.heap.size := ⟨_, rfl⟩
  have z := Try.zero49
  rw [← hZ] at z
  obtain ⟨R, hR⟩ : ∃ R, R = cellsF (clo F) := ⟨_, rfl⟩
  rw [← hS, ← hR]
  have HR := Lib.hid hR
  have b0 : ((w.alloc (.cells S 49)).alloc (.cells Z 49)).heap[B]? = some (.cells (cellsF (diag F 0)) 49 (0, 0)) := by
    rw [diag_zero, ← hS, hB]; exact block_alloc (block_new _ _) _
  have b1 : ((w.alloc (.cells S 49)).alloc (.cells Z 49)).heap[B + 1]? = some (.cells Z 49 (0, 0)) := by
    have := block_new (w.alloc (.cells S 49)) (.cells Z 49); simpa [hB] using this
  have bel : Below B w ((w.alloc (.cells S 49)).alloc (.cells Z 49)) := by
    rw [hB]; exact ((Below.refl _ w).alloc (Nat.le_refl _) _).alloc (by simp) _
  have hsz : B + 2 ≤ ((w.alloc (.cells S 49)).alloc (.cells Z 49)).heap.size := by rw [hB]; simp
  have HB := Lib.hid hB
  have HZ := Lib.hid hZ
  have H0 := Lib.hid b0
  have H1 := Lib.hid b1
  clear hB hS hZ b0 b1 hR
  go_enter Try.func33, Try.ntmps33
  go_wp2_with (refine op_alloc rfl _ rfl _ z ?_)
  rw [← HB.out]
  generalize ((w.alloc (.cells S 49)).alloc (.cells Z 49)) = w0 at *
  go_loopw [3, 6] (fun _ i wr => ∃ k : Nat, k ≤ 8 ∧ i = .int .i64 k ∧ wr.heap[B]? = some (.cells (cellsF (diag F k)) 49 (0, 0)) ∧ wr.heap[B + 1]? = some (.cells Z 49 (0, 0)) ∧ Below B w wr ∧ B + 2 ≤ wr.heap.size) (fun _ i _ => 8 - (intOf i).toNat)
  case atStart => exact ⟨0, by omega, rfl, H0.out, H1.out, bel, hsz⟩
  case round =>
    obtain ⟨k, hk, rfl, h0, h1, hb, hs⟩ := hrel
    clear H0 H1 bel hsz
    obtain ⟨wo, rfl⟩ : ∃ wo : World, wo = wr := ⟨_, rfl⟩
    by_cases hlt : k < 8
    · have hki : (k : Int) < 8 := by omega
      have hi1 := index49 B 0 k hlt
      have hi2 := index47 B (0 + k * 8) k hlt
      rw [Nat.zero_add] at hi1 hi2
      have c0 : wo.cell? ⟨B, k * 8 + k, none⟩ = some (.bool (diag F k k k)) := by rw [cell_of_row wo B _ _ _ _ h0, cellsF_at _ _ _ hlt hlt]
      have hf : wo.frozen? ⟨B, k * 8 + k, none⟩ = false := block_free h0
      have E0 := Lib.hid (show (wo.setCell ⟨B, k * 8 + k, none⟩ (.bool true)).heap[B]? = some (.cells (cellsF (diag F (k + 1))) 49 (0, 0)) from by rw [diag_succ, ← cellsF_set _ _ _ hlt]; exact block_setCell h0)
      have E1 := Lib.hid (show (wo.setCell ⟨B, k * 8 + k, none⟩ (.bool true)).heap[B + 1]? = _ from (block_setCell_other (by show _ ≠ B; omega)).trans h1)
      have ES := Lib.hid (show B + 2 ≤ (wo.setCell ⟨B, k * 8 + k, none⟩ (.bool true)).heap.size from by simpa using hs)
      clear h0 h1
      generalize diag F k k k = x at *
      go_wp2
      go_roundw
      case rel => exact ⟨k + 1, by omega, by go_num, E0.out, E1.out, hb.setCell (by exact Nat.le_refl _) _, ES.out⟩
      case measure => simp [intOf]; omega
    · have hk8 : k = 8 := by omega
      subst hk8
      have h0' : wo.heap[B]? = some (.cells (cellsF (outF F 0)) 49 (0, 0)) := h0
      clear h0
      go_wp2
      go_loopw [4, 5, 14, 17] (fun _ _ i _ wr => ∃ k : Nat, k ≤ 8 ∧ i = .int .i64 k ∧ wr.heap[B]? = some (.cells (cellsF (outF F k)) 49 (0, 0)) ∧ wr.heap[B + 1]? = some (.cells Z 49 (0, 0)) ∧ Below B w wr ∧ B + 2 ≤ wr.heap.size) (fun _ _ i _ _ => 8 - (intOf i).toNat)
      case atStart => exact ⟨0, by omega, rfl, h0', h1, hb, hs⟩
      case round =>
        obtain ⟨k, hk, rfl, h0, h1, hb, hs⟩ := hrel
        clear h0'
        obtain ⟨wo, rfl⟩ : ∃ wo : World, wo = wr := ⟨_, rfl⟩
        by_cases hlt : k < 8
        · have hki : (k : Int) < 8 := by omega
          have h0' : wo.heap[B]? = some (.cells (cellsF (inn (outF F k) k 0)) 49 (0, 0)) := h0
          clear h0
          go_wp2
          go_loopw [5, 17] (fun _ i wr => ∃ a : Nat, a ≤ 8 ∧ i = .int .i64 a ∧ wr.heap[B]? = some (.cells (cellsF (inn (outF F k) k a)) 49 (0, 0)) ∧ wr.heap[B + 1]? = some (.cells Z 49 (0, 0)) ∧ Below B w wr ∧ B + 2 ≤ wr.heap.size) (fun _ i _ => 8 - (intOf i).toNat)
          case atStart => exact ⟨0, by omega, rfl, h0', h1, hb, hs⟩
          case round =>
            obtain ⟨a, ha, rfl, h0, h1, hb, hs⟩ := hrel
            clear h0'
            by_cases hlt2 : a < 8
            · have hai : (a : Int) < 8 := by omega
              have hi1 := index49 B 0 a hlt2
              have hi2 := index47 B (0 + a * 8) k hlt
              have hi3 := index49 B 0 k hlt
              rw [Nat.zero_add] at hi1 hi2 hi3
              have c0 : wr.cell? ⟨B, a * 8 + k, none⟩ = some (.bool (inn (outF F k) k a a k)) := by rw [cell_of_row wr B _ _ _ _ h0, cellsF_at _ _ _ hlt2 hlt]
              by_cases hx : inn (outF F k) k a a k = true
              · have e := inn_yes _ _ _ hx
                rw [hx] at c0
                have l1 := row_at h0 a hlt2
                have l2 := row_at h0 k hlt
                have HE := Lib.hid e
                have HH := Lib.hid (show wr.drew.heap[B]? = _ from h0)
                have H1 := Lib.hid (show wr.drew.heap[B + 1]? = _ from h1)
                have HG : Hid (∀ w1, Below wr.drew.heap.size wr.drew w1 → rowAt w1.heap B (a * 8) 8 = some (cellsR (inn (outF F k) k a a)) ∧ rowAt w1.heap B (k * 8) 8 = some (cellsR (inn (outF F k) k a k))) := fun w1 b1 =>
                  ⟨row_at (heap_below HH.out b1 (by show B < wr.heap.size; omega)) a hlt2, row_at (heap_below HH.out b1 (by show B < wr.heap.size; omega)) k hlt⟩
                have HM : Hid (∀ w1, Below wr.drew.heap.size wr.drew w1 → roomAt w1.heap B (a * 8) 8 = true) := fun w1 b1 =>
                  row_room (heap_below HH.out b1 (by show B < wr.heap.size; omega)) a hlt2
                clear e hx h0 h1
                obtain ⟨G, hG⟩ : ∃ G, G = inn (outF F k) k a := ⟨_, rfl⟩
                rw [← hG] at HE HH HG l1 l2
                have HGG := Lib.hid hG
                clear hG
                have A : Hid (∀ w, Calls Try.prog 41 #[.agg (cellsR (G a)), .agg (cellsR (G k))] w fun e w' => e = .returned (.agg (cellsR (orR (G a) (G k)))) ∧ Below w.heap.size w w') := fun w => or_any (G a) (G k) w
                obtain ⟨la, hla⟩ : ∃ l, l = cellsR (G a) := ⟨_, rfl⟩
                obtain ⟨lk, hlk⟩ : ∃ l, l = cellsR (G k) := ⟨_, rfl⟩
                obtain ⟨R1, hR1⟩ : ∃ R1, R1 = cellsR (orR (G a) (G k)) := ⟨_, rfl⟩
                rw [← hla, ← hlk] at A HG
                rw [← hla] at l1
                rw [← hlk] at l2
                rw [← hR1] at A
                have hw : wholeC 8 R1 = true := by rw [hR1]; exact wholeR _
                have HR1 := Lib.hid hR1
                clear hla hlk hR1
                go_wp2
                go_region_with (go_at_call 41; (with_reducible refine (A.out _).mono ?_); rintro e v4 ⟨rfl, c4⟩; have hrm := HM.out _ c4)
                all_goals
                  have g0 : (v4.setCells B (a * 8) R1.toList).heap[B]? = some (.cells (cellsF (inn (outF F k) k (a + 1))) 49 (0, 0)) := by
                    rw [HE.out, HR1.out]; exact row_put (heap_below HH.out c4 (by show B < wr.heap.size; omega)) a hlt2 _
                  have g1 : (v4.setCells B (a * 8) R1.toList).heap[B + 1]? = some (.cells Z 49 (0, 0)) := by
                    rw [block_setCells_other B (B + 1) (by omega)]; exact heap_below H1.out c4 (by show B + 1 < wr.heap.size; omega)
                  have gb : Below B w (v4.setCells B (a * 8) R1.toList) := below_setCells _ _ _ _ (hb.drew.trans (c4.mono (by show B ≤ wr.heap.size; omega))) (Nat.le_refl _)
                  have gs : B + 2 ≤ (v4.setCells B (a * 8) R1.toList).heap.size := by rw [setCells_size]; have h := c4.size; have h2 : wr.drew.heap.size = wr.heap.size := rfl; omega
                  go_wp2
                  refine ⟨?_, by simp [intOf]; omega⟩
                  repeat apply Exists.intro
                  exact ⟨⟨a + 1, by omega, by go_num, g0, g1, gb, gs⟩, rfl⟩
              · have hx' : inn (outF F k) k a a k = false := by simpa using hx
                have e := inn_no _ _ _ hx'
                rw [hx'] at c0
                rw [← e] at h0
                go_wp2
                exact ⟨⟨a + 1, by omega, by go_num, h0, h1, hb, hs⟩, by simp [intOf]; omega⟩
            · have ha8 : a = 8 := by omega
              subst ha8
              have h0' : wr.heap[B]? = some (.cells (cellsF (outF F (k + 1))) 49 (0, 0)) := h0
              clear h0
              go_wp2
              exact ⟨⟨k + 1, by omega, by go_num, h0', h1, hb, hs⟩, by simp [intOf]; omega⟩
        · have hk8 : k = 8 := by omega
          subst hk8
          have h2 : wo.heap[B]? = some (.cells (cellsF (clo F)) 49 (0, 0)) := h0
          clear h0
          rw [← HR.out] at h2
          have hz : Z.size = 64 := by rw [HZ.out]; exact cellsF_size _
          have hr : R.size = 64 := by rw [HR.out]; exact cellsF_size _
          have h1' : R.all (·.oneCell') = true := by rw [HR.out]; exact cellsF_one _
          go_wp2_with (first
            | (refine wpList_load_row rfl 49 _ rfl B rfl 49 R (0, 0) _ h2 Try.underlying49 rfl (by rw [Try.size49, hr]) ?_)
            | (refine wpList_store_row rfl 49 _ _ rfl (B + 1) R rfl rfl 49 Z h1 (by rw [Try.size49, hr]) (by rw [hz, hr]) h1' ?_))
          refine bodyPost_ret_by (results_cell_row rfl _ _ (B + 1) 49 R (0, 0) _ rfl (setRow_heap _ _ _ _ _ _ h1) Try.underlying49 rfl (by rw [Try.size49, hr])) rfl ?_
          exact ⟨rfl, by rw [← HB.out]; exact below_setRow hb (by omega) _⟩
end Go.Proofs.Ytbkpfiagoinoiaa
