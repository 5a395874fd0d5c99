/- The least bound of two levels in what flows: what the call returns; nothing that was there turns. Conditions: there are at most eight levels. -/
import Derived.Test.YtbkpfiagoinoiaaEqr
import Derived.Deep.RegionHeld3
namespace Go.Proofs.Ytbkpfiagoinoiaa
open Go.RowKit
set_option linter.unusedVariables false
attribute [local go_sem ↓] load47_pre store47_pre load49_pre store49_pre eql47_pre
attribute [local go_sem] load47_run store47_run load49_run store49_run rowOr_some putOr_true heap_drew eql47_run tellOr_true

theorem ret_int {k : IntKind} {a b : Int} (h : a = b) : Ending.returned (.int k a) = .returned (.int k b) := by rw [h]
theorem lstI_no {f : Flw} {n : Nat} {x y : Int} (h : hasB n x = false ∨ hasB n y = false) : lstI f n x y = -1 := by
  unfold lstI
  rw [if_neg]
  simp only [hasB, decide_eq_false_iff_not] at h
  omega
theorem lstI_yes (f : Flw) {n a c : Nat} (ha : a < n) (hc : c < n) : lstI f n a c = match lst f n a c with | some d => (d : Int) | none => -1 := by
  unfold lstI
  rw [if_pos (by omega)]
  rfl
theorem lstI_some {f : Flw} {n a c d : Nat} (ha : a < n) (hc : c < n) (h : lst f n a c = some d) : lstI f n a c = d := by rw [lstI_yes f ha hc, h]
theorem lstI_none {f : Flw} {n a c : Nat} (ha : a < n) (hc : c < n) (h : lst f n a c = none) : lstI f n a c = -1 := by rw [lstI_yes f ha hc, h]

set_option maxHeartbeats 2000000 in
theorem least_any (b n : Nat) (G F : Flw) (x y : Int) (w : World) (hn : n ≤ 8) (h : IsL w b n G) :
    Calls Try.prog 37 #[.pointer (some ⟨b, 0, none⟩), .agg (cellsF F), .int .i64 x, .int .i64 y] w fun e w' => e = .returned (.int .i64 (lstI F n x y)) ∧ Below w.heap.size w w' := by
  obtain ⟨C, hC⟩ : ∃ C, C = cellsF F := ⟨_, rfl⟩
  obtain ⟨B, hB⟩ : ∃ B, B = w.heap.size := ⟨_, rfl⟩
  obtain ⟨Z, hZ⟩ : ∃ Z, Z = cellsR (fun _ => false) := ⟨_, rfl⟩
  have z := Try.zero47
  rw [← hZ] at z
  have hz8 : Z.size = 8 := by rw [hZ]; exact cellsR_size _
  rw [← hC]
  have h0 : IsL (w.alloc (.cells C 49)) b n G := block_alloc h _
  have b0 : (w.alloc (.cells C 49)).heap[B]? = some (.cells C 49 (0, 0)) := by rw [hB]; exact block_new _ _
  have bel : Below B w (w.alloc (.cells C 49)) := by rw [hB]; exact (Below.refl _ w).alloc (Nat.le_refl _) _
  have A := fun v => has_any b n G v _ h0
  obtain ⟨r, hr⟩ : ∃ r, r = lstI F n x y := ⟨_, rfl⟩
  rw [← hr]
  have hcnt := h0.count
  have hbB : b < B := by rw [hB]; exact h.lt
  have HC := Lib.hid hC
  have HB := Lib.hid hB
  have hzz : w.heap.size = B := hB.symm
  rw [hzz]
  have H0 := Lib.hid h0
  have B0 := Lib.hid b0
  clear hC hB hZ h0 b0
  cases h1 : hasB n x with
  | false =>
    rw [lstI_no (.inl h1)] at hr
    subst hr
    have A1 := Lib.hid (A x)
    clear A
    go_enter Try.func37, Try.ntmps37
    go_wp2_with (go_at_call 32; (with_reducible refine (A1.out).mono ?_); rintro e w' ⟨rfl, rfl⟩)
    go_ret
    exact ⟨rfl, bel⟩
  | true =>
    cases h2 : hasB n y with
    | false =>
      rw [lstI_no (.inr h2)] at hr
      subst hr
      have A1 := Lib.hid (A x)
      have A2 := Lib.hid (A y)
      clear A
      go_enter Try.func37, Try.ntmps37
      go_wp2_with (first
        | (go_at_call 32; (with_reducible refine (A1.out).mono ?_); rintro e w' ⟨rfl, rfl⟩)
        | (go_at_call 32; (with_reducible refine (A2.out).mono ?_); rintro e w' ⟨rfl, rfl⟩))
      go_ret
      exact ⟨rfl, bel⟩
    | true =>
      obtain ⟨a, rfl, ha⟩ := hasB_nat h1
      obtain ⟨c, rfl, hc⟩ := hasB_nat h2
      have A1 := Lib.hid (A a)
      have A2 := Lib.hid (A c)
      have HR := Lib.hid hr
      have hai : (a : Int) < 8 := by omega
      have hci : (c : Int) < 8 := by omega
      have hi1 := index49 B 0 a (by omega)
      have hi2 := index49 B 0 c (by omega)
      rw [Nat.zero_add] at hi1 hi2
      obtain ⟨la, hla⟩ : ∃ l, l = cellsR (F a) := ⟨_, rfl⟩
      obtain ⟨lc, hlc⟩ : ∃ l, l = cellsR (F c) := ⟨_, rfl⟩
      obtain ⟨R, hR⟩ : ∃ R, R = cellsR (andR (F a) (F c)) := ⟨_, rfl⟩
      have A3 : Hid (∀ w, Calls Try.prog 42 #[.agg la, .agg lc] w fun e w' => e = .returned (.agg R) ∧ Below w.heap.size w w') := by
        rw [hla, hlc, hR]; exact fun w => and_any (F a) (F c) w
      have hra : ∀ h : Array Obj, h[B]? = some (.cells C 49 (0, 0)) → rowAt h B (a * 8) 8 = some la := fun h q => by rw [hla]; rw [HC.out] at q; exact row_at q a (by omega)
      have hrc : ∀ h : Array Obj, h[B]? = some (.cells C 49 (0, 0)) → rowAt h B (c * 8) 8 = some lc := fun h q => by rw [hlc]; rw [HC.out] at q; exact row_at q c (by omega)
      have hwR : wholeC 8 R = true := by rw [hR]; exact wholeR _
      have HRR := Lib.hid hR
      clear A hr hla hlc hR
      go_enter Try.func37, Try.ntmps37
      go_wp2_with (first
        | (go_at_call 32; (with_reducible refine (A1.out).mono ?_); rintro e w' ⟨rfl, rfl⟩)
        | (go_at_call 32; (with_reducible refine (A2.out).mono ?_); rintro e w' ⟨rfl, rfl⟩))
      have b0 : (w.alloc (.cells C 49)).drew.heap[B]? = some (.cells C 49 (0, 0)) := B0.out
      generalize hw1 : w.alloc (.cells C 49) = w1 at *
      have hrm1 : ∀ W : World, roomAt (W.alloc (.cells Z 47)).heap W.heap.size 0 8 = true := fun W => roomAt_of (block_new W _) (by omega)
      go_region_held3 (fun w' => w'.heap[B]? = some (.cells C 49 (0, 0)))
        (first
          | exact b0
          | exact heap_below (by assumption) c4 (block_lt (by assumption))
          | exact block_alloc (by assumption) _
          | exact (block_setCells_other w1.heap.size B (Nat.ne_of_lt (show B < w1.heap.size from block_lt b0)) _ _ _).trans (by assumption)
          | exact (block_setCells_other v4.heap.size B (Nat.ne_of_lt (Nat.lt_of_lt_of_le (show B < w1.heap.size from block_lt b0) (by have := c4.size; simp at this; omega))) _ _ _).trans (by assumption))
        (first
          | (go_at_call 42; (with_reducible refine (A3.out _).mono ?_); rintro e v4 ⟨rfl, c4⟩; try (have hrm2 : roomAt v4.heap w1.heap.size 0 8 = true := roomAt_of (heap_below (block_new w1.drew (.cells Z 47)) c4 (block_lt (block_new w1.drew (.cells Z 47)))) (by omega))))
      · have e0 : v4.heap[B]? = some (.cells C 49 (0, 0)) := heap_below b0 c4 (block_lt b0)
        have eS : w1.heap.size ≤ v4.heap.size := c4.size
        have eB : B < w1.heap.size := block_lt b0
        have eN : B < v4.heap.size := block_lt e0
        have eL : IsL v4 b n G := heap_below (show w1.drew.heap[b]? = _ from H0.out) c4 (by show b < w1.heap.size; omega)
        obtain ⟨N, hN⟩ : ∃ N, N = v4.heap.size := ⟨_, rfl⟩
        obtain ⟨W, hW⟩ : ∃ W, W = (v4.alloc (.cells Z 47)).setCells v4.heap.size 0 R.toList := ⟨_, rfl⟩
        have g0 : W.heap[B]? = some (.cells C 49 (0, 0)) := by rw [hW, block_setCells_other _ _ (by omega)]; exact block_alloc e0 _
        have gL : IsL W b n G := by unfold IsL; rw [hW, block_setCells_other _ _ (by omega)]; exact block_alloc eL _
        have gN : W.heap[N]? = some (.cells R 47 (0, 0)) := by rw [hW, hN]; exact block_setAll (block_new _ _) (by rw [hz8, HRR.out, cellsR_size])
        have gb : Below B w W := by rw [hW]; exact below_setCells _ _ _ _ ((bel.drew.trans (c4.mono (by show B ≤ w1.heap.size; omega))).alloc (by omega) _) (by omega)
        rw [← hW, ← hN]
        have HN := Lib.hid hN
        clear hW hN e0 eL c4 b0
        have hcnt := Lib.hid gL
        have hct := gL.count
        have hRn : R.size = 8 := by rw [HRR.out]; exact cellsR_size _
        have hiR : isR R = true := by rw [HRR.out]; exact isR_cells _
        have rN : rowAt W.heap N 0 8 = some R := by
          rw [rowAt_of gN (by omega)]; congr 1; simp [hRn]
        have hrN : ∀ W2 : World, W2.heap = W.heap → rowAt W2.heap N 0 8 = some R := fun W2 e => by rw [e]; exact rN
        clear A1 A2 A3 hra hrc hrm1 hwR z rN
        go_wp2
        go_loopw [10, 32] (fun _ i wr => ∃ k : Nat, k ≤ n ∧ i = .int .i64 k ∧ wr.heap = W.heap ∧ Below B w wr ∧ Hid (∀ d, d < k → rowEq (F d) (andR (F a) (F c)) = false)) (fun _ i _ => n - (intOf i).toNat)
        case atStart => exact ⟨0, by omega, rfl, rfl, gb, fun d hd => absurd hd (by omega)⟩
        case round =>
          obtain ⟨k, hk, rfl, hw2, hb2, hf⟩ := hrel
          clear gb hct
          by_cases hlt : k < n
          · have hki : (k : Int) < (n : Int) := by omega
            have hk8 : (k : Int) < 8 := by omega
            have hi3 := index49 B 0 k (by omega)
            rw [Nat.zero_add] at hi3
            obtain ⟨lk, hlk⟩ : ∃ l, l = cellsR (F k) := ⟨_, rfl⟩
            have r1 : rowAt wr.heap B (k * 8) 8 = some lk := by rw [hw2, hlk]; rw [HC.out] at g0; exact row_at g0 k (by omega)
            have r2 := hrN wr hw2
            have hik : isR lk = true := by rw [hlk]; exact isR_cells _
            cases hq : rowEq (F k) (andR (F a) (F c)) with
            | true =>
              have he : eqR lk R = true := by rw [hlk, HRR.out, eqR_cells]; exact hq
              have hfin : r = (k : Int) := by rw [HR.out]; exact lstI_some ha hc (lst_first hlt hq hf.out)
              have HF := Lib.hid hfin
              have HW2 := Lib.hid hw2
              clear hq hlk hw2 hrN hfin
              go_wp2
              go_quiet (fail)
              go_wp2
              go_ret
              exact ⟨ret_int HF.out.symm, below_drewN hb2 _⟩
            | false =>
              have he : eqR lk R = false := by rw [hlk, HRR.out, eqR_cells]; exact hq
              have hf2 : Hid (∀ d, d < k + 1 → rowEq (F d) (andR (F a) (F c)) = false) := fun d hd => by
                by_cases e : d = k
                · subst e; exact hq
                · exact hf.out d (by omega)
              have HW2 := Lib.hid hw2
              clear hq hlk hw2 hrN
              go_wp2
              go_quiet (fail)
              have HW3 : (wr.drewN nq).heap = W.heap := HW2.out
              have HB3 := below_drewN hb2 nq
              have HH3 := Lib.hid HW3
              clear HW3
              generalize wr.drewN nq = w9 at *
              go_wp2
              first
                | exact ⟨⟨k + 1, by omega, by go_num, HH3.out, HB3, hf2⟩, by simp [intOf]; omega⟩
                | (refine ⟨?_, by simp [intOf]; omega⟩; repeat apply Exists.intro; exact ⟨⟨k + 1, by omega, by go_num, HH3.out, HB3, hf2⟩, rfl⟩)
          · have hkn : k = n := by omega
            subst hkn
            have hfin : r = -1 := by rw [HR.out]; exact lstI_none ha hc (lst_not hf.out)
            have HF := Lib.hid hfin
            clear hrN hfin hw2
            go_wp2
            go_ret
            exact ⟨ret_int HF.out.symm, hb2⟩
      · have e0 : v4.heap[B]? = some (.cells C 49 (0, 0)) := heap_below (block_alloc b0 _) c4 (block_lt (block_alloc b0 _))
        have eB : B < w1.heap.size := block_lt b0
        have eS : w1.heap.size + 1 ≤ v4.heap.size := by have := c4.size; simp at this; omega
        have eL : IsL v4 b n G := heap_below (block_alloc (o := .cells (latC n G) 51 (0, 0)) (show w1.drew.heap[b]? = _ from H0.out) (.cells Z 47)) c4 (by simp; omega)
        have eN : v4.heap[w1.heap.size]? = some (.cells Z 47 (0, 0)) := heap_below (block_new w1.drew (.cells Z 47)) c4 (block_lt (block_new w1.drew (.cells Z 47)))
        obtain ⟨N, hN⟩ : ∃ N, N = w1.heap.size := ⟨_, rfl⟩
        obtain ⟨W, hW⟩ : ∃ W, W = v4.setCells w1.heap.size 0 R.toList := ⟨_, rfl⟩
        have g0 : W.heap[B]? = some (.cells C 49 (0, 0)) := by rw [hW, block_setCells_other _ _ (by omega)]; exact e0
        have gL : IsL W b n G := by unfold IsL; rw [hW, block_setCells_other _ _ (by omega)]; exact eL
        have gN : W.heap[N]? = some (.cells R 47 (0, 0)) := by rw [hW, hN]; exact block_setAll eN (by rw [hz8, HRR.out, cellsR_size])
        have gb : Below B w W := by rw [hW]; exact below_setCells _ _ _ _ ((bel.drew.alloc (by show B ≤ w1.heap.size; omega) (.cells Z 47)).trans (c4.mono (by simp; omega))) (by omega)
        rw [← hW, ← hN]
        have HN := Lib.hid hN
        clear hW hN e0 eL c4 b0 eN hrm2
        have hcnt := Lib.hid gL
        have hct := gL.count
        have hRn : R.size = 8 := by rw [HRR.out]; exact cellsR_size _
        have hiR : isR R = true := by rw [HRR.out]; exact isR_cells _
        have rN : rowAt W.heap N 0 8 = some R := by
          rw [rowAt_of gN (by omega)]; congr 1; simp [hRn]
        have hrN : ∀ W2 : World, W2.heap = W.heap → rowAt W2.heap N 0 8 = some R := fun W2 e => by rw [e]; exact rN
        clear A1 A2 A3 hra hrc hrm1 hwR z rN
        go_wp2
        go_loopw [10, 32] (fun _ i wr => ∃ k : Nat, k ≤ n ∧ i = .int .i64 k ∧ wr.heap = W.heap ∧ Below B w wr ∧ Hid (∀ d, d < k → rowEq (F d) (andR (F a) (F c)) = false)) (fun _ i _ => n - (intOf i).toNat)
        case atStart => exact ⟨0, by omega, rfl, rfl, gb, fun d hd => absurd hd (by omega)⟩
        case round =>
          obtain ⟨k, hk, rfl, hw2, hb2, hf⟩ := hrel
          clear gb hct
          by_cases hlt : k < n
          · have hki : (k : Int) < (n : Int) := by omega
            have hk8 : (k : Int) < 8 := by omega
            have hi3 := index49 B 0 k (by omega)
            rw [Nat.zero_add] at hi3
            obtain ⟨lk, hlk⟩ : ∃ l, l = cellsR (F k) := ⟨_, rfl⟩
            have r1 : rowAt wr.heap B (k * 8) 8 = some lk := by rw [hw2, hlk]; rw [HC.out] at g0; exact row_at g0 k (by omega)
            have r2 := hrN wr hw2
            have hik : isR lk = true := by rw [hlk]; exact isR_cells _
            cases hq : rowEq (F k) (andR (F a) (F c)) with
            | true =>
              have he : eqR lk R = true := by rw [hlk, HRR.out, eqR_cells]; exact hq
              have hfin : r = (k : Int) := by rw [HR.out]; exact lstI_some ha hc (lst_first hlt hq hf.out)
              have HF := Lib.hid hfin
              have HW2 := Lib.hid hw2
              clear hq hlk hw2 hrN hfin
              go_wp2
              go_quiet (fail)
              go_wp2
              go_ret
              exact ⟨ret_int HF.out.symm, below_drewN hb2 _⟩
            | false =>
              have he : eqR lk R = false := by rw [hlk, HRR.out, eqR_cells]; exact hq
              have hf2 : Hid (∀ d, d < k + 1 → rowEq (F d) (andR (F a) (F c)) = false) := fun d hd => by
                by_cases e : d = k
                · subst e; exact hq
                · exact hf.out d (by omega)
              have HW2 := Lib.hid hw2
              clear hq hlk hw2 hrN
              go_wp2
              go_quiet (fail)
              have HW3 : (wr.drewN nq).heap = W.heap := HW2.out
              have HB3 := below_drewN hb2 nq
              have HH3 := Lib.hid HW3
              clear HW3
              generalize wr.drewN nq = w9 at *
              go_wp2
              first
                | exact ⟨⟨k + 1, by omega, by go_num, HH3.out, HB3, hf2⟩, by simp [intOf]; omega⟩
                | (refine ⟨?_, by simp [intOf]; omega⟩; repeat apply Exists.intro; exact ⟨⟨k + 1, by omega, by go_num, HH3.out, HB3, hf2⟩, rfl⟩)
          · have hkn : k = n := by omega
            subst hkn
            have hfin : r = -1 := by rw [HR.out]; exact lstI_none ha hc (lst_not hf.out)
            have HF := Lib.hid hfin
            clear hrN hfin hw2
            go_wp2
            go_ret
            exact ⟨ret_int HF.out.symm, hb2⟩
end Go.Proofs.Ytbkpfiagoinoiaa
