/- Is it a level; all that flows without one pair; a set's levels as a list: what the calls return; nothing that was there turns. No conditions but that levels are below eight. -/
import Derived.Test.YtbkpfiagoinoiaaClo
namespace Go.Proofs.Ytbkpfiagoinoiaa
open Go.RowKit
set_option linter.unusedVariables false
attribute [local go_sem ↓] load47_pre store47_pre load49_pre store49_pre
attribute [local go_sem] load47_run store47_run load49_run store49_run rowOr_some putOr_true heap_drew

/-- a lattice's cells: how many levels, what flows -/
def latC (n : Nat) (G : Flw) : Array Value := #[.int .i64 (n : Int)] ++ cellsF G
theorem latC_size (n : Nat) (G : Flw) : (latC n G).size = 65 := by simp [latC, cellsF_size]
theorem latC_zero (n : Nat) (G : Flw) : (latC n G)[0]? = some (.int .i64 (n : Int)) := by
  unfold latC
  rw [Array.getElem?_append_left (by simp)]
  rfl
theorem latC_succ (n : Nat) (G : Flw) (i : Nat) : (latC n G)[i + 1]? = (cellsF G)[i]? := by
  unfold latC
  rw [Array.getElem?_append_right (by simp)]
  simp
theorem latC_at (n : Nat) (G : Flw) (a b : Nat) (ha : a < 8) (hb : b < 8) : (latC n G)[1 + a * 8 + b]? = some (.bool (G a b)) := by
  rw [show 1 + a * 8 + b = (a * 8 + b) + 1 by omega, latC_succ, cellsF_at G a b ha hb]
theorem latC_all (n : Nat) (G : Flw) : (latC n G).extract 1 65 = cellsF G := by
  apply Array.ext_getElem?
  intro i
  rw [Array.getElem?_extract, latC_size, cellsF_get]
  by_cases q : i < 64
  · rw [if_pos (by omega), if_pos q, Nat.add_comm 1 i, latC_succ, cellsF_get, if_pos q]
  · rw [if_neg (by omega), if_neg q]
/-- block b is a lattice of n levels in which G flows -/
def IsL (w : World) (b n : Nat) (G : Flw) : Prop := w.heap[b]? = some (.cells (latC n G) 51 (0, 0))
theorem IsL.count {w : World} {b n : Nat} {G : Flw} (h : IsL w b n G) : w.cell? ⟨b, 0, none⟩ = some (.int .i64 (n : Int)) := by
  rw [cell_of_row w b 0 _ _ _ h, latC_zero]
theorem IsL.at {w : World} {b n : Nat} {G : Flw} (h : IsL w b n G) (a c : Nat) (ha : a < 8) (hc : c < 8) : w.cell? ⟨b, 1 + a * 8 + c, none⟩ = some (.bool (G a c)) := by
  rw [cell_of_row w b _ _ _ _ h, latC_at n G a c ha hc]
theorem IsL.all {w : World} {b n : Nat} {G : Flw} (h : IsL w b n G) : rowAt w.heap b 1 64 = some (cellsF G) := by
  rw [rowAt_of h (by rw [latC_size]; omega), latC_all]
theorem IsL.below {w w' : World} {b n B : Nat} {G : Flw} (h : IsL w b n G) (hb : Below B w w') (hlt : b < B) : IsL w' b n G := heap_below h hb hlt
theorem IsL.lt {w : World} {b n : Nat} {G : Flw} (h : IsL w b n G) : b < w.heap.size := block_lt h

theorem fillA_all (Z R : Array Value) (h : Z.size = R.size) : fillA Z 0 R.toList = R := by
  apply Array.ext_getElem?
  intro i
  rw [fillA_get, Array.length_toList, Array.getElem?_toList, h]
  by_cases q : i < R.size
  · rw [if_pos (by omega), Nat.sub_zero]
  · rw [if_neg (by omega), Array.getElem?_eq_none (by omega), Array.getElem?_eq_none (by omega)]
theorem block_setAll {w : World} {b : Nat} {Z R : Array Value} {t : TypeId} {fr : Nat × Nat} (h : w.heap[b]? = some (.cells Z t fr)) (hs : Z.size = R.size) :
    (w.setCells b 0 R.toList).heap[b]? = some (.cells R t fr) := by
  rw [block_setCells _ h, fillA_all Z R hs]
def hasB (n : Nat) (a : Int) : Bool := decide (0 ≤ a ∧ a < (n : Int))
theorem hasB_iff (n : Nat) (a : Int) : hasB n a = true ↔ 0 ≤ a ∧ a < (n : Int) := by simp [hasB]
set_option maxHeartbeats 400000 in
theorem has_any (b n : Nat) (G : Flw) (a : Int) (w : World) (h : IsL w b n G) :
    Calls Try.prog 32 #[.pointer (some ⟨b, 0, none⟩), .int .i64 a] w fun e w' => e = .returned (.bool (hasB n a)) ∧ w = w' := by
  have hc := h.count
  have HH := Lib.hid h
  clear h
  obtain ⟨r, hr⟩ : ∃ r, r = hasB n a := ⟨_, rfl⟩
  rw [← hr]
  by_cases h0 : 0 ≤ a
  · by_cases h1 : a < (n : Int)
    · have e : r = true := by rw [hr, hasB_iff]; exact ⟨h0, h1⟩
      subst e
      clear hr
      go_enter Try.func32, Try.ntmps32
      go_wp2
      go_ret
      exact ⟨rfl, rfl⟩
    · have e : r = false := by rw [hr]; simp [hasB]; omega
      have h1' : decide (a < (n : Int)) = false := by simp; omega
      subst e
      clear hr
      go_enter Try.func32, Try.ntmps32
      go_wp2
      go_ret
      exact ⟨rfl, rfl⟩
  · have e : r = false := by rw [hr]; simp [hasB]; omega
    have h0' : decide (0 ≤ a) = false := by simp; omega
    subst e
    clear hr
    go_enter Try.func32, Try.ntmps32
    go_wp2
    go_ret
    exact ⟨rfl, rfl⟩

set_option maxHeartbeats 1000000 in
theorem without_any (F : Flw) (a b : Nat) (ha : a < 8) (hb : b < 8) (w : World) :
    Calls Try.prog 40 #[.agg (cellsF F), .int .i64 (a : Int), .int .i64 (b : Int)] w fun e w' => e = .returned (.agg (cellsF (clo (setF F a b false)))) ∧ Below w.heap.size w w' := by
  obtain ⟨S, hS⟩ : ∃ S, S = cellsF F := ⟨_, rfl⟩
  obtain ⟨S2, hS2⟩ : ∃ S2, S2 = cellsF (setF F a b false) := ⟨_, rfl⟩
  obtain ⟨Z, hZ⟩ : ∃ Z, Z = cellsF (fun _ _ => false) := ⟨_, rfl⟩
  obtain ⟨B, hB⟩ : ∃ B, B = w.heap.size := ⟨_, rfl⟩
  have z := Try.zero49
  rw [← hZ] at z
  obtain ⟨R, hR⟩ : ∃ R, R = cellsF (clo (setF F a b false)) := ⟨_, rfl⟩
  have A := fun w => closed_any (setF F a b false) w
  rw [← hS2, ← hR] at A
  rw [← hS, ← hR]
  have hr : R.size = 64 := by rw [hR]; exact cellsF_size _
  have hz : Z.size = 64 := by rw [hZ]; exact cellsF_size _
  have hr1 : R.all (·.oneCell') = true := by rw [hR]; exact cellsF_one _
  have hwr : wholeC 64 R = true := by rw [hR]; exact wholeF _
  have hs2 : S2.size = 64 := by rw [hS2]; exact cellsF_size _
  have b0 : ((w.alloc (.cells S 49)).alloc (.cells Z 49)).heap[B]? = some (.cells (cellsF F) 49 (0, 0)) := by
    rw [← hS, hB]; exact block_alloc (block_new _ _) _
  have b1 : ((w.alloc (.cells S 49)).alloc (.cells Z 49)).heap[B + 1]? = some (.cells Z 49 (0, 0)) := by
    have := block_new (w.alloc (.cells S 49)) (.cells Z 49); simpa [hB] using this
  have bel : Below B w ((w.alloc (.cells S 49)).alloc (.cells Z 49)) := by
    rw [hB]; exact ((Below.refl _ w).alloc (Nat.le_refl _) _).alloc (by simp) _
  have hsz : B + 2 ≤ ((w.alloc (.cells S 49)).alloc (.cells Z 49)).heap.size := by rw [hB]; simp
  have HB := Lib.hid hB
  have HS2 := Lib.hid hS2
  have hai : (a : Int) < 8 := by omega
  have hbi : (b : Int) < 8 := by omega
  have hi1 := index49 B 0 a ha
  have hi2 := index47 B (0 + a * 8) b hb
  rw [Nat.zero_add] at hi1 hi2
  have AA := Lib.hid A
  clear hB hS hZ hR hS2 A
  go_enter Try.func40, Try.ntmps40
  go_wp2_with (refine op_alloc rfl _ rfl _ z ?_; rw [← HB.out]; generalize ((w.alloc (.cells S 49)).alloc (.cells Z 49)) = w0 at *; have c0 : w0.cell? ⟨B, a * 8 + b, none⟩ = some (.bool (F a b)) := by { rw [cell_of_row w0 B _ _ _ _ b0, cellsF_at _ _ _ ha hb] }; have f0 : w0.frozen? ⟨B, a * 8 + b, none⟩ = false := block_free b0; have s0 := block_setCell (o := a * 8 + b) (u := .bool false) b0; rw [cellsF_set _ _ _ hb, ← HS2.out] at s0; have r0 := rowAt_of (o := 0) (n := 64) s0 (by omega); rw [show S2.extract 0 (0 + 64) = S2 by simp [hs2]] at r0; have s1 := (block_setCell_other (u := .bool false) (show B + 1 ≠ (⟨B, a * 8 + b, none⟩ : Addr).block by show B + 1 ≠ B; omega)).trans b1; have S0 := Lib.hid s0; have S1 := Lib.hid s1; clear s0 s1 b0 b1)
  refine (AA.out _).mono ?_
  rintro e w1 ⟨rfl, c1⟩
  have hB1 : B + 1 < (w0.setCell ⟨B, a * 8 + b, none⟩ (.bool false)).heap.size := by simp; omega
  have t1 := heap_below S1.out c1 hB1
  have rm := roomAt_of (o := 0) (n := 64) t1 (by omega)
  have G1 := Lib.hid (block_setAll (R := R) t1 (by rw [hz, hr]))
  have bel2 : Below B w (w1.setCells (B + 1) 0 R.toList) := below_setCells _ _ _ _ ((bel.setCell (by exact Nat.le_refl _) _).trans (c1.mono (by omega))) (by omega)
  clear r0 t1
  have hzz : w.heap.size = B := HB.out.symm
  go_wp2
  refine bodyPost_ret_by (results_cell_row rfl _ _ (B + 1) 49 R (0, 0) _ rfl G1.out Try.underlying49 rfl (by rw [Try.size49, hr])) rfl ?_
  exact ⟨rfl, by rw [← HB.out]; exact bel2⟩
end Go.Proofs.Ytbkpfiagoinoiaa
