/- All bytes; an expression repeated; a row of expressions as one: what the calls return, and that the expressions lie in memory then. -/
import Derived.Test.YtdmajbdgjjmlkaaSet
namespace Go.Proofs.Ytdmajbdgjjmlkaa
open Go.RowKit
set_option linter.unusedVariables false

theorem zero_ok : S4.zero.ok := ⟨by decide, by decide, by decide, by decide⟩
set_option maxHeartbeats 1000000 in
theorem allBytes_any (w : World) : Calls Try.prog 76 #[] w fun e w' => e = .returned S4.full.val ∧ Below w.heap.size w w' := by
  have K : Hid (∀ w, Calls Try.prog 82 #[.agg #[.int .u64 0, .int .u64 0, .int .u64 0, .int .u64 0]] w fun e w' => e = .returned (.agg #[.int .u64 18446744073709551615, .int .u64 18446744073709551615, .int .u64 18446744073709551615, .int .u64 18446744073709551615]) ∧ Below w.heap.size w w') := fun w => others_any S4.zero w zero_ok
  have bel : Hid (∀ o w2, Below (w.alloc o).heap.size (w.alloc o) w2 → Below w.heap.size w w2) := fun o w2 h => below_trans (below_new w o) h
  have fin : Hid (S4.full.val = (.agg #[.int .u64 18446744073709551615, .int .u64 18446744073709551615, .int .u64 18446744073709551615, .int .u64 18446744073709551615])) := rfl
  rw [fin.out]
  clear fin
  have C0 : Hid (∀ C w2, Below (w.alloc (.cells C 103)).heap.size (w.alloc (.cells C 103)) w2 → ∀ j u, C[j]? = some u → w2.cell? ⟨w.heap.size, j, none⟩ = some u) := fun C w2 g j u hu => by
    rw [g.cell (by show w.heap.size < (w.alloc (.cells C 103)).heap.size; simp)]
    exact cell_at (heap_alloc_new w (.cells C 103)) hu
  have C1 : Hid (∀ C w2, Below (w.alloc (.cells C 103)).heap.size (w.alloc (.cells C 103)) w2 → ∀ j, w2.frozen? ⟨w.heap.size, j, none⟩ = false) := fun C w2 g j => by
    exact free_at (C := C) (t := 103) (by rw [g.block _ (by simp)]; exact heap_alloc_new w (.cells C 103))
  go_enter Try.func76, Try.ntmps76
  go_wp2_with (go_at_call 82; (with_reducible refine (K.out _).mono ?_); rintro e w1 ⟨rfl, gg⟩; have gb := bel.out _ _ gg; have r0 := C0.out _ _ gg 0 _ rfl; have r1 := C0.out _ _ gg 1 _ rfl; have r2 := C0.out _ _ gg 2 _ rfl; have r3 := C0.out _ _ gg 3 _ rfl; have q0 := fun j => (C1.out _ _ gg j); simp at r0 r1 r2 r3)
  exact bodyPost_ret (v := .agg #[.int .u64 18446744073709551615, .int .u64 18446744073709551615, .int .u64 18446744073709551615, .int .u64 18446744073709551615]) (by simp [results, Try.results76, go_sem, r0, r1, r2, r3]) rfl ⟨rfl, (((gb.setCell (Nat.le_refl _) _).setCell (Nat.le_refl _) _).setCell (Nat.le_refl _) _).setCell (Nat.le_refl _) _⟩
theorem LiesL.one {D N : Nat} {w : World} {t : Rx} {v : Value} (h : w.heap[N]? = some (.cells (t.cells v) 26 (0, 0))) (hD : D ≤ N) (hl : LiesL (D ≤ ·) w v t.list) : LiesL (D ≤ ·) w (.slice (some ⟨N, 0, none⟩) 1 1) [t] := by
  refine .mk (some ⟨N, 0, none⟩) 1 [t] (fun _ => v) (by simp) (fun i hi => ?_) (fun i hi => ?_)
  · have h0 : i = 0 := by simp at hi; omega
    subst h0
    refine ⟨_, rfl, hD, block_lt h, fun j u hu => ?_⟩
    rw [show (⟨N, 0, none⟩ : Addr).add (0 * 8 + j) = ⟨N, j, none⟩ by unfold Addr.add; split <;> simp_all]
    exact cell_at h hu
  · have h0 : i = 0 := by simp at hi; omega
    subst h0
    exact hl
set_option maxHeartbeats 1000000 in
theorem repeated_any {D : Nat} (t : Rx) (v : Value) (lo hi : Int) (w : World) (hD : D ≤ w.heap.size) (hl : LiesL (D ≤ ·) w v t.list) : Calls Try.prog 68 #[t.val v, .int .i64 lo, .int .i64 hi] w fun e w' => Below w.heap.size w w' ∧ ∃ v', e = .returned ((repR t lo hi).val v') ∧ LiesL (D ≤ ·) w' v' [t] := by
  have bel : Hid (∀ o1 o2 o3, Below w.heap.size w (((w.alloc o1).alloc o2).alloc o3)) := fun o1 o2 o3 => below_trans (below_new w o1) (below_trans (below_new _ o2) (below_new _ o3))
  have fin : Hid (∀ o1 o2, LiesL (D ≤ ·) (((w.alloc o1).alloc o2).alloc (.cells (t.cells v) 26)) (.slice (some ⟨w.heap.size + 1 + 1, 0, none⟩) 1 1) [t]) := fun o1 o2 => by
    refine LiesL.one ?_ (by omega) (hl.stay (bel.out _ _ _))
    have := heap_alloc_new ((w.alloc o1).alloc o2) (.cells (t.cells v) 26)
    simpa using this
  obtain ⟨k, mn, mx, s0, s1, s2, s3, l⟩ := t
  unfold Rx.val repR
  dsimp only [Rx.cells, cellsX, Rx.list] at hl fin ⊢
  clear hl
  go_enter Try.func68, Try.ntmps68
  go_wp2
  exact bodyPost_ret (v := .agg #[.int .i64 3, .int .i64 lo, .int .i64 hi, .int .u64 0, .int .u64 0, .int .u64 0, .int .u64 0, .slice (some ⟨w.heap.size + 1 + 1, 0, none⟩) 1 1]) (by simp [results, Try.results68, go_sem]) rfl ⟨bel.out _ _ _, _, rfl, fin.out _ _⟩
set_option maxHeartbeats 1000000 in
theorem together_any {D : Nat} (kind : Int) (l : List Rx) (v : Value) (w : World) (hl : LiesL (D ≤ ·) w v l) : Calls Try.prog 62 #[.int .i64 kind, v] w fun e w' => Below w.heap.size w w' ∧ ∃ v', e = .returned ((togR kind l).val v') ∧ LiesL (D ≤ ·) w' v' (togR kind l).list := by
  have bel : Hid (∀ o, Below w.heap.size w (w.alloc o)) := fun o => below_new w o
  have hl0 := hl
  cases hl with
  | mk ao cap l sl few cell inner =>
    by_cases h1 : l.length = 1
    · obtain ⟨t, rfl⟩ := List.length_eq_one_iff.mp h1
      obtain ⟨a, rfl, hda, hab, hcell⟩ := cell 0 (by simp)
      obtain ⟨k, mn, mx, s0, s1, s2, s3, l⟩ := t
      obtain ⟨bo, cp, hv⟩ := (inner 0 (by simp)).value
      rw [show ([Rx.mk k mn mx s0 s1 s2 s3 l][0]'(by simp)).list.length = l.length from rfl] at hv
      rw [hv] at hcell
      have a0 : a.add (0 * 8) = a := by simp [Addr.add]
      have E := eight (wr := w) hcell hab (Below.refl _ _)
      have E2 := fun o => eight (wr := w.alloc o) hcell hab (below_new w o)
      rw [a0] at E E2
      obtain ⟨e0, e1, e2, e3, e4, e5, e6, e7⟩ := E
      have f0 := fun o => (E2 o).1
      have f1 := fun o => (E2 o).2.1
      have f2 := fun o => (E2 o).2.2.1
      have f3 := fun o => (E2 o).2.2.2.1
      have f4 := fun o => (E2 o).2.2.2.2.1
      have f5 := fun o => (E2 o).2.2.2.2.2.1
      have f6 := fun o => (E2 o).2.2.2.2.2.2.1
      have f7 := fun o => (E2 o).2.2.2.2.2.2.2
      clear E2
      have fin : Hid (∀ o, LiesL (D ≤ ·) (w.alloc o) (.slice bo l.length cp) l) := fun o => by
        have := (inner 0 (by simp)).stay (below_new w o)
        rw [hv] at this
        exact this
      unfold togR Rx.val
      dsimp only [Rx.cells, cellsX, Rx.list]
      clear hl0 cell inner hcell few h1
      simp only [List.length_singleton]
      go_enter Try.func62, Try.ntmps62
      go_wp2
      exact bodyPost_ret (v := .agg #[.int .i64 k, .int .i64 mn, .int .i64 mx, .int .u64 s0, .int .u64 s1, .int .u64 s2, .int .u64 s3, .slice bo l.length cp]) (by simp [results, Try.results62, go_sem]) rfl ⟨bel.out _, _, rfl, fin.out _⟩
    · have fin : Hid (togR kind l = .mk kind 0 0 0 0 0 0 l) := by
        unfold togR
        split
        · exact absurd rfl h1
        · rfl
      have h2 : ¬ ((l.length : Int) = 1) := by omega
      rw [fin.out]
      unfold Rx.val
      dsimp only [Rx.cells, cellsX, Rx.list]
      have HL := Lib.hid fun o => hl0.stay (below_new w o)
      clear fin hl0 cell inner few h1
      go_enter Try.func62, Try.ntmps62
      go_wp2
      exact bodyPost_ret (v := .agg #[.int .i64 kind, .int .i64 0, .int .i64 0, .int .u64 0, .int .u64 0, .int .u64 0, .int .u64 0, .slice ao l.length cap]) (by simp [results, Try.results62, go_sem]) rfl ⟨bel.out _, _, rfl, HL.out _⟩
end Go.Proofs.Ytdmajbdgjjmlkaa
