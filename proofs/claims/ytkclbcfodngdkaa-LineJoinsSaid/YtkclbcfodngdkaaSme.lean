/- Rows of points in memory; two that are the same; the row of bytes by the other text; one point turned, one with no noise: what the calls return. Conditions: the bytes are within reach. -/
import Derived.Test.YtkclbcfodngdkaaRok
import Derived.Deep.QuietTactic
import Derived.BigQuiet
import Derived.Deep.OwnRows
import Derived.Laws.CopyOwn
namespace Go.Proofs.Ytkclbcfodngdkaa
open Go.RowKit
set_option linter.unusedVariables false

theorem below_drewN {B : Nat} {a w : World} (h : Below B a w) (n : Nat) : Below B a (w.drewN n) := ⟨h.os, h.tape, h.output, h.size, h.block⟩
theorem add_block (a : Addr) (k : Nat) : (a.add k).block = a.block := by unfold Addr.add; split <;> rfl
/-- all are points -/
def Cpl (l : List Value) : Prop := ∀ v ∈ l, ∃ x y, v = .complex .f64 x y
theorem cpl_row (l : List UInt8) : Cpl (rowP l) := fun v hv => by
  simp only [rowP, List.mem_cons, List.mem_flatMap, ptB] at hv
  rcases hv with rfl | ⟨b, _, hv⟩
  · exact ⟨_, _, rfl⟩
  · simp at hv
    rcases hv with rfl | rfl <;> exact ⟨_, _, rfl⟩
/-- a row lies there -/
def LiesV (w : World) (ao : Option Addr) (l : List Value) : Prop := ∀ i v, l[i]? = some v → ∃ a, ao = some a ∧ w.cell? (a.add i) = some v ∧ a.block < w.heap.size
theorem LiesV.below {w w' : World} {ao : Option Addr} {l : List Value} {B : Nat} (h : LiesV w ao l) (hb : Below B w w') (hB : w.heap.size ≤ B) : LiesV w' ao l := fun i v hi => by
  obtain ⟨a, h1, h2, h3⟩ := h i v hi
  exact ⟨a, h1, by rw [hb.cell (p := a.add i) (by rw [add_block]; omega)]; exact h2, Nat.lt_of_lt_of_le h3 hb.size⟩
theorem own_lies {w : World} {base : Nat} {v : Value} {l : List Value} {n : Nat} (h : w.ownsRow base 27 1 v n l) : ∃ ao cap, v = .slice ao n cap ∧ LiesV w ao l ∧ (ao = none → cap = 0) := by
  have h0 := h
  obtain ⟨h1, ⟨rfl, h2⟩ | ⟨g, cap, cur, rfl, q2, q3, q4⟩⟩ := h
  · have : l = [] := List.length_eq_zero_iff.1 (by omega)
    subst this
    subst h2
    exact ⟨none, 0, rfl, fun i v hi => by simp at hi, fun _ => rfl⟩
  · refine ⟨some ⟨g, 0, none⟩, cap, rfl, fun i v hi => ⟨_, rfl, ?_, ?_⟩, fun h => by cases h⟩
    · have hlt := (List.getElem?_eq_some_iff.1 hi).1
      have := World.ownsRow.cellAt h0 i (by omega)
      rw [Addr.add_mid, Nat.zero_add, this, hi]
    · rcases Nat.lt_or_ge g w.heap.size with h' | h'
      · exact h'
      · simp [Array.getElem?_eq_none h'] at q3

set_option maxHeartbeats 2000000 in
theorem samec_any (ao1 ao2 : Option Addr) (cap1 cap2 : Nat) (l : List Value) (w : World) (hl : l.length ≤ 1000000) (hc : Cpl l) (h1 : LiesV w ao1 l) (h2 : LiesV w ao2 l) :
    Calls Try.prog 7 #[.slice ao1 l.length cap1, .slice ao2 l.length cap2] w fun e w' => e = .returned (.bool true) ∧ ∃ k, w' = w.drewN k := by
  obtain ⟨N, hN⟩ : ∃ N, N = l.length := ⟨_, rfl⟩
  have H1 := Lib.hid h1
  have H2 := Lib.hid h2
  have HC := Lib.hid hc
  rw [← hN] at hl ⊢
  have HN := Lib.hid hN
  clear h1 h2 hN hc
  go_enter Try.func7, Try.ntmps7
  go_wp2
  go_loopw [5] (fun i wr => ∃ k n : Nat, k ≤ N ∧ i = .int .i64 k ∧ wr = w.drewN n) (fun i _ => N - (intOf i).toNat)
  case atStart => exact ⟨0, 0, by omega, rfl, rfl⟩
  case round =>
    obtain ⟨k, n, hk, rfl, rfl⟩ := hrel
    by_cases hlt : k < N
    · have hki : (k : Int) < (N : Int) := by omega
      have hkl : k < l.length := by rw [← HN.out]; exact hlt
      obtain ⟨x, y, hxy⟩ := HC.out l[k] (List.getElem_mem hkl)
      obtain ⟨a1, e1, c1, _⟩ := H1.out k (.complex .f64 x y) (by rw [List.getElem?_eq_getElem hkl, hxy])
      obtain ⟨a2, e2, c2, _⟩ := H2.out k (.complex .f64 x y) (by rw [List.getElem?_eq_getElem hkl, hxy])
      subst e1 e2
      have d1 : (w.drewN n).cell? (a1.add k) = some (.complex .f64 x y) := c1
      have d2 : (w.drewN n).cell? (a2.add k) = some (.complex .f64 x y) := c2
      have P1 : Hid (∀ m, Calls Try.prog 11 #[.float .f64 x, .float .f64 x] ((w.drewN n).drewN m) fun e w' => e = .returned (.bool true) ∧ w' = (w.drewN n).drewN m) := fun m => (same_part x _).mono fun e w' q => ⟨q.1, q.2.symm⟩
      have P2 : Hid (∀ m, Calls Try.prog 11 #[.float .f64 y, .float .f64 y] ((w.drewN n).drewN m) fun e w' => e = .returned (.bool true) ∧ w' = (w.drewN n).drewN m) := fun m => (same_part y _).mono fun e w' q => ⟨q.1, q.2.symm⟩
      clear c1 c2 hxy
      generalize hW : w.drewN n = W at *
      go_wp2
      go_quiet ((first | (go_at_call 11; with_reducible exact Calls.quiet_of_same (P1.out _)) | (go_at_call 11; with_reducible exact Calls.quiet_of_same (P2.out _))))
      have e9 : W.drewN nq = w.drewN (n + nq) := by rw [← hW, World.drewN_drewN]
      have HE := Lib.hid e9
      clear e9 hW d1 d2
      generalize W.drewN nq = w9 at *
      go_wp2
      first
        | exact ⟨⟨k + 1, n + nq, by omega, by go_num, HE.out⟩, by simp [intOf]; omega⟩
        | (refine ⟨?_, by simp [intOf]; omega⟩; repeat apply Exists.intro; exact ⟨⟨k + 1, n + nq, by omega, by go_num, HE.out⟩, rfl⟩)
    · have hkN : k = N := by omega
      subst hkN
      go_wp2
      go_ret
      exact ⟨rfl, n, rfl⟩
theorem run_store_cpl (P : Program) (w : World) (a : Addr) (k : FloatKind) (x y : Nat) (m : Mode) : (store a (.complex k x y) m).run P w = stored P w a (.complex k x y) m := run_store P w a _ m rfl
attribute [local go_sem] run_store_cpl
set_option maxRecDepth 100000 in
set_option maxHeartbeats 1000000 in
theorem turn_one (b : Nat) (w : World) (hc : w.cell? ⟨b, 0, none⟩ = some (.complex .f64 4607182418800017408 4611686018427387904)) :
    Calls Try.prog 14 #[.slice (some ⟨b, 0, none⟩) 1 1, .int .i64 (-1)] w fun e w' => e = .returned (.slice (some ⟨w.heap.size, 0, none⟩) 1 1) ∧ Below w.heap.size w w' ∧ w'.cell? ⟨w.heap.size, 0, none⟩ = some (.complex .f64 4611686018427387904 13830554455654793216) := by
  have T := Lib.hid (fun w => turned3 4607182418800017408 4611686018427387904 w)
  have hr : rotN 3 (4607182418800017408, 4611686018427387904) = (4611686018427387904, 13830554455654793216) := by decide +kernel
  rw [hr] at T
  have hmk : ∀ w, (Instr.makeSlice 22 (.int .i64 1) (.int .i64 1)).run Try.prog w = .ok (.slice (some ⟨w.heap.size, 0, none⟩) 1 1) (w.alloc (.cells #[.complex .f64 0 0] 27)) := fun w => by
    have := run_make_row' (P := Try.prog) 22 27 (.complex .f64 0 0) 16 Try.underlying22 Try.infoC rfl .i64 .i64 1 (by decide) (by decide) w
    rw [show madeCells #[Value.complex .f64 0 0] 1 = #[Value.complex .f64 0 0] from by kernel_rfl] at this
    exact this
  clear hr
  obtain ⟨D, hD⟩ : ∃ D, D = w.heap.size := ⟨_, rfl⟩
  have hzz : w.heap.size = D := hD.symm
  have hbD : b < D := by rw [hD]; exact World.block_lt_of_cell? _ _ hc
  have e0 : Hid (Below D w (w.alloc (.cells #[.complex .f64 0 0] 27)) ∧ (w.alloc (.cells #[.complex .f64 0 0] 27)).cell? ⟨D, 0, none⟩ = some (.complex .f64 0 0) ∧ (w.alloc (.cells #[.complex .f64 0 0] 27)).frozen? ⟨D, 0, none⟩ = false ∧ (w.alloc (.cells #[.complex .f64 0 0] 27)).cell? ⟨b, 0, none⟩ = some (.complex .f64 4607182418800017408 4611686018427387904)) := by
    have hb1 : Below D w (w.alloc (.cells #[.complex .f64 0 0] 27)) := by rw [hD]; exact (Below.refl _ w).alloc (Nat.le_refl _) _
    refine ⟨hb1, ?_, ?_, ?_⟩
    · rw [hD]; simp
    · rw [hD]; simp
    · rw [hb1.cell (p := ⟨b, 0, none⟩) hbD]; exact hc
  rw [hzz]
  clear hD
  go_enter Try.func14, Try.ntmps14
  go_wp2
  generalize w.alloc (.cells #[.complex .f64 0 0] 27) = w0 at *
  go_loopw [13] (fun i wr => ∃ j : Nat, i = .int .i64 j ∧ Below D w wr ∧ ((j = 0 ∧ wr = w0) ∨ (j = 1 ∧ wr.cell? ⟨D, 0, none⟩ = some (.complex .f64 4611686018427387904 13830554455654793216)))) (fun i _ => 1 - (intOf i).toNat)
  case atStart => exact ⟨0, rfl, e0.out.1, .inl ⟨rfl, rfl⟩⟩
  case round =>
    obtain ⟨j, rfl, hb, ⟨rfl, rfl⟩ | ⟨rfl, hq⟩⟩ := hrel
    · obtain ⟨_, c1, f1, c2⟩ := e0.out
      have hb2 := hb.setCell (p := ⟨D, 0, none⟩) (Nat.le_refl D) (.complex .f64 4611686018427387904 13830554455654793216)
      have hc2 : (wr.setCell ⟨D, 0, none⟩ (.complex .f64 4611686018427387904 13830554455654793216)).cell? ⟨D, 0, none⟩ = some (.complex .f64 4611686018427387904 13830554455654793216) := World.cell?_setCell_same _ _ _ c1
      have HB := Lib.hid hb2
      have HC := Lib.hid hc2
      clear hb hb2 hc2
      go_wp2_with (go_at_call 20; (with_reducible refine (T.out _).mono ?_); rintro e w1 ⟨rfl, rfl⟩)
      first
        | exact ⟨⟨1, by go_num, HB.out, .inr ⟨rfl, HC.out⟩⟩, by simp [intOf]⟩
        | (refine ⟨?_, by simp [intOf]⟩; repeat apply Exists.intro; exact ⟨⟨1, by go_num, HB.out, .inr ⟨rfl, HC.out⟩⟩, rfl⟩)
    · go_wp2
      go_ret
      exact ⟨rfl, hb, hq⟩
set_option maxRecDepth 100000 in
set_option maxHeartbeats 1000000 in
theorem add_one (b : Nat) (w : World) (hc : w.cell? ⟨b, 0, none⟩ = some (.complex .f64 4607182418800017408 0)) :
    Calls Try.prog 15 #[.slice (some ⟨b, 0, none⟩) 1 1, .slice none 0 0] w fun e w' => e = .returned (.slice (some ⟨w.heap.size, 0, none⟩) 1 1) ∧ Below w.heap.size w w' := by
  have hmk : ∀ w, (Instr.makeSlice 22 (.int .i64 1) (.int .i64 1)).run Try.prog w = .ok (.slice (some ⟨w.heap.size, 0, none⟩) 1 1) (w.alloc (.cells #[.complex .f64 0 0] 27)) := fun w => by
    have := run_make_row' (P := Try.prog) 22 27 (.complex .f64 0 0) 16 Try.underlying22 Try.infoC rfl .i64 .i64 1 (by decide) (by decide) w
    rw [show madeCells #[Value.complex .f64 0 0] 1 = #[Value.complex .f64 0 0] from by kernel_rfl] at this
    exact this
  obtain ⟨D, hD⟩ : ∃ D, D = w.heap.size := ⟨_, rfl⟩
  have hzz : w.heap.size = D := hD.symm
  have hbD : b < D := by rw [hD]; exact World.block_lt_of_cell? _ _ hc
  have hsz27 : (Try.prog.info? 27).map (·.size) = some 1 := by kernel_rfl
  have e0 : Hid (Below D w (w.alloc (.cells #[.complex .f64 0 0] 27)) ∧ (w.alloc (.cells #[.complex .f64 0 0] 27)).heap[D]? = some (.cells [Value.complex .f64 0 0].toArray 27 (0, 0)) ∧ (w.alloc (.cells #[.complex .f64 0 0] 27)).cell? ⟨b, 0, none⟩ = some (.complex .f64 4607182418800017408 0)) := by
    have hb1 : Below D w (w.alloc (.cells #[.complex .f64 0 0] 27)) := by rw [hD]; exact (Below.refl _ w).alloc (Nat.le_refl _) _
    refine ⟨hb1, ?_, ?_⟩
    · rw [hD]; exact heap_alloc_new w _
    · rw [hb1.cell (p := ⟨b, 0, none⟩) hbD]; exact hc
  rw [hzz]
  clear hD hc
  go_enter Try.func15, Try.ntmps15
  have hsrc : ∀ j v, [Value.complex .f64 4607182418800017408 0][j]? = some v → (w.alloc (.cells #[.complex .f64 0 0] 27)).cell? ((⟨b, 0, none⟩ : Addr).add j) = some v := fun j v hj => by
    match j, hj with
    | 0, hj => simp at hj; subst hj; simpa [Addr.add] using e0.out.2.2
  have hone : ∀ v ∈ [Value.complex .f64 4607182418800017408 0], v.oneCell' = true := by intro v hv; simp at hv; subst hv; rfl
  have HS := Lib.hid hsrc
  have HO := Lib.hid hone
  clear hsrc hone
  go_wp2_with (refine wpList_copy_splice rfl (.tmp 10) (.tmp 11) 22 22 rfl 27 Try.underlying22 hsz27 (some ⟨D, 0, none⟩) (some ⟨b, 0, none⟩) 1 1 1 1 rfl rfl D 0 [Value.complex .f64 0 0] 27 e0.out.2.1 [Value.complex .f64 4607182418800017408 0] rfl (fun _ => ⟨rfl, _, rfl, HS.out⟩) (Nat.le_refl 1) HO.out D w e0.out.1 (Nat.le_refl D) ?_; intro w1 hg1 hb1)
  go_loop [18] (fun i => i = .int .i64 0) (fun _ => 0)
  case atStart => rfl
  case round =>
    subst hrel
    go_wp2
    go_ret
    exact ⟨rfl, hb1⟩
end Go.Proofs.Ytkclbcfodngdkaa
