/- Two sets of levels, or two that flow, held against one another as wholes. No conditions. -/
import Derived.Test.YtbkpfiagoinoiaaFlo
import Derived.ChangeKeysEq
namespace Go.Proofs.Ytbkpfiagoinoiaa
open Go.RowKit
set_option linter.unusedVariables false

theorem items_all (d : Nat) (e : TypeId) (c : Nat) (xs ys : Array Value) (g : Nat → Bool) (w : World) : ∀ (is : List Nat),
    (∀ i ∈ is, ∃ a b, (part e xs (i * c)).run Try.prog w = .ok a w ∧ (part e ys (i * c)).run Try.prog w = .ok b w ∧ (Op.equalIn d e a b).run Try.prog w = .ok (g i) w) →
    (Op.eqItems d e c xs ys is).run Try.prog w = .ok (is.all g) w
  | [], _ => by simp [Op.eqItems]
  | i :: is, h => by
    obtain ⟨a, b, p1, p2, p3⟩ := h i (by simp)
    have ih := items_all d e c xs ys g w is (fun j hj => h j (by simp [hj]))
    simp only [Op.eqItems, Sem.run_bind, p1, p2, p3, Result.andThen_ok]
    cases hg : g i
    · simp [hg]
    · simp [hg, ih]
theorem cells4 : Try.prog.cellsOf 4 = 1 := by kernel_rfl
theorem cells47 : Try.prog.cellsOf 47 = 8 := by kernel_rfl
theorem part4 (r : Row) (i : Nat) (hi : i < 8) (w : World) : (part 4 (cellsR r) (i * 1)).run Try.prog w = .ok (.bool (r i)) w := by
  have hagg : (isAgg 4).run Try.prog w = .ok false w := by simp
  simp [part, hagg, cellsR_at r i hi]
theorem part47 (F : Flw) (i : Nat) (hi : i < 8) (w : World) : (part 47 (cellsF F) (i * 8)).run Try.prog w = .ok (.agg (cellsR (F i))) w := by
  have hagg : (isAgg 47).run Try.prog w = .ok true w := by simp
  have hs : (sizeOf 47).run Try.prog w = .ok 8 w := by simp
  simp only [part, Sem.run_bind, hagg, Result.andThen_ok, if_true, hs, Sem.run_pure, cellsF_row F i hi]
theorem eq47 (r s : Row) (d : Nat) (w : World) : (Op.equalIn (d + 2) 47 (.agg (cellsR r)) (.agg (cellsR s))).run Try.prog w = .ok (rowEq r s) w := by
  cases hi : Try.prog.info? 4 with
  | none => have h4 : (Try.prog.info? 4).map (·.size) = some 1 := by kernel_rfl
            rw [hi] at h4; cases h4
  | some i0 =>
    rw [run_equalIn_array w (d + 1) _ _ Try.underlying47 hi, cells4]
    exact items_all _ _ _ _ _ _ w _ fun i hi => ⟨_, _, part4 r i (by simpa using hi) w, part4 s i (by simpa using hi) w, run_equalIn_bool' w d 4 _ _ Try.underlying4⟩
theorem eq49 (F G : Flw) (d : Nat) (w : World) : (Op.equalIn (d + 3) 49 (.agg (cellsF F)) (.agg (cellsF G))).run Try.prog w = .ok ((List.range 8).all fun i => rowEq (F i) (G i)) w := by
  cases hi : Try.prog.info? 47 with
  | none => have := Try.size47; rw [hi] at this; cases this
  | some i0 =>
    rw [run_equalIn_array w (d + 2) _ _ Try.underlying49 hi, cells47]
    exact items_all _ _ _ _ _ _ w _ fun i hi => ⟨_, _, part47 F i (by simpa using hi) w, part47 G i (by simpa using hi) w, eq47 _ _ d w⟩
theorem flwEq_rows (F G : Flw) : ((List.range 8).all fun i => rowEq (F i) (G i)) = flwEq F G := by
  rw [Bool.eq_iff_iff, flwEq_iff]
  simp only [List.all_eq_true, List.mem_range, rowEq_iff]
  exact ⟨fun h i j hi hj => h i hi j hj, fun h i hi j hj => h i j hi hj⟩

/-! ### as the walk meets it -/
def rowOf (C : Array Value) : Row := fun i => match C[i]? with | some (.bool b) => b | _ => false
def flwOf (C : Array Value) : Flw := fun i j => match C[i * 8 + j]? with | some (.bool b) => b | _ => false
theorem rowOf_cells (r : Row) (i : Nat) (hi : i < 8) : rowOf (cellsR r) i = r i := by unfold rowOf; rw [cellsR_at r i hi]
theorem flwOf_cells (F : Flw) (i j : Nat) (hi : i < 8) (hj : j < 8) : flwOf (cellsF F) i j = F i j := by unfold flwOf; rw [cellsF_at F i j hi hj]
/-- the cells of a set (of what flows) -/
noncomputable def isR (C : Array Value) : Bool := @decide (C = cellsR (rowOf C)) (Classical.propDecidable _)
noncomputable def isF (C : Array Value) : Bool := @decide (C = cellsF (flwOf C)) (Classical.propDecidable _)
theorem isR_iff (C : Array Value) : isR C = true ↔ C = cellsR (rowOf C) := @decide_eq_true_iff _ (Classical.propDecidable _)
theorem isF_iff (C : Array Value) : isF C = true ↔ C = cellsF (flwOf C) := @decide_eq_true_iff _ (Classical.propDecidable _)
theorem isR_cells (r : Row) : isR (cellsR r) = true := by
  rw [isR_iff]
  exact cellsR_same fun i hi => (rowOf_cells r i hi).symm
theorem isF_cells (F : Flw) : isF (cellsF F) = true := by
  rw [isF_iff]
  exact cellsF_same fun i j hi hj => (flwOf_cells F i j hi hj).symm
def eqR (C D : Array Value) : Bool := rowEq (rowOf C) (rowOf D)
def eqF (C D : Array Value) : Bool := flwEq (flwOf C) (flwOf D)
theorem eqR_cells (r s : Row) : eqR (cellsR r) (cellsR s) = rowEq r s := by
  unfold eqR
  rw [Bool.eq_iff_iff, rowEq_iff, rowEq_iff]
  exact ⟨fun h i hi => by rw [← rowOf_cells r i hi, ← rowOf_cells s i hi]; exact h i hi, fun h i hi => by rw [rowOf_cells r i hi, rowOf_cells s i hi]; exact h i hi⟩
theorem eqF_cells (F G : Flw) : eqF (cellsF F) (cellsF G) = flwEq F G := by
  unfold eqF
  rw [Bool.eq_iff_iff, flwEq_iff, flwEq_iff]
  exact ⟨fun h i j hi hj => by rw [← flwOf_cells F i j hi hj, ← flwOf_cells G i j hi hj]; exact h i j hi hj, fun h i j hi hj => by rw [flwOf_cells F i j hi hj, flwOf_cells G i j hi hj]; exact h i j hi hj⟩
noncomputable def eql47 (x y : Value) : Sem Value := binOp .eql 47 x y
noncomputable def neq49 (x y : Value) : Sem Value := binOp .neq 49 x y
theorem eql47_pre (x y : Value) : binOp .eql 47 x y = eql47 x y := rfl
theorem neq49_pre (x y : Value) : binOp .neq 49 x y = neq49 x y := rfl
def tellOr (c : Bool) (b : Bool) (w : World) (e : Result Value) : Result Value := match c with | true => .ok (.bool b) w | false => e
theorem tellOr_true (b : Bool) (w : World) (e : Result Value) : tellOr true b w e = .ok (.bool b) w := rfl
noncomputable def eql47e (C D : Array Value) (w : World) : Result Value := (binOp .eql 47 (.agg C) (.agg D)).run Try.prog w
noncomputable def neq49e (C D : Array Value) (w : World) : Result Value := (binOp .neq 49 (.agg C) (.agg D)).run Try.prog w
theorem eql47_run (C D : Array Value) (w : World) : (eql47 (.agg C) (.agg D)).run Try.prog w = tellOr (isR C && isR D) (eqR C D) w (eql47e C D w) := by
  cases h : (isR C && isR D) with
  | false => rfl
  | true =>
    rw [Bool.and_eq_true] at h
    obtain ⟨h1, h2⟩ := h
    rw [isR_iff] at h1 h2
    show (binOp .eql 47 (.agg C) (.agg D)).run Try.prog w = .ok (.bool (rowEq (rowOf C) (rowOf D))) w
    have e := eq47 (rowOf C) (rowOf D) 9998 w
    rw [← h1, ← h2] at e
    rw [run_eql_struct, e]; rfl
theorem neq49_run (C D : Array Value) (w : World) : (neq49 (.agg C) (.agg D)).run Try.prog w = tellOr (isF C && isF D) (!eqF C D) w (neq49e C D w) := by
  cases h : (isF C && isF D) with
  | false => rfl
  | true =>
    rw [Bool.and_eq_true] at h
    obtain ⟨h1, h2⟩ := h
    rw [isF_iff] at h1 h2
    show (binOp .neq 49 (.agg C) (.agg D)).run Try.prog w = .ok (.bool (!flwEq (flwOf C) (flwOf D))) w
    have e := eq49 (flwOf C) (flwOf D) 9997 w
    rw [← h1, ← h2, flwEq_rows] at e
    rw [run_neq_struct, e]; rfl
end Go.Proofs.Ytbkpfiagoinoiaa
