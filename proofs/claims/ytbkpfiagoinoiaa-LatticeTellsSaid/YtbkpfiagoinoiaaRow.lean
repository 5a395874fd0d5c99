/- A set of levels, or all that flows, read, stored and compared as one: so that a walk need not open it cell by cell. No conditions. -/
import Derived.Test.YtbkpfiagoinoiaaMem
namespace Go.Proofs.Ytbkpfiagoinoiaa
open Go.RowKit
set_option linter.unusedVariables false

/-- the cells from place o of block b on, n of them -/
def rowAt (h : Array Obj) (b o n : Nat) : Option (Array Value) :=
  match h[b]? with
  | some (.cells C _ _) => if o + n ≤ C.size then some (C.extract o (o + n)) else none
  | _ => none
def rowOr (r : Option (Array Value)) (e : Result Value) (w : World) : Result Value := match r with | some C => .ok (.agg C) w | none => e
theorem rowOr_some (C : Array Value) (e : Result Value) (w : World) : rowOr (some C) e w = .ok (.agg C) w := rfl
theorem rowAt_of {h : Array Obj} {b o n : Nat} {C : Array Value} {t : TypeId} {fr : Nat × Nat} (hb : h[b]? = some (.cells C t fr)) (hn : o + n ≤ C.size) : rowAt h b o n = some (C.extract o (o + n)) := by
  unfold rowAt; rw [hb]; exact if_pos hn
theorem rowAt_range {w : World} {b o n : Nat} {C : Array Value} (h : rowAt w.heap b o n = some C) : w.rangeAt b o C.toList ∧ C.size = n := by
  unfold rowAt at h
  split at h
  · rename_i D t fr hb
    split at h
    · rename_i hn
      cases h
      exact ⟨World.rangeAt_of_block hb o n, by simp; omega⟩
    · cases h
  · cases h
def load47 (x : Value) : Sem Value := Instr.loadAt 47 x
def load49 (x : Value) : Sem Value := Instr.loadAt 49 x
theorem load47_pre (x : Value) : Instr.loadAt 47 x = load47 x := rfl
theorem load49_pre (x : Value) : Instr.loadAt 49 x = load49 x := rfl
noncomputable def load47e (b o : Nat) (w : World) : Result Value := (Instr.loadAt 47 (.pointer (some ⟨b, o, none⟩))).run Try.prog w
noncomputable def load49e (b o : Nat) (w : World) : Result Value := (Instr.loadAt 49 (.pointer (some ⟨b, o, none⟩))).run Try.prog w
theorem load47_run (b o : Nat) (w : World) : (load47 (.pointer (some ⟨b, o, none⟩))).run Try.prog w = rowOr (rowAt w.heap b o 8) (load47e b o w) w := by
  cases h : rowAt w.heap b o 8 with
  | none => rfl
  | some C =>
    obtain ⟨hr, hn⟩ := rowAt_range h
    exact run_loadAt_mid (P := Try.prog) w b o 47 C.toList _ hr Try.underlying47 rfl (by rw [Try.size47, Array.length_toList, hn])
theorem load49_run (b o : Nat) (w : World) : (load49 (.pointer (some ⟨b, o, none⟩))).run Try.prog w = rowOr (rowAt w.heap b o 64) (load49e b o w) w := by
  cases h : rowAt w.heap b o 64 with
  | none => rfl
  | some C =>
    obtain ⟨hr, hn⟩ := rowAt_range h
    exact run_loadAt_mid (P := Try.prog) w b o 49 C.toList _ hr Try.underlying49 rfl (by rw [Try.size49, Array.length_toList, hn])

/-- n cells may be put from place o of block b on -/
def roomAt (h : Array Obj) (b o n : Nat) : Bool :=
  match h[b]? with
  | some (.cells D _ fr) => decide (fr = (0, 0)) && decide (o + n ≤ D.size)
  | _ => false
def wholeC (n : Nat) (C : Array Value) : Bool := decide (C.size = n) && C.all (·.oneCell')
theorem roomAt_of {h : Array Obj} {b o n : Nat} {D : Array Value} {t : TypeId} (hb : h[b]? = some (.cells D t (0, 0))) (hn : o + n ≤ D.size) : roomAt h b o n = true := by
  unfold roomAt; rw [hb]; simp [hn]
theorem room_there {w : World} {b o n : Nat} (h : roomAt w.heap b o n = true) : w.there b o n := by
  unfold roomAt at h
  split at h
  · rename_i D t fr hb
    simp only [Bool.and_eq_true, decide_eq_true_eq] at h
    obtain ⟨rfl, hn⟩ := h
    exact there_of hb hn
  · cases h
def store47 (x v : Value) : Sem Unit := Instr.storeAt 47 x v
def store49 (x v : Value) : Sem Unit := Instr.storeAt 49 x v
theorem store47_pre (x v : Value) : Instr.storeAt 47 x v = store47 x v := rfl
theorem store49_pre (x v : Value) : Instr.storeAt 49 x v = store49 x v := rfl
noncomputable def store47e (b o : Nat) (C : Array Value) (w : World) : Result Unit := (Instr.storeAt 47 (.pointer (some ⟨b, o, none⟩)) (.agg C)).run Try.prog w
noncomputable def store49e (b o : Nat) (C : Array Value) (w : World) : Result Unit := (Instr.storeAt 49 (.pointer (some ⟨b, o, none⟩)) (.agg C)).run Try.prog w
def putOr (c : Bool) (b o : Nat) (C : Array Value) (w : World) (e : Result Unit) : Result Unit := match c with | true => .ok () (w.setCells b o C.toList) | false => e
theorem putOr_true (b o : Nat) (C : Array Value) (w : World) (e : Result Unit) : putOr true b o C w e = .ok () (w.setCells b o C.toList) := rfl
theorem store47_run (b o : Nat) (C : Array Value) (w : World) : (store47 (.pointer (some ⟨b, o, none⟩)) (.agg C)).run Try.prog w = putOr (roomAt w.heap b o 8 && wholeC 8 C) b o C w (store47e b o C w) := by
  cases h : (roomAt w.heap b o 8 && wholeC 8 C) with
  | false => rfl
  | true =>
    simp only [wholeC, Bool.and_eq_true, decide_eq_true_eq] at h
    obtain ⟨h1, h2, h3⟩ := h
    exact run_storeAt_mid (P := Try.prog) w b o 47 C (by rw [h2]; exact room_there h1) (by rw [Try.size47, h2]) h3
theorem store49_run (b o : Nat) (C : Array Value) (w : World) : (store49 (.pointer (some ⟨b, o, none⟩)) (.agg C)).run Try.prog w = putOr (roomAt w.heap b o 64 && wholeC 64 C) b o C w (store49e b o C w) := by
  cases h : (roomAt w.heap b o 64 && wholeC 64 C) with
  | false => rfl
  | true =>
    simp only [wholeC, Bool.and_eq_true, decide_eq_true_eq] at h
    obtain ⟨h1, h2, h3⟩ := h
    exact run_storeAt_mid (P := Try.prog) w b o 49 C (by rw [h2]; exact room_there h1) (by rw [Try.size49, h2]) h3

/-! ### what lies in blocks of ours -/
theorem wholeR (r : Row) : wholeC 8 (cellsR r) = true := by unfold wholeC; rw [cellsR_one, cellsR_size]; rfl
theorem wholeF (F : Flw) : wholeC 64 (cellsF F) = true := by unfold wholeC; rw [cellsF_one, cellsF_size]; rfl
theorem row_at {h : Array Obj} {b : Nat} {F : Flw} {t : TypeId} {fr : Nat × Nat} (hb : h[b]? = some (.cells (cellsF F) t fr)) (a : Nat) (ha : a < 8) : rowAt h b (a * 8) 8 = some (cellsR (F a)) := by
  rw [rowAt_of hb (by rw [cellsF_size]; omega), cellsF_row F a ha]
theorem row_room {h : Array Obj} {b : Nat} {F : Flw} {t : TypeId} (hb : h[b]? = some (.cells (cellsF F) t (0, 0))) (a : Nat) (ha : a < 8) : roomAt h b (a * 8) 8 = true := roomAt_of hb (by rw [cellsF_size]; omega)
theorem row_put {w : World} {b : Nat} {F : Flw} {t : TypeId} {fr : Nat × Nat} (h : w.heap[b]? = some (.cells (cellsF F) t fr)) (a : Nat) (ha : a < 8) (r : Row) :
    (w.setCells b (a * 8) (cellsR r).toList).heap[b]? = some (.cells (cellsF (setR F a r)) t fr) := by
  rw [block_setCells _ h, cellsF_fill F a ha]
end Go.Proofs.Ytbkpfiagoinoiaa
