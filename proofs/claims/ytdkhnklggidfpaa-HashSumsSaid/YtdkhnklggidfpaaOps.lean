/- Arrays and structs as wholes at the walk: made, built, read and stored, whatever their number of cells; the cells of the sum's own types. No conditions. -/
import Derived.Test.YtdkhnklggidfpaaRor
import Derived.Deep.QuietTactic
import Derived.BigQuiet
import Derived.Deep.MidRow
import Derived.Deep.WholeRow
namespace Go.Proofs.Ytdkhnklggidfpaa
open Go.RowKit

section
variable {P : Program} {ops : Array Oper} {rest : List Oper} {o : Oper} {a : Act} {w : World} {Q : Exit → Act → World → Prop}
theorem op_build (hg : o.guard = none) (t : TypeId) (parts : Array (Nat × Operand)) (ho : o.op = .build t parts) (cells : Array Value)
    (hb : P.built t (parts.map fun (i, x) => (i, a.eval x)).toList = some cells)
    (h : wpList P ops Q rest (a.put o.dst (.agg cells)) w) : wpList P ops Q (o :: rest) a w :=
  wpList_build hg t parts ho (by rw [hb]; rfl) (by rw [hb]; exact h)
theorem op_alloc (hg : o.guard = none) (t : TypeId) (ho : o.op = .alloc t) (z : Array Value) (hz : ∀ w, (zeroValue t).run P w = .ok (.agg z) w)
    (h : wpList P ops Q rest (a.put o.dst (.pointer (some ⟨w.heap.size, 0, none⟩))) (w.alloc (.cells z t))) : wpList P ops Q (o :: rest) a w :=
  wpList_plain hg fun K hK => by
    unfold Oper.wp execOp
    have e : (Instr.alloc t true (.tuple #[])).run P w = .ok (.pointer (some ⟨w.heap.size, 0, none⟩)) (w.alloc (.cells z t)) := by
      unfold Instr.alloc
      rw [Sem.run_bind, hz w, Result.andThen_ok]
      rfl
    simp only [ho, Sem.run_bind, e, Result.andThen_ok]
    exact hK _ _ h
end

def cellW (x : Nat) : Value := .int .u32 (x : Int)
def wcells (l : List Nat) : Array Value := (l.map cellW).toArray
def stL (s : St) : List Nat := [s.a, s.b, s.c, s.d, s.e, s.f, s.g, s.h]
theorem wcells_size (l : List Nat) : (wcells l).size = l.length := by simp [wcells]
theorem wcells_one (l : List Nat) : (wcells l).all (·.oneCell') = true := by simp [wcells, cellW, Value.oneCell']
theorem wcells_at (l : List Nat) (i : Nat) (h : i < l.length) : (wcells l)[i]? = some (.int .u32 (l.getD i 0 : Nat)) := by
  simp [wcells, cellW, List.getElem?_eq_getElem h]

theorem Try.info65 : (Try.prog.info? 65).map (fun i => (i.zero, i.size)) = some (some (.agg (wcells (List.replicate 64 0))), 64) := by kernel_rfl
theorem Try.info49 : (Try.prog.info? 49).map (fun i => (i.zero, i.size)) = some (some (.agg (wcells (List.replicate 8 0))), 8) := by kernel_rfl
theorem Try.zero65 : ∀ w, (zeroValue 65).run Try.prog w = .ok (.agg (wcells (List.replicate 64 0))) w := (zero_of_info Try.info65).1
theorem Try.zero49 : ∀ w, (zeroValue 49).run Try.prog w = .ok (.agg (wcells (List.replicate 8 0))) w := (zero_of_info Try.info49).1
theorem Try.size65 : (Try.prog.info? 65).map (·.size) = some 64 := (zero_of_info Try.info65).2
theorem Try.size49 : (Try.prog.info? 49).map (·.size) = some 8 := (zero_of_info Try.info49).2

set_option maxHeartbeats 400000 in
theorem keys_any (w : World) :
    Calls Try.prog 41 #[] w fun e w' => e = .returned (.agg (wcells keys)) ∧ Below w.heap.size w w' := by
  go_enter Try.func41, Try.ntmps41
  go_wp2_with (first
    | (refine op_alloc rfl _ rfl _ Try.zero65 ?_)
    | (refine op_build rfl _ _ rfl (wcells keys) (by kernel_rfl) ?_)
    | (refine wpList_store_row rfl _ _ _ rfl w.heap.size (wcells keys) rfl rfl 65 _ (heap_alloc_last w _) (by rw [Try.size65, wcells_size]; rfl) (by simp [wcells_size, keys_length]) (wcells_one _) ?_; rw [World.setRow_alloc_new]))
  refine bodyPost_ret_by (results_cell_row rfl _ _ w.heap.size 65 (wcells keys) (0, 0) _ rfl (heap_alloc_last w _) Try.underlying65 rfl (by rw [Try.size65, wcells_size]; rfl)) rfl ?_
  exact ⟨rfl, (Below.refl _ _).alloc (Nat.le_refl _) _⟩
set_option maxHeartbeats 400000 in
theorem first_any (w : World) :
    Calls Try.prog 31 #[] w fun e w' => e = .returned (.agg (wcells (stL first))) ∧ Below w.heap.size w w' := by
  go_enter Try.func31, Try.ntmps31
  go_wp2_with (first
    | (refine op_alloc rfl _ rfl _ Try.zero49 ?_)
    | (refine op_build rfl _ _ rfl (wcells (stL first)) (by kernel_rfl) ?_)
    | (refine wpList_store_row rfl _ _ _ rfl w.heap.size (wcells (stL first)) rfl rfl 49 _ (heap_alloc_last w _) (by rw [Try.size49, wcells_size]; rfl) (by simp [wcells_size, stL]) (wcells_one _) ?_; rw [World.setRow_alloc_new]))
  refine bodyPost_ret_by (results_cell_row rfl _ _ w.heap.size 49 (wcells (stL first)) (0, 0) _ rfl (heap_alloc_last w _) Try.underlying49 rfl (by rw [Try.size49, wcells_size]; rfl)) rfl ?_
  exact ⟨rfl, (Below.refl _ _).alloc (Nat.le_refl _) _⟩
end Go.Proofs.Ytdkhnklggidfpaa
