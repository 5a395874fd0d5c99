/- The table of operations: what the calls return. No conditions. -/
import Derived.Deep.WholeRow
import Derived.Test.YtmclcobklcjmnaaDoorOps
namespace Go.Proofs.YtmclcobklcjmnaaDoor
open Go.RowKit Go.Maps
set_option linter.unusedVariables false
set_option linter.unusedSimpArgs false

def tabV : Array Value := #[.string ⟨#[110, 111, 112]⟩, .int .i64 0, .string ⟨#[115, 116, 111, 112]⟩, .int .i64 0, .string ⟨#[115, 101, 116]⟩, .int .i64 5, .string ⟨#[104, 105, 103, 104]⟩, .int .i64 5, .string ⟨#[109, 111, 118, 101]⟩, .int .i64 3, .string ⟨#[97, 100, 100]⟩, .int .i64 3, .string ⟨#[115, 117, 98]⟩, .int .i64 3, .string ⟨#[109, 117, 108]⟩, .int .i64 3, .string ⟨#[100, 105, 118]⟩, .int .i64 3, .string ⟨#[114, 101, 109]⟩, .int .i64 3, .string ⟨#[97, 110, 100]⟩, .int .i64 3, .string ⟨#[111, 114]⟩, .int .i64 3, .string ⟨#[120, 111, 114]⟩, .int .i64 3, .string ⟨#[110, 111, 116]⟩, .int .i64 1, .string ⟨#[115, 104, 108]⟩, .int .i64 3, .string ⟨#[115, 104, 114]⟩, .int .i64 3, .string ⟨#[108, 101, 115, 115]⟩, .int .i64 3, .string ⟨#[98, 101, 108, 111, 119]⟩, .int .i64 3, .string ⟨#[115, 97, 109, 101]⟩, .int .i64 3, .string ⟨#[112, 108, 117, 115]⟩, .int .i64 9, .string ⟨#[103, 101, 116, 49]⟩, .int .i64 7, .string ⟨#[103, 101, 116, 52]⟩, .int .i64 7, .string ⟨#[112, 117, 116, 49]⟩, .int .i64 7, .string ⟨#[112, 117, 116, 52]⟩, .int .i64 7, .string ⟨#[106, 117, 109, 112]⟩, .int .i64 8, .string ⟨#[122, 101, 114, 111]⟩, .int .i64 9, .string ⟨#[115, 111, 109, 101]⟩, .int .i64 9, .string ⟨#[116, 111]⟩, .int .i64 1, .string ⟨#[99, 97, 108, 108]⟩, .int .i64 9, .string ⟨#[97, 115, 107]⟩, .int .i64 4]
def zro98 : Array Value := #[.string ByteArray.empty, .int .i64 0, .string ByteArray.empty, .int .i64 0, .string ByteArray.empty, .int .i64 0, .string ByteArray.empty, .int .i64 0, .string ByteArray.empty, .int .i64 0, .string ByteArray.empty, .int .i64 0, .string ByteArray.empty, .int .i64 0, .string ByteArray.empty, .int .i64 0, .string ByteArray.empty, .int .i64 0, .string ByteArray.empty, .int .i64 0, .string ByteArray.empty, .int .i64 0, .string ByteArray.empty, .int .i64 0, .string ByteArray.empty, .int .i64 0, .string ByteArray.empty, .int .i64 0, .string ByteArray.empty, .int .i64 0, .string ByteArray.empty, .int .i64 0, .string ByteArray.empty, .int .i64 0, .string ByteArray.empty, .int .i64 0, .string ByteArray.empty, .int .i64 0, .string ByteArray.empty, .int .i64 0, .string ByteArray.empty, .int .i64 0, .string ByteArray.empty, .int .i64 0, .string ByteArray.empty, .int .i64 0, .string ByteArray.empty, .int .i64 0, .string ByteArray.empty, .int .i64 0, .string ByteArray.empty, .int .i64 0, .string ByteArray.empty, .int .i64 0, .string ByteArray.empty, .int .i64 0, .string ByteArray.empty, .int .i64 0, .string ByteArray.empty, .int .i64 0]
theorem info98 : (Tryd.prog.info? 98).map (fun i => (i.zero, i.size)) = some (some (.agg zro98), 60) := by kernel_rfl
theorem zero98 : ∀ w, (zeroValue 98).run Tryd.prog w = .ok (.agg zro98) w := (zero_of_info info98).1
theorem siz98 : (Tryd.prog.info? 98).map (·.size) = some 60 := (zero_of_info info98).2
section
variable {P : Program} {ops : Array Oper} {rest : List Oper} {o : Oper} {a : Act} {w : World} {Q : Exit → Act → World → Prop}
theorem op_build (hg : o.guard = none) (t : TypeId) (parts : Array (Nat × Operand)) (ho : o.op = .build t parts) (cells : Array Value)
    (hb : P.built t (parts.map fun (i, x) => (i, a.eval x)).toList = some cells)
    (h : wpList P ops Q rest (a.put o.dst (.agg cells)) w) : wpList P ops Q (o :: rest) a w :=
  wpList_build hg t parts ho (by rw [hb]; rfl) (by rw [hb]; exact h)
theorem op_alloc (hg : o.guard = none) (t : TypeId) (ho : o.op = .alloc t) (z : Array Value) (hz : ∀ w, (zeroValue t).run P w = .ok (.agg z) w)
    (h : wpList P ops Q rest (a.put o.dst (.pointer (some ⟨w.heap.size, 0, none⟩))) (w.alloc (.cells z t))) : wpList P ops Q (o :: rest) a w :=
  wpList_plain hg fun K hK => by
    unfold Oper.wp execOp
    have e : (Instr.alloc t true (.tuple #[])).run P w = .ok (.pointer (some ⟨w.heap.size, 0, none⟩)) (w.alloc (.cells z t)) := by
      unfold Instr.alloc
      rw [Sem.run_bind, hz w, Result.andThen_ok]
      rfl
    simp only [ho, Sem.run_bind, e, Result.andThen_ok]
    exact hK _ _ h
end
theorem tab_size : tabV.size = 60 := by kernel_rfl
theorem zro_size : zro98.size = 60 := by kernel_rfl
theorem tab_one : tabV.all (·.oneCell') = true := by kernel_rfl
set_option maxHeartbeats 4000000 in
set_option maxRecDepth 100000 in
theorem table_any (w : World) : Calls Tryd.prog 55 #[] w fun e w' => e = .returned (.agg tabV) ∧ Below w.heap.size w w' := by
  go_enter Tryd.func55, Tryd.ntmps55
  go_wp2_with (first
    | (refine op_alloc rfl _ rfl _ zero98 ?_)
    | (refine op_build rfl 98 _ rfl tabV (by kernel_rfl) ?_)
    | (refine wpList_store_row rfl _ _ _ rfl w.heap.size tabV rfl rfl 98 _ (heap_alloc_last w _) (by rw [siz98, tab_size]) (by rw [tab_size, zro_size]) tab_one ?_; rw [World.setRow_alloc_new]))
  refine bodyPost_ret_by (results_cell_row rfl _ _ w.heap.size 98 tabV (0, 0) _ rfl (heap_alloc_last w _) Tryd.underlying98 rfl (by rw [siz98, tab_size])) rfl ?_
  exact ⟨rfl, (Below.refl _ w).alloc (Nat.le_refl _) _⟩
theorem tab_at (k : Nat) (hk : k < 30) (w : World) : (Instr.index 98 (.agg tabV) (.int .i64 (k : Int))).run Tryd.prog w = .ok (.agg #[.string (str (nams.getD k [])), .int .i64 ((frms.getD k 0 : Nat) : Int)]) w :=
  match k, hk with
  | 0, _ => by kernel_rfl
  | 1, _ => by kernel_rfl
  | 2, _ => by kernel_rfl
  | 3, _ => by kernel_rfl
  | 4, _ => by kernel_rfl
  | 5, _ => by kernel_rfl
  | 6, _ => by kernel_rfl
  | 7, _ => by kernel_rfl
  | 8, _ => by kernel_rfl
  | 9, _ => by kernel_rfl
  | 10, _ => by kernel_rfl
  | 11, _ => by kernel_rfl
  | 12, _ => by kernel_rfl
  | 13, _ => by kernel_rfl
  | 14, _ => by kernel_rfl
  | 15, _ => by kernel_rfl
  | 16, _ => by kernel_rfl
  | 17, _ => by kernel_rfl
  | 18, _ => by kernel_rfl
  | 19, _ => by kernel_rfl
  | 20, _ => by kernel_rfl
  | 21, _ => by kernel_rfl
  | 22, _ => by kernel_rfl
  | 23, _ => by kernel_rfl
  | 24, _ => by kernel_rfl
  | 25, _ => by kernel_rfl
  | 26, _ => by kernel_rfl
  | 27, _ => by kernel_rfl
  | 28, _ => by kernel_rfl
  | 29, _ => by kernel_rfl
  | k + 30, h => absurd h (by omega)
end Go.Proofs.YtmclcobklcjmnaaDoor
