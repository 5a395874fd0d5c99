/- Sets of levels and what flows, as they lie in memory: rows of eight and of sixty-four cells, read, built and stored as wholes or in parts. No conditions. -/
import Derived.Test.YtbkpfiagoinoiaaRows
import Derived.Test.YtbkpfiagoinoiaaMath
import Derived.WalkKit
import Derived.WalkSpells
import Derived.WalkLawsBesides
import Derived.Lib.Hide
import Derived.Deep.QuietTactic
import Derived.BigQuiet
import Derived.Deep.MidRow
import Derived.Deep.WholeRow
import Derived.Deep.Cut
namespace Go.Proofs.Ytbkpfiagoinoiaa
open Go.RowKit
set_option linter.unusedVariables false

section
variable {P : Program} {ops : Array Oper} {rest : List Oper} {o : Oper} {a : Act} {w : World} {Q : Exit → Act → World → Prop}
theorem op_build (hg : o.guard = none) (t : TypeId) (parts : Array (Nat × Operand)) (ho : o.op = .build t parts) (cells : Array Value)
    (hb : P.built t (parts.map fun (i, x) => (i, a.eval x)).toList = some cells)
    (h : wpList P ops Q rest (a.put o.dst (.agg cells)) w) : wpList P ops Q (o :: rest) a w :=
  wpList_build hg t parts ho (by rw [hb]; rfl) (by rw [hb]; exact h)
theorem op_alloc (hg : o.guard = none) (t : TypeId) (ho : o.op = .alloc t) (z : Array Value) (hz : ∀ w, (zeroValue t).run P w = .ok (.agg z) w)
    (h : wpList P ops Q rest (a.put o.dst (.pointer (some ⟨w.heap.size, 0, none⟩))) (w.alloc (.cells z t))) : wpList P ops Q (o :: rest) a w :=
  wpList_plain hg fun K hK => by
    unfold Oper.wp execOp
    have e : (Instr.alloc t true (.tuple #[])).run P w = .ok (.pointer (some ⟨w.heap.size, 0, none⟩)) (w.alloc (.cells z t)) := by
      unfold Instr.alloc
      rw [Sem.run_bind, hz w, Result.andThen_ok]
      rfl
    simp only [ho, Sem.run_bind, e, Result.andThen_ok]
    exact hK _ _ h
end

/-! ### blocks -/
theorem block_lt {w : World} {b : Nat} {o : Obj} (h : w.heap[b]? = some o) : b < w.heap.size := by
  rcases Nat.lt_or_ge b w.heap.size with h' | h'
  · exact h'
  · simp [Array.getElem?_eq_none h'] at h
theorem block_setCell {w : World} {b o : Nat} {C : Array Value} {t : TypeId} {fr : Nat × Nat} {u : Value} (h : w.heap[b]? = some (.cells C t fr)) :
    (w.setCell ⟨b, o, none⟩ u).heap[b]? = some (.cells (C.setIfInBounds o u) t fr) := by
  have hlt := block_lt h
  have h' : w.heap[b] = .cells C t fr := by simpa [Array.getElem?_eq_getElem hlt] using h
  show (w.heap.modify b _)[b]? = _
  rw [Array.getElem?_eq_getElem (by simpa using hlt), Array.getElem_modify_self, h']
  rfl
theorem block_setCell_other {w : World} {b : Nat} {x : Addr} {u : Value} (h : b ≠ x.block) : (w.setCell x u).heap[b]? = w.heap[b]? := heap_setCell_other w x b u h
theorem block_free {w : World} {b o : Nat} {C : Array Value} {t : TypeId} (h : w.heap[b]? = some (.cells C t (0, 0))) : w.frozen? ⟨b, o, none⟩ = false := by simp [World.frozen?, h]
theorem block_new (w : World) (o : Obj) : (w.alloc o).heap[w.heap.size]? = some o := heap_alloc_last w o
theorem block_alloc {w : World} {b : Nat} {o : Obj} (h : w.heap[b]? = some o) (o2 : Obj) : (w.alloc o2).heap[b]? = some o := by
  rw [Below.heap_alloc w o2 b (block_lt h)]; exact h
theorem heap_below {w w' : World} {B C : Nat} {o : Obj} (h : w.heap[B]? = some o) (hb : Below C w w') (hlt : B < C) : w'.heap[B]? = some o := by
  rw [hb.block B hlt]; exact h
theorem addr_at (b o i : Nat) : (⟨b, o, none⟩ : Addr).add i = ⟨b, o + i, none⟩ := Addr.add_mid b o i
theorem below_drewN {B : Nat} {a w : World} (h : Below B a w) (n : Nat) : Below B a (w.drewN n) := ⟨h.os, h.tape, h.output, h.size, h.block⟩
theorem below_trans {w w1 w2 : World} (h : Below w.heap.size w w1) (k : Below w1.heap.size w1 w2) : Below w.heap.size w w2 := h.trans (k.mono h.size)
theorem below_setCells {B : Nat} {a : World} : ∀ (vs : List Value) (o : Nat) (w : World) (b : Nat), Below B a w → B ≤ b → Below B a (w.setCells b o vs)
  | [], _, _, _, h, _ => h
  | v :: r, o, w, b, h, hb => by rw [World.setCells]; exact below_setCells r (o + 1) _ b (h.setCell hb v) hb
def fillA (C : Array Value) (o : Nat) : List Value → Array Value
  | [] => C
  | v :: r => fillA (C.setIfInBounds o v) (o + 1) r
theorem fillA_size : ∀ (vs : List Value) (C : Array Value) (o : Nat), (fillA C o vs).size = C.size
  | [], _, _ => rfl
  | v :: r, C, o => by rw [fillA, fillA_size r]; simp
theorem fillA_get : ∀ (vs : List Value) (C : Array Value) (o i : Nat), (fillA C o vs)[i]? = if o ≤ i ∧ i < o + vs.length ∧ i < C.size then vs[i - o]? else C[i]?
  | [], C, o, i => by rw [fillA, if_neg (by simp; omega)]
  | v :: r, C, o, i => by
    rw [fillA, fillA_get r, Array.size_setIfInBounds, List.length_cons]
    by_cases e : i = o
    · subst e
      rw [if_neg (by omega)]
      by_cases h : i < C.size
      · rw [if_pos (by omega), Nat.sub_self]; simp [h]
      · rw [if_neg (by omega)]; simp [h]
    · by_cases h : o + 1 ≤ i ∧ i < o + 1 + r.length ∧ i < C.size
      · rw [if_pos h, if_pos (by omega), show i - o = (i - (o + 1)) + 1 by omega, List.getElem?_cons_succ]
      · rw [if_neg h, if_neg (by omega), Array.getElem?_setIfInBounds_ne (by omega)]
theorem block_setCells : ∀ (vs : List Value) {w : World} {b o : Nat} {C : Array Value} {t : TypeId} {fr : Nat × Nat}, w.heap[b]? = some (.cells C t fr) →
    (w.setCells b o vs).heap[b]? = some (.cells (fillA C o vs) t fr)
  | [], _, _, _, _, _, _, h => h
  | v :: r, w, b, o, C, t, fr, h => by rw [World.setCells, fillA]; exact block_setCells r (block_setCell h)
theorem block_setCells_other (b k : Nat) (h : k ≠ b) : ∀ (vs : List Value) (o : Nat) (w : World), (w.setCells b o vs).heap[k]? = w.heap[k]?
  | [], _, _ => rfl
  | v :: r, o, w => by rw [World.setCells, block_setCells_other b k h r]; exact block_setCell_other h
theorem setCells_size (b : Nat) : ∀ (vs : List Value) (o : Nat) (w : World), (w.setCells b o vs).heap.size = w.heap.size
  | [], _, _ => rfl
  | v :: r, o, w => by rw [World.setCells, setCells_size b r]; simp
theorem there_of {w : World} {b o n : Nat} {C : Array Value} {t : TypeId} (h : w.heap[b]? = some (.cells C t (0, 0))) (hn : o + n ≤ C.size) : w.there b o n := fun j hj =>
  ⟨by rw [cell_of_row w b (o + j) C t _ h, Array.getElem?_eq_getElem (by omega)]; rfl, block_free h⟩

/-! ### rows of truths -/
def cellsR (r : Row) : Array Value := ((List.range 8).map fun i => Value.bool (r i)).toArray
def cellsF (F : Flw) : Array Value := ((List.range 64).map fun i => Value.bool (F (i / 8) (i % 8))).toArray
theorem cellsR_size (r : Row) : (cellsR r).size = 8 := by simp [cellsR]
theorem cellsF_size (F : Flw) : (cellsF F).size = 64 := by simp [cellsF]
theorem cellsR_get (r : Row) (i : Nat) : (cellsR r)[i]? = if i < 8 then some (.bool (r i)) else none := by
  unfold cellsR
  rw [List.getElem?_toArray, List.getElem?_map]
  by_cases h : i < 8
  · rw [List.getElem?_range h, if_pos h]; rfl
  · rw [List.getElem?_eq_none (by simp; omega), if_neg h]; rfl
theorem cellsF_get (F : Flw) (i : Nat) : (cellsF F)[i]? = if i < 64 then some (.bool (F (i / 8) (i % 8))) else none := by
  unfold cellsF
  rw [List.getElem?_toArray, List.getElem?_map]
  by_cases h : i < 64
  · rw [List.getElem?_range h, if_pos h]; rfl
  · rw [List.getElem?_eq_none (by simp; omega), if_neg h]; rfl
theorem cellsR_at (r : Row) (i : Nat) (h : i < 8) : (cellsR r)[i]? = some (.bool (r i)) := by rw [cellsR_get, if_pos h]
theorem cellsF_at (F : Flw) (a b : Nat) (ha : a < 8) (hb : b < 8) : (cellsF F)[a * 8 + b]? = some (.bool (F a b)) := by
  rw [cellsF_get, if_pos (by omega), show (a * 8 + b) / 8 = a by omega, show (a * 8 + b) % 8 = b by omega]
theorem cellsR_one (r : Row) : (cellsR r).all (·.oneCell') = true := by simp [cellsR, Value.oneCell']
theorem cellsF_one (F : Flw) : (cellsF F).all (·.oneCell') = true := by simp [cellsF, Value.oneCell']
theorem cellsR_same {r s : Row} (h : ∀ i, i < 8 → r i = s i) : cellsR r = cellsR s := by
  apply Array.ext_getElem?
  intro i
  rw [cellsR_get, cellsR_get]
  by_cases q : i < 8
  · rw [if_pos q, if_pos q, h i q]
  · rw [if_neg q, if_neg q]
theorem cellsF_same {F G : Flw} (h : ∀ i j, i < 8 → j < 8 → F i j = G i j) : cellsF F = cellsF G := by
  apply Array.ext_getElem?
  intro i
  rw [cellsF_get, cellsF_get]
  by_cases q : i < 64
  · rw [if_pos q, if_pos q, h _ _ (by omega) (by omega)]
  · rw [if_neg q, if_neg q]
theorem cellsR_set (r : Row) (k : Nat) (v : Bool) : (cellsR r).setIfInBounds k (.bool v) = cellsR (fun j => if j = k then v else r j) := by
  apply Array.ext_getElem?
  intro i
  rw [cellsR_get, Array.getElem?_setIfInBounds, cellsR_get, cellsR_size]
  by_cases e : k = i
  · subst e; simp
  · have : i ≠ k := fun q => e q.symm
    simp [e, this]
theorem cellsF_set (F : Flw) (a b : Nat) (hb : b < 8) (v : Bool) : (cellsF F).setIfInBounds (a * 8 + b) (.bool v) = cellsF (setF F a b v) := by
  apply Array.ext_getElem?
  intro i
  rw [cellsF_get, Array.getElem?_setIfInBounds, cellsF_get, cellsF_size]
  by_cases e : a * 8 + b = i
  · subst e
    rw [if_pos rfl, show (a * 8 + b) / 8 = a by omega, show (a * 8 + b) % 8 = b by omega]
    simp [setF]
  · rw [if_neg e]
    have : ¬ (i / 8 = a ∧ i % 8 = b) := by omega
    simp [setF, this]
theorem cellsF_row (F : Flw) (a : Nat) (ha : a < 8) : (cellsF F).extract (a * 8) (a * 8 + 8) = cellsR (F a) := by
  apply Array.ext_getElem?
  intro i
  rw [cellsR_get, Array.getElem?_extract, cellsF_size]
  by_cases q : i < 8
  · rw [if_pos (by omega), if_pos q, cellsF_at F a i ha q]
  · rw [if_neg (by omega), if_neg q]
theorem cellsF_fill (F : Flw) (a : Nat) (ha : a < 8) (r : Row) : fillA (cellsF F) (a * 8) (cellsR r).toList = cellsF (setR F a r) := by
  apply Array.ext_getElem?
  intro i
  rw [fillA_get, cellsF_get, cellsF_get, cellsF_size, Array.length_toList, cellsR_size, Array.getElem?_toList, cellsR_get]
  by_cases q : a * 8 ≤ i ∧ i < a * 8 + 8 ∧ i < 64
  · rw [if_pos q, if_pos (by omega), if_pos (by omega)]
    have e1 : i / 8 = a := by omega
    have e2 : i % 8 = i - a * 8 := by omega
    simp [setR, e1, e2]
  · rw [if_neg q]
    by_cases h : i < 64
    · rw [if_pos h, if_pos h]
      have e1 : i / 8 ≠ a := by omega
      simp [setR, e1]
    · rw [if_neg h, if_neg h]
/-- the row a of what flows, out of its block -/
theorem range_row {w : World} {b : Nat} {F : Flw} {t : TypeId} {fr : Nat × Nat} (h : w.heap[b]? = some (.cells (cellsF F) t fr)) (a : Nat) (ha : a < 8) : w.rangeAt b (a * 8) (cellsR (F a)).toList := by
  have := World.rangeAt_of_block h (a * 8) 8
  rwa [cellsF_row F a ha] at this

/-! ### the types -/
theorem Try.info47 : (Try.prog.info? 47).map (fun i => (i.zero, i.size)) = some (some (.agg (cellsR fun _ => false)), 8) := by kernel_rfl
theorem Try.info49 : (Try.prog.info? 49).map (fun i => (i.zero, i.size)) = some (some (.agg (cellsF fun _ _ => false)), 64) := by kernel_rfl
theorem Try.zero47 : ∀ w, (zeroValue 47).run Try.prog w = .ok (.agg (cellsR fun _ => false)) w := (zero_of_info Try.info47).1
theorem Try.zero49 : ∀ w, (zeroValue 49).run Try.prog w = .ok (.agg (cellsF fun _ _ => false)) w := (zero_of_info Try.info49).1
theorem Try.size47 : (Try.prog.info? 47).map (·.size) = some 8 := (zero_of_info Try.info47).2
theorem Try.size49 : (Try.prog.info? 49).map (·.size) = some 64 := (zero_of_info Try.info49).2
theorem size_of_info {t : TypeId} {v : Value} {n : Nat} (h : (Try.prog.info? t).map (fun i => (i.zero, i.size)) = some (some v, n)) : ∀ w, (Go.sizeOf t).run Try.prog w = .ok n w := by
  intro w
  cases hq : Try.prog.info? t with
  | none => simp [hq] at h
  | some i =>
    have : i.size = n := by simp [hq] at h; exact h.2
    simp [Go.sizeOf, typeInfo, hq, this]
theorem Try.arr47 : Try.prog.underlying 47 = some (.array (Try.prog.arrayLen 47) (Try.prog.elem 47)) := by kernel_rfl
theorem Try.len47 : Try.prog.arrayLen 47 = 8 := by kernel_rfl
theorem Try.one47 : ∀ w, (Go.sizeOf (Try.prog.elem 47)).run Try.prog w = .ok 1 w := size_of_info (v := .bool false) (by kernel_rfl)
theorem Try.arr49 : Try.prog.underlying 49 = some (.array (Try.prog.arrayLen 49) (Try.prog.elem 49)) := by kernel_rfl
theorem Try.len49 : Try.prog.arrayLen 49 = 8 := by kernel_rfl
theorem Try.one49 : ∀ w, (Go.sizeOf (Try.prog.elem 49)).run Try.prog w = .ok 8 w := size_of_info (v := .agg (cellsR fun _ => false)) (by kernel_rfl)
theorem index47 (b o i : Nat) (h : i < 8) (w : World) :
    (Instr.indexAt 47 (.pointer (some ⟨b, o, none⟩)) (.int .i64 (i : Int))).run Try.prog w = .ok (.pointer (some ⟨b, o + i, none⟩)) w := by
  rw [run_indexAt_array w 47 _ _ _ Try.arr47, Try.len47, if_pos (by omega), Try.one47, Result.andThen_ok, addr_at, Nat.mul_one, Int.toNat_natCast]
theorem index49 (b o i : Nat) (h : i < 8) (w : World) :
    (Instr.indexAt 49 (.pointer (some ⟨b, o, none⟩)) (.int .i64 (i : Int))).run Try.prog w = .ok (.pointer (some ⟨b, o + i * 8, none⟩)) w := by
  rw [run_indexAt_array w 49 _ _ _ Try.arr49, Try.len49, if_pos (by omega), Try.one49, Result.andThen_ok, addr_at, Int.toNat_natCast]
end Go.Proofs.Ytbkpfiagoinoiaa
