/- What a world holds of a hash: its block of 73 cells; a hash that is made, cloned and asked for its size. Conditions: what was written has fewer than 2^62 bytes. -/
import Derived.Test.YtdkhnklggidfpaaNxt
import Derived.Laws.CopyRow
namespace Go.Proofs.Ytdkhnklggidfpaa
open Go.RowKit

def hlist (s : St) (q : List UInt8) (n : Nat) : List Value := (stL s).map cellW ++ q.map cellB ++ [.int .i64 (n : Int)]
def hcells (s : St) (q : List UInt8) (n : Nat) : Array Value := (hlist s q n).toArray
theorem hlist_length (s : St) (q : List UInt8) (n : Nat) (h : q.length = 64) : (hlist s q n).length = 73 := by simp [hlist, stL, h]
theorem hcells_size (s : St) (q : List UInt8) (n : Nat) (h : q.length = 64) : (hcells s q n).size = 73 := by simp [hcells, hlist_length s q n h]
theorem hcells_one (s : St) (q : List UInt8) (n : Nat) : (hcells s q n).all (·.oneCell') = true := by
  rw [Array.all_eq_true_iff_forall_mem]
  intro v hv
  have hv : v ∈ (stL s).map cellW ++ q.map cellB ++ [.int .i64 (n : Int)] := by simpa [hcells, hlist] using hv
  simp only [List.mem_append, List.mem_map, List.mem_singleton] at hv
  rcases hv with (⟨x, _, rfl⟩ | ⟨x, _, rfl⟩) | rfl <;> rfl
/-- block b of the world is a hash to which l was written -/
def IsH (w : World) (b : Nat) (l : List UInt8) : Prop :=
  ∃ q : List UInt8, q.length = 64 ∧ q.take (l.length % 64) = (fed l).2 ∧ w.heap[b]? = some (.cells (hcells (fed l).1 q l.length) 53 (0, 0))
theorem IsH.lt {w : World} {b : Nat} {l : List UInt8} (h : IsH w b l) : b < w.heap.size := by obtain ⟨q, _, _, h⟩ := h; exact block_lt h
theorem IsH.of_heap {w w' : World} {b : Nat} {l : List UInt8} (h : IsH w b l) (e : w'.heap[b]? = w.heap[b]?) : IsH w' b l := by
  obtain ⟨q, h1, h2, h3⟩ := h
  exact ⟨q, h1, h2, by rw [e]; exact h3⟩
theorem IsH.below {w w' : World} {b B : Nat} {l : List UInt8} (h : IsH w b l) (hb : Below B w w') (hlt : b < B) : IsH w' b l := h.of_heap (hb.block b hlt)
theorem IsH.drew {w : World} {b : Nat} {l : List UInt8} (h : IsH w b l) : IsH w.drew b l := h

/-- only block b has turned -/
structure Keeps (b : Nat) (w w' : World) : Prop where
  os : w'.os = w.os
  tape : w'.tape = w.tape
  output : w'.output = w.output
  size : w.heap.size ≤ w'.heap.size
  block : ∀ k, k < w.heap.size → k ≠ b → w'.heap[k]? = w.heap[k]?
theorem Keeps.refl (b : Nat) (w : World) : Keeps b w w := ⟨rfl, rfl, rfl, Nat.le_refl _, fun _ _ _ => rfl⟩
theorem Keeps.trans {b : Nat} {w w' w'' : World} (h : Keeps b w w') (k : Keeps b w' w'') : Keeps b w w'' :=
  ⟨k.os.trans h.os, k.tape.trans h.tape, k.output.trans h.output, Nat.le_trans h.size k.size, fun i hi hb => (k.block i (Nat.lt_of_lt_of_le hi h.size) hb).trans (h.block i hi hb)⟩
theorem Keeps.of_below {b : Nat} {w w' : World} (h : Below w.heap.size w w') : Keeps b w w' := ⟨h.os, h.tape, h.output, h.size, fun k hk _ => h.block k hk⟩
theorem Keeps.setCell {b : Nat} {w w' : World} (h : Keeps b w w') (o : Nat) (v : Value) : Keeps b w (w'.setCell ⟨b, o, none⟩ v) :=
  ⟨h.os, h.tape, h.output, by rw [show (w'.setCell ⟨b, o, none⟩ v).heap.size = w'.heap.size from by simp [World.setCell]]; exact h.size, fun k hk hb => by rw [Below.heap_setCell _ _ _ _ hb]; exact h.block k hk hb⟩
theorem Keeps.setRow {b : Nat} {w w' : World} (h : Keeps b w w') (cs : Array Value) : Keeps b w (w'.setRow b cs) :=
  ⟨h.os, h.tape, h.output, by rw [setRow_size]; exact h.size, fun k hk hb => by rw [setRow_other _ _ _ _ hb]; exact h.block k hk hb⟩
theorem Keeps.drew {b : Nat} {w w' : World} (h : Keeps b w w') : Keeps b w w'.drew := ⟨h.os, h.tape, h.output, h.size, h.block⟩
theorem Keeps.to_below {b B : Nat} {w0 w w' : World} (h0 : Below B w0 w) (h : Keeps b w w') (hb : B ≤ b) (hB : B ≤ w.heap.size) : Below B w0 w' :=
  ⟨h.os.trans h0.os, h.tape.trans h0.tape, h.output.trans h0.output, Nat.le_trans h0.size h.size, fun k hk => (h.block k (Nat.lt_of_lt_of_le hk hB) (by omega)).trans (h0.block k hk)⟩
theorem IsH.keeps {w w' : World} {b c : Nat} {l : List UInt8} (h : IsH w c l) (k : Keeps b w w') (hne : c ≠ b) : IsH w' c l := h.of_heap (k.block c h.lt hne)

theorem hcells_rest (s : St) (q : List UInt8) (n i : Nat) (hq : q.length = 64) (h : i < 64) : (hcells s q n)[8 + i]? = some (.int .u8 ((q.getD i 0).toNat : Int)) := by
  unfold hcells hlist
  rw [List.getElem?_toArray, List.getElem?_append_left (by simp [stL, hq]; omega), List.getElem?_append_right (by simp [stL])]
  simp [stL, List.getElem?_eq_getElem (show i < q.length by omega), cellB]
theorem hcells_last (s : St) (q : List UInt8) (n : Nat) (hq : q.length = 64) : (hcells s q n)[72]? = some (.int .i64 (n : Int)) := by
  unfold hcells hlist
  rw [List.getElem?_toArray, List.getElem?_append_right (by simp [stL, hq])]
  simp [stL, hq]
theorem hcells_setLast (s : St) (q : List UInt8) (n m : Nat) (hq : q.length = 64) : (hcells s q n).setIfInBounds 72 (.int .i64 (m : Int)) = hcells s q m := by
  unfold hcells hlist
  rw [List.setIfInBounds_toArray]
  congr 1
  rw [List.set_append_right _ _ (by simp [stL, hq])]
  simp [stL, hq]

theorem Try.info53 : (Try.prog.info? 53).map (fun i => (i.zero, i.size)) = some (some (.agg (hcells ⟨0, 0, 0, 0, 0, 0, 0, 0⟩ (List.replicate 64 0) 0)), 73) := by kernel_rfl
theorem Try.zero53 : ∀ w, (zeroValue 53).run Try.prog w = .ok (.agg (hcells ⟨0, 0, 0, 0, 0, 0, 0, 0⟩ (List.replicate 64 0) 0)) w := (zero_of_info Try.info53).1
theorem Try.size53 : (Try.prog.info? 53).map (·.size) = some 73 := (zero_of_info Try.info53).2

theorem built53 : Try.prog.built 53 [(0, .agg (wcells (stL first)))] = some (hcells first (List.replicate 64 0) 0) := by kernel_rfl

theorem op_buildL {P : Program} {ops : Array Oper} {rest : List Oper} {o : Oper} {a : Act} {w : World} {Q : Exit → Act → World → Prop} (hg : o.guard = none) (t : TypeId) (parts : List (Nat × Operand)) (ho : o.op = .build t parts.toArray) (cells : Array Value)
    (hb : P.built t (parts.map fun p => (p.1, a.eval p.2)) = some cells)
    (h : wpList P ops Q rest (a.put o.dst (.agg cells)) w) : wpList P ops Q (o :: rest) a w :=
  op_build hg t parts.toArray ho cells (by simpa using hb) h

set_option maxHeartbeats 400000 in
theorem new_any (w : World) :
    Calls Try.prog 20 #[] w fun e w' => ∃ b, e = .returned (.pointer (some ⟨b, 0, none⟩)) ∧ w.heap.size ≤ b ∧ IsH w' b [] ∧ Below w.heap.size w w' := by
  have hb := built53
  have hN : ∀ (w1 : World) , IsH (w1.alloc (.cells (hcells first (List.replicate 64 0) 0) 53)) w1.heap.size [] := fun w1 => ⟨List.replicate 64 0, rfl, rfl, block_new _ _⟩
  generalize hcells first (List.replicate 64 0) 0 = N at *
  obtain ⟨F, hF⟩ : ∃ F, F = wcells (stL first) := ⟨_, rfl⟩
  have hf := fun w => first_any w
  rw [← hF] at hb hf
  clear hF
  go_enter Try.func20, Try.ntmps20
  go_wp2_with (first
    | (go_at_call 31; refine (hf _).mono ?_; rintro e w1 ⟨rfl, b1⟩)
    | (refine op_buildL rfl 53 _ rfl N hb ?_))
  go_ret
  exact ⟨_, rfl, b1.size, hN w1, b1.alloc b1.size _⟩

set_option maxHeartbeats 400000 in
theorem size_any (b : Nat) (l : List UInt8) (w : World) (h : IsH w b l) :
    Calls Try.prog 24 #[.pointer (some ⟨b, 0, none⟩)] w fun e w' => e = .returned (.int .i64 (l.length : Nat)) ∧ w = w' := by
  obtain ⟨q, hq, _, hb⟩ := h
  have c : w.cell? ⟨b, 72, none⟩ = some (.int .i64 (l.length : Nat)) := by rw [cell_of_row w b 72 _ _ _ hb]; exact hcells_last _ _ _ hq
  go_enter Try.func24, Try.ntmps24
  go_wp2
  go_ret
  exact ⟨rfl, rfl⟩
set_option maxHeartbeats 400000 in
theorem clone_any (b : Nat) (l : List UInt8) (w : World) (h : IsH w b l) :
    Calls Try.prog 21 #[.pointer (some ⟨b, 0, none⟩)] w fun e w' => e = .returned (.pointer (some ⟨w.heap.size, 0, none⟩)) ∧ IsH w' w.heap.size l ∧ w'.heap.size = w.heap.size + 1 ∧ Below w.heap.size w w' := by
  obtain ⟨q, hq, hq2, hb⟩ := h
  have hs := hcells_size (fed l).1 q l.length hq
  have h1 := hcells_one (fed l).1 q l.length
  have hN : ∀ (w1 : World) , IsH (w1.alloc (.cells (hcells (fed l).1 q l.length) 53)) w1.heap.size l := fun w1 => ⟨q, hq, hq2, block_new _ _⟩
  have z := Try.zero53
  have zs : (hcells ⟨0, 0, 0, 0, 0, 0, 0, 0⟩ (List.replicate 64 0) 0).size = 73 := hcells_size _ _ _ (by simp)
  generalize hcells ⟨0, 0, 0, 0, 0, 0, 0, 0⟩ (List.replicate 64 0) 0 = Z at *
  generalize hcells (fed l).1 q l.length = C at *
  go_enter Try.func21, Try.ntmps21
  go_wp2_with (first
    | (refine wpList_load_row rfl 53 _ rfl b rfl 53 _ (0, 0) _ hb Try.underlying53 rfl (by rw [Try.size53, hs]) ?_)
    | (refine op_alloc rfl 53 rfl Z z ?_)
    | (refine wpList_store_row rfl 53 _ _ rfl w.heap.size C rfl rfl 53 _ (heap_alloc_last w _) (by rw [Try.size53, hs]) (by rw [zs, hs]) h1 ?_; rw [World.setRow_alloc_new]))
  go_ret
  exact ⟨rfl, hN w, by simp, (Below.refl _ _).alloc (Nat.le_refl _) _⟩
end Go.Proofs.Ytdkhnklggidfpaa
