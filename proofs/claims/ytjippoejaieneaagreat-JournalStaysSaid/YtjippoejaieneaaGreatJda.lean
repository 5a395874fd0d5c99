/- Data: arrays of 116 bytes in memory; what a text is as data; a journal of which no record counts. No conditions. -/
import Derived.Test.YtjippoejaieneaaGreatJlf
namespace Go.Proofs.YtjippoejaieneaaGreat
open Go.RowKit Go.Maps Go.Lib
set_option maxRecDepth 20000
set_option linter.unusedVariables false

/-- an array of bytes -/
def Ar4 (w : World) (g : Nat) (l : Bts) : Prop := w.heap[g]? = some (.cells (l.map cellB).toArray 104 (0, 0))
theorem Ar4.lt {w : World} {g : Nat} {l : Bts} (h : Ar4 w g l) : g < w.heap.size := block_lt h
theorem Ar4.below {w w' : World} {g : Nat} {l : Bts} (h : Ar4 w g l) (hb : Below w.heap.size w w') : Ar4 w' g l := (hb.block g h.lt).trans h
theorem Ar4.copy {w : World} {g : Nat} {l : Bts} (h : Ar4 w g l) (s : ByteArray) (ty : TypeId) (hs : s.size ≤ l.length) :
    ∃ W, (Builtin.copy_ #[77, 9] ty #[.slice (some ⟨g, 0, none⟩) l.length l.length, .string s]).run Tryz.prog w = .ok (goInt s.size) W ∧ Ar4 W g (s.data.toList ++ l.drop s.size) ∧ W = w.setRow g ((s.data.toList ++ l.drop s.size).map cellB).toArray := by
  have := Lib.run_copy_row_string (P := Tryz.prog) w 77 9 ty 5 g 0 l.length l.length s _ 104 Tryz.underlying77 Tryz.info5' h hs (by simp; omega)
  have e : (((l.map cellB).toArray.toList.take 0 ++ Lib.byteCells s.data.toList ++ (l.map cellB).toArray.toList.drop (0 + s.size)).toArray : Array Value) = ((s.data.toList ++ l.drop s.size).map cellB).toArray := by
    rw [List.toList_toArray, List.take_zero, List.nil_append, Nat.zero_add, List.map_append, List.map_drop]
    rfl
  rw [e] at this
  exact ⟨_, this, setRow_heap _ _ _ _ _ _ h, rfl⟩
theorem Ar4.string {w W : World} {g : Nat} {l : Bts} (h : Ar4 w g l) (n c : Nat) (hn : n ≤ l.length) (hw : W.heap = w.heap) :
    (convert 77 9 (.slice (some ⟨g, 0, none⟩) n c)).run Tryz.prog W = .ok (.string (ofL (l.take n))) W := by
  have e : (l.take n).length = n := by simp; omega
  have := run_convert_bytes_back (P := Tryz.prog) W 77 9 5 ⟨g, 0, none⟩ c (l.take n) Tryz.underlying77 Tryz.underlying5 Tryz.underlying9 (fun j hj => by
    rw [e] at hj
    have hh : W.heap[g]? = some (.cells (l.map cellB).toArray 104 (0, 0)) := by rw [hw]; exact h
    rw [addr_at, Nat.zero_add, cell_of_row W g j _ _ _ hh]
    have hj' : j < l.length := by omega
    simp [cellB, List.getElem?_eq_getElem hj'])
  rw [e] at this
  exact this
theorem zero104 : Tryz.zeroCells104 = ((List.replicate 116 (0 : UInt8)).map cellB).toArray := by kernel_rfl
theorem Ar4.made (w : World) : Ar4 (w.alloc (.cells Tryz.zeroCells104 104)) w.heap.size (List.replicate 116 0) := by
  unfold Ar4; rw [zero104]; exact block_new _ _
theorem Tryz.info104 : (Tryz.prog.info? 104).map (·.size) = some 116 := by kernel_rfl
theorem Ar4.whole {w : World} {g : Nat} {l : Bts} (h : Ar4 w g l) (hl : l.length = 116) : (loadVar 104 ⟨g, 0, none⟩).run Tryz.prog w = .ok (agB l) w :=
  run_loadVar_row w g 104 104 _ (0, 0) _ h Tryz.underlying104 rfl (by rw [Tryz.info104]; simp [hl])
theorem Ar4.store {w : World} {g : Nat} {l k : Bts} (h : Ar4 w g l) (hl : l.length = 116) (hk : k.length = 116) : (storeVar 104 ⟨g, 0, none⟩ (agB k)).run Tryz.prog w = .ok () (w.setRow g (k.map cellB).toArray) :=
  run_storeVar_row w g 104 104 _ _ h (by rw [Tryz.info104]; simp [hk]) (by simp [hl, hk]) (by simp [cellB, Value.oneCell'])
theorem Ar4.set {w : World} {g : Nat} {l k : Bts} (h : Ar4 w g l) : Ar4 (w.setRow g (k.map cellB).toArray) g k := setRow_heap _ _ _ _ _ _ h
theorem wpList_ld4 {ops : Array Oper} {rest : List Oper} {op : Oper} {a : Act} {w : World} {Q : Exit → Act → World → Prop} (hgd : op.guard = none) (x : Operand) (ho : op.op = .load 104 x)
    (g : Nat) (hx : a.eval x = .pointer (some ⟨g, 0, none⟩)) (l : Bts) (hA : Ar4 w g l) (hl : l.length = 116) (h : wpList Tryz.prog ops Q rest (a.put op.dst (agB l)) w) : wpList Tryz.prog ops Q (op :: rest) a w :=
  wpList_plain hgd fun _ hK => by
    unfold Oper.wp execOp
    simp only [ho, hx, Instr.loadAt, Instr.sureAddr, Sem.run_bind, Sem.run_pure, Result.andThen_ok, hA.whole hl]
    exact hK _ _ h
theorem wpList_st4 {ops : Array Oper} {rest : List Oper} {op : Oper} {a : Act} {w : World} {Q : Exit → Act → World → Prop} (hgd : op.guard = none) (x y : Operand) (ho : op.op = .store 104 x y)
    (g : Nat) (hx : a.eval x = .pointer (some ⟨g, 0, none⟩)) (l k : Bts) (hy : a.eval y = agB k) (hA : Ar4 w g l) (hl : l.length = 116) (hk : k.length = 116) (h : wpList Tryz.prog ops Q rest (a.put op.dst undef) (w.setRow g (k.map cellB).toArray)) : wpList Tryz.prog ops Q (op :: rest) a w :=
  wpList_plain hgd fun _ hK => by
    unfold Oper.wp execOp
    simp only [ho, hx, hy, Instr.storeAt, Instr.sureAddr, Sem.run_bind, Sem.run_pure, Result.andThen_ok, hA.store hl hk]
    exact hK _ _ h
set_option maxHeartbeats 1000000 in
theorem dataOf_any (d : ByteArray) (w : World) (hs : d.size ≤ 116) :
    Calls Tryz.prog 96 #[.string d] w fun e w' => e = .returned (agB (padB d.data.toList)) ∧ Below w.heap.size w w' := by
  have hA := Ar4.made (w.alloc (.cells Tryz.zeroCells104 104))
  have hA0 := (Ar4.made w).below ((Below.refl _ (w.alloc (.cells Tryz.zeroCells104 104))).alloc (Nat.le_refl _) (.cells Tryz.zeroCells104 104))
  obtain ⟨W, hcp, hA1, hW⟩ := hA.copy d 3 (by simp; omega)
  rw [List.length_replicate] at hcp
  have eA : d.data.toList ++ (List.replicate 116 (0 : UInt8)).drop d.size = padB d.data.toList := by
    unfold padB; rw [List.drop_replicate, baList]
  rw [eA] at hA1
  have hsz : (w.alloc (.cells Tryz.zeroCells104 104)).heap.size = w.heap.size + 1 := by simp
  rw [hsz] at hcp hA1 hW
  have hpl : (padB d.data.toList).length = 116 := padB_len (by rw [baList]; exact hs)
  have HA1 := Lib.hid hA1
  have HB : Hid (Below w.heap.size w W) := by
    rw [hW]
    exact below_setRow (((Below.refl _ w).alloc (Nat.le_refl _) _).alloc (by simp) _) (Nat.le_succ _) _
  have HR : Hid (Ar4 W w.heap.size (List.replicate 116 0)) := by
    rw [hW]
    exact (setRow_other _ _ _ _ (by omega)).trans hA0
  clear hA hA0 hA1 hW eA hsz
  go_enter Tryz.func96, Tryz.ntmps96
  go_wp2_with (first
    | (refine wpList_ld4 rfl (.tmp 3) rfl (w.heap.size + 1) rfl _ HA1.out hpl ?_)
    | (refine wpList_st4 rfl (.tmp 2) (.tmp 7) rfl w.heap.size rfl _ _ rfl HR.out (by simp) hpl ?_))
  refine bodyPost_ret_by (results_cell_row Tryz.results96 _ _ w.heap.size 104 _ (0, 0) _ rfl (Ar4.set HR.out) Tryz.underlying104 rfl (by rw [Tryz.info104]; simp [hpl])) rfl ⟨rfl, below_setRow HB.out (Nat.le_refl _) _⟩
def J0 (h n : Int) (J : Jn) : Jn := { J with head := h, next := n, en := 2, last := fun _ => none }
set_option maxHeartbeats 1000000 in
theorem begin_any (F : Nat → Prop) (j x p : Nat) (mv : Value) (S : St) (V : Dv) (J : Jn) (h n : Int) (w : World) (hx : JX w F j x p mv S V J) :
    Calls Tryz.prog 88 #[.pointer (some ⟨j, 0, none⟩), .int .i64 h, .int .i64 n] w fun e w' => e = .returned (.tuple #[]) ∧ JX w' F j x p (.map (some w.heap.size)) S V (J0 h n J) ∧ (∀ c, MapD w' w.heap.size c fun _ => none) ∧ Ch (fun k => k = j) w w' := by
  obtain ⟨c0, c1, c2, c3, c4, c5, c6⟩ := hx.cells
  have f2 := block_free (o := 2) hx.blk
  have f3 := block_free (o := 3) hx.blk
  have f4 := block_free (o := 4) hx.blk
  have f5 := block_free (o := 5) hx.blk
  have HX := Lib.hid hx
  have hmm := @run_makeMap Tryz.prog
  obtain ⟨w1, hw1⟩ : ∃ w1, w1 = ((w.setCell ⟨j, 2, none⟩ (.int .i64 h)).setCell ⟨j, 3, none⟩ (.int .i64 n)).setCell ⟨j, 4, none⟩ (.int .i64 2) := ⟨_, rfl⟩
  have hs1 : w1.heap.size = w.heap.size := by rw [hw1]; simp
  have hb1 : w1.heap[j]? = some (.cells (jcells x (J0 h n J) mv) 101 (0, 0)) := by rw [hw1]; exact block_setCell (block_setCell (block_setCell hx.blk))
  have ch1 : Ch (fun k => k = j) w w1 := by rw [hw1]; exact (((Ch.refl (fun k => k = j) w).setCell (p := j) rfl _ _).setCell (p := j) rfl _ _).setCell (p := j) rfl _ _
  have hjl := hx.lt
  have hm := MapD.made w1
  rw [hs1] at hm
  have hb2 : (w1.alloc (.map #[] 0)).heap[j]? = some (.cells (jcells x (J0 h n J) mv) 101 (0, 0)) := block_alloc hb1 _
  have ch2 : Ch (fun k => k = j) w (w1.alloc (.map #[] 0)) := ch1.then_below ((Below.refl _ w1).alloc (Nat.le_refl _) _)
  have ch3 : Ch (fun k => k = j) w ((w1.alloc (.map #[] 0)).setCell ⟨j, 5, none⟩ (.map (some w.heap.size))) := ch2.setCell (p := j) rfl _ _
  have e5 : (w1.alloc (.map #[] 0)).cell? ⟨j, 5, none⟩ = some mv := by rw [cell_of_row _ _ _ _ _ _ hb2]; rfl
  have g5 : (w1.alloc (.map #[] 0)).frozen? ⟨j, 5, none⟩ = false := block_free hb2
  have HW : Hid (((w.setCell ⟨j, 2, none⟩ (.int .i64 h)).setCell ⟨j, 3, none⟩ (.int .i64 n)).setCell ⟨j, 4, none⟩ (.int .i64 2) = w1) := hw1.symm
  have H : Hid (JX ((w1.alloc (.map #[] 0)).setCell ⟨j, 5, none⟩ (.map (some w.heap.size))) F j x p (.map (some w.heap.size)) S V (J0 h n J) ∧ (∀ c, MapD ((w1.alloc (.map #[] 0)).setCell ⟨j, 5, none⟩ (.map (some w.heap.size))) w.heap.size c fun _ => none) ∧ Ch (fun k => k = j) w ((w1.alloc (.map #[] 0)).setCell ⟨j, 5, none⟩ (.map (some w.heap.size)))) := by
    refine ⟨⟨block_setCell hb2, ?_, hx.nj, hx.sok, hx.good, fun k hk => Nat.lt_of_lt_of_le (hx.bd k hk) ch3.size⟩, fun c => (hm c).of_heap (block_setCell_other (by show w.heap.size ≠ j; omega)), ch3⟩
    exact hx.ext.of_heap ch3.size (fun k hk hF => ch3.block k hk (fun e => hx.nj (by rw [← e]; exact hF)))
  clear hx hw1 hb1 ch1 hjl hm hb2 ch2 ch3 f5 c5
  go_enter Tryz.func88, Tryz.ntmps88
  go_wp2_with (rw [HW.out])
  go_end0
  exact ⟨rfl, H.out⟩
end Go.Proofs.YtjippoejaieneaaGreat
